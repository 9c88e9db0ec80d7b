
/- A decoder: takeFixed. -/
import Derived.Test.YtoaeffinjpkahaaDoorInfE
namespace Go.Proofs.YtoaeffinjpkahaaDoor
set_option linter.unusedSimpArgs false
set_option linter.unusedVariables false
open Go Go.RowKit
set_option maxRecDepth 100000

def iV (n : Nat) (f : Nat → Nat) : List Value := (List.range n).map fun i => Value.int .i64 (f i : Nat)
theorem iV_len (n : Nat) (f : Nat → Nat) : (iV n f).length = n := by simp [iV]
theorem iV_get {n i : Nat} (f : Nat → Nat) (h : i < n) : (iV n f)[i]? = some (.int .i64 (f i : Nat)) := by simp [iV, h]
theorem iV_set {n k v : Nat} {f f' : Nat → Nat} (hk : k < n) (h : ∀ i, i < n → f' i = if i = k then v else f i) : (iV n f).set k (.int .i64 (v : Nat)) = iV n f' := by
  refine List.ext_getElem? fun i => ?_
  by_cases hi : i < n
  · rw [iV_get f' hi, h i hi]
    by_cases e : i = k
    · subst e
      rw [List.getElem?_set_self (by rw [iV_len]; exact hk), if_pos rfl]
    · rw [List.getElem?_set_ne (by omega), iV_get f hi, if_neg e]
  · rw [List.getElem?_eq_none (by rw [List.length_set, iV_len]; omega), List.getElem?_eq_none (by rw [iV_len]; omega)]
def fW1 (k i : Nat) : Nat := if 144 ≤ i ∧ i < k then 9 else 8
def fW2 (k i : Nat) : Nat := if 144 ≤ i ∧ i < 256 then 9 else if 256 ≤ i ∧ i < k then 7 else 8
theorem fix_list : (List.range 288).map (fW2 280) = fixW := by decide +kernel
theorem iV_fix : iV 288 (fW2 280) = intVs fixW := by
  rw [← fix_list]
  simp [iV, intVs]
theorem iV_rep (n v : Nat) (f : Nat → Nat) (h : ∀ i, i < n → f i = v) : List.replicate n (Value.int .i64 (v : Nat)) = iV n f := by
  refine List.ext_getElem? fun i => ?_
  by_cases hi : i < n
  · rw [iV_get f hi, h i hi, List.getElem?_replicate, if_pos hi]
  · rw [List.getElem?_eq_none (by simp; omega), List.getElem?_eq_none (by rw [iV_len]; omega)]
theorem why_fixW : whyN (fixW.map Int.ofNat) false = 0 := by decide +kernel
theorem why_fixD : whyN (fixD.map Int.ofNat) false = 0 := by decide +kernel
theorem nat_fixW : (fixW.map Int.ofNat).map Int.toNat = fixW := by decide +kernel
theorem nat_fixD : (fixD.map Int.ofNat).map Int.toNat = fixD := by decide +kernel
theorem whole_fixW : WholeN fixW := .inl (by decide +kernel)
theorem whole_fixD : WholeN fixD := .inl (by decide +kernel)
theorem fixD_rep : List.replicate 32 (Value.int .i64 5) = intVs fixD := by simp [intVs, fixD]
theorem new_touchF {w w' : World} (h : Touch (fun j => w.heap.size ≤ j) w w') : Touch (fun _ => False) w w' :=
  ⟨h.os, h.tape, h.output, h.size, fun k hk _ => h.block k hk (by omega)⟩
/-- canon.New of lengths that are a code. -/
theorem cnew_fix (ls : List Nat) (hw : whyN (ls.map Int.ofNat) false = 0) (hn : (ls.map Int.ofNat).map Int.toNat = ls) (v : Value) (w : World) (hv : Reads w v (intVs ls)) :
    Calls Tryd.prog 80 #[v, .bool false] w fun e w' => ∃ c, e = .returned (.tuple #[.pointer (some ⟨c, 0, none⟩), .int .i64 0]) ∧ CodeAt w' c ls w.heap.size w'.heap.size ∧ Touch (fun _ => False) w w' := by
  refine (new_calls (ls.map Int.ofNat) false v w (by rw [intsV_nat]; exact hv)).mono ?_
  rintro e w' ⟨hT, h | ⟨_, _, c, he, hc⟩⟩
  · exact absurd hw h.1
  · rw [hn] at hc
    exact ⟨c, he, hc, hT⟩

theorem DecM.mlt {w : World} {b : Nat} {s : PS} {v5 v7 v8 p17 p18 : Value} {g : Nat} (h : DecM w b s v5 g v7 v8 p17 p18) : ∀ k, Mut b v5 v7 v8 k → k < w.heap.size := by
  obtain ⟨_, h1, _⟩ := h.rd
  obtain ⟨_, h2, _⟩ := h.win
  intro k hk
  rcases hk with e | e | e | e
  · rw [e]; exact h.blk.lt
  · exact h1.lt k e
  · exact h.out.lt k e
  · exact h2.lt k e
set_option maxHeartbeats 2000000 in
theorem ifixed_calls {U : Nat → Prop} {w0 w : World} {b : Nat} {s : PS} (h : DecR U w0 w b s) (hf : s.fixed = false) : Calls Tryd.prog 123 #[.pointer (some ⟨b, 0, none⟩)] w fun e w' => e = .returned (.tuple #[]) ∧ DecR U w0 w' b { s with fixed := true, cds := some (fixW, fixD) } := by
  obtain ⟨v5, g, v7, v8, p17, p18, hD, hown, hT⟩ := h
  have hbl : b < w.heap.size := hD.blk.lt
  have c19 : w.cell? ⟨b, 19, none⟩ = some (.bool false) := by rw [← hf]; exact Block.cell hD.blk 19
  have HD := Lib.hid hD
  have HO := Lib.hid (⟨hown, hT⟩ : _ ∧ _)
  have HBL := Lib.hid hbl
  clear hD hown hT hf hbl
  go_enter Tryd.func123, Tryd.ntmps123
  go_wp2_with fail
  refine (repeat_calls 8 288 (.inl rfl) _ _ _ (Block.cell (Block.new w 3 [.int .i64 8]) 0)).mono ?_
  rintro e w2 ⟨gl, rfl, hrow, hgl, hT2⟩
  have HB2 : Hid (Block w2 gl 3 (iV 288 (fW1 144)) ∧ w.heap.size ≤ gl ∧ Touch (fun k => w.heap.size ≤ k) w w2) := Lib.hid ⟨by
    rw [← iV_rep 288 8 (fW1 144) (fun i hi => by unfold fW1; rw [if_neg (by omega)])]
    exact hrow, by rw [alloc_size] at hgl; omega, (((Touch.refl (fun _ => False) w).alloc _).trans hT2).mono (fun _ e => e.elim)⟩
  clear hrow hgl hT2
  go_wp2_with fail
  go_loopw [3] (fun iv wr => ∃ k : Nat, 144 ≤ k ∧ k ≤ 256 ∧ iv = .int .i64 (k : Nat) ∧ RowKit.Hid (Block wr gl 3 (iV 288 (fW1 k)) ∧ w.heap.size ≤ gl ∧ Touch (fun k => w.heap.size ≤ k) w wr)) (fun iv _ => 256 - (intOf iv).toNat)
  case atStart => exact ⟨144, Nat.le_refl _, by omega, rfl, HB2⟩
  case round =>
    clear HB2
    obtain ⟨k, hk1, hk2, rfl, HB⟩ := hrel
    by_cases hlt : k < 256
    · have hltI : (k : Int) < 256 := by omega
      have hk288 : (k : Int) < 288 := by omega
      have hk0 : (0 : Int) ≤ (k : Int) := by omega
      have x0 := (Block.cell HB.out.1 k).trans (iV_get (fW1 k) (show k < 288 by omega))
      have y0 := Block.free HB.out.1 k
      have HB3 : Hid (Block (wr.setCell ⟨gl, k, none⟩ (.int .i64 9)) gl 3 (iV 288 (fW1 (k + 1))) ∧ w.heap.size ≤ gl ∧ Touch (fun k => w.heap.size ≤ k) w (wr.setCell ⟨gl, k, none⟩ (.int .i64 9))) := Lib.hid ⟨by
        rw [← iV_set (k := k) (v := 9) (f := fW1 k) (show k < 288 by omega) (fun i hi => by unfold fW1; (repeat' split) <;> omega)]
        exact Block.set HB.out.1 k _, HB.out.2.1, HB.out.2.2.setCell (p := ⟨gl, k, none⟩) (Or.inl HB.out.2.1) _⟩
      clear HB
      go_wp2_with fail
      go_roundw
      case rel => exact ⟨k + 1, by omega, by omega, by go_num, HB3⟩
      case measure => simp [intOf]; omega
    · obtain rfl : k = 256 := by omega
      have HB4 : Hid (Block wr gl 3 (iV 288 (fW2 256)) ∧ w.heap.size ≤ gl ∧ Touch (fun k => w.heap.size ≤ k) w wr) := Lib.hid ⟨by
        have e : iV 288 (fW1 256) = iV 288 (fW2 256) := by
          have e8 : ∀ i, fW1 256 i = fW2 256 i := fun i => by unfold fW1 fW2; (repeat' split) <;> omega
          unfold iV
          simp only [e8]
        rw [← e]; exact HB.out.1, HB.out.2⟩
      clear HB
      go_wp2_with fail
      go_loopw [4] (fun iv wr => ∃ k : Nat, 256 ≤ k ∧ k ≤ 280 ∧ iv = .int .i64 (k : Nat) ∧ RowKit.Hid (Block wr gl 3 (iV 288 (fW2 k)) ∧ w.heap.size ≤ gl ∧ Touch (fun k => w.heap.size ≤ k) w wr)) (fun iv _ => 280 - (intOf iv).toNat)
      case atStart => exact ⟨256, Nat.le_refl _, by omega, rfl, HB4⟩
      case round =>
        clear HB4
        obtain ⟨k, hk1, hk2, rfl, HB⟩ := hrel
        by_cases hlt : k < 280
        · have hltI : (k : Int) < 280 := by omega
          have hk288 : (k : Int) < 288 := by omega
          have hk0 : (0 : Int) ≤ (k : Int) := by omega
          have x0 := (Block.cell HB.out.1 k).trans (iV_get (fW2 k) (show k < 288 by omega))
          have y0 := Block.free HB.out.1 k
          have HB3 : Hid (Block (wr.setCell ⟨gl, k, none⟩ (.int .i64 7)) gl 3 (iV 288 (fW2 (k + 1))) ∧ w.heap.size ≤ gl ∧ Touch (fun k => w.heap.size ≤ k) w (wr.setCell ⟨gl, k, none⟩ (.int .i64 7))) := Lib.hid ⟨by
            rw [← iV_set (k := k) (v := 7) (f := fW2 k) (show k < 288 by omega) (fun i hi => by unfold fW2; (repeat' split) <;> omega)]
            exact Block.set HB.out.1 k _, HB.out.2.1, HB.out.2.2.setCell (p := ⟨gl, k, none⟩) (Or.inl HB.out.2.1) _⟩
          clear HB
          go_wp2_with fail
          go_roundw
          case rel => exact ⟨k + 1, by omega, by omega, by go_num, HB3⟩
          case measure => simp [intOf]; omega
        · obtain rfl : k = 280 := by omega
          have hR : Reads wr (.slice (some ⟨gl, 0, none⟩) 288 288) (intVs fixW) := by
            rw [← iV_fix]
            exact (Row.reads (.inr ⟨gl, 0, 288, _, by rw [iV_len], HB.out.1, by rw [iV_len]; exact Nat.le_refl _, by unfold maxLen; omega, by simp [iV_len], by rw [iV_len, List.drop_zero]; exact List.take_of_length_le (by simp [iV_len])⟩ : Row wr 3 (.slice (some ⟨gl, 0, none⟩) 288 288) (iV 288 (fW2 280))))
          have HC := Lib.hid (cnew_fix fixW why_fixW nat_fixW _ wr hR)
          have HT3 := Lib.hid (new_touchF HB.out.2.2)
          clear HB hR
          go_wp2_with fail
          refine HC.out.mono ?_
          rintro e w3 ⟨c1, rfl, hc1, hT3⟩
          have hT4 := HT3.out.trans hT3
          have HDa := Lib.hid (HD.out.still hT4)
          have hb3 : b < w3.heap.size := Nat.lt_of_lt_of_le HBL.out hT4.size
          have m17 : w3.cell? ⟨b, 17, none⟩ = some p17 := Block.cell HDa.out.blk 17
          have g17 := Block.free HDa.out.blk 17
          have HC1 := Lib.hid (⟨hc1, HT3.out.size⟩ : _ ∧ _)
          have HTa := Lib.hid hT4
          clear hc1 hT3 hT4 HC HT3
          have HBA : Hid (Block (w3.setCell ⟨b, 17, none⟩ (.pointer (some ⟨c1, 0, none⟩))) b 80 (decL s v5 g v7 v8 (.pointer (some ⟨c1, 0, none⟩)) p18) ∧ Touch (fun k => k = b) w3 (w3.setCell ⟨b, 17, none⟩ (.pointer (some ⟨c1, 0, none⟩)))) := Lib.hid ⟨Block.set HDa.out.blk 17 _, (Touch.refl (fun k => k = b) w3).setCell (p := ⟨b, 17, none⟩) (Or.inl rfl) _⟩
          go_wp2_with fail
          refine (repeat_calls 5 32 (.inr rfl) _ _ _ (by have h9 := Block.cell (Block.new (w3.setCell ⟨b, 17, none⟩ (.pointer (some ⟨c1, 0, none⟩))) 3 [.int .i64 5]) 0; simpa using h9)).mono ?_
          rintro e w5 ⟨g5, rfl, hrow5, hg5, hT5⟩
          have hTb5 : Touch (fun _ => False) (w3.setCell ⟨b, 17, none⟩ (.pointer (some ⟨c1, 0, none⟩))) w5 := ((Touch.refl (fun _ => False) _).alloc _).trans hT5
          have hR5 : Reads w5 (.slice (some ⟨g5, 0, none⟩) 32 32) (intVs fixD) := by
            rw [← fixD_rep]
            exact (Row.reads (.inr ⟨g5, 0, 32, _, by simp, hrow5, by simp, by unfold maxLen; omega, by simp, by simp⟩ : Row w5 3 (.slice (some ⟨g5, 0, none⟩) 32 32) (List.replicate 32 (.int .i64 5))))
          have HC5 := Lib.hid (cnew_fix fixD why_fixD nat_fixD _ w5 hR5)
          have HTb5 := Lib.hid hTb5
          clear hrow5 hg5 hT5 hTb5 hR5 m17 g17
          generalize w3.setCell ⟨b, 17, none⟩ (.pointer (some ⟨c1, 0, none⟩)) = wA at *
          go_wp2_with fail
          refine HC5.out.mono ?_
          rintro e w6 ⟨c2, rfl, hc2, hT6⟩
          have hB6 := HBA.out.1.kept (HTb5.out.trans hT6) id
          have m18 : w6.cell? ⟨b, 18, none⟩ = some p18 := Block.cell hB6 18
          have g18 := Block.free hB6 18
          have m19 : w6.cell? ⟨b, 19, none⟩ = some (.bool s.fixed) := Block.cell hB6 19
          have g19 := Block.free hB6 19
          have HT36 := Lib.hid (HBA.out.2.trans ((HTb5.out.trans hT6).mono (fun _ e => e.elim)))
          have HB6 := Lib.hid hB6
          have HC2 := Lib.hid (⟨hc2, HTb5.out.size, hT6.size⟩ : _ ∧ _ ∧ _)
          clear hc2 hT6 hB6 HC5
          go_wp2_with fail
          go_end0
          have hT37 : Touch (fun k => k = b) w3 ((w6.setCell ⟨b, 18, none⟩ (.pointer (some ⟨c2, 0, none⟩))).setCell ⟨b, 19, none⟩ (.bool true)) := (HT36.out.setCell (p := ⟨b, 18, none⟩) (Or.inl rfl) _).setCell (p := ⟨b, 19, none⟩) (Or.inl rfl) _
          have hT67 : Touch (fun k => k = b) w6 ((w6.setCell ⟨b, 18, none⟩ (.pointer (some ⟨c2, 0, none⟩))).setCell ⟨b, 19, none⟩ (.bool true)) := ((Touch.refl (fun k => k = b) w6).setCell (p := ⟨b, 18, none⟩) (Or.inl rfl) _).setCell (p := ⟨b, 19, none⟩) (Or.inl rfl) _
          have hB7 : Block ((w6.setCell ⟨b, 18, none⟩ (.pointer (some ⟨c2, 0, none⟩))).setCell ⟨b, 19, none⟩ (.bool true)) b 80 (decL { s with fixed := true, cds := some (fixW, fixD) } v5 g v7 v8 (.pointer (some ⟨c1, 0, none⟩)) (.pointer (some ⟨c2, 0, none⟩))) := Block.set (Block.set HB6.out 18 _) 19 _
          generalize (w6.setCell ⟨b, 18, none⟩ (.pointer (some ⟨c2, 0, none⟩))).setCell ⟨b, 19, none⟩ (.bool true) = w7 at hT37 hT67 hB7 ⊢
          have hml := HD.out.mlt
          obtain ⟨k1, k2, k3, k4, k5, k6, k7, k8, k9⟩ := HDa.out
          have hm1 : ∀ k, wr.heap.size ≤ k → ¬ Mut b v5 v7 v8 k := fun k hk e => by have := hml k e; have := HC1.out.2; omega
          have hsz3 : w3.heap.size ≤ w6.heap.size := HT36.out.size
          refine ⟨rfl, DecR.step HO.out.1 HO.out.2 ((HTa.out.mono (fun _ e => e.elim)).trans hT37) (fun k e => .inl (.inl e)) (fun k e => .inl e)
            ⟨hB7, k2.kept hT37 (fun k e e2 => k5.1 (by rw [e, e2])), k3.kept hT37 (fun k e e2 => k5.2.1 (by rw [e, e2])), k4.kept hT37 (fun k e e2 => k5.2.2.1 (by rw [e, e2])), k5, ⟨fun lw ld hf => (by cases hf; exact ⟨⟨c1, _, _, rfl, HC1.out.1.kept hT37 (fun k q1 q2 e => hm1 k q1 (.inl e)), hT37.size, fun k q1 q2 => ⟨hm1 k q1, fun e => by have := (HD.out.cod.l15 k e).1; have := HC1.out.2; omega⟩⟩, ⟨c2, _, _, rfl, HC2.out.1.kept hT67 (fun k q1 q2 e => hm1 k (by have := HC1.out.1.b0; have := HC1.out.1.b1; have := HC2.out.2.1; have := HBA.out.2.size; omega) (.inl e)), hT67.size, fun k q1 q2 => ⟨hm1 k (by have := HC1.out.1.b0; have := HC1.out.1.b1; have := HC2.out.2.1; have := HBA.out.2.size; omega), fun e => by have := (HD.out.cod.l15 k e).1; have := HC1.out.2; have := HC1.out.1.b0; have := HC1.out.1.b1; have := HC2.out.2.1; have := HBA.out.2.size; omega⟩⟩⟩), (k6.step hT37 (fun k e => .inl (.inl e)) (fun k e => .inl e) ⟨rfl, rfl, rfl, rfl⟩).tel, (k6.step hT37 (fun k e => .inl (.inl e)) (fun k e => .inl e) ⟨rfl, rfl, rfl, rfl⟩).l15, ⟨rfl, rfl, k6.one.2.2⟩⟩, ⟨fun _ => rfl, (fun lw ld hf => (by cases hf; exact ⟨whole_fixW, whole_fixD⟩)), k7.2.2⟩, k8, k9⟩⟩
end Go.Proofs.YtoaeffinjpkahaaDoor

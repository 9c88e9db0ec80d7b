/- A decoder by plain data: Feed in any state; Done, Told, Used, Rest; Copy. -/
import Derived.Test.YtoaeffinjpkahaaDoorInfTn
import Derived.Test.YtoaeffinjpkahaaDoorInfCc
namespace Go.Proofs.YtoaeffinjpkahaaDoor
set_option linter.unusedSimpArgs false
set_option linter.unusedVariables false
open Go Go.RowKit
set_option maxRecDepth 100000

set_option maxHeartbeats 2000000 in
/-- Feed behind the stream's end. -/
theorem dfeed_fin {F : Nat → Prop} {w : World} {b came told : Nat} {rest : List UInt8} (h : DecD F w b (.fin came told rest)) (t : ByteArray) (hc : came + t.size < 1000000000) (hr : rest.length + t.size ≤ 1000000000) :
    Calls Tryd.prog 10 #[.pointer (some ⟨b, 0, none⟩), .string t] w fun e w' => e = .returned (.tuple #[.string ⟨#[]⟩, .int .i64 0]) ∧ StopAt F w b (.fin (came + t.size) told (rest ++ t.data.toList)) w' := by
  obtain ⟨hE, hFb, hF4⟩ := h
  have hbw : b < w.heap.size := World.block_lt_of_cell? w ⟨b, 0, none⟩ hE.1
  have hadd : (came : Int) + (t.size : Int) = ((came + t.size : Nat) : Int) := by omega
  obtain ⟨N, hN⟩ : ∃ N, N = came + t.size := ⟨_, rfl⟩
  rw [← hN] at hadd hc ⊢
  have H1 := Lib.hid (hE.setc N)
  have hT1 : Touch (fun k => k = b) w (w.setCell ⟨b, 2, none⟩ (.int .i64 (N : Nat))) := touch_cell w b 2 _
  have hF41 : ∀ j v, (j = 4 ∨ j = 5) → (w.setCell ⟨b, 2, none⟩ (.int .i64 (N : Nat))).cell? ⟨b, j, none⟩ = some v → ∀ k, v.ownBlock = some k → F k := fun j v hj e k ek => hF4 j v hj (by rw [← e]; exact (World.cell?_setCell_other _ _ _ _ (by rcases hj with rfl | rfl <;> simp)).symm) k ek
  have HT1 := Lib.hid (And.intro hT1 (And.intro hFb hF41))
  obtain ⟨c0, c1, c2, c3, v4, c4, hB, hap, hf, _⟩ := hE
  have f2 := hf 2
  obtain ⟨i0, hi, hz0, hz1, hz2⟩ := info_parts Tryd.info5
  have HR := Lib.hid (⟨hr, hbw⟩ : _ ∧ _)
  clear hB hap hf hN hT1 hr hbw c0 c3 c4 hF4 hF41 hFb
  go_enter Tryd.func10, Tryd.ntmps10
  go_wp2_with fail
  refine (idone_end H1.out.1).mono ?_
  rintro e w1 ⟨rfl, rfl⟩
  have hbw : b < (w.setCell ⟨b, 2, none⟩ (.int .i64 (N : Nat))).heap.size := Nat.lt_of_lt_of_le HR.out.2 HT1.out.1.size
  generalize w.setCell ⟨b, 2, none⟩ (.int .i64 (N : Nat)) = w1 at H1 HT1 hbw ⊢
  clear c1 c2 f2
  obtain ⟨c0, c1, c2, c3, v4, c4, hB, hap, hf, _⟩ := H1.out
  have f4 := hf 4
  have HB := Lib.hid (⟨hB, hap⟩ : _ ∧ _)
  clear hB hap hf
  go_wp2_with (at_builtin; refine wpList_append_rest rfl (.tmp 34) (.tmp 35) rfl v4 rest rfl HB.out.1 t rfl HR.out.1 ?_; intro v5 w2 hB5 hT5 ho5; have H5 := Lib.hid (⟨H1.out.setr c4 hbw hT5 ho5 hB5, hT5, ho5⟩ : _ ∧ _ ∧ _); have hblk := hT5.block b hbw (fun e => by have := HB.out.2 b e; omega); have g4 := (World.cell?_of_block (a := ⟨b, 4, none⟩) hblk).trans c4; have e4 := (World.frozen?_of_block (a := ⟨b, 4, none⟩) hblk).trans f4; have HBK := Lib.hid hblk; obtain ⟨G5, cap5, hv5⟩ := hB5.form; rw [List.length_append, data_length] at hv5; subst hv5; clear hT5 ho5 hblk)
  go_ret2
  have hF4 : ∀ k, v4.ownBlock = some k → F k := HT1.out.2.2 4 v4 (.inl rfl) c4
  have hsz := HT1.out.1.size
  refine ⟨rfl, ⟨H5.out.1, .inl HT1.out.2.1, fun j v hj e4' k ek => ?_⟩, ?_⟩
  · rcases hj with rfl | rfl
    · have e9 := (World.cell?_setCell_same w2 ⟨b, 4, none⟩ (.slice G5 (rest.length + t.size) cap5) g4).symm.trans e4'
      obtain rfl := Option.some.inj e9
      rcases H5.out.2.2 with q | q
      · exact .inl (hF4 k (by rw [← q]; exact ek))
      · have := Option.some.inj (q.symm.trans ek)
        exact .inr (by omega)
    · have e8 : w2.cell? ⟨b, 5, none⟩ = some v := by rw [← e4']; exact (World.cell?_setCell_other _ _ _ _ (by simp)).symm
      have e7 : w1.cell? ⟨b, 5, none⟩ = some v := by rw [← e8]; exact (World.cell?_of_block (a := ⟨b, 5, none⟩) HBK.out).symm
      exact .inl (HT1.out.2.2 5 v (.inr rfl) e7 k ek)
  · refine (HT1.out.1.mono (fun k e => by rw [e]; exact HT1.out.2.1) |>.trans' H5.out.2.1 (fun k e => .inl (hF4 k e))).setCell (p := ⟨b, 4, none⟩) (.inl HT1.out.2.1) _

/-- Feed in any state. -/
theorem dfeed {F : Nat → Prop} {w : World} {b : Nat} {d : DS} (h : DecD F w b d) (hk : OkD d) {B : Nat} (hz : szD d B) (t : ByteArray) (hB : B + 4800 * t.size < 900000000) (hT : TabsI w) (hU1 : ¬ F 1) (hU2 : ¬ F 2) :
    Calls Tryd.prog 10 #[.pointer (some ⟨b, 0, none⟩), .string t] w fun e w' => e = .returned (.tuple #[.string ⟨(feedQ d t.data.toList).1.toArray⟩, .int .i64 ((feedQ d t.data.toList).2.1 : Nat)]) ∧ StopAt F w b (feedQ d t.data.toList).2.2 w' := by
  cases d with
  | run q => exact dfeed_run h.1 hk hz t hB hT hU1 hU2
  | fin c n r =>
    obtain ⟨z1, z2, z3⟩ := hz
    refine (dfeed_fin h t (by omega) (by omega)).mono ?_
    rintro e w' ⟨rfl, hS⟩
    refine ⟨rfl, ?_⟩
    show StopAt F w b (.fin (c + t.data.toList.length) n (r ++ t.data.toList)) w'
    rw [data_length]
    exact hS
  | bad r n => exact dfeed_bad h hk.1 t

/-- What can be asked of a decoder. -/
def ViewD (w : World) (b : Nat) : DS → Prop
  | .run q => w.cell? ⟨b, 0, none⟩ = some (.int .i64 (q.st : Nat)) ∧ q.st < 11 ∧ w.cell? ⟨b, 3, none⟩ = some (.int .i64 (q.told : Nat)) ∧ w.cell? ⟨b, 4, none⟩ = some (.slice none 0 0)
  | .fin c t r => DecE w b c t r
  | .bad _ t => w.cell? ⟨b, 0, none⟩ = some (.int .i64 0) ∧ w.cell? ⟨b, 3, none⟩ = some (.int .i64 (t : Nat)) ∧ w.cell? ⟨b, 4, none⟩ = some (.slice none 0 0)
theorem DecD.view {F : Nat → Prop} {w : World} {b : Nat} {d : DS} (h : DecD F w b d) (hk : OkD d) : ViewD w b d := by
  cases d with
  | run q =>
    obtain ⟨⟨v, p, hL, _⟩, _⟩ := h
    obtain ⟨v5, g, v7, v8, p17, p18, hD, _⟩ := hL.1
    exact ⟨Block.cell hD.blk 0, hk.2.1, Block.cell hD.blk 3, Block.cell hD.blk 4⟩
  | fin c t r => exact h.1
  | bad r t => exact ⟨h.1.cell.1, h.1.cell.2.2.1, h.1.cell.2.2.2⟩
theorem DecE.kept {S : Nat → Prop} {w w' : World} {b came told : Nat} {rest : List UInt8} (h : DecE w b came told rest) (ht : Touch S w w') (hb : ¬ S b) (h4 : ∀ j v, (j = 4 ∨ j = 5) → w.cell? ⟨b, j, none⟩ = some v → ∀ k, v.ownBlock = some k → ¬ S k) : DecE w' b came told rest := by
  obtain ⟨c0, c1, c2, c3, v4, c4, hB, hap, hf, hbk⟩ := h
  have hbw : b < w.heap.size := World.block_lt_of_cell? w ⟨b, 0, none⟩ c0
  exact ⟨ht.cell c0 hb, ht.cell c1 hb, ht.cell c2 hb, ht.cell c3 hb, v4, ht.cell c4 hb, hB.kept ht (h4 4 v4 (.inl rfl) c4), hap, fun j => (ht.frozen (p := ⟨b, j, none⟩) hbw hb).trans (hf j), hbk.kept ht hb (fun v5 e => h4 5 v5 (.inr rfl) e)⟩
theorem DecD.viewk {F S : Nat → Prop} {w w' : World} {b : Nat} {d : DS} (h : DecD F w b d) (hk : OkD d) (ht : Touch S w w') (hS : ∀ k, F k → ¬ S k) : ViewD w' b d := by
  have hv := h.view hk
  cases d with
  | run q =>
    have hb := hS b (DecQ.foot h.1)
    exact ⟨ht.cell hv.1 hb, hv.2.1, ht.cell hv.2.2.1 hb, ht.cell hv.2.2.2 hb⟩
  | fin c t r => exact DecE.kept hv ht (hS b h.2.1) (fun j v hj e k ek => hS k (h.2.2 j v hj e k ek))
  | bad r t =>
    have hb := hS b h.2.1
    exact ⟨ht.cell hv.1 hb, ht.cell hv.2.1 hb, ht.cell hv.2.2 hb⟩
theorem ViewD.still {w w' : World} {b : Nat} {d : DS} (h : ViewD w b d) (ht : Touch (fun _ => False) w w') : ViewD w' b d := by
  cases d with
  | run q => exact ⟨ht.cell h.1 id, h.2.1, ht.cell h.2.2.1 id, ht.cell h.2.2.2 id⟩
  | fin c t r => exact DecE.kept h ht id (fun _ _ _ _ _ _ => id)
  | bad r t => exact ⟨ht.cell h.1 id, ht.cell h.2.1 id, ht.cell h.2.2 id⟩
def doneD : DS → Bool
  | .fin _ _ _ => true
  | _ => false
def usedD : DS → Int
  | .fin c _ r => (c : Int) - (r.length : Int)
  | _ => 0
def restD : DS → List UInt8
  | .fin _ _ r => r
  | _ => []
theorem idone_view {w : World} {b : Nat} {d : DS} (h : ViewD w b d) : Calls Tryd.prog 13 #[.pointer (some ⟨b, 0, none⟩)] w fun e w' => e = .returned (.bool (doneD d)) ∧ w = w' := by
  cases d with
  | run q => exact idone_run h.1 h.2.1
  | fin c t r => exact idone_end h.1
  | bad r t => exact idone_run (st := 0) h.1 (by decide)
theorem itold_view {w : World} {b : Nat} {d : DS} (h : ViewD w b d) : Calls Tryd.prog 12 #[.pointer (some ⟨b, 0, none⟩)] w fun e w' => e = .returned (.int .i64 (toldD d : Nat)) ∧ Touch (fun _ => False) w w' := by
  have c3 : w.cell? ⟨b, 3, none⟩ = some (.int .i64 (toldD d : Nat)) := by
    cases d with
    | run q => exact h.2.2.1
    | fin c t r => exact h.2.2.2.1
    | bad r t => exact h.2.1
  clear h
  go_enter Tryd.func12, Tryd.ntmps12
  go_wp2_with fail
  go_ret
  exact ⟨rfl, Touch.refl _ _⟩
theorem itold_nil (w : World) : Calls Tryd.prog 12 #[.pointer none] w fun e w' => e = .returned (.int .i64 0) ∧ w = w' := by
  go_enter Tryd.func12, Tryd.ntmps12
  go_wp2_with fail
  go_ret
  exact ⟨rfl, rfl⟩
theorem icopy_nil (w : World) : Calls Tryd.prog 11 #[.pointer none] w fun e w' => e = .returned (.pointer none) ∧ w = w' := by
  go_enter Tryd.func11, Tryd.ntmps11
  go_wp2_with fail
  go_ret
  exact ⟨rfl, rfl⟩
theorem iused_view {w : World} {b : Nat} {d : DS} (h : ViewD w b d) (hk : OkD d) {B : Nat} (hz : szD d B) (hB : B < 900000000) : Calls Tryd.prog 14 #[.pointer (some ⟨b, 0, none⟩)] w fun e w' => e = .returned (.int .i64 (usedD d)) ∧ Touch (fun _ => False) w w' := by
  cases d with
  | fin c t r => exact iused_end h (by have := hz.1; omega) hk
  | run q =>
    have HV := Lib.hid h
    clear h
    go_enter Tryd.func14, Tryd.ntmps14
    go_wp2_with fail
    refine (idone_view HV.out).mono ?_
    rintro e w' ⟨rfl, rfl⟩
    go_wp2_with fail
    go_ret
    exact ⟨rfl, Touch.refl _ _⟩
  | bad r t =>
    have HV := Lib.hid h
    clear h
    go_enter Tryd.func14, Tryd.ntmps14
    go_wp2_with fail
    refine (idone_view HV.out).mono ?_
    rintro e w' ⟨rfl, rfl⟩
    go_wp2_with fail
    go_ret
    exact ⟨rfl, Touch.refl _ _⟩
theorem irest_view {w : World} {b : Nat} {d : DS} (h : ViewD w b d) : Calls Tryd.prog 15 #[.pointer (some ⟨b, 0, none⟩)] w fun e w' => e = .returned (.string ⟨(restD d).toArray⟩) ∧ w = w' := by
  have key : w.cell? ⟨b, 4, none⟩ = some (.slice none 0 0) → Calls Tryd.prog 15 #[.pointer (some ⟨b, 0, none⟩)] w fun e w' => e = .returned (.string ⟨#[]⟩) ∧ w = w' := by
    intro c4
    have hcv := run_bytes_row (P := Tryd.prog) w 58 5 9 Tryd.underlying58 Tryd.underlying5 Tryd.underlying9 (xs := []) (v := .slice none 0 0) (Row.nil w 5)
    clear h
    go_enter Tryd.func15, Tryd.ntmps15
    go_wp2_with fail
    go_ret
    exact ⟨rfl, rfl⟩
  cases d with
  | fin c t r => exact irest_end h
  | run q => exact key h.2.2.2
  | bad r t => exact key h.2.2
end Go.Proofs.YtoaeffinjpkahaaDoor

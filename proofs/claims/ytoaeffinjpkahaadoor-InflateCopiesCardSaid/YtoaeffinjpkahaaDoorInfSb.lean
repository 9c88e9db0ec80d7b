
/- A decoder: readBytes; run till a part waits; Feed of a piece. -/
import Derived.Test.YtoaeffinjpkahaaDoorInfSa
import Derived.Test.YtoaeffinjpkahaaDoorInfN
namespace Go.Proofs.YtoaeffinjpkahaaDoor
set_option linter.unusedSimpArgs false
set_option linter.unusedVariables false
open Go Go.RowKit
set_option maxRecDepth 100000

theorem DecR.grow {U : Nat → Prop} {w0 w w4 : World} {b : Nat} {s : PS} (h : DecR U w0 w b s) {v7 v9 : Value} {T : ByteArray} (c7 : w.cell? ⟨b, 7, none⟩ = some v7) (hrow : Row w4 5 v9 (byteVs s.out ++ byteCells T)) (hg : w.grownBy w4 v7.ownBlock) (ho : v9.ownBlock = v7.ownBlock ∨ v9.ownBlock = some w.heap.size)
    (hz : s.out.length + T.size < 1000000000) : DecR U w0 (w4.setCell ⟨b, 7, none⟩ v9) b { s with out := s.out ++ T.data.toList } := by
  obtain ⟨v5, g, v7', v8, p17, p18, hD, hown, hT⟩ := h
  have c7' : w.cell? ⟨b, 7, none⟩ = some v7' := Block.cell hD.blk 7
  obtain rfl : v7' = v7 := Option.some.inj (c7'.symm.trans c7)
  have hT24 : Touch (fun q => v7'.ownBlock = some q) w w4 := (Touch.refl (fun q => v7'.ownBlock = some q) w).grown hg (fun q hq => .inl hq)
  have hrow' : Row w4 5 v9 (byteVs (s.out ++ T.data.toList)) := by
    rw [byteVs_append]
    exact hrow
  obtain ⟨hD5, hM5⟩ := hD.told' hrow' (fun q hq => by
    rcases ho with e | e
    · exact .inl (by rw [← e]; exact hq)
    · right
      have h8 := Option.some.inj (e.symm.trans hq)
      rw [← h8]
      exact Nat.le_refl _) hT24 (fun q e => .inl e) (by rw [List.length_append, data_length]; exact hz)
  refine DecR.step (S := fun q => v7'.ownBlock = some q ∨ q = b) hown hT ((hT24.mono (fun q e => .inl e)).setCell (p := ⟨b, 7, none⟩) (Or.inl (Or.inr rfl)) _) (fun q e => ?_) hM5 hD5
  rcases e with e | e
  · exact .inl (.inr (.inr (.inl e)))
  · exact .inl (.inl e)
theorem DecR.nb {U : Nat → Prop} {w0 w : World} {b : Nat} {s : PS} (h : DecR U w0 w b s) {v7 : Value} (c7 : w.cell? ⟨b, 7, none⟩ = some v7) : v7.ownBlock ≠ some b ∧ b < w.heap.size := by
  obtain ⟨v5, g, v7', v8, p17, p18, hD, hown, hT⟩ := h
  have c7' : w.cell? ⟨b, 7, none⟩ = some v7' := Block.cell hD.blk 7
  obtain rfl : v7' = v7 := Option.some.inj (c7'.symm.trans c7)
  exact ⟨hD.ap.2.1, hD.blk.lt⟩
theorem iadd_calls {U : Nat → Prop} {w0 w : World} {b : Nat} {s : PS} (h : DecR U w0 w b s) (t : ByteArray) (hz : s.all.length + t.size < 1000000000) :
    Calls Tryd.prog 124 #[.pointer (some ⟨b, 8, none⟩), .string t] w fun e w' => e = .returned (.tuple #[]) ∧ DecR U w0 w' b { s with all := s.all ++ t.data.toList } := by
  obtain ⟨v5, g, v7, v8, p17, p18, hD, hown, hT⟩ := h
  refine (add_win b 8 t s.all _ w (win_at hD.blk hD.win hD.ap.2.2.1) (by omega)).mono ?_
  rintro e w1 ⟨he, row', hW, hS, hT1⟩
  obtain ⟨v8', hD1, hM⟩ := hD.putw hW hS hT1 (by rw [List.length_append, data_length]; exact hz)
  exact ⟨he, DecR.step hown hT hT1 (fun k e => by
    rcases e with e | e
    · exact .inl (.inl e)
    · exact .inl (.inr (.inr (.inr e)))) hM hD1⟩
theorem itake_calls {U : Nat → Prop} {w0 w : World} {b : Nat} {s : PS} (h : DecR U w0 w b s) (y z : List UInt8) (hb : s.bits = bitsL (y ++ z)) (hy : y.length = s.left ∨ (y.length < s.left ∧ z = [])) (hl : s.left < 1000000000) :
    Calls Tryd.prog 64 #[.pointer (some ⟨b, 5, none⟩), .int .i64 (s.left : Nat)] w fun e w' => e = .returned (.string ⟨y.toArray⟩) ∧ DecR U w0 w' b { s with bits := bitsL z } := by
  obtain ⟨v5, g, v7, v8, p17, p18, hD, hown, hT⟩ := h
  have hlen : s.bits.length = 8 * (y.length + z.length) := by rw [hb, bitsL_length, List.length_append]
  have hm0 : s.bits.length % 8 = 0 := by omega
  have hd8 : s.bits.length / 8 = y.length + z.length := by omega
  have htk := take_calls b 5 (s.left : Nat) s.bits _ w (rd_at hD.blk hD.rd hD.ap.1) (by have := hD.lb.1; omega) (by omega) (by omega) y.length (by
    rw [hd8]
    rcases hy with hy | ⟨hy, rfl⟩
    · omega
    · simp only [List.length_nil]; omega)
  have e1 : (s.bits.drop (s.bits.length % 8)).take (8 * y.length) = bitsL y := by
    rw [hm0, List.drop_zero, hb, bitsL_take, List.take_left']
    rfl
  have e2 : (s.bits.drop (s.bits.length % 8)).drop (8 * y.length) = bitsL z := by
    rw [hm0, List.drop_zero, hb, bitsL_drop, List.drop_left']
    rfl
  have e3 : bytesL (bitsL y) = y := by
    have := bytesL_bits y [] (by decide)
    rw [List.append_nil] at this
    exact this
  rw [e1, e2, e3] at htk
  refine htk.mono ?_
  rintro e w1 ⟨he, hR1, hT1⟩
  obtain ⟨v5', g', hD1, ho⟩ := hD.read hR1 hT1 ⟨8 * y.length, by rw [hb, bitsL_drop, List.drop_left']; rfl⟩
  exact ⟨he, DecR.step hown hT hT1 (fun k e => .inl (.inl e)) (fun k e => .inl (mut_same ho e)) hD1⟩

/-- What readBytes leaves: its bytes that are there are told; it waits for more, or the block has ended. -/
def bytesPS (s : PS) (y z : List UInt8) : PS := { s with bits := bitsL z, all := s.all ++ y, out := s.out ++ y, left := s.left - y.length, st := if s.left - y.length = 0 then (if s.last then 11 else 0) else s.st }
set_option maxHeartbeats 2000000 in
theorem ibytes_calls {U : Nat → Prop} {w0 w : World} {b : Nat} {s : PS} (h : DecR U w0 w b s) (y z : List UInt8) (hb : s.bits = bitsL (y ++ z)) (hy : y.length = s.left ∨ (y.length < s.left ∧ z = [])) (hl : s.left < 100000) (hz : s.out.length < 900000000 ∧ s.all.length < 900000000) (r : Int) (hr : (if s.left - y.length = 0 then (0 : Int) else 2) = r) :
    Calls Tryd.prog 91 #[.pointer (some ⟨b, 0, none⟩)] w fun e w' => e = .returned (.int .i64 r) ∧ DecR U w0 w' b (bytesPS s y z) := by
  have HT := Lib.hid (fun W (hW : Touch (fun _ => False) w W) => itake_calls (h.still hW) y z hb hy (by omega))
  have c11 := h.cell11
  have HZ := Lib.hid hz
  have HRR := Lib.hid hr
  clear hr
  obtain ⟨T, hT⟩ : ∃ T : ByteArray, T = ⟨y.toArray⟩ := ⟨_, rfl⟩
  rw [← hT] at HT
  have hTd : T.data.toList = y := by rw [hT]
  have hTz : T.size = y.length := by rw [← data_length, hTd]
  have HTD := Lib.hid (⟨hTd, hTz⟩ : _ ∧ _)
  have hyl : y.length ≤ s.left := by rcases hy with h1 | ⟨h1, _⟩ <;> omega
  have hTl : T.size ≤ s.left := by omega
  obtain ⟨i0, hi, hz0, hz1, hz2⟩ := info_parts Tryd.info5
  clear h hb hy hz hT hTd hTz
  go_enter Tryd.func91, Tryd.ntmps91
  go_upto_region 1 with fail
  go_region_law (first
    | (go_simp; go_at_call 64; refine (HT.out _ ((Touch.refl _ _).drew)).mono ?_; rintro e w1 ⟨rfl, hR1⟩; have H1 := Lib.hid hR1; clear hR1))
  have HA := Lib.hid (iadd_calls H1.out T (by show s.all.length + T.size < _; have := HZ.out; omega))
  clear H1 HT c11
  go_upto_region 2 with fail
  go_wp2_with fail
  refine HA.out.mono ?_
  rintro e w2 ⟨rfl, hR2⟩
  obtain ⟨_, _, _, hf, v7, c7, hrow7⟩ := hR2.cells
  have f7 := hf 7
  have HROW : Hid (Row w2 5 v7 (byteVs s.out)) := Lib.hid hrow7
  have HNB := Lib.hid (hR2.nb c7)
  have H2 := Lib.hid hR2
  clear hR2 HA hf hrow7
  go_upto_region 4 with (at_builtin; refine wpList_append_row _ rfl (.tmp 21) (.tmp 22) 58 9 rfl 5 i0 _ 1 Tryd.underlying58 hi hz0 hz1 hz2 rfl v7 (byteVs s.out) rfl HROW.out (.string T) rfl T.size (byteCells T) (Src.ofString _ Tryd.underlying9 T) (by rw [byteVs_length]; unfold maxLen; have := HZ.out; omega) (by rw [byteVs_length]; have := HZ.out; omega) ?_; intro v9 w4 hrow4 hgrow4 hown4; obtain ⟨a9, c9, hv9, hc91, hc92⟩ := hrow4.form; subst hv9; have hB4 : w4.heap[b]? = w2.heap[b]? := hgrow4.block b HNB.out.2 (fun e => HNB.out.1 e.symm); have g7 := (World.cell?_of_block (a := ⟨b, 7, none⟩) hB4).trans c7; have e7 := (World.frozen?_of_block (a := ⟨b, 7, none⟩) hB4).trans f7; have H4 := Lib.hid (H2.out.grow c7 hrow4 hgrow4 hown4 (by show s.out.length + T.size < _; have := HZ.out; omega)); clear hrow4 hgrow4 hown4 hB4)
  obtain ⟨q, hq⟩ : ∃ q, q = s.left - y.length := ⟨_, rfl⟩
  have hsub : (s.left : Int) - (T.size : Int) = (q : Int) := by have := HTD.out.2; omega
  rw [List.length_append] at H4
  have m11 := H4.out.cell11
  have g11 := H4.out.free 11
  have H5 := Lib.hid (H4.out.set11 q)
  have HQ := Lib.hid hq
  generalize w4.setCell ⟨b, 7, none⟩ _ = w5 at H4 H5 m11 g11 ⊢
  clear H4 H2 HROW HNB c7 f7 g7 e7 hc91 hc92 hq
  have hps : ∀ st' : Nat, ((if q = 0 then (if s.last then 11 else 0) else s.st) = st') → ({ s with bits := bitsL z, all := s.all ++ T.data.toList, out := s.out ++ T.data.toList, left := q, st := st' } : PS) = bytesPS s y z := by
    intro st' h
    unfold bytesPS
    rw [HTD.out.1, ← HQ.out, ← h]
  have HPS := Lib.hid hps
  clear hps
  by_cases hq0 : q = 0
  · have HPS2 := Lib.hid (HPS.out (if s.last then 11 else 0) (if_pos hq0))
    have E2 : Hid (r = 0) := Lib.hid (HRR.out.symm.trans (if_pos (by rw [← HQ.out]; exact hq0)))
    clear HRR
    subst hq0
    clear HPS
    go_wp2_with fail
    refine (iend_calls H5.out).mono ?_
    rintro e w6 ⟨rfl, hR6⟩
    have H6 : Hid (DecR U w0 w6 b (bytesPS s y z)) := Lib.hid (by rw [← HPS2.out]; exact hR6)
    clear hR6 H5
    go_wp2_with fail
    go_ret
    exact ⟨(congrArg (fun i => Ending.returned (Value.int .i64 i)) E2.out).symm, H6.out⟩
  · have E2 : Hid (r = 2) := Lib.hid (HRR.out.symm.trans (if_neg (by rw [← HQ.out]; exact hq0)))
    clear HRR
    have hqI : (0 : Int) < (q : Int) := by omega
    have H6 : Hid (DecR U w0 (w5.setCell ⟨b, 11, none⟩ (.int .i64 (q : Nat))) b (bytesPS s y z)) := Lib.hid (by rw [← HPS.out s.st (if_neg hq0)]; exact H5.out)
    clear H5 HPS
    go_wp2_with fail
    go_ret
    exact ⟨(congrArg (fun i => Ending.returned (Value.int .i64 i)) E2.out).symm, H6.out⟩
end Go.Proofs.YtoaeffinjpkahaaDoor

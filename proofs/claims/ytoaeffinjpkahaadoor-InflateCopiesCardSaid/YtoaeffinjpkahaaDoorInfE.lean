
/- A decoder: what its steps keep; New, endBlock, readBlock where too few bits are there. -/
import Derived.Test.YtoaeffinjpkahaaDoorInfD
namespace Go.Proofs.YtoaeffinjpkahaaDoor
set_option linter.unusedSimpArgs false
set_option linter.unusedVariables false
open Go Go.RowKit
set_option maxRecDepth 100000

theorem CodeV.step {S : Nat → Prop} {w w' : World} {b : Nat} {v5 v7 v8 v5' v7' v8' p : Value} {L : Option Nat} {ls : List Nat} (h : CodeV w b v5 v7 v8 L p ls) (ht : Touch S w w') (hS : ∀ k, S k → Mut b v5 v7 v8 k ∨ w.heap.size ≤ k)
    (hM : ∀ k, Mut b v5' v7' v8' k → Mut b v5 v7 v8 k ∨ w.heap.size ≤ k) : CodeV w' b v5' v7' v8' L p ls := by
  obtain ⟨c, n0, n1, rfl, h1, h2, h3⟩ := h
  refine ⟨c, n0, n1, rfl, h1.kept ht (fun k k0 k1 hk => ?_), Nat.le_trans h2 ht.size, fun k k0 k1 => ⟨fun hk => ?_, (h3 k k0 k1).2⟩⟩
  · rcases hS k hk with e | e
    · exact (h3 k k0 k1).1 e
    · omega
  · rcases hM k hk with e | e
    · exact (h3 k k0 k1).1 e
    · omega
theorem Cods.step {S : Nat → Prop} {w w' : World} {b : Nat} {s s' : PS} {v5 v7 v8 v5' v7' v8' p17 p18 : Value} (h : Cods w b v5 v7 v8 p17 p18 s) (ht : Touch S w w') (hS : ∀ k, S k → Mut b v5 v7 v8 k ∨ w.heap.size ≤ k)
    (hM : ∀ k, Mut b v5' v7' v8' k → Mut b v5 v7 v8 k ∨ w.heap.size ≤ k) (he : s'.cds = s.cds ∧ s'.tl = s.tl ∧ s'.p16 = s.p16 ∧ s'.v15 = s.v15) : Cods w' b v5' v7' v8' p17 p18 s' := by
  obtain ⟨e1, e2, e3, e4⟩ := he
  refine ⟨fun lw ld hf => ?_, fun lt hf => ?_, fun g hg => ?_, by rw [e3]; exact h.one⟩
  · rw [e1] at hf
    rw [e4]
    obtain ⟨c1, c2⟩ := h.cod lw ld hf
    exact ⟨c1.step ht hS hM, c2.step ht hS hM⟩
  · rw [e2] at hf
    rw [e3, e4]
    exact (h.tel lt hf).step ht hS hM
  · rw [e4] at hg
    obtain ⟨h1, h2⟩ := h.l15 g hg
    refine ⟨Nat.lt_of_lt_of_le h1 ht.size, fun hk => ?_⟩
    rcases hM g hk with e | e
    · exact h2 e
    · omega
theorem DecR.step {U S : Nat → Prop} {w0 w w' : World} {b : Nat} {s' : PS} {v5 v7 v8 v5' v7' v8' p17' p18' : Value} {g' : Nat} (hown : ∀ k, Mut b v5 v7 v8 k → U k ∨ w0.heap.size ≤ k) (h0 : Touch U w0 w) (ht : Touch S w w')
    (hS : ∀ k, S k → Mut b v5 v7 v8 k ∨ w.heap.size ≤ k) (hM : ∀ k, Mut b v5' v7' v8' k → Mut b v5 v7 v8 k ∨ w.heap.size ≤ k) (hD : DecM w' b s' v5' g' v7' v8' p17' p18') : DecR U w0 w' b s' := by
  have hsz := h0.size
  refine ⟨v5', g', v7', v8', p17', p18', hD, fun k hk => ?_, h0.trans' ht (fun k hk => ?_)⟩
  · rcases hM k hk with e | e
    · exact hown k e
    · exact .inr (by omega)
  · rcases hS k hk with e | e
    · exact hown k e
    · exact .inr (by omega)
/-- Its other cells have turned. -/
theorem DecM.put {w w' : World} {b : Nat} {s s' : PS} {v5 v7 v8 p17 p18 : Value} {g : Nat} (h : DecM w b s v5 g v7 v8 p17 p18) (ht : Touch (fun k => k = b) w w') (hB : Block w' b 80 (decL s' v5 g v7 v8 p17 p18))
    (h1 : s'.bits = s.bits) (h2 : s'.out = s.out) (h3 : s'.all = s.all) (h4 : s'.fixed = s.fixed ∧ s'.cds = s.cds ∧ s'.tl = s.tl ∧ s'.p16 = s.p16 ∧ s'.v15 = s.v15) (h5 : s'.came < 1000000000 ∧ s'.told < 1000000000) : DecM w' b s' v5 g v7 v8 p17 p18 := by
  obtain ⟨k1, k2, k3, k4, k5, k6, k7, k8, k9⟩ := h
  obtain ⟨a1, a2, a3, a4, a5, a6⟩ := k5
  have hm : ∀ k, k = b → Mut b v5 v7 v8 k ∨ w.heap.size ≤ k := fun k e => .inl (.inl e)
  refine ⟨hB, ?_, ?_, ?_, ⟨a1, a2, a3, a4, a5, a6⟩, k6.step ht hm (fun k e => .inl e) h4.2, by rw [h4.1, h4.2.1, h4.2.2.1]; exact k7, by rw [h1]; exact k8, by rw [h1, h2, h3]; exact ⟨k9.1, k9.2.1, k9.2.2.1, h5.1, h5.2⟩⟩
  · rw [h1]; exact k2.kept ht (fun k e e2 => a1 (by rw [e, e2]))
  · rw [h2]; exact k3.kept ht (fun k e e2 => a2 (by rw [e, e2]))
  · rw [h3]; exact k4.kept ht (fun k e e2 => a3 (by rw [e, e2]))
theorem DecM.still {w w' : World} {b : Nat} {s : PS} {v5 v7 v8 p17 p18 : Value} {g : Nat} (h : DecM w b s v5 g v7 v8 p17 p18) (ht : Touch (fun _ => False) w w') : DecM w' b s v5 g v7 v8 p17 p18 :=
  h.put (ht.mono (fun _ e => e.elim)) (h.blk.kept ht id) rfl rfl rfl ⟨rfl, rfl, rfl, rfl, rfl⟩ ⟨h.lb.2.2.2.1, h.lb.2.2.2.2⟩
theorem DecR.still {U : Nat → Prop} {w0 w w' : World} {b : Nat} {s : PS} (h : DecR U w0 w b s) (ht : Touch (fun _ => False) w w') : DecR U w0 w' b s := by
  obtain ⟨v5, g, v7, v8, p17, p18, h1, h2, h3⟩ := h
  exact ⟨v5, g, v7, v8, p17, p18, h1.still ht, h2, h3.trans (ht.mono (fun _ e => e.elim))⟩

/-- A new decoder. -/
def ps0 : PS := ⟨0, 0, 0, [], [], [], false, 0, 0, 0, 0, false, 0, 0, 0, 0, none, .slice none 0 0, .pointer none, none⟩
theorem inew_calls (w : World) : Calls Tryd.prog 9 #[] w fun e w' => ∃ b, e = .returned (.pointer (some ⟨b, 0, none⟩)) ∧ w.heap.size ≤ b ∧ DecR (fun _ => False) w w' b ps0 := by
  go_enter Tryd.func9, Tryd.ntmps9
  go_wp2_with fail
  go_ret
  refine ⟨w.heap.size, rfl, Nat.le_refl _, .slice none 0 0, 0, .slice none 0 0, .slice none 0 0, .pointer none, .pointer none, ⟨?_, ⟨[], Row.nil _ _, by decide, by decide, rfl⟩, Row.nil _ _, ⟨[], Row.nil _ _, ring_nil⟩, ?_, ⟨(fun _ _ h => by cases h), (fun _ h => by cases h), (fun _ h => by cases h), ⟨rfl, rfl, rfl⟩⟩, ⟨(fun h => by cases h), (fun _ _ h => by cases h), (fun _ h => by cases h)⟩, (fun x hx => by cases hx), by decide⟩, fun k hk => ?_, (Touch.refl _ w).alloc _⟩
  · exact Block.new w _ _
  · exact ⟨by simp [Value.ownBlock], by simp [Value.ownBlock], by simp [Value.ownBlock], fun k h => by simp [Value.ownBlock] at h, fun k h => by simp [Value.ownBlock] at h, fun k h => by simp [Value.ownBlock] at h⟩
  · rcases hk with e | e | e | e
    · exact .inr (by rw [e]; exact Nat.le_refl _)
    · simp [Value.ownBlock] at e
    · simp [Value.ownBlock] at e
    · simp [Value.ownBlock] at e

theorem iend_calls {U : Nat → Prop} {w0 w : World} {b : Nat} {s : PS} (h : DecR U w0 w b s) : Calls Tryd.prog 125 #[.pointer (some ⟨b, 0, none⟩)] w fun e w' => e = .returned (.tuple #[]) ∧ DecR U w0 w' b { s with st := if s.last then 11 else 0 } := by
  obtain ⟨v5, g, v7, v8, p17, p18, hD, hown, hT⟩ := h
  have hB := hD.blk
  have c0 : w.cell? ⟨b, 0, none⟩ = some (.int .i64 (s.st : Nat)) := Block.cell hB 0
  have c10 : w.cell? ⟨b, 10, none⟩ = some (.bool s.last) := Block.cell hB 10
  have f0 := Block.free hB 0
  have hput : ∀ n : Nat, DecM (w.setCell ⟨b, 0, none⟩ (.int .i64 (n : Nat))) b { s with st := n } v5 g v7 v8 p17 p18 := fun n =>
    hD.put ((Touch.refl (fun k => k = b) w).setCell (p := ⟨b, 0, none⟩) (Or.inl rfl) _) (Block.set hB 0 _) rfl rfl rfl ⟨rfl, rfl, rfl, rfl, rfl⟩ ⟨hD.lb.2.2.2.1, hD.lb.2.2.2.2⟩
  have hput2 : DecM ((w.setCell ⟨b, 0, none⟩ (.int .i64 0)).setCell ⟨b, 0, none⟩ (.int .i64 11)) b { s with st := 11 } v5 g v7 v8 p17 p18 :=
    (hput 0).put (s' := { s with st := 11 }) ((Touch.refl (fun k => k = b) _).setCell (p := ⟨b, 0, none⟩) (Or.inl rfl) _) (Block.set (hput 0).blk 0 _) rfl rfl rfl ⟨rfl, rfl, rfl, rfl, rfl⟩ ⟨hD.lb.2.2.2.1, hD.lb.2.2.2.2⟩
  have hTs : ∀ u : Value, Touch (fun k => k = b) w (w.setCell ⟨b, 0, none⟩ u) := fun u => (Touch.refl (fun k => k = b) w).setCell (p := ⟨b, 0, none⟩) (Or.inl rfl) u
  have HP := Lib.hid (⟨hput 0, hput2⟩ : _ ∧ _)
  have HO := Lib.hid (⟨hown, hT, hTs⟩ : _ ∧ _ ∧ _)
  clear hput hput2 hown hT hTs hB hD
  by_cases hl : s.last = true
  case neg =>
    have hl2 : s.last = false := by simpa using hl
    rw [hl2] at c10
    rw [if_neg hl]
    clear hl2 hl
    go_enter Tryd.func125, Tryd.ntmps125
    go_wp2_with fail
    go_end0
    exact ⟨rfl, DecR.step HO.out.1 HO.out.2.1 (HO.out.2.2 _) (fun k e => .inl (.inl e)) (fun k e => .inl e) HP.out.1⟩
  case pos =>
    rw [hl] at c10
    rw [if_pos hl]
    clear hl
    go_enter Tryd.func125, Tryd.ntmps125
    go_wp2_with fail
    go_end0
    exact ⟨rfl, DecR.step HO.out.1 HO.out.2.1 ((HO.out.2.2 _).setCell (p := ⟨b, 0, none⟩) (Or.inl rfl) _) (fun k e => .inl (.inl e)) (fun k e => .inl e) HP.out.2⟩

theorem iblock_more {U : Nat → Prop} {w0 w : World} {b : Nat} {s : PS} (h : DecR U w0 w b s) (hl : s.bits.length < 3) : Calls Tryd.prog 89 #[.pointer (some ⟨b, 0, none⟩)] w fun e w' => e = .returned (.int .i64 2) ∧ DecR U w0 w' b s := by
  obtain ⟨v5, g, v7, v8, p17, p18, hD, hown, hT⟩ := h
  have HR := Lib.hid (read_less b 5 3 s.bits _ w (rd_at hD.blk hD.rd hD.ap.1) (by omega) (by omega) hl)
  have HD := Lib.hid (show DecR U w0 w b s from ⟨v5, g, v7, v8, p17, p18, hD, hown, hT⟩)
  have c0 : w.cell? ⟨b, 0, none⟩ = some (.int .i64 (s.st : Nat)) := Block.cell hD.blk 0
  clear hD hown hT hl
  go_enter Tryd.func89, Tryd.ntmps89
  go_wp2_with fail
  refine HR.out.mono ?_
  rintro e w' ⟨rfl, rfl⟩
  go_wp2_with fail
  go_ret
  exact ⟨rfl, HD.out.still (Touch.refl _ _).drew⟩
end Go.Proofs.YtoaeffinjpkahaaDoor

/- A decoder: bits that are read; readBlock of a fixed block. -/
import Derived.Test.YtleenjeiladjcaaDoorInfF
namespace Go.Proofs.YtleenjeiladjcaaDoor
open Go Go.RowKit
set_option maxRecDepth 100000

theorem mut_same {b : Nat} {v5 v5' v7 v8 : Value} (h : v5'.ownBlock = v5.ownBlock) {k : Nat} (hk : Mut b v5' v7 v8 k) : Mut b v5 v7 v8 k := by
  rcases hk with e | e | e | e
  · exact .inl e
  · exact .inr (.inl (by rw [← h]; exact e))
  · exact .inr (.inr (.inl e))
  · exact .inr (.inr (.inr e))
/-- Bits were read. -/
theorem DecM.read {w w1 : World} {b : Nat} {s : PS} {v5 v7 v8 p17 p18 : Value} {g : Nat} {l : List Nat} (h : DecM w b s v5 g v7 v8 p17 p18) (hR : RdAt (56, fun i => (decL s v5 g v7 v8 p17 p18)[i]?) w1 b 5 l v5.ownBlock) (ht : Touch (fun k => k = b) w w1) (hl : ∃ n, l = s.bits.drop n) :
    ∃ v5' g', DecM w1 b { s with bits := l } v5' g' v7 v8 p17 p18 ∧ v5'.ownBlock = v5.ownBlock := by
  obtain ⟨v5', g', hB, hrd, ho, hne⟩ := rd_back hR
  obtain ⟨n, hn⟩ := hl
  have hm := h.mlt
  obtain ⟨k1, k2, k3, k4, k5, k6, k7, k8, k9⟩ := h
  obtain ⟨a1, a2, a3, a4, a5, a6⟩ := k5
  refine ⟨v5', g', ⟨hB, hrd, k3.kept ht (fun k e e2 => a2 (by rw [e, e2])), k4.kept ht (fun k e e2 => a3 (by rw [e, e2])), ⟨hne, a2, a3, by rw [ho]; exact a4, by rw [ho]; exact a5, a6⟩, fun hf => ?_, k7, ?_, ?_⟩, ho⟩
  · obtain ⟨c1, c2⟩ := k6 hf
    exact ⟨c1.step ht (fun k e => .inl (.inl e)) (fun k e => .inl (mut_same ho e)), c2.step ht (fun k e => .inl (.inl e)) (fun k e => .inl (mut_same ho e))⟩
  · intro x hx
    rw [hn] at hx
    exact k8 x (List.mem_of_mem_drop hx)
  · refine ⟨?_, k9.2⟩
    show l.length < _
    rw [hn, List.length_drop]
    have := k9.1
    omega

set_option maxHeartbeats 2000000 in
theorem iblock_fixed {U : Nat → Prop} {w0 w : World} {b : Nat} {s : PS} (h : DecR U w0 w b s) {x0 : Nat} {l : List Nat} (hb : s.bits = x0 :: 1 :: 0 :: l) (hf : s.fixed = false) :
    Calls Tryd.prog 40 #[.pointer (some ⟨b, 0, none⟩)] w fun e w' => e = .returned (.int .i64 0) ∧ DecR U w0 w' b { s with bits := l, last := x0 == 1, fixed := true, st := 7 } := by
  obtain ⟨v5, g, v7, v8, p17, p18, hD, hown, hT⟩ := h
  have hx0 : x0 < 2 := hD.l2 x0 (by rw [hb]; exact List.mem_cons_self)
  have hlen : 3 ≤ s.bits.length := by rw [hb]; simp
  have hread := read_some b 5 3 s.bits _ w (rd_at hD.blk hD.rd hD.ap.1) (by have := hD.lb.1; omega) (by omega) hlen
  have hnum : numN (s.bits.take 3) = x0 + 2 := by
    rw [hb]
    rcases (show x0 = 0 ∨ x0 = 1 by omega) with rfl | rfl <;> rfl
  have hdrop : s.bits.drop 3 = l := by rw [hb]; rfl
  rw [hnum] at hread
  have HR := Lib.hid hread
  have HD := Lib.hid hD
  have HO := Lib.hid (⟨hown, hT⟩ : _ ∧ _)
  have HDR := Lib.hid hdrop
  have HF := Lib.hid hf
  have q0 : bits .and .u64 2 1 = 0 := by decide
  have q1 : bits .and .u64 3 1 = 1 := by decide
  have c0 : w.cell? ⟨b, 0, none⟩ = some (.int .i64 (s.st : Nat)) := Block.cell hD.blk 0
  clear hread hD hown hT hdrop hnum hlen hf hb
  rcases (show x0 = 0 ∨ x0 = 1 by omega) with rfl | rfl
  all_goals
    go_enter Tryd.func40, Tryd.ntmps40
    go_wp2_with fail
    refine HR.out.mono ?_
    rintro e w1 ⟨rfl, hR1, hT1⟩
    rw [HDR.out] at hR1
    obtain ⟨v5', g', hD1, ho⟩ := HD.out.read hR1 hT1 ⟨3, HDR.out.symm⟩
    have m10 : w1.cell? ⟨b, 10, none⟩ = some (.bool s.last) := Block.cell hD1.blk 10
    have g10 := Block.free hD1.blk 10
    have hD2 : ∀ z : Bool, DecM (w1.setCell ⟨b, 10, none⟩ (.bool z)) b { s with bits := l, last := z } v5' g' v7 v8 p17 p18 := fun z =>
      hD1.put ((Touch.refl (fun k => k = b) w1).setCell (p := ⟨b, 10, none⟩) (Or.inl rfl) _) (Block.set hD1.blk 10 _) rfl rfl rfl rfl ⟨hD1.lb.2.2.2.1, hD1.lb.2.2.2.2⟩
    have hR2 : ∀ z : Bool, DecR U w0 (w1.setCell ⟨b, 10, none⟩ (.bool z)) b { s with bits := l, last := z } := fun z =>
      DecR.step HO.out.1 HO.out.2 (hT1.setCell (p := ⟨b, 10, none⟩) (Or.inl rfl) _) (fun k e => .inl (.inl e)) (fun k e => .inl (mut_same ho e)) (hD2 z)
    have H2 := Lib.hid hR2
    clear hR1 hT1 hD1 hD2 hR2 ho
    go_wp2_with fail
  · refine (ifixed_calls (H2.out false) HF.out).mono ?_
    rintro e w3 ⟨rfl, v5a, ga, v7a, v8a, p17a, p18a, hDa, howna, hTa⟩
    have m0 : w3.cell? ⟨b, 0, none⟩ = some (.int .i64 (s.st : Nat)) := Block.cell hDa.blk 0
    have g0 := Block.free hDa.blk 0
    have HA := Lib.hid (⟨hDa, howna, hTa⟩ : _ ∧ _ ∧ _)
    clear hDa howna hTa
    go_wp2_with fail
    go_ret
    exact ⟨rfl, DecR.step HA.out.2.1 HA.out.2.2 ((Touch.refl (fun k => k = b) w3).setCell (p := ⟨b, 0, none⟩) (Or.inl rfl) _) (fun k e => .inl (.inl e)) (fun k e => .inl e) (HA.out.1.put (s' := { s with bits := l, last := false, fixed := true, st := 7 }) ((Touch.refl (fun k => k = b) w3).setCell (p := ⟨b, 0, none⟩) (Or.inl rfl) _) (Block.set HA.out.1.blk 0 _) rfl rfl rfl rfl ⟨HA.out.1.lb.2.2.2.1, HA.out.1.lb.2.2.2.2⟩)⟩
  · refine (ifixed_calls (H2.out true) HF.out).mono ?_
    rintro e w3 ⟨rfl, v5a, ga, v7a, v8a, p17a, p18a, hDa, howna, hTa⟩
    have m0 : w3.cell? ⟨b, 0, none⟩ = some (.int .i64 (s.st : Nat)) := Block.cell hDa.blk 0
    have g0 := Block.free hDa.blk 0
    have HA := Lib.hid (⟨hDa, howna, hTa⟩ : _ ∧ _ ∧ _)
    clear hDa howna hTa
    go_wp2_with fail
    go_ret
    exact ⟨rfl, DecR.step HA.out.2.1 HA.out.2.2 ((Touch.refl (fun k => k = b) w3).setCell (p := ⟨b, 0, none⟩) (Or.inl rfl) _) (fun k e => .inl (.inl e)) (fun k e => .inl e) (HA.out.1.put (s' := { s with bits := l, last := true, fixed := true, st := 7 }) ((Touch.refl (fun k => k = b) w3).setCell (p := ⟨b, 0, none⟩) (Or.inl rfl) _) (Block.set HA.out.1.blk 0 _) rfl rfl rfl rfl ⟨HA.out.1.lb.2.2.2.1, HA.out.1.lb.2.2.2.2⟩)⟩
end Go.Proofs.YtleenjeiladjcaaDoor


/- A decoder: readLength. -/
import Derived.Test.YtoaeffinjpkahaaDoorInfJ
namespace Go.Proofs.YtoaeffinjpkahaaDoor
set_option linter.unusedSimpArgs false
set_option linter.unusedVariables false
open Go Go.RowKit
set_option maxRecDepth 100000

set_option maxHeartbeats 2000000 in
theorem ilen_more {U : Nat → Prop} {w0 w : World} {b : Nat} {s : PS} (h : DecR U w0 w b s) (he : s.extra ≤ 32) (hl : s.bits.length < s.extra) : Calls Tryd.prog 97 #[.pointer (some ⟨b, 0, none⟩)] w fun e w' => e = .returned (.int .i64 2) ∧ DecR U w0 w' b s := by
  obtain ⟨v5, g, v7, v8, p17, p18, hD, hown, hT⟩ := h
  have HR := Lib.hid (read_less b 5 s.extra s.bits _ w.drew (rd_at (hD.still (Touch.refl _ _).drew).blk (hD.still (Touch.refl _ _).drew).rd hD.ap.1) (by omega) he hl)
  have c23 : w.cell? ⟨b, 23, none⟩ = some (.int .i64 (s.extra : Nat)) := Block.cell hD.blk 23
  have HD := Lib.hid (show DecR U w0 w b s from ⟨v5, g, v7, v8, p17, p18, hD, hown, hT⟩)
  clear hD hown hT hl he
  go_enter Tryd.func97, Tryd.ntmps97
  go_upto_region 1 with fail
  go_region_law (first
    | (go_simp; go_at_call 67; refine HR.out.mono ?_; rintro e w1 ⟨rfl, rfl⟩))
  go_wp2_with fail
  go_ret
  exact ⟨rfl, HD.out.still ((Touch.refl _ _).drew.drew)⟩

set_option maxHeartbeats 2000000 in
theorem ilen_ok {U : Nat → Prop} {w0 w : World} {b : Nat} {s : PS} (h : DecR U w0 w b s) (he : s.extra ≤ 16) (hz : s.size ≤ 65536) (hl : s.extra ≤ s.bits.length) (N : Nat) (hN : N = numN (s.bits.take s.extra)) (hN2 : N < 65536) : Calls Tryd.prog 97 #[.pointer (some ⟨b, 0, none⟩)] w fun e w' => e = .returned (.int .i64 0) ∧ DecR U w0 w' b { s with bits := s.bits.drop s.extra, size := s.size + N, st := 9 } := by
  obtain ⟨v5, g, v7, v8, p17, p18, hD, hown, hT⟩ := h
  have hread := read_some b 5 s.extra s.bits _ w.drew (rd_at (hD.still (Touch.refl _ _).drew).blk (hD.still (Touch.refl _ _).drew).rd hD.ap.1) (by have := hD.lb.1; omega) (by omega) hl
  rw [← hN] at hread
  have HR := Lib.hid hread
  have c23 : w.cell? ⟨b, 23, none⟩ = some (.int .i64 (s.extra : Nat)) := Block.cell hD.blk 23
  have HD := Lib.hid hD
  have HO := Lib.hid (⟨hown, hT⟩ : _ ∧ _)
  have hsum : (s.size : Int) + (N : Int) = ((s.size + N : Nat) : Int) := by omega
  clear hread hD hown hT hl hN
  go_enter Tryd.func97, Tryd.ntmps97
  go_upto_region 1 with fail
  go_region_law (first
    | (go_simp; go_at_call 67; refine HR.out.mono ?_; rintro e w1 ⟨rfl, hR1, hT1⟩; have HD1 := Lib.hid (⟨hR1, (Touch.refl (fun k => k = b) w).drew.trans hT1⟩ : _ ∧ _); clear hR1 hT1))
  go_upto_region 4 with fail
  obtain ⟨v5', g', hD1, ho⟩ := HD.out.read HD1.out.1 HD1.out.2 ⟨s.extra, rfl⟩
  have m21 : w1.cell? ⟨b, 21, none⟩ = some (.int .i64 (s.size : Nat)) := Block.cell hD1.blk 21
  have g21 := Block.free hD1.blk 21
  have hB2 := Block.set hD1.blk 21 (.int .i64 ((s.size + N : Nat) : Int))
  have m0 : (w1.setCell ⟨b, 21, none⟩ (.int .i64 ((s.size : Int) + (N : Int)))).cell? ⟨b, 0, none⟩ = some (.int .i64 (s.st : Nat)) := by rw [hsum]; exact Block.cell hB2 0
  have g0 : (w1.setCell ⟨b, 21, none⟩ (.int .i64 ((s.size : Int) + (N : Int)))).frozen? ⟨b, 0, none⟩ = false := by rw [hsum]; exact Block.free hB2 0
  have HSUM := Lib.hid hsum
  have HD2 := Lib.hid (⟨hD1, ho, hB2⟩ : _ ∧ _ ∧ _)
  clear hD1 ho hB2 hsum
  go_wp2_with fail

  go_ret
  rw [HSUM.out]
  have hT2 : Touch (fun k => k = b) w1 ((w1.setCell ⟨b, 21, none⟩ (.int .i64 ((s.size + N : Nat) : Int))).setCell ⟨b, 0, none⟩ (.int .i64 9)) := ((Touch.refl (fun k => k = b) w1).setCell (p := ⟨b, 21, none⟩) (Or.inl rfl) _).setCell (p := ⟨b, 0, none⟩) (Or.inl rfl) _
  exact ⟨rfl, DecR.step HO.out.1 HO.out.2 (HD1.out.2.trans hT2) (fun k e => .inl (.inl e)) (fun k e => .inl (mut_same HD2.out.2.1 e))
    (HD2.out.1.put (s' := { s with bits := s.bits.drop s.extra, size := s.size + N, st := 9 }) hT2 (Block.set HD2.out.2.2 0 _) rfl rfl rfl ⟨rfl, rfl, rfl, rfl, rfl⟩ ⟨HD2.out.1.lb.2.2.2.1, HD2.out.1.lb.2.2.2.2⟩)⟩
end Go.Proofs.YtoaeffinjpkahaaDoor

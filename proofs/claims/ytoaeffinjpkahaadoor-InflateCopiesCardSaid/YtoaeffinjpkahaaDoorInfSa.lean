
/- A decoder: readBlock of a stored block, readSizes. -/
import Derived.Test.YtoaeffinjpkahaaDoorInfM
namespace Go.Proofs.YtoaeffinjpkahaaDoor
set_option linter.unusedSimpArgs false
set_option linter.unusedVariables false
open Go Go.RowKit
set_option maxRecDepth 100000

theorem DecR.set0 {U : Nat → Prop} {w0 w : World} {b : Nat} {s : PS} (h : DecR U w0 w b s) (n : Nat) : DecR U w0 (w.setCell ⟨b, 0, none⟩ (.int .i64 (n : Nat))) b { s with st := n } := by
  obtain ⟨v5, g, v7, v8, p17, p18, hD, hown, hT⟩ := h
  have ht : Touch (fun k => k = b) w (w.setCell ⟨b, 0, none⟩ (.int .i64 (n : Nat))) := (Touch.refl (fun k => k = b) w).setCell (p := ⟨b, 0, none⟩) (Or.inl rfl) _
  exact DecR.step hown hT ht (fun k e => .inl (.inl e)) (fun k e => .inl e) (hD.put ht (Block.set hD.blk 0 _) rfl rfl rfl ⟨rfl, rfl, rfl, rfl, rfl⟩ ⟨hD.lb.2.2.2.1, hD.lb.2.2.2.2⟩)
theorem DecR.set10 {U : Nat → Prop} {w0 w : World} {b : Nat} {s : PS} (h : DecR U w0 w b s) (z : Bool) : DecR U w0 (w.setCell ⟨b, 10, none⟩ (.bool z)) b { s with last := z } := by
  obtain ⟨v5, g, v7, v8, p17, p18, hD, hown, hT⟩ := h
  have ht : Touch (fun k => k = b) w (w.setCell ⟨b, 10, none⟩ (.bool z)) := (Touch.refl (fun k => k = b) w).setCell (p := ⟨b, 10, none⟩) (Or.inl rfl) _
  exact DecR.step hown hT ht (fun k e => .inl (.inl e)) (fun k e => .inl e) (hD.put ht (Block.set hD.blk 10 _) rfl rfl rfl ⟨rfl, rfl, rfl, rfl, rfl⟩ ⟨hD.lb.2.2.2.1, hD.lb.2.2.2.2⟩)
theorem DecR.set11 {U : Nat → Prop} {w0 w : World} {b : Nat} {s : PS} (h : DecR U w0 w b s) (n : Nat) : DecR U w0 (w.setCell ⟨b, 11, none⟩ (.int .i64 (n : Nat))) b { s with left := n } := by
  obtain ⟨v5, g, v7, v8, p17, p18, hD, hown, hT⟩ := h
  have ht : Touch (fun k => k = b) w (w.setCell ⟨b, 11, none⟩ (.int .i64 (n : Nat))) := (Touch.refl (fun k => k = b) w).setCell (p := ⟨b, 11, none⟩) (Or.inl rfl) _
  exact DecR.step hown hT ht (fun k e => .inl (.inl e)) (fun k e => .inl e) (hD.put ht (Block.set hD.blk 11 _) rfl rfl rfl ⟨rfl, rfl, rfl, rfl, rfl⟩ ⟨hD.lb.2.2.2.1, hD.lb.2.2.2.2⟩)
theorem DecR.free {U : Nat → Prop} {w0 w : World} {b : Nat} {s : PS} (h : DecR U w0 w b s) (j : Nat) : w.frozen? ⟨b, j, none⟩ = false := by
  obtain ⟨v5, g, v7, v8, p17, p18, hD, hown, hT⟩ := h
  exact Block.free hD.blk j
theorem DecR.cell10 {U : Nat → Prop} {w0 w : World} {b : Nat} {s : PS} (h : DecR U w0 w b s) : w.cell? ⟨b, 10, none⟩ = some (.bool s.last) := by
  obtain ⟨v5, g, v7, v8, p17, p18, hD, _⟩ := h
  exact Block.cell hD.blk 10
theorem DecR.cell11 {U : Nat → Prop} {w0 w : World} {b : Nat} {s : PS} (h : DecR U w0 w b s) : w.cell? ⟨b, 11, none⟩ = some (.int .i64 (s.left : Nat)) := by
  obtain ⟨v5, g, v7, v8, p17, p18, hD, _⟩ := h
  exact Block.cell hD.blk 11
theorem DecR.bits_lt {U : Nat → Prop} {w0 w : World} {b : Nat} {s : PS} (h : DecR U w0 w b s) : s.bits.length < 1000000000 ∧ ∀ x ∈ s.bits, x < 2 := by
  obtain ⟨v5, g, v7, v8, p17, p18, hD, _⟩ := h
  exact ⟨hD.lb.1, hD.l2⟩
theorem iread_calls {U : Nat → Prop} {w0 w : World} {b : Nat} {s : PS} (h : DecR U w0 w b s) (n : Nat) (hn : n ≤ 32) (hl : n ≤ s.bits.length) :
    Calls Tryd.prog 67 #[.pointer (some ⟨b, 5, none⟩), .int .i64 (n : Nat)] w fun e w' => e = .returned (.tuple #[.int .u64 (numN (s.bits.take n) : Nat), .bool true]) ∧ DecR U w0 w' b { s with bits := s.bits.drop n } := by
  obtain ⟨v5, g, v7, v8, p17, p18, hD, hown, hT⟩ := h
  refine (read_some b 5 n s.bits _ w (rd_at hD.blk hD.rd hD.ap.1) (by have := hD.lb.1; omega) hn hl).mono ?_
  rintro e w1 ⟨he, hR1, hT1⟩
  obtain ⟨v5', g', hD1, ho⟩ := hD.read hR1 hT1 ⟨_, rfl⟩
  exact ⟨he, DecR.step hown hT hT1 (fun k e => .inl (.inl e)) (fun k e => .inl (mut_same ho e)) hD1⟩
theorem iread_less {U : Nat → Prop} {w0 w : World} {b : Nat} {s : PS} (h : DecR U w0 w b s) (n : Nat) (hn : n ≤ 32) (hl : s.bits.length < n) :
    Calls Tryd.prog 67 #[.pointer (some ⟨b, 5, none⟩), .int .i64 (n : Nat)] w fun e w' => e = .returned (.tuple #[.int .u64 0, .bool false]) ∧ w' = w.drew := by
  obtain ⟨v5, g, v7, v8, p17, p18, hD, hown, hT⟩ := h
  exact read_less b 5 n s.bits _ w (rd_at hD.blk hD.rd hD.ap.1) (by have := hD.lb.1; omega) hn hl
theorem ialign_calls {U : Nat → Prop} {w0 w : World} {b : Nat} {s : PS} (h : DecR U w0 w b s) :
    Calls Tryd.prog 100 #[.pointer (some ⟨b, 5, none⟩)] w fun e w' => e = .returned (.tuple #[]) ∧ DecR U w0 w' b { s with bits := s.bits.drop (s.bits.length % 8) } := by
  obtain ⟨v5, g, v7, v8, p17, p18, hD, hown, hT⟩ := h
  refine (ralign_calls b 5 s.bits _ w (rd_at hD.blk hD.rd hD.ap.1) (by have := hD.lb.1; omega)).mono ?_
  rintro e w1 ⟨he, hR1, hT1⟩
  obtain ⟨v5', g', hD1, ho⟩ := hD.read hR1 hT1 ⟨_, rfl⟩
  exact ⟨he, DecR.step hown hT hT1 (fun k e => .inl (.inl e)) (fun k e => .inl (mut_same ho e)) hD1⟩

set_option maxHeartbeats 2000000 in
theorem iblock_stored {U : Nat → Prop} {w0 w : World} {b : Nat} {s : PS} (h : DecR U w0 w b s) {x0 : Nat} {l : List Nat} (hb : s.bits = x0 :: 0 :: 0 :: l) :
    Calls Tryd.prog 89 #[.pointer (some ⟨b, 0, none⟩)] w fun e w' => e = .returned (.int .i64 0) ∧ DecR U w0 w' b { s with bits := l.drop (l.length % 8), last := x0 == 1, st := 1 } := by
  have hx0 : x0 < 2 := h.bits_lt.2 x0 (by rw [hb]; exact List.mem_cons_self)
  have hread := iread_calls h 3 (by decide) (by rw [hb]; simp)
  have hnum : numN (s.bits.take 3) = x0 := by
    rw [hb]
    rcases (show x0 = 0 ∨ x0 = 1 by omega) with rfl | rfl <;> rfl
  have hdrop : s.bits.drop 3 = l := by rw [hb]; rfl
  rw [hnum, hdrop] at hread
  have HR := Lib.hid hread
  have q0 : bits .and .u64 0 1 = 0 := by decide
  have q1 : bits .and .u64 1 1 = 1 := by decide
  clear hread hnum hdrop hb h
  rcases (show x0 = 0 ∨ x0 = 1 by omega) with rfl | rfl
  all_goals
    go_enter Tryd.func89, Tryd.ntmps89
    go_wp2_with fail
    refine HR.out.mono ?_
    rintro e w1 ⟨rfl, hR1⟩
    have m10 := hR1.cell10
    have g10 := hR1.free 10
    have H1 := Lib.hid hR1
    clear hR1 HR
    go_wp2_with fail
  · refine (ialign_calls (H1.out.set10 false)).mono ?_
    rintro e w2 ⟨rfl, hR2⟩
    have m0 := hR2.cell0
    have g0 := hR2.free 0
    have H2 := Lib.hid (hR2.set0 1)
    clear hR2
    go_wp2_with fail
    go_ret
    exact ⟨rfl, H2.out⟩
  · refine (ialign_calls (H1.out.set10 true)).mono ?_
    rintro e w2 ⟨rfl, hR2⟩
    have m0 := hR2.cell0
    have g0 := hR2.free 0
    have H2 := Lib.hid (hR2.set0 1)
    clear hR2
    go_wp2_with fail
    go_ret
    exact ⟨rfl, H2.out⟩

theorem isizes_more {U : Nat → Prop} {w0 w : World} {b : Nat} {s : PS} (h : DecR U w0 w b s) (hl : s.bits.length < 32) : Calls Tryd.prog 90 #[.pointer (some ⟨b, 0, none⟩)] w fun e w' => e = .returned (.int .i64 2) ∧ DecR U w0 w' b s := by
  have HR := Lib.hid (iread_less h 32 (by decide) hl)
  have HD := Lib.hid h
  have c0 := h.cell0
  clear h hl
  go_enter Tryd.func90, Tryd.ntmps90
  go_wp2_with fail
  refine HR.out.mono ?_
  rintro e w' ⟨rfl, rfl⟩
  go_wp2_with fail
  go_ret
  exact ⟨rfl, HD.out.still (Touch.refl _ _).drew⟩
theorem u64_and16 (n : Nat) (h : n < 4294967296) : bits .and .u64 (n : Int) 65535 = ((n % 65536 : Nat) : Int) := by
  have := u64_and_nat n 65535 (by omega) (by decide)
  rw [show ((65535 : Nat) : Int) = 65535 from rfl] at this
  rw [this, show (65535 : Nat) = 2 ^ 16 - 1 from rfl, Nat.and_two_pow_sub_one_eq_mod]
set_option maxHeartbeats 1000000 in
theorem isizes_ok {U : Nat → Prop} {w0 w : World} {b : Nat} {s : PS} (h : DecR U w0 w b s) (n : Nat) (hn : n < 65536) (hl : 32 ≤ s.bits.length) (hN : numN (s.bits.take 32) = n + 65536 * (65535 - n)) :
    Calls Tryd.prog 90 #[.pointer (some ⟨b, 0, none⟩)] w fun e w' => e = .returned (.int .i64 0) ∧ DecR U w0 w' b { s with bits := s.bits.drop 32, left := n, st := 2 } := by
  have hread := iread_calls h 32 (by decide) hl
  obtain ⟨N, hN2⟩ : ∃ N, N = n + 65536 * (65535 - n) := ⟨_, rfl⟩
  rw [hN, ← hN2] at hread
  have HR := Lib.hid hread
  have hand : bits .and .u64 (N : Int) 65535 = (n : Int) := by rw [u64_and16 N (by omega)]; congr 1; omega
  have hshr : (N : Int) / 65536 = ((65535 - n : Nat) : Int) := by omega
  have hsum : (n : Int) + ((65535 - n : Nat) : Int) = 65535 := by omega
  have hNz : (0 : Int) ≤ (N : Int) := by omega
  clear hread hN hl h hN2
  go_enter Tryd.func90, Tryd.ntmps90
  go_wp2_with fail
  refine HR.out.mono ?_
  rintro e w1 ⟨rfl, hR1⟩
  have m11 := hR1.cell11
  have g11 := hR1.free 11
  have hR2 := hR1.set11 n
  have m0 := hR2.cell0
  have g0 := hR2.free 0
  have H3 := Lib.hid (hR2.set0 2)
  clear hR1 hR2 HR
  go_wp2_with fail
  go_ret
  exact ⟨rfl, H3.out⟩
end Go.Proofs.YtoaeffinjpkahaaDoor

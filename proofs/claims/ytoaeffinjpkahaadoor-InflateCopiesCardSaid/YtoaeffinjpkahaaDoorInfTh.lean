/- A decoder: readBlock of a dynamic block and of none, readCounts. -/
import Derived.Test.YtoaeffinjpkahaaDoorInfSa
namespace Go.Proofs.YtoaeffinjpkahaaDoor
set_option linter.unusedSimpArgs false
set_option linter.unusedVariables false
open Go Go.RowKit
set_option maxRecDepth 100000

theorem DecR.set12 {U : Nat → Prop} {w0 w : World} {b : Nat} {s : PS} (h : DecR U w0 w b s) (n : Nat) : DecR U w0 (w.setCell ⟨b, 12, none⟩ (.int .i64 (n : Nat))) b { s with lits := n } := by
  obtain ⟨v5, g, v7, v8, p17, p18, hD, hown, hT⟩ := h
  have ht : Touch (fun k => k = b) w (w.setCell ⟨b, 12, none⟩ (.int .i64 (n : Nat))) := (Touch.refl (fun k => k = b) w).setCell (p := ⟨b, 12, none⟩) (Or.inl rfl) _
  exact DecR.step hown hT ht (fun k e => .inl (.inl e)) (fun k e => .inl e) (hD.put ht (Block.set hD.blk 12 _) rfl rfl rfl ⟨rfl, rfl, rfl, rfl, rfl⟩ ⟨hD.lb.2.2.2.1, hD.lb.2.2.2.2⟩)
theorem DecR.cell12 {U : Nat → Prop} {w0 w : World} {b : Nat} {s : PS} (h : DecR U w0 w b s) : w.cell? ⟨b, 12, none⟩ = some (.int .i64 (s.lits : Nat)) := by
  obtain ⟨v5, g, v7, v8, p17, p18, hD, _⟩ := h
  exact Block.cell hD.blk 12
theorem DecR.set13 {U : Nat → Prop} {w0 w : World} {b : Nat} {s : PS} (h : DecR U w0 w b s) (n : Nat) : DecR U w0 (w.setCell ⟨b, 13, none⟩ (.int .i64 (n : Nat))) b { s with both := n } := by
  obtain ⟨v5, g, v7, v8, p17, p18, hD, hown, hT⟩ := h
  have ht : Touch (fun k => k = b) w (w.setCell ⟨b, 13, none⟩ (.int .i64 (n : Nat))) := (Touch.refl (fun k => k = b) w).setCell (p := ⟨b, 13, none⟩) (Or.inl rfl) _
  exact DecR.step hown hT ht (fun k e => .inl (.inl e)) (fun k e => .inl e) (hD.put ht (Block.set hD.blk 13 _) rfl rfl rfl ⟨rfl, rfl, rfl, rfl, rfl⟩ ⟨hD.lb.2.2.2.1, hD.lb.2.2.2.2⟩)
theorem DecR.cell13 {U : Nat → Prop} {w0 w : World} {b : Nat} {s : PS} (h : DecR U w0 w b s) : w.cell? ⟨b, 13, none⟩ = some (.int .i64 (s.both : Nat)) := by
  obtain ⟨v5, g, v7, v8, p17, p18, hD, _⟩ := h
  exact Block.cell hD.blk 13
theorem DecR.set14 {U : Nat → Prop} {w0 w : World} {b : Nat} {s : PS} (h : DecR U w0 w b s) (n : Nat) : DecR U w0 (w.setCell ⟨b, 14, none⟩ (.int .i64 (n : Nat))) b { s with trip := n } := by
  obtain ⟨v5, g, v7, v8, p17, p18, hD, hown, hT⟩ := h
  have ht : Touch (fun k => k = b) w (w.setCell ⟨b, 14, none⟩ (.int .i64 (n : Nat))) := (Touch.refl (fun k => k = b) w).setCell (p := ⟨b, 14, none⟩) (Or.inl rfl) _
  exact DecR.step hown hT ht (fun k e => .inl (.inl e)) (fun k e => .inl e) (hD.put ht (Block.set hD.blk 14 _) rfl rfl rfl ⟨rfl, rfl, rfl, rfl, rfl⟩ ⟨hD.lb.2.2.2.1, hD.lb.2.2.2.2⟩)
theorem DecR.cell14 {U : Nat → Prop} {w0 w : World} {b : Nat} {s : PS} (h : DecR U w0 w b s) : w.cell? ⟨b, 14, none⟩ = some (.int .i64 (s.trip : Nat)) := by
  obtain ⟨v5, g, v7, v8, p17, p18, hD, _⟩ := h
  exact Block.cell hD.blk 14
theorem DecR.set20 {U : Nat → Prop} {w0 w : World} {b : Nat} {s : PS} (h : DecR U w0 w b s) (n : Nat) : DecR U w0 (w.setCell ⟨b, 20, none⟩ (.int .i64 (n : Nat))) b { s with sym := n } := by
  obtain ⟨v5, g, v7, v8, p17, p18, hD, hown, hT⟩ := h
  have ht : Touch (fun k => k = b) w (w.setCell ⟨b, 20, none⟩ (.int .i64 (n : Nat))) := (Touch.refl (fun k => k = b) w).setCell (p := ⟨b, 20, none⟩) (Or.inl rfl) _
  exact DecR.step hown hT ht (fun k e => .inl (.inl e)) (fun k e => .inl e) (hD.put ht (Block.set hD.blk 20 _) rfl rfl rfl ⟨rfl, rfl, rfl, rfl, rfl⟩ ⟨hD.lb.2.2.2.1, hD.lb.2.2.2.2⟩)
theorem DecR.cell20 {U : Nat → Prop} {w0 w : World} {b : Nat} {s : PS} (h : DecR U w0 w b s) : w.cell? ⟨b, 20, none⟩ = some (.int .i64 (s.sym : Nat)) := by
  obtain ⟨v5, g, v7, v8, p17, p18, hD, _⟩ := h
  exact Block.cell hD.blk 20

set_option maxHeartbeats 2000000 in
theorem iblock_dyn {U : Nat → Prop} {w0 w : World} {b : Nat} {s : PS} (h : DecR U w0 w b s) {x0 : Nat} {l : List Nat} (hb : s.bits = x0 :: 0 :: 1 :: l) :
    Calls Tryd.prog 89 #[.pointer (some ⟨b, 0, none⟩)] w fun e w' => e = .returned (.int .i64 0) ∧ DecR U w0 w' b { s with bits := l, last := x0 == 1, st := 3 } := by
  have hx0 : x0 < 2 := h.bits_lt.2 x0 (by rw [hb]; exact List.mem_cons_self)
  have hread := iread_calls h 3 (by decide) (by rw [hb]; simp)
  have hnum : numN (s.bits.take 3) = x0 + 4 := by
    rw [hb]
    rcases (show x0 = 0 ∨ x0 = 1 by omega) with rfl | rfl <;> rfl
  have hdrop : s.bits.drop 3 = l := by rw [hb]; rfl
  rw [hnum, hdrop] at hread
  have HR := Lib.hid hread
  have q0 : bits .and .u64 4 1 = 0 := by decide
  have q1 : bits .and .u64 5 1 = 1 := by decide
  clear hread hnum hdrop hb h
  rcases (show x0 = 0 ∨ x0 = 1 by omega) with rfl | rfl
  all_goals
    go_enter Tryd.func89, Tryd.ntmps89
    go_wp2_with fail
    refine HR.out.mono ?_
    rintro e w1 ⟨rfl, hR1⟩
    have m10 := hR1.cell10
    have g10 := hR1.free 10
    have m0 := hR1.cell0
    have g0 := hR1.free 0
    have H1 := Lib.hid hR1
    clear hR1 HR
    go_wp2_with fail
    go_ret
  · exact ⟨rfl, (H1.out.set10 false).set0 3⟩
  · exact ⟨rfl, (H1.out.set10 true).set0 3⟩

set_option maxHeartbeats 2000000 in
theorem iblock_none {U : Nat → Prop} {w0 w : World} {b : Nat} {s : PS} (h : DecR U w0 w b s) {x0 : Nat} {l : List Nat} (hb : s.bits = x0 :: 1 :: 1 :: l) :
    Calls Tryd.prog 89 #[.pointer (some ⟨b, 0, none⟩)] w fun e w' => e = .returned (.int .i64 3) ∧ DecR U w0 w' b { s with bits := l, last := x0 == 1 } := by
  have hx0 : x0 < 2 := h.bits_lt.2 x0 (by rw [hb]; exact List.mem_cons_self)
  have hread := iread_calls h 3 (by decide) (by rw [hb]; simp)
  have hnum : numN (s.bits.take 3) = x0 + 6 := by
    rw [hb]
    rcases (show x0 = 0 ∨ x0 = 1 by omega) with rfl | rfl <;> rfl
  have hdrop : s.bits.drop 3 = l := by rw [hb]; rfl
  rw [hnum, hdrop] at hread
  have HR := Lib.hid hread
  have q0 : bits .and .u64 6 1 = 0 := by decide
  have q1 : bits .and .u64 7 1 = 1 := by decide
  clear hread hnum hdrop hb h
  rcases (show x0 = 0 ∨ x0 = 1 by omega) with rfl | rfl
  all_goals
    go_enter Tryd.func89, Tryd.ntmps89
    go_wp2_with fail
    refine HR.out.mono ?_
    rintro e w1 ⟨rfl, hR1⟩
    have m10 := hR1.cell10
    have g10 := hR1.free 10
    have m0 := hR1.cell0
    have g0 := hR1.free 0
    have H1 := Lib.hid hR1
    clear hR1 HR
    go_wp2_with fail
    go_ret
  · exact ⟨rfl, H1.out.set10 false⟩
  · exact ⟨rfl, H1.out.set10 true⟩

theorem icounts_more {U : Nat → Prop} {w0 w : World} {b : Nat} {s : PS} (h : DecR U w0 w b s) (hl : s.bits.length < 14) : Calls Tryd.prog 92 #[.pointer (some ⟨b, 0, none⟩)] w fun e w' => e = .returned (.int .i64 2) ∧ DecR U w0 w' b s := by
  have HR := Lib.hid (iread_less h 14 (by decide) hl)
  have HD := Lib.hid h
  have c0 := h.cell0
  clear h hl
  go_enter Tryd.func92, Tryd.ntmps92
  go_wp2_with fail
  refine HR.out.mono ?_
  rintro e w' ⟨rfl, rfl⟩
  go_wp2_with fail
  go_ret
  exact ⟨rfl, HD.out.still (Touch.refl _ _).drew⟩
theorem u64_and5 (n : Nat) (h : n < 4294967296) : bits .and .u64 (n : Int) 31 = ((n % 32 : Nat) : Int) := by
  have := u64_and_nat n 31 (by omega) (by decide)
  rw [show ((31 : Nat) : Int) = 31 from rfl] at this
  rw [this, show (31 : Nat) = 2 ^ 5 - 1 from rfl, Nat.and_two_pow_sub_one_eq_mod]
/-- The three numbers of fourteen bits. -/
def cntW (N : Nat) : Nat := N % 32 + 257
def cntD (N : Nat) : Nat := N / 32 % 32 + 1
def cntT (N : Nat) : Nat := N / 1024 + 4

set_option maxHeartbeats 2000000 in
theorem icounts_ok {U : Nat → Prop} {w0 w : World} {b : Nat} {s : PS} (h : DecR U w0 w b s) (N : Nat) (hl : 14 ≤ s.bits.length) (hN : numN (s.bits.take 14) = N) (hNb : N < 16384) (hW : cntW N ≤ 286) (hD : cntD N ≤ 30) :
    Calls Tryd.prog 92 #[.pointer (some ⟨b, 0, none⟩)] w fun e w' => e = .returned (.int .i64 0) ∧ DecR U w0 w' b { s with bits := s.bits.drop 14, lits := cntW N, both := cntW N + cntD N, trip := cntT N, st := 4 } := by
  have hread := iread_calls h 14 (by decide) hl
  rw [hN] at hread
  have HR := Lib.hid hread
  obtain ⟨a, ha⟩ : ∃ a, a = N % 32 := ⟨_, rfl⟩
  obtain ⟨d, hd⟩ : ∃ d, d = N / 32 % 32 := ⟨_, rfl⟩
  obtain ⟨t, htr⟩ : ∃ t, t = N / 1024 := ⟨_, rfl⟩
  have hand : bits .and .u64 (N : Int) 31 = (a : Int) := by rw [u64_and5 N (by omega), ha]
  have hshr : (N : Int) / 32 = ((N / 32 : Nat) : Int) := by omega
  have hand2 : bits .and .u64 ((N / 32 : Nat) : Int) 31 = (d : Int) := by rw [u64_and5 (N / 32) (by omega), hd]
  obtain ⟨N5, hN5⟩ : ∃ N5, N5 = N / 32 := ⟨_, rfl⟩
  rw [← hN5] at hshr hand2
  have hshr2 : (N : Int) / 1024 = (t : Int) := by omega
  have hNz : (0 : Int) ≤ (N : Int) := by omega
  have e1 : cntW N = a + 257 := by unfold cntW; omega
  have e2 : cntD N = d + 1 := by unfold cntD; omega
  have e3 : cntT N = t + 4 := by unfold cntT; omega
  rw [e1] at hW ⊢
  rw [e2] at hD ⊢
  rw [e3]
  have hw1 : ¬ (286 : Int) < (a : Int) + 257 := by omega
  have hd1 : ¬ (30 : Int) < (d : Int) + 1 := by omega
  clear hread hN hl h e1 e2 e3 ha hd htr hN5
  go_enter Tryd.func92, Tryd.ntmps92
  go_wp2_with fail
  refine HR.out.mono ?_
  rintro e w1 ⟨rfl, hR1⟩
  have m12 := hR1.cell12
  have g12 := hR1.free 12
  have m13 := hR1.cell13
  have g13 := hR1.free 13
  have m14 := hR1.cell14
  have g14 := hR1.free 14
  have m0 := hR1.cell0
  have g0 := hR1.free 0
  have H3 := Lib.hid ((((hR1.set12 (a + 257)).set13 (a + 257 + (d + 1))).set14 (t + 4)).set0 4)
  clear hR1 HR
  go_wp2_with fail
  go_ret
  refine ⟨rfl, ?_⟩
  have h4 := H3.out
  simp only [Int.natCast_add] at h4
  exact h4
end Go.Proofs.YtoaeffinjpkahaaDoor
/- A decoder: readCounts of numbers that may not be, readTriples. -/
namespace Go.Proofs.YtoaeffinjpkahaaDoor
set_option linter.unusedSimpArgs false
set_option linter.unusedVariables false
open Go Go.RowKit
set_option maxRecDepth 100000

set_option maxHeartbeats 2000000 in
theorem icounts_bad {U : Nat → Prop} {w0 w : World} {b : Nat} {s : PS} (h : DecR U w0 w b s) (N : Nat) (hl : 14 ≤ s.bits.length) (hN : numN (s.bits.take 14) = N) (hNb : N < 16384) (hWD : 286 < cntW N ∨ 30 < cntD N) :
    Calls Tryd.prog 92 #[.pointer (some ⟨b, 0, none⟩)] w fun e w' => e = .returned (.int .i64 20) ∧ DecR U w0 w' b { s with bits := s.bits.drop 14 } := by
  have hread := iread_calls h 14 (by decide) hl
  rw [hN] at hread
  have HR := Lib.hid hread
  obtain ⟨a, ha⟩ : ∃ a, a = N % 32 := ⟨_, rfl⟩
  obtain ⟨d, hd⟩ : ∃ d, d = N / 32 % 32 := ⟨_, rfl⟩
  obtain ⟨t, htr⟩ : ∃ t, t = N / 1024 := ⟨_, rfl⟩
  have hand : bits .and .u64 (N : Int) 31 = (a : Int) := by rw [u64_and5 N (by omega), ha]
  have hshr : (N : Int) / 32 = ((N / 32 : Nat) : Int) := by omega
  have hand2 : bits .and .u64 ((N / 32 : Nat) : Int) 31 = (d : Int) := by rw [u64_and5 (N / 32) (by omega), hd]
  obtain ⟨N5, hN5⟩ : ∃ N5, N5 = N / 32 := ⟨_, rfl⟩
  rw [← hN5] at hshr hand2
  have hshr2 : (N : Int) / 1024 = (t : Int) := by omega
  have hNz : (0 : Int) ≤ (N : Int) := by omega
  have ha32 : a < 32 := by omega
  have hd32 : d < 32 := by omega
  have e1 : cntW N = a + 257 := by unfold cntW; omega
  have e2 : cntD N = d + 1 := by unfold cntD; omega
  have e3 : cntT N = t + 4 := by unfold cntT; omega
  rw [e1, e2] at hWD
  clear hread hN hl h e1 e2 e3 ha hd htr hN5
  by_cases hw : 286 < a + 257
  · have hw1 : (286 : Int) < (a : Int) + 257 := by omega
    clear hWD
    go_enter Tryd.func92, Tryd.ntmps92
    go_wp2_with fail
    refine HR.out.mono ?_
    rintro e w1 ⟨rfl, hR1⟩
    have H3 := Lib.hid hR1
    clear hR1 HR
    go_wp2_with fail
    go_ret
    exact ⟨rfl, H3.out⟩
  · have hw1 : ¬ (286 : Int) < (a : Int) + 257 := by omega
    have hd1 : (30 : Int) < (d : Int) + 1 := by omega
    clear hWD hw
    go_enter Tryd.func92, Tryd.ntmps92
    go_wp2_with fail
    refine HR.out.mono ?_
    rintro e w1 ⟨rfl, hR1⟩
    have H3 := Lib.hid hR1
    clear hR1 HR
    go_wp2_with fail
    go_ret
    exact ⟨rfl, H3.out⟩

/-- The tables of the package. -/
def ordL : List Nat := [16, 17, 18, 0, 8, 7, 9, 6, 10, 5, 11, 4, 12, 3, 13, 2, 14, 1, 15]
def repL : List Nat := [3, 2, 3, 3, 11, 7]
structure TabsI (w : World) : Prop where
  ord : ∀ (i x : Nat), ordL[i]? = some x → w.cell? ⟨1, i, none⟩ = some (.int .i64 (x : Nat))
  rep : ∀ (i x : Nat), repL[i]? = some x → w.cell? ⟨2, i, none⟩ = some (.int .i64 (x : Nat))
theorem TabsI.kept {S : Nat → Prop} {w w' : World} (h : TabsI w) (ht : Touch S w w') (h1 : ¬ S 1) (h2 : ¬ S 2) : TabsI w' :=
  ⟨fun i x hx => ht.cell (h.ord i x hx) h1, fun i x hx => ht.cell (h.rep i x hx) h2⟩
theorem DecR.tabs {U : Nat → Prop} {w0 w : World} {b : Nat} {s : PS} (h : DecR U w0 w b s) (h0 : TabsI w0) (h1 : ¬ U 1) (h2 : ¬ U 2) : TabsI w := by
  obtain ⟨_, _, _, _, _, _, _, _, hT⟩ := h
  exact h0.kept hT h1 h2
theorem DecR.left {U : Nat → Prop} {w0 w : World} {b : Nat} {s : PS} (h : DecR U w0 w b s) :
    Calls Tryd.prog 65 #[.pointer (some ⟨b, 5, none⟩)] w fun e w' => e = .returned (.int .i64 (s.bits.length : Nat)) ∧ w' = w.drew := by
  obtain ⟨v5, g, v7, v8, p17, p18, hD, hown, hT⟩ := h
  exact left_calls b 5 s.bits _ w (rd_at hD.blk hD.rd hD.ap.1) (by have := hD.lb.1; omega)

set_option maxHeartbeats 1000000 in
theorem itriples_more {U : Nat → Prop} {w0 w : World} {b : Nat} {s : PS} (h : DecR U w0 w b s) (hl : s.bits.length < 3 * s.trip) (ht : s.trip ≤ 19) : Calls Tryd.prog 93 #[.pointer (some ⟨b, 0, none⟩)] w fun e w' => e = .returned (.int .i64 2) ∧ DecR U w0 w' b s := by
  have HL : RowKit.Hid (∀ q, Calls Tryd.prog 65 #[.pointer (some ⟨b, 5, none⟩)] (w.drewN q) fun e w' => e = .returned (.int .i64 (s.bits.length : Nat)) ∧ ∃ m, w' = (w.drewN q).drewN m) := Lib.hid (fun q => (h.still ((Touch.refl (fun _ => False) w).drewN q)).left.mono (fun e w' hh => ⟨hh.1, 1, hh.2⟩))
  have HD := Lib.hid h
  have c14 := h.cell14
  have hc : (s.bits.length : Int) < 3 * (s.trip : Int) := by omega
  generalize s.bits.length = n at *
  generalize s.trip = t at *
  clear h hl
  go_enter Tryd.func93, Tryd.ntmps93
  go_upto_region 1 with fail
  go_quiet (first | (go_at_call 65; with_reducible exact Calls.quiet_of (HL.out _)))
  go_wp2_with fail
  go_ret
  exact ⟨rfl, HD.out.still ((Touch.refl _ _).drewN _)⟩
end Go.Proofs.YtoaeffinjpkahaaDoor
/- A decoder: readTriples, where all its bits are there. -/
namespace Go.Proofs.YtoaeffinjpkahaaDoor
set_option linter.unusedSimpArgs false
set_option linter.unusedVariables false
open Go Go.RowKit
set_option maxRecDepth 100000

/-- The reader's cells have turned, again and again, while other blocks were laid. -/
theorem DecM.again {w w1 : World} {b : Nat} {s : PS} {v5 v7 v8 p17 p18 v5' : Value} {g g' : Nat} {l : List Nat} (h : DecM w b s v5 g v7 v8 p17 p18) (hB : Block w1 b 80 (decL { s with bits := l } v5' g' v7 v8 p17 p18)) (hrd : RdV w1 v5' g' l) (ho : v5'.ownBlock = v5.ownBlock) (ht : Touch (fun k => k = b) w w1) (hl : ∃ n, l = s.bits.drop n) :
    DecM w1 b { s with bits := l } v5' g' v7 v8 p17 p18 := by
  obtain ⟨n, hn⟩ := hl
  obtain ⟨k1, k2, k3, k4, k5, k6, k7, k8, k9⟩ := h
  obtain ⟨a1, a2, a3, a4, a5, a6⟩ := k5
  refine ⟨hB, hrd, k3.kept ht (fun k e e2 => a2 (by rw [e, e2])), k4.kept ht (fun k e e2 => a3 (by rw [e, e2])), ⟨by rw [ho]; exact a1, a2, a3, by rw [ho]; exact a4, by rw [ho]; exact a5, a6⟩, k6.step ht (fun k e => .inl (.inl e)) (fun k e => .inl (mut_same ho e)) ⟨rfl, rfl, rfl, rfl⟩, k7, ?_, ?_⟩
  · intro x hx
    rw [hn] at hx
    exact k8 x (List.mem_of_mem_drop hx)
  · refine ⟨?_, k9.2⟩
    show l.length < _
    rw [hn, List.length_drop]
    have := k9.1
    omega

/-- Whatever a decoder has lies ahead of what is laid now. -/
theorem DecR.mlt5 {U : Nat → Prop} {w0 w w1 : World} {b : Nat} {s : PS} (h : DecR U w0 w b s) (_ht : Touch (fun _ => False) w w1) : ∃ v5 g v7 v8 p17 p18, DecM w b s v5 g v7 v8 p17 p18 ∧ (∀ k, Mut b v5 v7 v8 k → U k ∨ w0.heap.size ≤ k) ∧ Touch U w0 w ∧ (∀ k, Mut b v5 v7 v8 k → k < w.heap.size) ∧ (∀ g, s.v15.ownBlock = some g → g < w.heap.size) := by
  obtain ⟨v5, g, v7, v8, p17, p18, hD, hown, hT⟩ := h
  exact ⟨v5, g, v7, v8, p17, p18, hD, hown, hT, hD.mlt, fun g hg => (hD.cod.l15 g hg).1⟩
theorem DecR.cell16 {U : Nat → Prop} {w0 w : World} {b : Nat} {s : PS} (h : DecR U w0 w b s) : ∃ p, w.cell? ⟨b, 16, none⟩ = some p := by
  obtain ⟨v5, g, v7, v8, p17, p18, hD, _⟩ := h
  exact ⟨_, Block.cell hD.blk 16⟩
/-- The teller is there. -/
theorem DecR.tell {U : Nat → Prop} {w0 w w1 : World} {b : Nat} {s : PS} (h : DecR U w0 w b s) (ht : Touch (fun _ => False) w w1) (c : Nat) (lt : List Nat) (hwh : WholeN lt) (hc : CodeAt w1 c lt w.heap.size w1.heap.size) :
    DecR U w0 (w1.setCell ⟨b, 16, none⟩ (.pointer (some ⟨c, 0, none⟩))) b { s with p16 := .pointer (some ⟨c, 0, none⟩), tl := some lt } := by
  obtain ⟨v5, g, v7, v8, p17, p18, hD, hown, hT, hml, hl15⟩ := h.mlt5 ht
  have h1 := hD.still ht
  have hs := ht.size
  have ht2 : Touch (fun k => k = b) w1 (w1.setCell ⟨b, 16, none⟩ (.pointer (some ⟨c, 0, none⟩))) := (Touch.refl (fun k => k = b) w1).setCell (p := ⟨b, 16, none⟩) (Or.inl rfl) _
  have ht3 : Touch (fun k => k = b) w (w1.setCell ⟨b, 16, none⟩ (.pointer (some ⟨c, 0, none⟩))) := (ht.mono (fun _ e => e.elim)).trans ht2
  obtain ⟨k1, k2, k3, k4, k5, k6, k7, k8, k9⟩ := h1
  have hb : b < w.heap.size := hml b (.inl rfl)
  refine DecR.step hown hT ht3 (fun k e => .inl (.inl e)) (fun k e => .inl e) ⟨Block.set k1 16 _, k2.kept ht2 (fun k e e2 => k5.1 (by rw [e, e2])), k3.kept ht2 (fun k e e2 => k5.2.1 (by rw [e, e2])), k4.kept ht2 (fun k e e2 => k5.2.2.1 (by rw [e, e2])), k5, ⟨fun lw ld hf => ?_, fun lt' hf => ?_, fun g' hg => ?_, ⟨k6.one.1, k6.one.2.1, rfl⟩⟩, ⟨k7.1, k7.2.1, fun lt' hf => ?_⟩, k8, k9⟩
  · obtain ⟨c1, c2⟩ := k6.cod lw ld hf
    exact ⟨c1.step ht2 (fun k e => .inl (.inl e)) (fun k e => .inl e), c2.step ht2 (fun k e => .inl (.inl e)) (fun k e => .inl e)⟩
  · obtain rfl : lt = lt' := Option.some.inj hf
    exact ⟨c, _, _, rfl, hc.kept ht2 (fun k q1 q2 e => by omega), ht2.size, fun k q1 q2 => ⟨fun e => by have := hml k e; omega, fun e => by have := hl15 k e; omega⟩⟩
  · have h2 := k6.l15 g' hg
    exact ⟨Nat.lt_of_lt_of_le h2.1 ht2.size, h2.2⟩
  · obtain rfl : lt = lt' := Option.some.inj hf
    exact hwh

/-- The lengths that so many triples of bits tell. -/
def trL (l : List Nat) : Nat → List Nat
  | 0 => List.replicate 19 0
  | i + 1 => (trL l i).set (ordL.getD i 0) (numN ((l.drop (3 * i)).take 3))
theorem trL_length (l : List Nat) (i : Nat) : (trL l i).length = 19 := by
  induction i with
  | zero => simp [trL]
  | succ i ih => simp [trL, ih]
theorem ord_lt (i : Nat) : ordL.getD i 0 < 19 := by
  rcases Nat.lt_or_ge i 19 with h | h
  · have : ∀ j : Fin 19, ordL.getD j.1 0 < 19 := by decide
    exact this ⟨i, h⟩
  · rw [List.getD_eq_getElem?_getD, List.getElem?_eq_none (by simpa [ordL] using h)]
    decide
theorem ord_get {i : Nat} (h : i < 19) : ordL[i]? = some (ordL.getD i 0) := by
  rw [List.getD_eq_getElem?_getD, List.getElem?_eq_getElem (by simpa [ordL] using h)]
  rfl

theorem intVs_get2 (l : List Nat) (x : Nat) (h : x < l.length) : (intVs l)[x]? = some (.int .i64 (l.getD x 0 : Nat)) := by
  simp [intVs, h]
theorem numN_lt8 (l : List Nat) (h : ∀ x ∈ l.take 3, x < 2) : numN (l.take 3) < 8 := by
  have := numN_lt (l.take 3) h
  refine Nat.lt_of_lt_of_le this (Nat.le_trans (Nat.pow_le_pow_right (by decide) (List.length_take_le 3 l)) (by decide))
set_option maxHeartbeats 2000000 in
theorem itriples_ok {U : Nat → Prop} {w0 w : World} {b : Nat} {s : PS} (h : DecR U w0 w b s) (hl : 3 * s.trip ≤ s.bits.length) (ht : s.trip ≤ 19) (h0 : TabsI w0) (hU1 : ¬ U 1) (hU2 : ¬ U 2)
    (hwhy : whyN ((trL s.bits s.trip).map Int.ofNat) false = 0) (hnat : ((trL s.bits s.trip).map Int.ofNat).map Int.toNat = trL s.bits s.trip) (hwh : WholeN (trL s.bits s.trip)) :
    Calls Tryd.prog 93 #[.pointer (some ⟨b, 0, none⟩)] w fun e w' => e = .returned (.int .i64 0) ∧ ∃ p : Value, DecR U w0 w' b { s with bits := s.bits.drop (3 * s.trip), p16 := p, tl := some (trL s.bits s.trip), st := 5 } := by
  have HL : RowKit.Hid (∀ q, Calls Tryd.prog 65 #[.pointer (some ⟨b, 5, none⟩)] (w.drewN q) fun e w' => e = .returned (.int .i64 (s.bits.length : Nat)) ∧ ∃ m, w' = (w.drewN q).drewN m) := Lib.hid (fun q => (h.still ((Touch.refl (fun _ => False) w).drewN q)).left.mono (fun e w' hh => ⟨hh.1, 1, hh.2⟩))
  have HH := Lib.hid h
  have HTB := Lib.hid (And.intro h0 (And.intro hU1 hU2))
  have HWY := Lib.hid (And.intro hwhy (And.intro hnat hwh))
  have c14 := h.cell14
  obtain ⟨n, hn⟩ : ∃ n, s.bits.length = n := ⟨_, rfl⟩
  obtain ⟨t, htt⟩ : ∃ t, s.trip = t := ⟨_, rfl⟩
  rw [hn] at HL hl
  rw [htt] at hl ht c14 HWY ⊢
  have hc : ¬ (n : Int) < 3 * (t : Int) := by omega
  have HN := Lib.hid (And.intro hn htt)
  clear h h0 hU1 hU2 hwhy hnat hwh hn htt
  go_enter Tryd.func93, Tryd.ntmps93
  go_upto_region 1 with fail
  go_quiet (first | (go_at_call 65; with_reducible exact Calls.quiet_of (HL.out _)))
  obtain ⟨w1, hw1⟩ : ∃ w1, w.drewN nq = w1 := ⟨_, rfl⟩
  have hR1 : DecR U w0 w1 b s := by rw [← hw1]; exact HH.out.still ((Touch.refl (fun _ => False) w).drewN nq)
  rw [hw1]
  clear hw1 c14 HL HH
  obtain ⟨v5, g, v7, v8, p17, p18, hD, hown, hT⟩ := hR1
  have HD := Lib.hid hD
  have HO := Lib.hid (And.intro hown hT)
  have c14 : w1.cell? ⟨b, 14, none⟩ = some (.int .i64 (t : Nat)) := by rw [← HN.out.2]; exact Block.cell hD.blk 14
  have c14a : ∀ o, (w1.alloc o).cell? ⟨b, 14, none⟩ = some (.int .i64 (t : Nat)) := fun o => ((Touch.refl (fun _ => False) w1).alloc o).cell (p := ⟨b, 14, none⟩) c14 id
  have hbl := Block.lt hD.blk
  clear hD hown hT
  go_wp2_with fail
  obtain ⟨gl, hgl⟩ : ∃ gl, w1.heap.size = gl := ⟨_, rfl⟩
  rw [hgl]
  obtain ⟨w2, hw2⟩ : ∃ w2, w1.alloc (.cells (List.replicate 19 (Value.int .i64 0)).toArray 144) = w2 := ⟨_, rfl⟩
  have hB2 : Block w2 gl 144 (intVs (trL s.bits 0)) := by
    rw [← hw2, ← hgl]
    exact Block.new w1 _ (List.replicate 19 (Value.int .i64 0))
  have hT2 : Touch (fun _ => False) w1 w2 := by rw [← hw2]; exact (Touch.refl _ _).alloc _
  have hw2' : w1.alloc (.cells #[.int .i64 0, .int .i64 0, .int .i64 0, .int .i64 0, .int .i64 0, .int .i64 0, .int .i64 0, .int .i64 0, .int .i64 0, .int .i64 0, .int .i64 0, .int .i64 0, .int .i64 0, .int .i64 0, .int .i64 0, .int .i64 0, .int .i64 0, .int .i64 0, .int .i64 0] 144) = w2 := hw2
  rw [hw2']
  have hdb : b < gl := by omega
  have HGL := Lib.hid hgl
  have HB2 := Lib.hid hB2
  have HT2 := Lib.hid hT2
  clear hw2 hw2' c14a hgl hB2 hT2 c14
  go_loopw [23] (fun iv wr => ∃ (i : Nat) (v5' : Value) (g' : Nat), iv = .int .i64 (i : Nat) ∧ i ≤ t ∧ RowKit.Hid (Block wr b 80 (decL { s with bits := s.bits.drop (3 * i) } v5' g' v7 v8 p17 p18) ∧ RdV wr v5' g' (s.bits.drop (3 * i)) ∧ v5'.ownBlock = v5.ownBlock ∧ Touch (fun k => k = b) w1 wr ∧ Block wr gl 144 (intVs (trL s.bits i)))) (fun iv _ => t - (intOf iv).toNat)
  case atStart => exact ⟨0, v5, g, rfl, Nat.zero_le _, Lib.hid ⟨HD.out.blk.kept HT2.out id, HD.out.rd.kept HT2.out (fun _ _ => id), rfl, HT2.out.mono (fun _ e => e.elim), HB2.out⟩⟩
  case round =>
    obtain ⟨i, v5', g', rfl, hi, HI⟩ := hrel
    clear HB2 HT2
    have hi0 : (0 : Int) ≤ (i : Int) := by omega
    by_cases hlt : i < t
    · have hi1 : (i : Int) < (t : Int) := by omega
      have hi19 : (i : Int) < 19 := by omega
      obtain ⟨q1, q2, q3, q4, q5⟩ := HI.out
      have hbits : (s.bits.drop (3 * i)).length = n - 3 * i := by rw [List.length_drop, HN.out.1]
      have hread := read_some b 5 3 (s.bits.drop (3 * i)) _ wr (rd_at q1 q2 (by rw [q3]; exact HD.out.ap.1)) (by rw [hbits]; have := HD.out.lb.1; rw [HN.out.1] at this; omega) (by decide) (by rw [hbits]; omega)
      obtain ⟨N, hN⟩ : ∃ N, numN ((s.bits.drop (3 * i)).take 3) = N := ⟨_, rfl⟩
      rw [hN] at hread
      have hN8 : N < 8 := by
        rw [← hN]
        exact numN_lt8 _ (fun x hx => HD.out.l2 x (List.mem_of_mem_drop (List.mem_of_mem_take hx)))
      have HR := Lib.hid hread
      have HNN := Lib.hid hN
      obtain ⟨x, hx⟩ : ∃ x, ordL.getD i 0 = x := ⟨_, rfl⟩
      have hx19 : x < 19 := by rw [← hx]; exact ord_lt i
      have HX := Lib.hid hx
      clear q1 q2 q3 q4 q5 hread hN hbits hx
      have hglb : gl ≠ b := by omega
      go_wp2_with (go_at_call 67; refine HR.out.mono ?_; rintro e w3 ⟨rfl, hR3, hT3⟩; obtain ⟨v5b, gb, hBb, hRdb, hob, _⟩ := rd_back hR3; have hgb3 : Block w3 gl 144 (intVs (trL s.bits i)) := Block.kept HI.out.2.2.2.2 hT3 hglb; have hT13 := HI.out.2.2.2.1.trans hT3; have hT03 : Touch U w0 w3 := HO.out.2.trans' hT13 (fun k hk => by rw [hk]; exact HO.out.1 b (.inl rfl)); have m1 := (HTB.out.1.kept hT03 HTB.out.2.1 HTB.out.2.2).ord i x (by rw [← HX.out]; exact ord_get (by omega)); have m2 : w3.cell? ⟨gl, x, none⟩ = some (.int .i64 ((trL s.bits i).getD x 0 : Nat)) := (Block.cell hgb3 x).trans (intVs_get2 _ _ (by rw [trL_length]; exact hx19)); have g2 := Block.free hgb3 x; have HB3 := Lib.hid (And.intro hBb (And.intro hRdb (And.intro hob (And.intro hT13 hgb3)))); clear hR3 hT3 hBb hRdb hob hgb3 hT13 hT03)
      go_roundw
      case rel =>
        obtain ⟨z1, z2, z3, z4, z5⟩ := HB3.out
        have hd3 : (s.bits.drop (3 * i)).drop 3 = s.bits.drop (3 * (i + 1)) := by rw [List.drop_drop, show 3 * i + 3 = 3 * (i + 1) by omega]
        rw [hd3] at z1 z2
        have hT34 : Touch (fun k => k = gl) w3 (w3.setCell ⟨gl, x, none⟩ (.int .i64 (N : Nat))) := (Touch.refl (fun k => k = gl) w3).setCell (p := ⟨gl, x, none⟩) (.inl rfl) _
        have hset : Block (w3.setCell ⟨gl, x, none⟩ (.int .i64 (N : Nat))) gl 144 (intVs (trL s.bits (i + 1))) := by
          have h5 := Block.set z5 x (.int .i64 (N : Nat))
          have e5 : (intVs (trL s.bits i)).set x (.int .i64 (N : Nat)) = intVs (trL s.bits (i + 1)) := by
            show _ = intVs ((trL s.bits i).set (ordL.getD i 0) (numN ((s.bits.drop (3 * i)).take 3)))
            rw [HX.out, HNN.out]
            simp [intVs, List.map_set]
          rw [e5] at h5
          exact h5
        have hv5 : ∀ k, v5b.ownBlock = some k → k ≠ gl := fun k hk e => by
          have h6 := HD.out.mlt k (.inr (.inl (by rw [← HI.out.2.2.1, ← z3]; exact hk)))
          have := HGL.out
          omega
        have HREL : ∃ (i' : Nat) (v5' : Value) (g' : Nat), Value.int .i64 ((i : Int) + 1) = .int .i64 (i' : Nat) ∧ i' ≤ t ∧ RowKit.Hid (Block (w3.setCell ⟨gl, x, none⟩ (.int .i64 (N : Nat))) b 80 (decL { s with bits := s.bits.drop (3 * i') } v5' g' v7 v8 p17 p18) ∧ RdV (w3.setCell ⟨gl, x, none⟩ (.int .i64 (N : Nat))) v5' g' (s.bits.drop (3 * i')) ∧ v5'.ownBlock = v5.ownBlock ∧ Touch (fun k => k = b) w1 (w3.setCell ⟨gl, x, none⟩ (.int .i64 (N : Nat))) ∧ Block (w3.setCell ⟨gl, x, none⟩ (.int .i64 (N : Nat))) gl 144 (intVs (trL s.bits i'))) :=
          ⟨i + 1, v5b, gb, by go_num, hlt, Lib.hid ⟨Block.kept z1 hT34 (fun e => hglb e.symm), z2.kept hT34 hv5, z3.trans HI.out.2.2.1, z4.setCell (p := ⟨gl, x, none⟩) (.inr (by have := HGL.out; show w1.heap.size ≤ gl; omega)) _, hset⟩⟩
        first
          | exact HREL
          | (repeat apply Exists.intro; exact ⟨HREL, rfl⟩)
      case measure => simp [intOf]; omega
    · obtain rfl : i = t := by omega
      have hDr : DecM wr b { s with bits := s.bits.drop (3 * i) } v5' g' v7 v8 p17 p18 := HD.out.again HI.out.1 HI.out.2.1 HI.out.2.2.1 HI.out.2.2.2.1 ⟨_, rfl⟩
      have hRr : DecR U w0 wr b { s with bits := s.bits.drop (3 * i) } := ⟨v5', g', v7, v8, p17, p18, hDr, fun k hk => HO.out.1 k (mut_same HI.out.2.2.1 hk), HO.out.2.trans' HI.out.2.2.2.1 (fun k hk => by rw [hk]; exact HO.out.1 b (.inl rfl))⟩
      have hrd : Reads wr (.slice (some ⟨gl, 0, none⟩) 19 19) (intVs (trL s.bits i)) := by
        have h1 := Block.reads HI.out.2.2.2.2 (by rw [intVs_length, trL_length]; unfold maxLen; omega)
        rw [intVs_length, trL_length] at h1
        exact h1
      have HNW := Lib.hid (cnew_fix (trL s.bits i) HWY.out.1 HWY.out.2.1 _ wr hrd)
      have HRR := Lib.hid hRr
      clear hDr hRr hrd
      go_wp2_with (go_at_call 80; refine HNW.out.mono ?_; rintro e w5 ⟨c, rfl, hc, hT5⟩; have hR5 := HRR.out.still hT5; obtain ⟨p16o, m16⟩ := hR5.cell16; have g16 := hR5.free 16; have m0 := hR5.cell0; have g0 := hR5.free 0; have HF := Lib.hid ((HRR.out.tell hT5 c (trL s.bits i) HWY.out.2.2 hc).set0 5); clear hR5 hc hT5)
      have hF := HF.out
      rw [HN.out.2] at hF
      go_ret
      exact ⟨rfl, _, hF⟩
end Go.Proofs.YtoaeffinjpkahaaDoor
/- A decoder: readTriples of lengths that are no code. -/
namespace Go.Proofs.YtoaeffinjpkahaaDoor
set_option linter.unusedSimpArgs false
set_option linter.unusedVariables false
open Go Go.RowKit
set_option maxRecDepth 100000

theorem ofNat_toNat (ls : List Nat) : (ls.map Int.ofNat).map Int.toNat = ls := by
  rw [List.map_map]
  conv => rhs; rw [← List.map_id ls]
  rfl
theorem whole_why (ls : List Nat) (z : Bool) (h : whyN (ls.map Int.ofNat) z = 0) : WholeN ls := by
  unfold whyN at h
  unfold WholeN
  rw [ofNat_toNat] at h
  by_cases h1 : (ls.map Int.ofNat).any badLen = true ∨ 288 < (ls.map Int.ofNat).length
  · rw [if_pos h1] at h; cases h
  · rw [if_neg h1] at h
    by_cases h2 : 32768 < kraftN ls
    · rw [if_pos h2] at h; cases h
    · rw [if_neg h2] at h
      by_cases h3 : kraftN ls < 32768 ∧ ¬ (z = true ∧ (kraftN ls = 0 ∨ kraftN ls = 16384 ∧ cntN ls 1 = 1))
      · rw [if_pos h3] at h; cases h
      · by_cases h4 : kraftN ls < 32768
        · by_cases h5 : z = true ∧ (kraftN ls = 0 ∨ kraftN ls = 16384 ∧ cntN ls 1 = 1)
          · exact .inr h5.2
          · exact absurd ⟨h4, h5⟩ h3
        · exact .inl (by omega)
theorem why_len (ls : List Nat) (z : Bool) (h : whyN (ls.map Int.ofNat) z = 0) : kraftN ls ≤ 32768 ∧ ls.length ≤ 288 ∧ ∀ x ∈ ls, x ≤ 15 := by
  unfold whyN at h
  rw [ofNat_toNat] at h
  by_cases h1 : (ls.map Int.ofNat).any badLen = true ∨ 288 < (ls.map Int.ofNat).length
  · rw [if_pos h1] at h; cases h
  · rw [if_neg h1] at h
    have h15 := (good_nat _ (fun e => h1 (.inl e))).2
    rw [ofNat_toNat] at h15
    have hl : ls.length ≤ 288 := by
      have : ¬ 288 < ls.length := fun e => h1 (.inr (by rw [List.length_map]; exact e))
      omega
    by_cases h2 : 32768 < kraftN ls
    · rw [if_pos h2] at h; cases h
    · exact ⟨by omega, hl, h15⟩
/-- canon.New of lengths that are no code. -/
theorem cnew_bad (ls : List Nat) (z : Bool) (N9 : Nat) (hw : whyN (ls.map Int.ofNat) z = N9) (h9 : N9 ≠ 0) (v : Value) (w : World) (hv : Reads w v (intVs ls)) :
    Calls Tryd.prog 80 #[v, .bool z] w fun e w' => e = .returned (.tuple #[.pointer none, .int .i64 (N9 : Nat)]) ∧ Touch (fun _ => False) w w' := by
  refine (new_calls (ls.map Int.ofNat) z v w (by rw [intsV_nat]; exact hv)).mono ?_
  rintro e w' ⟨hT, ⟨_, h⟩ | ⟨h, _⟩⟩
  · rw [hw] at h
    exact ⟨h, hT⟩
  · exact absurd (hw.symm.trans h) h9
/-- canon.New of lengths that are a code, loose or not. -/
theorem cnew_ok (ls : List Nat) (z : Bool) (hw : whyN (ls.map Int.ofNat) z = 0) (v : Value) (w : World) (hv : Reads w v (intVs ls)) :
    Calls Tryd.prog 80 #[v, .bool z] w fun e w' => ∃ c, e = .returned (.tuple #[.pointer (some ⟨c, 0, none⟩), .int .i64 0]) ∧ CodeAt w' c ls w.heap.size w'.heap.size ∧ Touch (fun _ => False) w w' := by
  refine (new_calls (ls.map Int.ofNat) z v w (by rw [intsV_nat]; exact hv)).mono ?_
  rintro e w' ⟨hT, h | ⟨_, _, c, he, hc⟩⟩
  · exact absurd hw h.1
  · rw [ofNat_toNat] at hc
    exact ⟨c, he, hc, hT⟩

set_option maxHeartbeats 2000000 in
theorem itriples_bad {U : Nat → Prop} {w0 w : World} {b : Nat} {s : PS} (h : DecR U w0 w b s) (hl : 3 * s.trip ≤ s.bits.length) (ht : s.trip ≤ 19) (h0 : TabsI w0) (hU1 : ¬ U 1) (hU2 : ¬ U 2)
    (N9 : Nat) (hwhy : whyN ((trL s.bits s.trip).map Int.ofNat) false = N9) (hN9 : N9 ≠ 0) :
    Calls Tryd.prog 93 #[.pointer (some ⟨b, 0, none⟩)] w fun e w' => e = .returned (.int .i64 (N9 : Nat)) ∧ DecR U w0 w' b { s with bits := s.bits.drop (3 * s.trip) } := by
  have HL : RowKit.Hid (∀ q, Calls Tryd.prog 65 #[.pointer (some ⟨b, 5, none⟩)] (w.drewN q) fun e w' => e = .returned (.int .i64 (s.bits.length : Nat)) ∧ ∃ m, w' = (w.drewN q).drewN m) := Lib.hid (fun q => (h.still ((Touch.refl (fun _ => False) w).drewN q)).left.mono (fun e w' hh => ⟨hh.1, 1, hh.2⟩))
  have HH := Lib.hid h
  have HTB := Lib.hid (And.intro h0 (And.intro hU1 hU2))
  have HWY := Lib.hid (And.intro hwhy hN9)
  have hN9i : ¬ (N9 : Int) = 0 := by omega
  have c14 := h.cell14
  obtain ⟨n, hn⟩ : ∃ n, s.bits.length = n := ⟨_, rfl⟩
  obtain ⟨t, htt⟩ : ∃ t, s.trip = t := ⟨_, rfl⟩
  rw [hn] at HL hl
  rw [htt] at hl ht c14 HWY ⊢
  have hc : ¬ (n : Int) < 3 * (t : Int) := by omega
  have HN := Lib.hid (And.intro hn htt)
  clear h h0 hU1 hU2 hwhy hN9 hn htt
  go_enter Tryd.func93, Tryd.ntmps93
  go_upto_region 1 with fail
  go_quiet (first | (go_at_call 65; with_reducible exact Calls.quiet_of (HL.out _)))
  obtain ⟨w1, hw1⟩ : ∃ w1, w.drewN nq = w1 := ⟨_, rfl⟩
  have hR1 : DecR U w0 w1 b s := by rw [← hw1]; exact HH.out.still ((Touch.refl (fun _ => False) w).drewN nq)
  rw [hw1]
  clear hw1 c14 HL HH
  obtain ⟨v5, g, v7, v8, p17, p18, hD, hown, hT⟩ := hR1
  have HD := Lib.hid hD
  have HO := Lib.hid (And.intro hown hT)
  have c14 : w1.cell? ⟨b, 14, none⟩ = some (.int .i64 (t : Nat)) := by rw [← HN.out.2]; exact Block.cell hD.blk 14
  have c14a : ∀ o, (w1.alloc o).cell? ⟨b, 14, none⟩ = some (.int .i64 (t : Nat)) := fun o => ((Touch.refl (fun _ => False) w1).alloc o).cell (p := ⟨b, 14, none⟩) c14 id
  have hbl := Block.lt hD.blk
  clear hD hown hT
  go_wp2_with fail
  obtain ⟨gl, hgl⟩ : ∃ gl, w1.heap.size = gl := ⟨_, rfl⟩
  rw [hgl]
  obtain ⟨w2, hw2⟩ : ∃ w2, w1.alloc (.cells (List.replicate 19 (Value.int .i64 0)).toArray 144) = w2 := ⟨_, rfl⟩
  have hB2 : Block w2 gl 144 (intVs (trL s.bits 0)) := by
    rw [← hw2, ← hgl]
    exact Block.new w1 _ (List.replicate 19 (Value.int .i64 0))
  have hT2 : Touch (fun _ => False) w1 w2 := by rw [← hw2]; exact (Touch.refl _ _).alloc _
  have hw2' : w1.alloc (.cells #[.int .i64 0, .int .i64 0, .int .i64 0, .int .i64 0, .int .i64 0, .int .i64 0, .int .i64 0, .int .i64 0, .int .i64 0, .int .i64 0, .int .i64 0, .int .i64 0, .int .i64 0, .int .i64 0, .int .i64 0, .int .i64 0, .int .i64 0, .int .i64 0, .int .i64 0] 144) = w2 := hw2
  rw [hw2']
  have hdb : b < gl := by omega
  have HGL := Lib.hid hgl
  have HB2 := Lib.hid hB2
  have HT2 := Lib.hid hT2
  clear hw2 hw2' c14a hgl hB2 hT2 c14
  go_loopw [23] (fun iv wr => ∃ (i : Nat) (v5' : Value) (g' : Nat), iv = .int .i64 (i : Nat) ∧ i ≤ t ∧ RowKit.Hid (Block wr b 80 (decL { s with bits := s.bits.drop (3 * i) } v5' g' v7 v8 p17 p18) ∧ RdV wr v5' g' (s.bits.drop (3 * i)) ∧ v5'.ownBlock = v5.ownBlock ∧ Touch (fun k => k = b) w1 wr ∧ Block wr gl 144 (intVs (trL s.bits i)))) (fun iv _ => t - (intOf iv).toNat)
  case atStart => exact ⟨0, v5, g, rfl, Nat.zero_le _, Lib.hid ⟨HD.out.blk.kept HT2.out id, HD.out.rd.kept HT2.out (fun _ _ => id), rfl, HT2.out.mono (fun _ e => e.elim), HB2.out⟩⟩
  case round =>
    obtain ⟨i, v5', g', rfl, hi, HI⟩ := hrel
    clear HB2 HT2
    have hi0 : (0 : Int) ≤ (i : Int) := by omega
    by_cases hlt : i < t
    · have hi1 : (i : Int) < (t : Int) := by omega
      have hi19 : (i : Int) < 19 := by omega
      obtain ⟨q1, q2, q3, q4, q5⟩ := HI.out
      have hbits : (s.bits.drop (3 * i)).length = n - 3 * i := by rw [List.length_drop, HN.out.1]
      have hread := read_some b 5 3 (s.bits.drop (3 * i)) _ wr (rd_at q1 q2 (by rw [q3]; exact HD.out.ap.1)) (by rw [hbits]; have := HD.out.lb.1; rw [HN.out.1] at this; omega) (by decide) (by rw [hbits]; omega)
      obtain ⟨N, hN⟩ : ∃ N, numN ((s.bits.drop (3 * i)).take 3) = N := ⟨_, rfl⟩
      rw [hN] at hread
      have hN8 : N < 8 := by
        rw [← hN]
        exact numN_lt8 _ (fun x hx => HD.out.l2 x (List.mem_of_mem_drop (List.mem_of_mem_take hx)))
      have HR := Lib.hid hread
      have HNN := Lib.hid hN
      obtain ⟨x, hx⟩ : ∃ x, ordL.getD i 0 = x := ⟨_, rfl⟩
      have hx19 : x < 19 := by rw [← hx]; exact ord_lt i
      have HX := Lib.hid hx
      clear q1 q2 q3 q4 q5 hread hN hbits hx
      have hglb : gl ≠ b := by omega
      go_wp2_with (go_at_call 67; refine HR.out.mono ?_; rintro e w3 ⟨rfl, hR3, hT3⟩; obtain ⟨v5b, gb, hBb, hRdb, hob, _⟩ := rd_back hR3; have hgb3 : Block w3 gl 144 (intVs (trL s.bits i)) := Block.kept HI.out.2.2.2.2 hT3 hglb; have hT13 := HI.out.2.2.2.1.trans hT3; have hT03 : Touch U w0 w3 := HO.out.2.trans' hT13 (fun k hk => by rw [hk]; exact HO.out.1 b (.inl rfl)); have m1 := (HTB.out.1.kept hT03 HTB.out.2.1 HTB.out.2.2).ord i x (by rw [← HX.out]; exact ord_get (by omega)); have m2 : w3.cell? ⟨gl, x, none⟩ = some (.int .i64 ((trL s.bits i).getD x 0 : Nat)) := (Block.cell hgb3 x).trans (intVs_get2 _ _ (by rw [trL_length]; exact hx19)); have g2 := Block.free hgb3 x; have HB3 := Lib.hid (And.intro hBb (And.intro hRdb (And.intro hob (And.intro hT13 hgb3)))); clear hR3 hT3 hBb hRdb hob hgb3 hT13 hT03)
      go_roundw
      case rel =>
        obtain ⟨z1, z2, z3, z4, z5⟩ := HB3.out
        have hd3 : (s.bits.drop (3 * i)).drop 3 = s.bits.drop (3 * (i + 1)) := by rw [List.drop_drop, show 3 * i + 3 = 3 * (i + 1) by omega]
        rw [hd3] at z1 z2
        have hT34 : Touch (fun k => k = gl) w3 (w3.setCell ⟨gl, x, none⟩ (.int .i64 (N : Nat))) := (Touch.refl (fun k => k = gl) w3).setCell (p := ⟨gl, x, none⟩) (.inl rfl) _
        have hset : Block (w3.setCell ⟨gl, x, none⟩ (.int .i64 (N : Nat))) gl 144 (intVs (trL s.bits (i + 1))) := by
          have h5 := Block.set z5 x (.int .i64 (N : Nat))
          have e5 : (intVs (trL s.bits i)).set x (.int .i64 (N : Nat)) = intVs (trL s.bits (i + 1)) := by
            show _ = intVs ((trL s.bits i).set (ordL.getD i 0) (numN ((s.bits.drop (3 * i)).take 3)))
            rw [HX.out, HNN.out]
            simp [intVs, List.map_set]
          rw [e5] at h5
          exact h5
        have hv5 : ∀ k, v5b.ownBlock = some k → k ≠ gl := fun k hk e => by
          have h6 := HD.out.mlt k (.inr (.inl (by rw [← HI.out.2.2.1, ← z3]; exact hk)))
          have := HGL.out
          omega
        have HREL : ∃ (i' : Nat) (v5' : Value) (g' : Nat), Value.int .i64 ((i : Int) + 1) = .int .i64 (i' : Nat) ∧ i' ≤ t ∧ RowKit.Hid (Block (w3.setCell ⟨gl, x, none⟩ (.int .i64 (N : Nat))) b 80 (decL { s with bits := s.bits.drop (3 * i') } v5' g' v7 v8 p17 p18) ∧ RdV (w3.setCell ⟨gl, x, none⟩ (.int .i64 (N : Nat))) v5' g' (s.bits.drop (3 * i')) ∧ v5'.ownBlock = v5.ownBlock ∧ Touch (fun k => k = b) w1 (w3.setCell ⟨gl, x, none⟩ (.int .i64 (N : Nat))) ∧ Block (w3.setCell ⟨gl, x, none⟩ (.int .i64 (N : Nat))) gl 144 (intVs (trL s.bits i'))) :=
          ⟨i + 1, v5b, gb, by go_num, hlt, Lib.hid ⟨Block.kept z1 hT34 (fun e => hglb e.symm), z2.kept hT34 hv5, z3.trans HI.out.2.2.1, z4.setCell (p := ⟨gl, x, none⟩) (.inr (by have := HGL.out; show w1.heap.size ≤ gl; omega)) _, hset⟩⟩
        first
          | exact HREL
          | (repeat apply Exists.intro; exact ⟨HREL, rfl⟩)
      case measure => simp [intOf]; omega
    · obtain rfl : i = t := by omega
      have hDr : DecM wr b { s with bits := s.bits.drop (3 * i) } v5' g' v7 v8 p17 p18 := HD.out.again HI.out.1 HI.out.2.1 HI.out.2.2.1 HI.out.2.2.2.1 ⟨_, rfl⟩
      have hRr : DecR U w0 wr b { s with bits := s.bits.drop (3 * i) } := ⟨v5', g', v7, v8, p17, p18, hDr, fun k hk => HO.out.1 k (mut_same HI.out.2.2.1 hk), HO.out.2.trans' HI.out.2.2.2.1 (fun k hk => by rw [hk]; exact HO.out.1 b (.inl rfl))⟩
      have hrd : Reads wr (.slice (some ⟨gl, 0, none⟩) 19 19) (intVs (trL s.bits i)) := by
        have h1 := Block.reads HI.out.2.2.2.2 (by rw [intVs_length, trL_length]; unfold maxLen; omega)
        rw [intVs_length, trL_length] at h1
        exact h1
      have HNW := Lib.hid (cnew_bad (trL s.bits i) false N9 HWY.out.1 HWY.out.2 _ wr hrd)
      have HRR := Lib.hid hRr
      clear hDr hRr hrd
      go_wp2_with (go_at_call 80; refine HNW.out.mono ?_; rintro e w5 ⟨rfl, hT5⟩; have HF := Lib.hid (HRR.out.still hT5); clear hT5)
      have hF := HF.out
      rw [HN.out.2] at hF
      go_ret
      exact ⟨rfl, hF⟩
end Go.Proofs.YtoaeffinjpkahaaDoor
/- A decoder with a row of lengths; lengths that are appended. -/
namespace Go.Proofs.YtoaeffinjpkahaaDoor
set_option linter.unusedSimpArgs false
set_option linter.unusedVariables false
open Go Go.RowKit
set_option maxRecDepth 100000

/-- A decoder, and its row of lengths. -/
def DecL (U : Nat → Prop) (w0 w : World) (b : Nat) (s : PS) (ls : List Nat) : Prop := DecR U w0 w b s ∧ Row w 3 s.v15 (intVs ls) ∧ (∀ k, s.v15.ownBlock = some k → U k ∨ w0.heap.size ≤ k)
theorem DecR.l15 {U : Nat → Prop} {w0 w : World} {b : Nat} {s : PS} (h : DecR U w0 w b s) : s.v15.ownBlock ≠ some b := by
  obtain ⟨v5, g, v7, v8, p17, p18, hD, _⟩ := h
  exact fun e => (hD.cod.l15 b e).2 (.inl rfl)
theorem DecL.keep {U : Nat → Prop} {w0 w w' : World} {b : Nat} {s s' : PS} {ls : List Nat} (h : DecL U w0 w b s ls) (hR : DecR U w0 w' b s') (hv : s'.v15 = s.v15) (ht : Touch (fun k => k = b) w w') : DecL U w0 w' b s' ls := by
  obtain ⟨h1, h2, h3⟩ := h
  exact ⟨hR, by rw [hv]; exact h2.kept ht (fun k e e2 => h1.l15 (by rw [e, e2])), by rw [hv]; exact h3⟩
theorem DecL.still {U : Nat → Prop} {w0 w w' : World} {b : Nat} {s : PS} {ls : List Nat} (h : DecL U w0 w b s ls) (ht : Touch (fun _ => False) w w') : DecL U w0 w' b s ls :=
  h.keep (h.1.still ht) rfl (ht.mono (fun _ e => e.elim))
theorem DecL.nil {U : Nat → Prop} {w0 w : World} {b : Nat} {s : PS} (h : DecR U w0 w b s) (hv : s.v15 = .slice none 0 0) : DecL U w0 w b s [] :=
  ⟨h, by rw [hv]; exact Row.nil _ _, by rw [hv]; intro k e; simp [Value.ownBlock] at e⟩
theorem DecR.cell15 {U : Nat → Prop} {w0 w : World} {b : Nat} {s : PS} (h : DecR U w0 w b s) : w.cell? ⟨b, 15, none⟩ = some s.v15 := by
  obtain ⟨v5, g, v7, v8, p17, p18, hD, _⟩ := h
  exact Block.cell hD.blk 15
theorem DecR.cell16p {U : Nat → Prop} {w0 w : World} {b : Nat} {s : PS} (h : DecR U w0 w b s) : w.cell? ⟨b, 16, none⟩ = some s.p16 := by
  obtain ⟨v5, g, v7, v8, p17, p18, hD, _⟩ := h
  exact Block.cell hD.blk 16
theorem DecR.blt {U : Nat → Prop} {w0 w : World} {b : Nat} {s : PS} (h : DecR U w0 w b s) : b < w.heap.size := by
  obtain ⟨v5, g, v7, v8, p17, p18, hD, _⟩ := h
  exact hD.blk.lt

theorem CodeV.relen {w w' : World} {b : Nat} {v5 v7 v8 p : Value} {L L' : Option Nat} {ls : List Nat} {S : Nat → Prop} (h : CodeV w b v5 v7 v8 L p ls) (ht : Touch S w w') (hS : ∀ k, S k → L = some k ∨ k = b) (hL : L' = L ∨ ∃ q, L' = some q ∧ w.heap.size ≤ q) : CodeV w' b v5 v7 v8 L' p ls := by
  obtain ⟨c, n0, n1, rfl, h1, h2, h3⟩ := h
  refine ⟨c, n0, n1, rfl, h1.kept ht (fun k k0 k1 hk => ?_), Nat.le_trans h2 ht.size, fun k k0 k1 => ⟨(h3 k k0 k1).1, fun hk => ?_⟩⟩
  · rcases hS k hk with e | e
    · exact (h3 k k0 k1).2 e
    · exact (h3 k k0 k1).1 (.inl e)
  · rcases hL with e | ⟨q, e, hq⟩
    · exact (h3 k k0 k1).2 (by rw [← e]; exact hk)
    · rw [e] at hk
      have := Option.some.inj hk
      omega
theorem DecL.app {U : Nat → Prop} {w0 w w4 : World} {b : Nat} {s : PS} {ls l2 : List Nat} {v9 : Value} (h : DecL U w0 w b s ls) (hrow : Row w4 3 v9 (intVs l2)) (hg : w.grownBy w4 s.v15.ownBlock) (ho : v9.ownBlock = s.v15.ownBlock ∨ ∃ q, v9.ownBlock = some q ∧ w.heap.size ≤ q) :
    DecL U w0 (w4.setCell ⟨b, 15, none⟩ v9) b { s with v15 := v9 } l2 := by
  obtain ⟨h1, h2, h3⟩ := h
  have hsz0 : w0.heap.size ≤ w.heap.size := by
    obtain ⟨_, _, _, _, _, _, _, _, hT⟩ := h1
    exact hT.size
  have hown' : ∀ k, v9.ownBlock = some k → U k ∨ w0.heap.size ≤ k := fun k e => by
    rcases ho with e2 | ⟨q, e2, hq⟩
    · exact h3 k (by rw [← e2]; exact e)
    · rw [e2] at e
      have := Option.some.inj e
      exact .inr (by omega)
  obtain ⟨v5, g, v7, v8, p17, p18, hD, hown, hT⟩ := h1
  have hT1 : Touch (fun q => s.v15.ownBlock = some q) w w4 := (Touch.refl (fun q => s.v15.ownBlock = some q) w).grown hg (fun q hq => .inl hq)
  have hT2 : Touch (fun q => s.v15.ownBlock = some q ∨ q = b) w (w4.setCell ⟨b, 15, none⟩ v9) := (hT1.mono (fun k e => .inl e)).setCell (p := ⟨b, 15, none⟩) (Or.inl (Or.inr rfl)) _
  have hm := hD.mlt
  obtain ⟨k1, k2, k3, k4, k5, k6, k7, k8, k9⟩ := hD
  have hn : ∀ k, Mut b v5 v7 v8 k → ¬ (s.v15.ownBlock = some k) := fun k hk e => (k6.l15 k e).2 hk
  have hnb : v9.ownBlock ≠ some b := fun e => by
    rcases ho with e2 | ⟨q, e2, hq⟩
    · exact hn b (.inl rfl) (by rw [← e2]; exact e)
    · rw [e2] at e
      have := Option.some.inj e
      have := hm b (.inl rfl)
      omega
  have hB4 := k1.kept hT1 (hn b (.inl rfl))
  have hr5 : Row (w4.setCell ⟨b, 15, none⟩ v9) 3 v9 (intVs l2) := hrow.kept ((Touch.refl (fun k => k = b) w4).setCell (p := ⟨b, 15, none⟩) (Or.inl rfl) _) (fun k e e2 => hnb (by rw [e, e2]))
  have hS : ∀ k, (s.v15.ownBlock = some k ∨ k = b) → s.v15.ownBlock = some k ∨ k = b := fun k e => e
  refine ⟨⟨v5, g, v7, v8, p17, p18, ⟨Block.set hB4 15 _, k2.kept hT2 (fun k e e2 => ?_), k3.kept hT2 (fun k e e2 => ?_), k4.kept hT2 (fun k e e2 => ?_), k5, ⟨fun lw ld hf => ?_, fun lt hf => ?_, fun q hq => ⟨hr5.lt q hq, fun hk => ?_⟩, k6.one⟩, k7, k8, k9⟩, hown, hT.trans' hT2 (fun k e => ?_)⟩, hr5, hown'⟩
  · rcases e2 with e2 | e2
    · exact hn k (.inr (.inl e)) e2
    · exact k5.1 (by rw [e, e2])
  · rcases e2 with e2 | e2
    · exact hn k (.inr (.inr (.inl e))) e2
    · exact k5.2.1 (by rw [e, e2])
  · rcases e2 with e2 | e2
    · exact hn k (.inr (.inr (.inr e))) e2
    · exact k5.2.2.1 (by rw [e, e2])
  · obtain ⟨c1, c2⟩ := k6.cod lw ld hf
    exact ⟨c1.relen hT2 hS ho, c2.relen hT2 hS ho⟩
  · exact (k6.tel lt hf).relen hT2 hS ho
  · rcases ho with e2 | ⟨q', e2, hq'⟩
    · exact hn q hk (by rw [← e2]; exact hq)
    · have h5 : v9.ownBlock = some q := hq
      rw [e2] at h5
      have := Option.some.inj h5
      have := hm q hk
      omega
  · rcases e with e | e
    · exact h3 k e
    · exact hown k (.inl e)

/-- So many of the same are appended. -/
theorem rep_snoc (ls : List Nat) (i x : Nat) : ls ++ List.replicate (i + 1) x = (ls ++ List.replicate i x) ++ [x] := by
  rw [List.replicate_succ', List.append_assoc]

set_option maxHeartbeats 1000000 in
theorem iaddlen_range {U : Nat → Prop} {w0 w : World} {b : Nat} {s : PS} {ls : List Nat} (h : DecL U w0 w b s ls) (x n : Nat) (hn : n < 1000) (_hb : s.both < 1000) (hl : ls.length < 1000) (hov : s.both < ls.length + n) :
    Calls Tryd.prog 127 #[.pointer (some ⟨b, 0, none⟩), .int .i64 (x : Nat), .int .i64 (n : Nat)] w fun e w' => e = .returned (.int .i64 20) ∧ DecL U w0 w' b s ls := by
  have c15 := h.1.cell15
  have c13 := h.1.cell13
  obtain ⟨a5, m5, hv5, hm5, hm6⟩ := h.2.1.form
  rw [intVs_length] at hv5 hm5
  rw [hv5] at c15
  have HH := Lib.hid h
  obtain ⟨L, hL⟩ : ∃ L, L = ls.length := ⟨_, rfl⟩
  obtain ⟨B, hB⟩ : ∃ B, B = s.both := ⟨_, rfl⟩
  rw [← hL] at c15 hl hov
  rw [← hB] at c13 hov
  have hc : (B : Int) < (L : Int) + (n : Int) := by omega
  have hLb : (L : Int) ≤ 1000 := by omega
  clear h hm5 hm6 hL hB hov hv5
  go_enter Tryd.func127, Tryd.ntmps127
  go_upto_region 1 with fail
  go_region
  go_wp2_with fail
  go_ret
  exact ⟨rfl, HH.out.still ((Touch.refl _ _).drew)⟩

set_option maxHeartbeats 2000000 in
/-- The loop of addLengths, and what comes of it. -/
theorem iaddlen_calls {U : Nat → Prop} {w0 w : World} {b : Nat} {s : PS} {ls : List Nat} (h : DecL U w0 w b s ls) (x n : Nat) (hn : n < 1000) (_hb : s.both < 1000) (hl : ls.length < 1000) (hov : ls.length + n ≤ s.both) (Q : Int → World → Prop)
    (hlt : ls.length + n < s.both → ∀ w' v, DecL U w0 w' b { s with v15 := v, st := 5 } (ls ++ List.replicate n x) → Q 0 w')
    (heq : ls.length + n = s.both → ∀ w' v, DecL U w0 w' b { s with v15 := v, st := 5 } (ls ++ List.replicate n x) → Calls Tryd.prog 147 #[.pointer (some ⟨b, 0, none⟩)] w' fun e w2 => ∃ r, e = .returned (.int .i64 r) ∧ Q r w2) :
    Calls Tryd.prog 127 #[.pointer (some ⟨b, 0, none⟩), .int .i64 (x : Nat), .int .i64 (n : Nat)] w fun e w' => ∃ r, e = .returned (.int .i64 r) ∧ Q r w' := by
  have c15 := h.1.cell15
  have c13 := h.1.cell13
  obtain ⟨a5, m5, hv5, hm5, hm6⟩ := h.2.1.form
  rw [intVs_length] at hv5 hm5
  rw [hv5] at c15
  have HH := Lib.hid h
  obtain ⟨L, hL⟩ : ∃ L, L = ls.length := ⟨_, rfl⟩
  obtain ⟨B, hB⟩ : ∃ B, B = s.both := ⟨_, rfl⟩
  rw [← hL] at c15 hl hov
  rw [← hB] at c13 hov
  have hc : ¬ (B : Int) < (L : Int) + (n : Int) := by omega
  have hLb : (L : Int) ≤ 1000 := by omega
  have hn0 : (0 : Int) ≤ (n : Int) := by omega
  have HE := Lib.hid (And.intro hL hB)
  have HQ := Lib.hid (And.intro hlt heq)
  obtain ⟨i0, hi, hz0, hz1, hz2⟩ := info_parts Tryd.info3
  clear h hm5 hm6 hL hB hv5 hlt heq
  go_enter Tryd.func127, Tryd.ntmps127
  go_upto_region 1 with fail
  go_region
  go_wp2_with fail
  have HD := Lib.hid (HH.out.still (Touch.refl _ _).drew)
  generalize w.drew = w1 at *
  clear HH c15 c13
  go_loopw [20] (fun iv wr => ∃ (i : Nat) (v : Value), iv = .int .i64 (i : Nat) ∧ i ≤ n ∧ RowKit.Hid (DecL U w0 wr b { s with v15 := v } (ls ++ List.replicate i x))) (fun iv _ => n - (intOf iv).toNat)
  case atStart => exact ⟨0, s.v15, rfl, Nat.zero_le _, by rw [List.replicate_zero, List.append_nil]; exact HD⟩
  case round =>
    obtain ⟨i, v, rfl, hin, HI⟩ := hrel
    clear HD
    have hi0 : (0 : Int) ≤ (i : Int) := by omega
    by_cases hlt : i < n
    · have hi1 : (i : Int) < (n : Int) := by omega
      have m15 : wr.cell? ⟨b, 15, none⟩ = some v := HI.out.1.cell15
      have g15 := HI.out.1.free 15
      have hbl := HI.out.1.blt
      have hlen : (ls ++ List.replicate i x).length < 2000 := by rw [List.length_append, List.length_replicate, ← HE.out.1]; omega
      have HLN := Lib.hid hlen
      have HBL := Lib.hid hbl
      clear hlen hbl
      go_wp2_with (at_builtin; refine wpList_append_row _ rfl (.tmp 26) (.tmp 28) 41 41 rfl 3 i0 _ 8 Tryd.underlying41 hi hz0 hz1 hz2 rfl v (intVs (ls ++ List.replicate i x)) rfl (by exact HI.out.2.1.kept (S := fun _ => False) ((Touch.refl _ _).alloc _) (fun _ _ => id)) (.slice (some ⟨wr.heap.size, 0, none⟩) 1 1) rfl 1 [.int .i64 (x : Nat)] (by exact Src.ofCell Tryd.underlying41 (heap_alloc_new wr _) rfl) (by rw [intVs_length]; unfold maxLen; have := HLN.out; omega) (by rw [intVs_length]; have := HLN.out; omega) ?_; intro v9 w4 hrow4 hgrow4 hown4; obtain ⟨a9, c9, hv9, hc91, hc92⟩ := hrow4.form; have hT4 := ((Touch.refl (fun k => v.ownBlock = some k) wr).alloc (.cells #[.int .i64 (x : Nat)] 3)).grown hgrow4 (fun q hq => .inl hq); have hB4 : w4.heap[b]? = wr.heap[b]? := hT4.block b HBL.out (fun e => HI.out.1.l15 e); have g7 := (World.cell?_of_block (a := ⟨b, 15, none⟩) hB4).trans m15; have e7 := (World.frozen?_of_block (a := ⟨b, 15, none⟩) hB4).trans g15; have HG := Lib.hid (⟨hrow4, hgrow4, hown4⟩ : _ ∧ _ ∧ _); clear hrow4 hgrow4 hown4 hB4 hT4)
      go_roundw
      case rel =>
        obtain ⟨hg1, hg2, hg3⟩ := HG.out
        have hA := (HI.out.still ((Touch.refl _ _).alloc (.cells #[.int .i64 (x : Nat)] 3))).app (l2 := ls ++ List.replicate (i + 1) x) (v9 := v9) (by rw [rep_snoc, intVs_append]; exact hg1) hg2 (by
          rcases hg3 with e | e
          · exact .inl e
          · exact .inr ⟨_, e, Nat.le_refl _⟩)
        have HREL : ∃ (i' : Nat) (v' : Value), Value.int .i64 ((i : Int) + 1) = .int .i64 (i' : Nat) ∧ i' ≤ n ∧ RowKit.Hid (DecL U w0 (w4.setCell ⟨b, 15, none⟩ v9) b { s with v15 := v' } (ls ++ List.replicate i' x)) := ⟨i + 1, v9, by go_num, hlt, Lib.hid hA⟩
        rw [hv9, List.length_append] at HREL
        first
          | exact HREL
          | (repeat apply Exists.intro; exact ⟨HREL, rfl⟩)
      case measure => simp [intOf]; omega
    · obtain rfl : i = n := by omega
      have m0 := HI.out.1.cell0
      have g0 := HI.out.1.free 0
      have HF := Lib.hid (HI.out.keep (HI.out.1.set0 5) rfl ((Touch.refl (fun k => k = b) wr).setCell (p := ⟨b, 0, none⟩) (Or.inl rfl) _))
      clear HI
      go_upto_region 8 with fail
      generalize wr.setCell ⟨b, 0, none⟩ (.int .i64 5) = w5 at HF ⊢
      have m15 := HF.out.1.cell15
      have m13 := HF.out.1.cell13
      obtain ⟨a6, m6, hv6, hm7, hm8⟩ := HF.out.2.1.form
      rw [hv6] at m15
      rw [intVs_length, List.length_append, List.length_replicate, ← HE.out.1] at m15
      change w5.cell? ⟨b, 13, none⟩ = some (.int .i64 (s.both : Nat)) at m13
      rw [← HE.out.2] at m13
      clear hv6 hm7 hm8
      by_cases hlt2 : L + i < B
      · have hq : ((L + i : Nat) : Int) < (B : Int) := by omega
        go_region
        go_wp2_with fail
        go_ret
        exact ⟨0, rfl, HQ.out.1 (by rw [← HE.out.1, ← HE.out.2]; exact hlt2) _ v (HF.out.still (Touch.refl _ _).drew)⟩
      · have hq : ¬ ((L + i : Nat) : Int) < (B : Int) := by omega
        go_region
        go_wp2_with fail
        refine (HQ.out.2 (by rw [← HE.out.1, ← HE.out.2]; omega) _ v (HF.out.still (Touch.refl _ _).drew)).mono ?_
        rintro e w6 ⟨r, rfl, hQ⟩
        have HQQ := Lib.hid hQ
        clear hQ
        go_wp2_with fail
        go_ret
        exact ⟨r, rfl, HQQ.out⟩
end Go.Proofs.YtoaeffinjpkahaaDoor
/- A decoder: takeCodes. -/
namespace Go.Proofs.YtoaeffinjpkahaaDoor
set_option linter.unusedSimpArgs false
set_option linter.unusedVariables false
open Go Go.RowKit
set_option maxRecDepth 100000

/-- The lengths from the q-th on. -/
theorem Reads.from' {w : World} {g off n cap q : Nat} {xs : List Value} (h : Reads w (.slice (some ⟨g, off, none⟩) n cap) xs) (hq : q ≤ n) : Reads w (.slice (some ⟨g, off + q, none⟩) (n - q) (cap - q)) (xs.drop q) := by
  obtain ⟨a', cap', he, h1, h2, h3⟩ := h
  cases he
  have hl : (xs.drop q).length = xs.length - q := by rw [List.length_drop]
  refine ⟨some ⟨g, off + q, none⟩, cap - q, by rw [hl], by omega, by omega, ?_⟩
  rcases h3 with rfl | ⟨g', off', he, h4⟩
  · exact .inl (by simp)
  · cases he
    refine .inr ⟨g, off + q, rfl, fun j u hu => ?_⟩
    rw [List.getElem?_drop] at hu
    have := h4 (q + j) u hu
    rw [← Nat.add_assoc] at this
    exact this
theorem intVs_take (l : List Nat) (q : Nat) : (intVs l).take q = intVs (l.take q) := by simp [intVs, List.map_take]
theorem intVs_drop (l : List Nat) (q : Nat) : (intVs l).drop q = intVs (l.drop q) := by simp [intVs, List.map_drop]

set_option maxHeartbeats 1000000 in
theorem itake_end {U : Nat → Prop} {w0 w : World} {b : Nat} {s : PS} {ls : List Nat} (h : DecL U w0 w b s ls) (hl : 256 < ls.length) (hl2 : ls.length < 1000) (h0 : ls.getD 256 0 = 0) :
    Calls Tryd.prog 147 #[.pointer (some ⟨b, 0, none⟩)] w fun e w' => e = .returned (.int .i64 12) ∧ DecR U w0 w' b s := by
  have c15 := h.1.cell15
  obtain ⟨g, off, cap, hv, hcap, hmx, hgs, hc⟩ := h.2.1.reads.addr (by rw [intVs_length]; omega)
  have m256 := hc 256 _ (intVs_get2 ls 256 hl)
  rw [h0] at m256
  rw [hv, intVs_length] at c15
  rw [intVs_length] at hcap
  have HD := Lib.hid h.1
  obtain ⟨n, hn⟩ : ∃ n, n = ls.length := ⟨_, rfl⟩
  rw [← hn] at c15 hl hl2 hcap
  have hnI : (256 : Int) < (n : Int) := by omega
  clear h hv hmx hc hn hgs h0
  go_enter Tryd.func147, Tryd.ntmps147
  go_wp2_with fail
  go_ret
  exact ⟨rfl, HD.out⟩

set_option maxHeartbeats 2000000 in
theorem itake_bad1 {U : Nat → Prop} {w0 w : World} {b : Nat} {s : PS} {ls : List Nat} (h : DecL U w0 w b s ls) (hl : 256 < ls.length) (hl2 : ls.length < 1000) (z : Nat) (h0 : ls.getD 256 0 = z) (hz0 : z ≠ 0) (hli : s.lits ≤ ls.length)
    (N9 : Nat) (hwhy : whyN ((ls.take s.lits).map Int.ofNat) false = N9) (hN9 : N9 ≠ 0) :
    Calls Tryd.prog 147 #[.pointer (some ⟨b, 0, none⟩)] w fun e w' => e = .returned (.int .i64 (N9 : Nat)) ∧ DecR U w0 w' b s := by
  have c15 := h.1.cell15
  have c12 := h.1.cell12
  obtain ⟨g, off, cap, hv, hcap, hmx, hgs, hc⟩ := h.2.1.reads.addr (by rw [intVs_length]; omega)
  have m256 := hc 256 _ (intVs_get2 ls 256 hl)
  rw [h0] at m256
  have hrd := h.2.1.reads
  rw [hv, intVs_length] at hrd c15
  rw [intVs_length] at hcap
  have hrd2 := hrd.upto hli
  rw [intVs_take] at hrd2
  have HN := Lib.hid (fun W (hW : Touch (fun _ => False) w W) => cnew_bad (ls.take s.lits) false N9 hwhy hN9 _ W (hrd2.still hW))
  have HD := Lib.hid h.1
  obtain ⟨n, hn⟩ : ∃ n, n = ls.length := ⟨_, rfl⟩
  obtain ⟨L, hL⟩ : ∃ L, L = s.lits := ⟨_, rfl⟩
  rw [← hn] at c15 hl hl2 hcap hli
  rw [← hL] at c12 hli HN
  have hnI : (256 : Int) < (n : Int) := by omega
  have hLI : (L : Int) ≤ (cap : Int) := by omega
  have hzi : ¬ (z : Int) = 0 := by omega
  have hN9i : ¬ (N9 : Int) = 0 := by omega
  clear h hv hmx hc hn hgs h0 hrd hrd2 hwhy hL
  go_enter Tryd.func147, Tryd.ntmps147
  go_upto_region 3 with fail
  go_region_law (first
    | (go_simp; go_at_call 80; refine (HN.out _ ((Touch.refl _ _).drew)).mono ?_; rintro e w1 ⟨rfl, ht1⟩; have HT1 := Lib.hid ((Touch.refl (fun _ => False) w).drew.trans ht1); clear ht1))
  all_goals go_wp2_with fail
  all_goals go_ret
  all_goals exact ⟨rfl, HD.out.still HT1.out⟩
theorem DecR.cell17 {U : Nat → Prop} {w0 w : World} {b : Nat} {s : PS} (h : DecR U w0 w b s) : ∃ p, w.cell? ⟨b, 17, none⟩ = some p := by
  obtain ⟨v5, g, v7, v8, p17, p18, hD, _⟩ := h
  exact ⟨_, Block.cell hD.blk 17⟩
theorem DecR.cell18 {U : Nat → Prop} {w0 w : World} {b : Nat} {s : PS} (h : DecR U w0 w b s) : ∃ p, w.cell? ⟨b, 18, none⟩ = some p := by
  obtain ⟨v5, g, v7, v8, p17, p18, hD, _⟩ := h
  exact ⟨_, Block.cell hD.blk 18⟩
theorem DecR.cell19 {U : Nat → Prop} {w0 w : World} {b : Nat} {s : PS} (h : DecR U w0 w b s) : w.cell? ⟨b, 19, none⟩ = some (.bool s.fixed) := by
  obtain ⟨v5, g, v7, v8, p17, p18, hD, _⟩ := h
  exact Block.cell hD.blk 19
/-- Both codes are there. -/
theorem DecR.taken {U : Nat → Prop} {w0 w w1 : World} {b : Nat} {s : PS} (h : DecR U w0 w b s) (ht : Touch (fun _ => False) w w1) {c1 q1 m1 c2 q2 m2 : Nat} {l1 l2 : List Nat} (hw1 : WholeN l1) (hw2 : WholeN l2) (hc1 : CodeAt w1 c1 l1 q1 m1) (hc2 : CodeAt w1 c2 l2 q2 m2) (hq1 : w.heap.size ≤ q1) (hq2 : w.heap.size ≤ q2) (hm1 : m1 ≤ w1.heap.size) (hm2 : m2 ≤ w1.heap.size) :
    DecR U w0 ((((((w1.setCell ⟨b, 17, none⟩ (.pointer (some ⟨c1, 0, none⟩))).setCell ⟨b, 18, none⟩ (.pointer (some ⟨c2, 0, none⟩))).setCell ⟨b, 19, none⟩ (.bool false)).setCell ⟨b, 16, none⟩ (.pointer none)).setCell ⟨b, 15, none⟩ (.slice none 0 0)).setCell ⟨b, 0, none⟩ (.int .i64 7)) b { s with v15 := .slice none 0 0, p16 := .pointer none, tl := none, fixed := false, cds := some (l1, l2), st := 7 } := by
  obtain ⟨v5, g, v7, v8, p17, p18, hD, hown, hT, hml, hl15⟩ := h.mlt5 ht
  have hB := Block.set (Block.set (Block.set (Block.set (Block.set (Block.set (hD.still ht).blk 17 (.pointer (some ⟨c1, 0, none⟩))) 18 (.pointer (some ⟨c2, 0, none⟩))) 19 (.bool false)) 16 (.pointer none)) 15 (.slice none 0 0)) 0 (.int .i64 7)
  have ht2 : Touch (fun k => k = b) w1 ((((((w1.setCell ⟨b, 17, none⟩ (.pointer (some ⟨c1, 0, none⟩))).setCell ⟨b, 18, none⟩ (.pointer (some ⟨c2, 0, none⟩))).setCell ⟨b, 19, none⟩ (.bool false)).setCell ⟨b, 16, none⟩ (.pointer none)).setCell ⟨b, 15, none⟩ (.slice none 0 0)).setCell ⟨b, 0, none⟩ (.int .i64 7)) := ((((((Touch.refl (fun k => k = b) w1).setCell (p := ⟨b, 17, none⟩) (Or.inl rfl) _).setCell (p := ⟨b, 18, none⟩) (Or.inl rfl) _).setCell (p := ⟨b, 19, none⟩) (Or.inl rfl) _).setCell (p := ⟨b, 16, none⟩) (Or.inl rfl) _).setCell (p := ⟨b, 15, none⟩) (Or.inl rfl) _).setCell (p := ⟨b, 0, none⟩) (Or.inl rfl) _
  generalize ((((((w1.setCell ⟨b, 17, none⟩ (.pointer (some ⟨c1, 0, none⟩))).setCell ⟨b, 18, none⟩ (.pointer (some ⟨c2, 0, none⟩))).setCell ⟨b, 19, none⟩ (.bool false)).setCell ⟨b, 16, none⟩ (.pointer none)).setCell ⟨b, 15, none⟩ (.slice none 0 0)).setCell ⟨b, 0, none⟩ (.int .i64 7)) = w2 at hB ht2 ⊢
  have ht3 : Touch (fun k => k = b) w w2 := (ht.mono (fun _ e => e.elim)).trans ht2
  obtain ⟨k1, k2, k3, k4, k5, k6, k7, k8, k9⟩ := hD.still ht
  have hb : b < w.heap.size := hml b (.inl rfl)
  have hno : ∀ k, (Value.slice none 0 0).ownBlock ≠ some k := fun k e => by simp [Value.ownBlock] at e
  refine DecR.step hown hT ht3 (fun k e => .inl (.inl e)) (fun k e => .inl e) ⟨hB, k2.kept ht2 (fun k e e2 => k5.1 (by rw [e, e2])), k3.kept ht2 (fun k e e2 => k5.2.1 (by rw [e, e2])), k4.kept ht2 (fun k e e2 => k5.2.2.1 (by rw [e, e2])), k5, ⟨fun lw ld hf => ?_, fun lt' hf => (by cases hf), fun g' hg => absurd hg (hno g'), ⟨rfl, rfl, rfl⟩⟩, ⟨(fun hf => (by cases hf)), fun lw ld hf => ?_, fun lt' hf => (by cases hf)⟩, k8, k9⟩
  · have h5 := Option.some.inj hf
    obtain ⟨rfl, rfl⟩ := Prod.mk.inj h5
    exact ⟨⟨c1, q1, m1, rfl, hc1.kept ht2 (fun k j1 j2 e => by omega), Nat.le_trans hm1 ht2.size, fun k j1 j2 => ⟨fun e => by have := hml k e; omega, hno k⟩⟩, ⟨c2, q2, m2, rfl, hc2.kept ht2 (fun k j1 j2 e => by omega), Nat.le_trans hm2 ht2.size, fun k j1 j2 => ⟨fun e => by have := hml k e; omega, hno k⟩⟩⟩
  · have h5 := Option.some.inj hf
    obtain ⟨rfl, rfl⟩ := Prod.mk.inj h5
    exact ⟨hw1, hw2⟩

set_option maxHeartbeats 2000000 in
/-- Behind both codes: what is wrong with the second one, or all is taken. -/
theorem itake_two {U : Nat → Prop} {w0 w : World} {b : Nat} {s : PS} {ls : List Nat} (h : DecL U w0 w b s ls) (hl : 256 < ls.length) (hl2 : ls.length < 1000) (z : Nat) (h0 : ls.getD 256 0 = z) (hz0 : z ≠ 0) (hli : s.lits < ls.length)
    (hwhy1 : whyN ((ls.take s.lits).map Int.ofNat) false = 0) (N9 : Nat) (hwhy : whyN ((ls.drop s.lits).map Int.ofNat) true = N9) :
    Calls Tryd.prog 147 #[.pointer (some ⟨b, 0, none⟩)] w fun e w' => e = .returned (.int .i64 (N9 : Nat)) ∧ DecR U w0 w' b (if N9 = 0 then { s with v15 := .slice none 0 0, p16 := .pointer none, tl := none, fixed := false, cds := some (ls.take s.lits, ls.drop s.lits), st := 7 } else s) := by
  obtain ⟨s', hs'⟩ : ∃ s', (if N9 = 0 then { s with v15 := .slice none 0 0, p16 := .pointer none, tl := none, fixed := false, cds := some (ls.take s.lits, ls.drop s.lits), st := 7 } else s : PS) = s' := ⟨_, rfl⟩
  rw [hs']
  have HS := Lib.hid hs'
  clear hs'
  have c15 := h.1.cell15
  have c12 := h.1.cell12
  obtain ⟨g, off, cap, hv, hcap, hmx, hgs, hc⟩ := h.2.1.reads.addr (by rw [intVs_length]; omega)
  have m256 := hc 256 _ (intVs_get2 ls 256 hl)
  rw [h0] at m256
  have hrd := h.2.1.reads
  rw [hv, intVs_length] at hrd c15
  rw [intVs_length] at hcap
  have hrd2 := hrd.upto (Nat.le_of_lt hli)
  rw [intVs_take] at hrd2
  have hrd3 := hrd.from' (Nat.le_of_lt hli)
  rw [intVs_drop] at hrd3
  have HN := Lib.hid (fun W (hW : Touch (fun _ => False) w W) => cnew_ok (ls.take s.lits) false hwhy1 _ W (hrd2.still hW))
  have HW := Lib.hid (And.intro hwhy1 hwhy)
  have HD := Lib.hid h.1
  obtain ⟨n, hn⟩ : ∃ n, n = ls.length := ⟨_, rfl⟩
  obtain ⟨L, hL⟩ : ∃ L, L = s.lits := ⟨_, rfl⟩
  rw [← hn] at c15 hl hl2 hcap hli hrd3
  rw [← hL] at c12 hli HN hrd3
  have e2 : ls.drop L = ls.drop s.lits := by rw [hL]
  rw [e2] at hrd3
  have HR3 := Lib.hid (And.intro hrd3 hL)
  clear e2
  have hnI : (256 : Int) < (n : Int) := by omega
  have hLI : (L : Int) ≤ (cap : Int) := by omega
  have hLn : (L : Int) ≤ (n : Int) := by omega
  have hcL : ¬ cap = L := by omega
  have hncI : (n : Int) ≤ (cap : Int) := by omega
  have hzi : ¬ (z : Int) = 0 := by omega
  clear h hv hmx hc hn hgs h0 hrd hrd2 hwhy hwhy1 hrd3 hL
  go_enter Tryd.func147, Tryd.ntmps147
  go_upto_region 3 with fail
  go_cut [3, 4] (fun v3 v4 wx => ∃ (c n0 : Nat) (W : World), W = wx ∧ v3 = .pointer (some ⟨c, 0, none⟩) ∧ v4 = .int .i64 0 ∧ w.heap.size ≤ n0 ∧ CodeAt W c (ls.take s.lits) n0 W.heap.size ∧ Touch (fun _ => False) w W)
  case first =>
    go_region_law (first
      | (go_simp; go_at_call 80; refine (HN.out _ ((Touch.refl _ _).drew)).mono ?_; rintro e w1 ⟨c, rfl, hc1, ht1⟩; have HT1 := Lib.hid (And.intro ((Touch.refl (fun _ => False) w).drew.trans ht1) (And.intro ((Touch.refl (fun _ => False) w).drew).size hc1)); rw [HR3.out.2] at HT1; clear ht1 hc1))
    all_goals
      go_wp2_with fail
      go_meet
      exact ⟨_, _, _, rfl, rfl, rfl, HT1.out.2.1, HT1.out.2.2, HT1.out.1⟩
  case rest =>
    obtain ⟨c1, q1, w3, hwx, hv3, hv4, hq1, hC1, hT1⟩ := hcut
    subst hv3 hv4 hwx
    have c15' := hT1.cell (p := ⟨b, 15, none⟩) c15 id
    have c12' := hT1.cell (p := ⟨b, 12, none⟩) c12 id
    have HC1 := Lib.hid (And.intro hq1 (And.intro hC1 hT1))
    clear c15 c12 m256 HN hq1 hC1 hT1
    go_upto_region 6 with fail
    by_cases h9 : N9 = 0
    · have hw9 := HW.out.2
      rw [h9] at hw9
      have HN2 := Lib.hid (fun W (hW : Touch (fun _ => False) w3 W) => cnew_ok (ls.drop s.lits) true hw9 _ W (HR3.out.1.still (HC1.out.2.2.trans hW)))
      subst h9
      clear hw9
      go_cut [5, 4] (fun v5 v4 wx => ∃ (c2 n2 : Nat) (W : World), W = wx ∧ v5 = .pointer (some ⟨c2, 0, none⟩) ∧ v4 = .int .i64 0 ∧ w3.heap.size ≤ n2 ∧ CodeAt W c2 (ls.drop s.lits) n2 W.heap.size ∧ Touch (fun _ => False) w3 W)
      case first =>
        go_region_law (first
          | (go_simp; go_at_call 80; refine (HN2.out _ ((Touch.refl _ _).drew)).mono ?_; rintro e w1 ⟨c, rfl, hc1, ht1⟩; have HT1 := Lib.hid (And.intro ((Touch.refl (fun _ => False) w3).drew.trans ht1) (And.intro ((Touch.refl (fun _ => False) w3).drew).size hc1)); clear ht1 hc1))
        all_goals
          go_wp2_with fail
          go_meet
          exact ⟨_, _, _, rfl, rfl, rfl, HT1.out.2.1, HT1.out.2.2, HT1.out.1⟩
      case rest =>
        obtain ⟨c2, q2, w4, hwx, hv5, hv4, hq2, hC2, hT2⟩ := hcut
        subst hv5 hv4 hwx
        have hT4 := HC1.out.2.2.trans hT2
        have hR4 := HD.out.still hT4
        obtain ⟨x17, m17⟩ := hR4.cell17
        have g17 := hR4.free 17
        obtain ⟨x18, m18⟩ := hR4.cell18
        have g18 := hR4.free 18
        have m19 := hR4.cell19
        have g19 := hR4.free 19
        have m16 := hR4.cell16p
        have g16 := hR4.free 16
        have m15 := hR4.cell15
        have g15 := hR4.free 15
        have m0 := hR4.cell0
        have g0 := hR4.free 0
        have hF := HD.out.taken hT4 (whole_why _ _ HW.out.1) (whole_why _ _ HW.out.2) (HC1.out.2.1.kept hT2 (fun _ _ _ => id)) hC2 HC1.out.1 (Nat.le_trans HC1.out.2.2.size hq2) hT2.size (Nat.le_refl _)
        have hS := HS.out
        rw [if_pos rfl] at hS
        rw [hS] at hF
        have HF := Lib.hid hF
        clear hC2 hT2 hT4 hR4 hF hS hq2 HN2 HC1 c15' c12'
        go_wp2_with fail
        go_ret
        exact ⟨rfl, HF.out⟩
    · have hN9i : ¬ (N9 : Int) = 0 := by omega
      have HN2 := Lib.hid (fun W (hW : Touch (fun _ => False) w3 W) => cnew_bad (ls.drop s.lits) true N9 HW.out.2 h9 _ W (HR3.out.1.still (HC1.out.2.2.trans hW)))
      have hS := HS.out
      rw [if_neg h9] at hS
      have HR5 := HD.out
      rw [hS] at HR5
      have HS5 := Lib.hid HR5
      clear h9 hS HR5
      go_cut [5, 4] (fun v5 v4 wx => (v5 = .pointer none ∧ v4 = .int .i64 (N9 : Nat)) ∧ Touch (fun _ => False) w3 wx)
      case first =>
        go_region_law (first
          | (go_simp; go_at_call 80; refine (HN2.out _ ((Touch.refl _ _).drew)).mono ?_; rintro e w1 ⟨rfl, ht1⟩; have HT1 := Lib.hid ((Touch.refl (fun _ => False) w3).drew.trans ht1); clear ht1))
        all_goals
          go_wp2_with fail
          go_meet
          exact ⟨⟨rfl, rfl⟩, HT1.out⟩
      case rest =>
        obtain ⟨⟨hv5, hv4⟩, hT2⟩ := hcut
        subst hv5 hv4
        have HF := Lib.hid (HS5.out.still (HC1.out.2.2.trans hT2))
        clear hT2 c15' c12' HN2 HC1
        go_wp2_with fail
        go_ret
        exact ⟨rfl, HF.out⟩
end Go.Proofs.YtoaeffinjpkahaaDoor
/- A decoder: the next symbol of a code; readTeller. -/
namespace Go.Proofs.YtoaeffinjpkahaaDoor
set_option linter.unusedSimpArgs false
set_option linter.unusedVariables false
open Go Go.RowKit
set_option maxRecDepth 100000

/-- One word at most begins some bits. -/
theorem found_one (ls l : List Nat) (h15 : ∀ x ∈ ls, x ≤ 15) (hk : kraftN ls ≤ 32768) (h2 : ∀ x ∈ l, x < 2) {s t : Nat} (hs : FoundAt ls l s) (ht : FoundAt ls l t) : s = t := by
  obtain ⟨s1, s2, s3, s4⟩ := hs
  obtain ⟨t1, t2, t3, t4⟩ := ht
  have hcs := code_fits ls s s1 s2 h15 hk
  have hct := code_fits ls t t1 t2 h15 hk
  exact one_begins ls h15 l s1 t1 s2 t2 s3 ((begins_iff l h2 _ _ s3 hcs).1 s4) t3 ((begins_iff l h2 _ _ t3 hct).1 t4)

/-- What comes next by a code. -/
inductive Nx
  | sym (t : Nat)
  | more
  | bad
open Classical in
noncomputable def nextP (ls l : List Nat) : Nx := if h : ∃ t, FoundAt ls l t then .sym (Classical.choose h) else if ComesAt ls l then .more else .bad
theorem nextP_sym {ls l : List Nat} {t : Nat} (h : nextP ls l = .sym t) : FoundAt ls l t := by
  unfold nextP at h
  split at h
  · rename_i h1
    injection h with h
    rw [← h]
    exact Classical.choose_spec h1
  · split at h <;> cases h
theorem nextP_more {ls l : List Nat} (h : nextP ls l = .more) : (∀ t, ¬ FoundAt ls l t) ∧ ComesAt ls l := by
  unfold nextP at h
  split at h
  · cases h
  · rename_i h1
    split at h
    · rename_i h2
      exact ⟨fun t ht => h1 ⟨t, ht⟩, h2⟩
    · cases h
theorem nextP_bad {ls l : List Nat} (h : nextP ls l = .bad) : (∀ t, ¬ FoundAt ls l t) ∧ ¬ ComesAt ls l := by
  unfold nextP at h
  split at h
  · cases h
  · rename_i h1
    split at h
    · cases h
    · rename_i h2
      exact ⟨fun t ht => h1 ⟨t, ht⟩, h2⟩

theorem code_one {w : World} {c n0 n1 : Nat} {ls l : List Nat} (h : CodeAt w c ls n0 n1) (h2 : ∀ x ∈ l, x < 2) {s t : Nat} (hs : FoundAt ls l s) (ht : FoundAt ls l t) : s = t := found_one ls l h.h15 h.hk h2 hs ht

theorem DecM.nextp {w : World} {b : Nat} {s : PS} {v5 v7 v8 p17 p18 p : Value} {g : Nat} {L : Option Nat} {ls : List Nat} (h : DecM w b s v5 g v7 v8 p17 p18) (hC : CodeV w b v5 v7 v8 L p ls) (hW : WholeN ls) :
    (∀ t, nextP ls s.bits = .sym t → Calls Tryd.prog 126 #[p, .pointer (some ⟨b, 5, none⟩)] w fun e w' => e = .returned (.tuple #[.int .i64 (t : Nat), .int .i64 0]) ∧ (∃ v5' g', DecM w' b { s with bits := s.bits.drop (ls.getD t 0) } v5' g' v7 v8 p17 p18 ∧ v5'.ownBlock = v5.ownBlock) ∧ Touch (fun k => k = b) w w') ∧
    (nextP ls s.bits = .more → Calls Tryd.prog 126 #[p, .pointer (some ⟨b, 5, none⟩)] w fun e w' => e = .returned (.tuple #[.int .i64 0, .int .i64 2]) ∧ Touch (fun _ => False) w w') ∧
    (nextP ls s.bits = .bad → Calls Tryd.prog 126 #[p, .pointer (some ⟨b, 5, none⟩)] w fun e w' => e = .returned (.tuple #[.int .i64 0, .int .i64 4]) ∧ Touch (fun _ => False) w w') := by
  obtain ⟨cb, n0, n1, rfl, hC, hn, hdis⟩ := hC
  have hN := next_calls cb n0 n1 ls b 5 s.bits _ w hC hW (rd_at h.blk h.rd h.ap.1) h.l2 (by have := h.lb.1; omega) (fun e => (hdis b e.1 e.2).1 (.inl rfl))
  refine ⟨fun t ht => ?_, fun hm => ?_, fun hm => ?_⟩
  · have hF := nextP_sym ht
    refine hN.mono ?_
    rintro e w' (⟨t', ht', he, hR, hT⟩ | ⟨hno, _⟩ | ⟨hno, _⟩)
    · obtain rfl := code_one hC h.l2 hF ht'
      obtain ⟨v5', g', hD, ho⟩ := h.read hR hT ⟨_, rfl⟩
      exact ⟨he, ⟨v5', g', hD, ho⟩, hT⟩
    · exact absurd hF (hno t)
    · exact absurd hF (hno t)
  · obtain ⟨m1, m2⟩ := nextP_more hm
    refine hN.mono ?_
    rintro e w' (⟨t', ht', _⟩ | ⟨_, _, he, _, hT⟩ | ⟨_, hc, _⟩)
    · exact absurd ht' (m1 t')
    · exact ⟨he, hT⟩
    · exact absurd m2 hc
  · obtain ⟨m1, m2⟩ := nextP_bad hm
    refine hN.mono ?_
    rintro e w' (⟨t', ht', _⟩ | ⟨_, hc, _⟩ | ⟨_, _, he, _, hT⟩)
    · exact absurd ht' (m1 t')
    · exact absurd hc m2
    · exact ⟨he, hT⟩

/-- The teller's next symbol. -/
theorem DecR.ntel {U : Nat → Prop} {w0 w : World} {b : Nat} {s : PS} (h : DecR U w0 w b s) {lt : List Nat} (hf : s.tl = some lt) :
    (∃ a, s.p16 = .pointer (some a)) ∧
    (∀ t, nextP lt s.bits = .sym t → Calls Tryd.prog 126 #[s.p16, .pointer (some ⟨b, 5, none⟩)] w fun e w' => e = .returned (.tuple #[.int .i64 (t : Nat), .int .i64 0]) ∧ DecR U w0 w' b { s with bits := s.bits.drop (lt.getD t 0) } ∧ Touch (fun k => k = b) w w') ∧
    (nextP lt s.bits = .more → Calls Tryd.prog 126 #[s.p16, .pointer (some ⟨b, 5, none⟩)] w fun e w' => e = .returned (.tuple #[.int .i64 0, .int .i64 2]) ∧ Touch (fun _ => False) w w') ∧
    (nextP lt s.bits = .bad → Calls Tryd.prog 126 #[s.p16, .pointer (some ⟨b, 5, none⟩)] w fun e w' => e = .returned (.tuple #[.int .i64 0, .int .i64 4]) ∧ Touch (fun _ => False) w w') := by
  obtain ⟨v5, g, v7, v8, p17, p18, hD, hown, hT⟩ := h
  have hC := hD.cod.tel lt hf
  obtain ⟨n1, n2, n3⟩ := hD.nextp hC (hD.fx.2.2 lt hf)
  refine ⟨?_, fun t ht => (n1 t ht).mono ?_, n2, n3⟩
  · obtain ⟨c, _, _, hp, _⟩ := hC
    exact ⟨_, hp⟩
  · rintro e w' ⟨he, ⟨v5', g', hD1, ho⟩, hT1⟩
    exact ⟨he, DecR.step hown hT hT1 (fun k e => .inl (.inl e)) (fun k e => .inl (mut_same ho e)) hD1, hT1⟩

set_option maxHeartbeats 2000000 in
theorem itel_more {U : Nat → Prop} {w0 w : World} {b : Nat} {s : PS} {ls : List Nat} (h : DecL U w0 w b s ls) {lt : List Nat} (hf : s.tl = some lt) (r : Nat) (hr : nextP lt s.bits = .more ∧ r = 2 ∨ nextP lt s.bits = .bad ∧ r = 4) :
    Calls Tryd.prog 94 #[.pointer (some ⟨b, 0, none⟩)] w fun e w' => e = .returned (.int .i64 (r : Nat)) ∧ DecL U w0 w' b s ls := by
  have hN : Calls Tryd.prog 126 #[s.p16, .pointer (some ⟨b, 5, none⟩)] w.drew fun e w' => e = .returned (.tuple #[.int .i64 0, .int .i64 (r : Nat)]) ∧ Touch (fun _ => False) w.drew w' := by
    obtain ⟨_, _, n2, n3⟩ := (h.1.still (Touch.refl (fun _ => False) w).drew).ntel hf
    rcases hr with ⟨h1, rfl⟩ | ⟨h1, rfl⟩
    · exact n2 h1
    · exact n3 h1
  have c16 := h.1.cell16p
  obtain ⟨⟨a, ha⟩, _⟩ := h.1.ntel hf
  rw [ha] at c16 hN
  have HN := Lib.hid hN
  have HD := Lib.hid h
  have hr0 : ¬ (r : Int) = 0 := by omega
  clear h hf hr hN ha
  go_enter Tryd.func94, Tryd.ntmps94
  go_upto_region 1 with fail
  go_region_law (first
    | (go_simp; go_at_call 126; refine HN.out.mono ?_; rintro e w1 ⟨rfl, ht1⟩; have HT1 := Lib.hid ((Touch.refl (fun _ => False) w).drew.trans ht1); clear ht1))
  all_goals
    go_wp2_with fail
    go_ret
    exact ⟨rfl, HD.out.still HT1.out⟩

set_option maxHeartbeats 2000000 in
theorem itel_sym {U : Nat → Prop} {w0 w : World} {b : Nat} {s : PS} {ls : List Nat} (h : DecL U w0 w b s ls) {lt : List Nat} (hf : s.tl = some lt) (t : Nat) (ht : nextP lt s.bits = .sym t) (Q : Int → World → Prop)
    (h1 : t < 16 → ∀ W, DecL U w0 W b { s with bits := s.bits.drop (lt.getD t 0) } ls → Calls Tryd.prog 127 #[.pointer (some ⟨b, 0, none⟩), .int .i64 (t : Nat), .int .i64 1] W fun e w' => ∃ r, e = .returned (.int .i64 r) ∧ Q r w')
    (h2 : t = 16 → ls = [] → ∀ W, DecL U w0 W b { s with bits := s.bits.drop (lt.getD t 0) } ls → Q 3 W)
    (h3 : 16 ≤ t → ¬ (t = 16 ∧ ls = []) → ∀ W, DecL U w0 W b { s with bits := s.bits.drop (lt.getD t 0), sym := t, st := 6 } ls → Q 0 W) :
    Calls Tryd.prog 94 #[.pointer (some ⟨b, 0, none⟩)] w fun e w' => ∃ r, e = .returned (.int .i64 r) ∧ Q r w' := by
  have hN0 := ((h.1.still (Touch.refl (fun _ => False) w).drew).ntel hf).2.1 t ht
  have c16 := h.1.cell16p
  obtain ⟨⟨a, ha⟩, _⟩ := h.1.ntel hf
  have hN : Calls Tryd.prog 126 #[.pointer (some a), .pointer (some ⟨b, 5, none⟩)] w.drew fun e w' => e = .returned (.tuple #[.int .i64 (t : Nat), .int .i64 0]) ∧ DecR U w0 w' b { s with bits := s.bits.drop (lt.getD t 0) } ∧ Touch (fun k => k = b) w.drew w' := by
    rw [← ha]
    exact hN0
  rw [ha] at c16
  clear hN0
  have HN := Lib.hid hN
  have HD := Lib.hid h
  have HQ := Lib.hid (And.intro h1 (And.intro h2 h3))
  obtain ⟨q, hq⟩ : ∃ q, lt.getD t 0 = q := ⟨_, rfl⟩
  rw [hq] at HN HQ
  clear h hf hN ha h1 h2 h3 ht hq
  by_cases ht1 : t < 16
  · have hti : (t : Int) < 16 := by omega
    go_enter Tryd.func94, Tryd.ntmps94
    go_upto_region 1 with fail
    go_region_law (first
      | (go_simp; go_at_call 126; refine HN.out.mono ?_; rintro e w1 ⟨rfl, hR1, ht1⟩; have H1 := Lib.hid (HD.out.keep hR1 rfl ((Touch.refl (fun k => k = b) w).drew.trans ht1)); clear hR1 ht1))
    all_goals
      go_wp2_with fail
      refine (HQ.out.1 ht1 _ H1.out).mono ?_
      rintro e w2 ⟨r, rfl, hQ⟩
      have HQQ := Lib.hid hQ
      clear hQ
      go_wp2_with fail
      go_ret
      exact ⟨r, rfl, HQQ.out⟩
  · have hti : ¬ (t : Int) < 16 := by omega
    by_cases ht2 : t = 16
    · subst ht2
      obtain ⟨a5, m5, hv5, hm5, hm6⟩ := HD.out.2.1.form
      rw [intVs_length] at hv5
      have HV := Lib.hid hv5
      obtain ⟨L, hL⟩ : ∃ L, L = ls.length := ⟨_, rfl⟩
      have HL := Lib.hid hL
      clear hv5 hm5 hm6 hL
      by_cases hl0 : L = 0
      · subst hl0
        have hls : ls = [] := List.length_eq_zero_iff.1 HL.out.symm
        have HLS := Lib.hid hls
        clear hls
        go_enter Tryd.func94, Tryd.ntmps94
        go_upto_region 1 with fail
        go_region_law (first
          | (go_simp; go_at_call 126; refine HN.out.mono ?_; rintro e w1 ⟨rfl, hR1, ht1⟩; have k15 := hR1.cell15; change w1.cell? ⟨b, 15, none⟩ = some s.v15 at k15; rw [HV.out, ← HL.out] at k15; have H1 := Lib.hid (HD.out.keep hR1 rfl ((Touch.refl (fun k => k = b) w).drew.trans ht1)); clear hR1 ht1))
        all_goals
          go_wp2_with fail
          go_ret
          exact ⟨3, rfl, HQ.out.2.1 (by first | rfl | trivial) HLS.out _ H1.out⟩
      · have hLi : ¬ (L : Int) = 0 := by omega
        have hls : ¬ ls = [] := fun e => hl0 (by rw [HL.out, e]; rfl)
        have HLS := Lib.hid hls
        clear hls
        go_enter Tryd.func94, Tryd.ntmps94
        go_upto_region 1 with fail
        go_region_law (first
          | (go_simp; go_at_call 126; refine HN.out.mono ?_; rintro e w1 ⟨rfl, hR1, ht1⟩; have k15 := hR1.cell15; change w1.cell? ⟨b, 15, none⟩ = some s.v15 at k15; rw [HV.out, ← HL.out] at k15; have k20 := hR1.cell20; have g20 := hR1.free 20; have k0 := hR1.cell0; have g0 := hR1.free 0; have H1 := Lib.hid (HD.out.keep ((hR1.set20 16).set0 6) rfl ((((Touch.refl (fun k => k = b) w).drew.trans ht1).setCell (p := ⟨b, 20, none⟩) (Or.inl rfl) _).setCell (p := ⟨b, 0, none⟩) (Or.inl rfl) _)); clear hR1 ht1))
        all_goals
          go_wp2_with fail
          go_ret
          exact ⟨0, rfl, HQ.out.2.2 (Nat.le_refl _) (fun e => HLS.out e.2) _ H1.out⟩
    · have hti2 : ¬ (t : Int) = 16 := by omega
      go_enter Tryd.func94, Tryd.ntmps94
      go_upto_region 1 with fail
      go_region_law (first
        | (go_simp; go_at_call 126; refine HN.out.mono ?_; rintro e w1 ⟨rfl, hR1, ht1⟩; have k20 := hR1.cell20; have g20 := hR1.free 20; have k0 := hR1.cell0; have g0 := hR1.free 0; have H1 := Lib.hid (HD.out.keep ((hR1.set20 t).set0 6) rfl ((((Touch.refl (fun k => k = b) w).drew.trans ht1).setCell (p := ⟨b, 20, none⟩) (Or.inl rfl) _).setCell (p := ⟨b, 0, none⟩) (Or.inl rfl) _)); clear hR1 ht1))
      all_goals
        go_wp2_with fail
        go_ret
        exact ⟨0, rfl, HQ.out.2.2 (by omega) (fun e => ht2 e.1) _ H1.out⟩
end Go.Proofs.YtoaeffinjpkahaaDoor
/- A decoder: readRepeat. -/
namespace Go.Proofs.YtoaeffinjpkahaaDoor
set_option linter.unusedSimpArgs false
set_option linter.unusedVariables false
open Go Go.RowKit
set_option maxRecDepth 100000

theorem iread_touch {U : Nat → Prop} {w0 w : World} {b : Nat} {s : PS} {ls : List Nat} (h : DecL U w0 w b s ls) (n : Nat) (hn : n ≤ 32) (hl : n ≤ s.bits.length) :
    Calls Tryd.prog 67 #[.pointer (some ⟨b, 5, none⟩), .int .i64 (n : Nat)] w fun e w' => e = .returned (.tuple #[.int .u64 (numN (s.bits.take n) : Nat), .bool true]) ∧ DecL U w0 w' b { s with bits := s.bits.drop n } ls ∧ Touch (fun k => k = b) w w' := by
  have h0 := h
  obtain ⟨⟨v5, g, v7, v8, p17, p18, hD, hown, hT⟩, _⟩ := h
  refine (read_some b 5 n s.bits _ w (rd_at hD.blk hD.rd hD.ap.1) (by have := hD.lb.1; omega) hn hl).mono ?_
  rintro e w1 ⟨he, hR1, hT1⟩
  obtain ⟨v5', g', hD1, ho⟩ := hD.read hR1 hT1 ⟨_, rfl⟩
  exact ⟨he, h0.keep (DecR.step hown hT hT1 (fun k e => .inl (.inl e)) (fun k e => .inl (mut_same ho e)) hD1) rfl hT1, hT1⟩

/-- Of the symbols from 16 on: how often at least, and how many bits. -/
def repM (k : Nat) : Nat := if k = 18 then 11 else 3
def repB (k : Nat) : Nat := if k = 16 then 2 else if k = 17 then 3 else 7
theorem rep_cells {w : World} (h : TabsI w) (k : Nat) (hk : k = 16 ∨ k = 17 ∨ k = 18) : w.cell? ⟨2, 2 * (k - 16), none⟩ = some (.int .i64 (repM k : Nat)) ∧ w.cell? ⟨2, 2 * (k - 16) + 1, none⟩ = some (.int .i64 (repB k : Nat)) := by
  rcases hk with rfl | rfl | rfl
  · exact ⟨h.rep 0 3 rfl, h.rep 1 2 rfl⟩
  · exact ⟨h.rep 2 3 rfl, h.rep 3 3 rfl⟩
  · exact ⟨h.rep 4 11 rfl, h.rep 5 7 rfl⟩

set_option maxHeartbeats 2000000 in
theorem irep_more {U : Nat → Prop} {w0 w : World} {b : Nat} {s : PS} {ls : List Nat} (h : DecL U w0 w b s ls) (h0 : TabsI w0) (hU1 : ¬ U 1) (hU2 : ¬ U 2) (k : Nat) (hk : s.sym = k) (hk3 : k = 16 ∨ k = 17 ∨ k = 18) (hbits : s.bits.length < repB k) :
    Calls Tryd.prog 95 #[.pointer (some ⟨b, 0, none⟩)] w fun e w' => e = .returned (.int .i64 2) ∧ DecL U w0 w' b s ls := by
  have c20 := h.1.cell20
  rw [hk] at c20
  obtain ⟨t1, t2⟩ := rep_cells (h.1.tabs h0 hU1 hU2) k hk3
  obtain ⟨M, hM⟩ : ∃ M, repM k = M := ⟨_, rfl⟩
  obtain ⟨B, hB⟩ : ∃ B, repB k = B := ⟨_, rfl⟩
  have hB7 : B ≤ 7 := by rw [← hB]; unfold repB; split; decide; split <;> decide
  rw [hM] at t1
  rw [hB] at t2 hbits
  have HR := Lib.hid (fun W (hW : Touch (fun _ => False) w W) => iread_less (h.still hW).1 B (by omega) hbits)
  have HD := Lib.hid h
  clear h h0 hU1 hU2 hk hbits hM hB
  rcases hk3 with rfl | rfl | rfl
  all_goals
    go_enter Tryd.func95, Tryd.ntmps95
    go_upto_region 2 with fail
    have HT2 := Lib.hid ((Touch.refl (fun _ => False) w).alloc (.cells #[.int .i64 (M : Nat), .int .i64 (B : Nat)] 173))
    go_region_law (first
      | (go_simp; go_at_call 67; refine (HR.out _ HT2.out.drew).mono ?_; rintro e w1 ⟨rfl, rfl⟩; have HT1 := Lib.hid (HT2.out.drew.drew)))
    all_goals
      go_wp2_with fail
      go_ret
      exact ⟨rfl, HD.out.still HT1.out⟩
set_option maxHeartbeats 2000000 in
theorem irep_ok {U : Nat → Prop} {w0 w : World} {b : Nat} {s : PS} {ls : List Nat} (h : DecL U w0 w b s ls) (h0 : TabsI w0) (hU1 : ¬ U 1) (hU2 : ¬ U 2) (k : Nat) (hk : s.sym = k) (hk3 : k = 16 ∨ k = 17 ∨ k = 18) (hbits : repB k ≤ s.bits.length)
    (hl : ls.length < 1000) (hne : k = 16 → ls ≠ []) (N : Nat) (hN : numN (s.bits.take (repB k)) = N) (hN2 : N < 128) (Q : Int → World → Prop)
    (hadd : ∀ W, DecL U w0 W b { s with bits := s.bits.drop (repB k) } ls → Calls Tryd.prog 127 #[.pointer (some ⟨b, 0, none⟩), .int .i64 ((if k = 16 then ls.getD (ls.length - 1) 0 else 0 : Nat) : Nat), .int .i64 ((repM k + N : Nat) : Nat)] W fun e w' => ∃ r, e = .returned (.int .i64 r) ∧ Q r w') :
    Calls Tryd.prog 95 #[.pointer (some ⟨b, 0, none⟩)] w fun e w' => ∃ r, e = .returned (.int .i64 r) ∧ Q r w' := by
  have c20 := h.1.cell20
  rw [hk] at c20
  obtain ⟨t1, t2⟩ := rep_cells (h.1.tabs h0 hU1 hU2) k hk3
  obtain ⟨M, hM⟩ : ∃ M, repM k = M := ⟨_, rfl⟩
  obtain ⟨B, hB⟩ : ∃ B, repB k = B := ⟨_, rfl⟩
  have hB7 : B ≤ 7 := by rw [← hB]; unfold repB; split; decide; split <;> decide
  have hM11 : M ≤ 11 := by rw [← hM]; unfold repM; split <;> decide
  rw [hM] at t1 hadd
  rw [hB] at t2 hbits hN hadd
  have hNb : N < 128 := hN2
  have hread : ∀ W, Touch (fun _ => False) w W → _ := fun W hW => iread_touch (h.still hW) B (by omega) hbits
  rw [hN] at hread
  have HR := Lib.hid hread
  have HQ := Lib.hid hadd
  obtain ⟨MN, hMN⟩ : ∃ MN, MN = M + N := ⟨_, rfl⟩
  rw [← hMN] at HQ
  have hadd3 : (M : Int) + (N : Int) = (MN : Int) := by omega
  have hMNb : MN < 1000 := by omega
  have hMb : (M : Int) ≤ 11 := by omega
  clear hMN
  have HSY := Lib.hid hk
  have HBX := Lib.hid (And.intro (Block.new w 173 [.int .i64 (M : Nat), .int .i64 (B : Nat)]) h.1.blt)
  obtain ⟨s2, hs2⟩ : ∃ s2 : PS, { s with bits := s.bits.drop B } = s2 := ⟨_, rfl⟩
  have hs20 : s2.sym = s.sym ∧ s2.v15 = s.v15 := by rw [← hs2]; exact ⟨rfl, rfl⟩
  rw [hs2] at HR HQ
  have HS2 := Lib.hid hs20
  clear h0 hU1 hU2 hbits hM hB hread hadd hN hs2 hs20 hk
  rcases hk3 with rfl | rfl | rfl
  · have hls := hne rfl
    obtain ⟨L, hL⟩ : ∃ L, L = ls.length := ⟨_, rfl⟩
    have hL1 : 1 ≤ L := by
      rw [hL]
      rcases ls with _ | ⟨x, l⟩
      · exact absurd rfl hls
      · simp
    have HL := Lib.hid hL
    obtain ⟨J, hJ⟩ : ∃ J, J = ls.length - 1 := ⟨_, rfl⟩
    have hLm : (L : Int) - 1 = (J : Int) := by omega
    have hJL : (J : Int) < (L : Int) := by omega
    have hJb : (J : Int) < 1000 := by omega
    have HJ := Lib.hid hJ
    clear h hls hne hL hl hJ
    rw [if_pos rfl] at HQ
    obtain ⟨x, hx⟩ : ∃ x, ls.getD (ls.length - 1) 0 = x := ⟨_, rfl⟩
    rw [hx] at HQ
    have HX := Lib.hid hx
    clear hx
    go_enter Tryd.func95, Tryd.ntmps95
    go_upto_region 2 with fail
    have HT2 := Lib.hid ((Touch.refl (fun _ => False) w).alloc (.cells #[.int .i64 (M : Nat), .int .i64 (B : Nat)] 173))
    go_region_law (first
      | (go_simp; go_at_call 67; refine (HR.out _ HT2.out.drew).mono ?_; rintro e w1 ⟨rfl, hL1, hT1⟩; have hB1 := (Block.drew HBX.out.1).kept hT1 (fun e => by have := HBX.out.2; omega); have kM := Block.cell hB1 0; have k20 := hL1.1.cell20; rw [HS2.out.1, HSY.out] at k20; have k15 := hL1.1.cell15; obtain ⟨gx, ox, cx, hv, _, _, _, hcx⟩ := hL1.2.1.reads.addr (by rw [intVs_length, ← HL.out]; omega); rw [hv, intVs_length, ← HL.out] at k15; have mx := hcx (ls.length - 1) _ (intVs_get2 ls (ls.length - 1) (by have := HL.out; omega)); rw [HX.out, ← HJ.out] at mx; have HL1 := Lib.hid hL1; clear hL1 hT1 hB1 hv hcx))
    all_goals
      go_upto_region 7 with fail
      go_region
      go_wp2_with fail
      refine (HQ.out _ (HL1.out.still (Touch.refl _ _).drew)).mono ?_
      rintro e w2 ⟨r, rfl, hQ⟩
      have HQQ := Lib.hid hQ
      clear hQ
      go_wp2_with fail
      go_ret
      exact ⟨r, rfl, HQQ.out⟩
  · rw [if_neg (by decide)] at HQ
    clear h hne hl
    go_enter Tryd.func95, Tryd.ntmps95
    go_upto_region 2 with fail
    have HT2 := Lib.hid ((Touch.refl (fun _ => False) w).alloc (.cells #[.int .i64 (M : Nat), .int .i64 (B : Nat)] 173))
    go_region_law (first
      | (go_simp; go_at_call 67; refine (HR.out _ HT2.out.drew).mono ?_; rintro e w1 ⟨rfl, hL1, hT1⟩; have hB1 := (Block.drew HBX.out.1).kept hT1 (fun e => by have := HBX.out.2; omega); have kM := Block.cell hB1 0; have k20 := hL1.1.cell20; rw [HS2.out.1, HSY.out] at k20; have HL1 := Lib.hid hL1; clear hL1 hT1 hB1))
    all_goals
      go_wp2_with fail
      refine (HQ.out _ HL1.out).mono ?_
      rintro e w2 ⟨r, rfl, hQ⟩
      have HQQ := Lib.hid hQ
      clear hQ
      go_wp2_with fail
      go_ret
      exact ⟨r, rfl, HQQ.out⟩
  · rw [if_neg (by decide)] at HQ
    clear h hne hl
    go_enter Tryd.func95, Tryd.ntmps95
    go_upto_region 2 with fail
    have HT2 := Lib.hid ((Touch.refl (fun _ => False) w).alloc (.cells #[.int .i64 (M : Nat), .int .i64 (B : Nat)] 173))
    go_region_law (first
      | (go_simp; go_at_call 67; refine (HR.out _ HT2.out.drew).mono ?_; rintro e w1 ⟨rfl, hL1, hT1⟩; have hB1 := (Block.drew HBX.out.1).kept hT1 (fun e => by have := HBX.out.2; omega); have kM := Block.cell hB1 0; have k20 := hL1.1.cell20; rw [HS2.out.1, HSY.out] at k20; have HL1 := Lib.hid hL1; clear hL1 hT1 hB1))
    all_goals
      go_wp2_with fail
      refine (HQ.out _ HL1.out).mono ?_
      rintro e w2 ⟨r, rfl, hQ⟩
      have HQQ := Lib.hid hQ
      clear hQ
      go_wp2_with fail
      go_ret
      exact ⟨r, rfl, HQQ.out⟩
end Go.Proofs.YtoaeffinjpkahaaDoor

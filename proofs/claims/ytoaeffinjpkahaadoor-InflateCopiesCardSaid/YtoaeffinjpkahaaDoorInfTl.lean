/- A decoder: what else its parts may come to: fixed codes that are at hand, sizes that don't fit, symbols that are none, distances that are too far. -/
import Derived.Test.YtoaeffinjpkahaaDoorInfTh
import Derived.Test.YtoaeffinjpkahaaDoorInfS
import Derived.Test.YtoaeffinjpkahaaDoorInfSc
namespace Go.Proofs.YtoaeffinjpkahaaDoor
set_option linter.unusedSimpArgs false
set_option linter.unusedVariables false
open Go Go.RowKit
set_option maxRecDepth 100000

theorem ifixed_skip {U : Nat → Prop} {w0 w : World} {b : Nat} {s : PS} (h : DecR U w0 w b s) (hf : s.fixed = true) : Calls Tryd.prog 123 #[.pointer (some ⟨b, 0, none⟩)] w fun e w' => e = .returned (.tuple #[]) ∧ w = w' := by
  have c19 := h.cell19
  rw [hf] at c19
  clear h hf
  go_enter Tryd.func123, Tryd.ntmps123
  go_wp2_with fail
  refine bodyPost_ret (results_none rfl _ _ _) rfl ?_
  exact ⟨rfl, rfl⟩

set_option maxHeartbeats 2000000 in
theorem iblock_fixed2 {U : Nat → Prop} {w0 w : World} {b : Nat} {s : PS} (h : DecR U w0 w b s) {x0 : Nat} {l : List Nat} (hb : s.bits = x0 :: 1 :: 0 :: l) (hf : s.fixed = true) :
    Calls Tryd.prog 89 #[.pointer (some ⟨b, 0, none⟩)] w fun e w' => e = .returned (.int .i64 0) ∧ DecR U w0 w' b { s with bits := l, last := x0 == 1, st := 7 } := by
  have hx0 : x0 < 2 := h.bits_lt.2 x0 (by rw [hb]; exact List.mem_cons_self)
  have hread := iread_calls h 3 (by decide) (by rw [hb]; simp)
  have hnum : numN (s.bits.take 3) = x0 + 2 := by
    rw [hb]
    rcases (show x0 = 0 ∨ x0 = 1 by omega) with rfl | rfl <;> rfl
  have hdrop : s.bits.drop 3 = l := by rw [hb]; rfl
  rw [hnum, hdrop] at hread
  have HR := Lib.hid hread
  have HF := Lib.hid hf
  have q0 : bits .and .u64 2 1 = 0 := by decide
  have q1 : bits .and .u64 3 1 = 1 := by decide
  clear hread hnum hdrop hb h hf
  rcases (show x0 = 0 ∨ x0 = 1 by omega) with rfl | rfl
  all_goals
    go_enter Tryd.func89, Tryd.ntmps89
    go_wp2_with fail
    refine HR.out.mono ?_
    rintro e w1 ⟨rfl, hR1⟩
    have m10 := hR1.cell10
    have g10 := hR1.free 10
    have H1 := Lib.hid hR1
    clear hR1 HR
    go_wp2_with fail
  · refine (ifixed_skip (H1.out.set10 false) HF.out).mono ?_
    rintro e w2 ⟨rfl, rfl⟩
    have m0 := (H1.out.set10 false).cell0
    have g0 := (H1.out.set10 false).free 0
    have H2 := Lib.hid ((H1.out.set10 false).set0 7)
    go_wp2_with fail
    go_ret
    exact ⟨rfl, H2.out⟩
  · refine (ifixed_skip (H1.out.set10 true) HF.out).mono ?_
    rintro e w2 ⟨rfl, rfl⟩
    have m0 := (H1.out.set10 true).cell0
    have g0 := (H1.out.set10 true).free 0
    have H2 := Lib.hid ((H1.out.set10 true).set0 7)
    go_wp2_with fail
    go_ret
    exact ⟨rfl, H2.out⟩

set_option maxHeartbeats 1000000 in
theorem isizes_bad {U : Nat → Prop} {w0 w : World} {b : Nat} {s : PS} (h : DecR U w0 w b s) (N : Nat) (hN : numN (s.bits.take 32) = N) (hl : 32 ≤ s.bits.length) (hNb : N < 4294967296) (hne : N % 65536 + N / 65536 ≠ 65535) :
    Calls Tryd.prog 90 #[.pointer (some ⟨b, 0, none⟩)] w fun e w' => e = .returned (.int .i64 8) ∧ DecR U w0 w' b { s with bits := s.bits.drop 32 } := by
  have hread := iread_calls h 32 (by decide) hl
  rw [hN] at hread
  have HR := Lib.hid hread
  obtain ⟨n, hn⟩ : ∃ n, n = N % 65536 := ⟨_, rfl⟩
  obtain ⟨m, hm⟩ : ∃ m, m = N / 65536 := ⟨_, rfl⟩
  have hand : bits .and .u64 (N : Int) 65535 = (n : Int) := by rw [u64_and16 N (by omega), hn]
  have hshr : (N : Int) / 65536 = (m : Int) := by omega
  have hn1 : n < 65536 := by omega
  have hm1 : m < 65536 := by omega
  have hsum : ¬ (n : Int) + (m : Int) = 65535 := by omega
  have hNz : (0 : Int) ≤ (N : Int) := by omega
  clear hread hN hl h hne hn hm
  go_enter Tryd.func90, Tryd.ntmps90
  go_wp2_with fail
  refine HR.out.mono ?_
  rintro e w1 ⟨rfl, hR1⟩
  have H3 := Lib.hid hR1
  clear hR1 HR
  go_wp2_with fail
  go_ret
  exact ⟨rfl, H3.out⟩

/-- The next symbol by the codes of a block. -/
theorem DecR.ncod {U : Nat → Prop} {w0 w : World} {b : Nat} {s : PS} (h : DecR U w0 w b s) {lw ld : List Nat} (hf : s.cds = some (lw, ld)) :
    ∃ p17 p18, w.cell? ⟨b, 17, none⟩ = some (.pointer (some p17)) ∧ w.cell? ⟨b, 18, none⟩ = some (.pointer (some p18)) ∧ ∀ (ls : List Nat) (p : Addr), (ls = lw ∧ p = p17 ∨ ls = ld ∧ p = p18) → ∀ W, Touch (fun _ => False) w W →
    (∀ t, nextP ls s.bits = .sym t → Calls Tryd.prog 126 #[.pointer (some p), .pointer (some ⟨b, 5, none⟩)] W fun e w' => e = .returned (.tuple #[.int .i64 (t : Nat), .int .i64 0]) ∧ DecR U w0 w' b { s with bits := s.bits.drop (ls.getD t 0) } ∧ Touch (fun k => k = b) W w') ∧
    (nextP ls s.bits = .more → Calls Tryd.prog 126 #[.pointer (some p), .pointer (some ⟨b, 5, none⟩)] W fun e w' => e = .returned (.tuple #[.int .i64 0, .int .i64 2]) ∧ Touch (fun _ => False) W w') ∧
    (nextP ls s.bits = .bad → Calls Tryd.prog 126 #[.pointer (some p), .pointer (some ⟨b, 5, none⟩)] W fun e w' => e = .returned (.tuple #[.int .i64 0, .int .i64 4]) ∧ Touch (fun _ => False) W w') := by
  obtain ⟨v5, g, v7, v8, p17, p18, hD, hown, hT⟩ := h
  obtain ⟨hC1, hC2⟩ := hD.cod.cod lw ld hf
  obtain ⟨c1, _, _, rfl, _⟩ := hC1
  obtain ⟨c2, _, _, rfl, _⟩ := hC2
  refine ⟨_, _, Block.cell hD.blk 17, Block.cell hD.blk 18, fun ls p hp W hW => ?_⟩
  have hDW := hD.still hW
  have hTW := hT.trans' hW (fun k e => e.elim)
  have key : ∀ {L : Option Nat}, CodeV W b v5 v7 v8 L (.pointer (some p)) ls → WholeN ls → _ := fun hC hWh => hDW.nextp hC hWh
  have hCW : CodeV W b v5 v7 v8 s.v15.ownBlock (.pointer (some p)) ls ∧ WholeN ls := by
    rcases hp with ⟨rfl, rfl⟩ | ⟨rfl, rfl⟩
    · exact ⟨(hDW.cod.cod _ _ hf).1, (hDW.fx.2.1 _ _ hf).1⟩
    · exact ⟨(hDW.cod.cod _ _ hf).2, (hDW.fx.2.1 _ _ hf).2⟩
  obtain ⟨n1, n2, n3⟩ := key hCW.1 hCW.2
  refine ⟨fun t ht => (n1 t ht).mono ?_, n2, n3⟩
  rintro e w' ⟨he, ⟨v5', g', hD1, ho⟩, hT1⟩
  exact ⟨he, DecR.step hown hTW hT1 (fun k e => .inl (.inl e)) (fun k e => .inl (mut_same ho e)) hD1, hT1⟩

set_option maxHeartbeats 2000000 in
theorem isym_none {U : Nat → Prop} {w0 w : World} {b : Nat} {s : PS} (h : DecR U w0 w b s) {lw ld : List Nat} (hf : s.cds = some (lw, ld)) (r : Nat) (hr : nextP lw s.bits = .more ∧ r = 2 ∨ nextP lw s.bits = .bad ∧ r = 4) :
    Calls Tryd.prog 96 #[.pointer (some ⟨b, 0, none⟩)] w fun e w' => e = .returned (.int .i64 (r : Nat)) ∧ DecR U w0 w' b s := by
  obtain ⟨p17, p18, c17, c18, hC⟩ := h.ncod hf
  have hN : Calls Tryd.prog 126 #[.pointer (some p17), .pointer (some ⟨b, 5, none⟩)] w.drew fun e w' => e = .returned (.tuple #[.int .i64 0, .int .i64 (r : Nat)]) ∧ Touch (fun _ => False) w.drew w' := by
    obtain ⟨_, n2, n3⟩ := hC lw p17 (.inl ⟨rfl, rfl⟩) w.drew (Touch.refl _ _).drew
    rcases hr with ⟨h1, rfl⟩ | ⟨h1, rfl⟩
    · exact n2 h1
    · exact n3 h1
  have HN := Lib.hid hN
  have HD := Lib.hid h
  have hr0 : ¬ (r : Int) = 0 := by omega
  clear h hf hr hN hC c18
  go_enter Tryd.func96, Tryd.ntmps96
  go_upto_region 1 with fail
  go_region_law (first
    | (go_simp; go_at_call 126; refine HN.out.mono ?_; rintro e w1 ⟨rfl, ht1⟩; have HT1 := Lib.hid ((Touch.refl (fun _ => False) w).drew.trans ht1); clear ht1))
  all_goals
    go_wp2_with fail
    go_ret
    exact ⟨rfl, HD.out.still HT1.out⟩
set_option maxHeartbeats 2000000 in
theorem isym_code {U : Nat → Prop} {w0 w : World} {b : Nat} {s : PS} (h : DecR U w0 w b s) {lw ld : List Nat} (hf : s.cds = some (lw, ld)) (t : Nat) (ht : nextP lw s.bits = .sym t) (ht2 : 286 ≤ t) :
    Calls Tryd.prog 96 #[.pointer (some ⟨b, 0, none⟩)] w fun e w' => e = .returned (.int .i64 4) ∧ DecR U w0 w' b { s with bits := s.bits.drop (lw.getD t 0) } := by
  obtain ⟨p17, p18, c17, c18, hC⟩ := h.ncod hf
  have HN := Lib.hid ((hC lw p17 (.inl ⟨rfl, rfl⟩) w.drew (Touch.refl _ _).drew).1 t ht)
  have HL := Lib.hid (fun W => lengthof_out (t : Int) W (.inr (by omega)))
  have h1 : ¬ (t : Int) < 256 := by omega
  have h2 : ¬ (t : Int) = 256 := by omega
  clear h hf ht hC c18
  go_enter Tryd.func96, Tryd.ntmps96
  go_upto_region 1 with fail
  go_region_law (first
    | (go_simp; go_at_call 126; refine HN.out.mono ?_; rintro e w1 ⟨rfl, hR1, ht1⟩; have H1 := Lib.hid hR1; clear hR1 ht1))
  all_goals
    go_wp2_with fail
    refine (HL.out w1).mono ?_
    rintro e w2 ⟨rfl, rfl⟩
    go_wp2_with fail
    go_ret
    exact ⟨rfl, H1.out⟩
set_option maxHeartbeats 2000000 in
theorem idist_none {U : Nat → Prop} {w0 w : World} {b : Nat} {s : PS} (h : DecR U w0 w b s) {lw ld : List Nat} (hf : s.cds = some (lw, ld)) (r : Nat) (hr : nextP ld s.bits = .more ∧ r = 2 ∨ nextP ld s.bits = .bad ∧ r = 4) :
    Calls Tryd.prog 98 #[.pointer (some ⟨b, 0, none⟩)] w fun e w' => e = .returned (.int .i64 (r : Nat)) ∧ DecR U w0 w' b s := by
  obtain ⟨p17, p18, c17, c18, hC⟩ := h.ncod hf
  have hN : Calls Tryd.prog 126 #[.pointer (some p18), .pointer (some ⟨b, 5, none⟩)] w.drew fun e w' => e = .returned (.tuple #[.int .i64 0, .int .i64 (r : Nat)]) ∧ Touch (fun _ => False) w.drew w' := by
    obtain ⟨_, n2, n3⟩ := hC ld p18 (.inr ⟨rfl, rfl⟩) w.drew (Touch.refl _ _).drew
    rcases hr with ⟨h1, rfl⟩ | ⟨h1, rfl⟩
    · exact n2 h1
    · exact n3 h1
  have HN := Lib.hid hN
  have HD := Lib.hid h
  have hr0 : ¬ (r : Int) = 0 := by omega
  clear h hf hr hN hC c17
  go_enter Tryd.func98, Tryd.ntmps98
  go_upto_region 1 with fail
  go_region_law (first
    | (go_simp; go_at_call 126; refine HN.out.mono ?_; rintro e w1 ⟨rfl, ht1⟩; have HT1 := Lib.hid ((Touch.refl (fun _ => False) w).drew.trans ht1); clear ht1))
  all_goals
    go_wp2_with fail
    go_ret
    exact ⟨rfl, HD.out.still HT1.out⟩
set_option maxHeartbeats 2000000 in
theorem idist_code {U : Nat → Prop} {w0 w : World} {b : Nat} {s : PS} (h : DecR U w0 w b s) {lw ld : List Nat} (hf : s.cds = some (lw, ld)) (t : Nat) (ht : nextP ld s.bits = .sym t) (ht2 : 30 ≤ t) :
    Calls Tryd.prog 98 #[.pointer (some ⟨b, 0, none⟩)] w fun e w' => e = .returned (.int .i64 4) ∧ DecR U w0 w' b { s with bits := s.bits.drop (ld.getD t 0) } := by
  obtain ⟨p17, p18, c17, c18, hC⟩ := h.ncod hf
  have HN := Lib.hid ((hC ld p18 (.inr ⟨rfl, rfl⟩) w.drew (Touch.refl _ _).drew).1 t ht)
  have HL := Lib.hid (fun W => distof_out (t : Int) W (.inr (by omega)))
  clear h hf ht hC c17
  go_enter Tryd.func98, Tryd.ntmps98
  go_upto_region 1 with fail
  go_region_law (first
    | (go_simp; go_at_call 126; refine HN.out.mono ?_; rintro e w1 ⟨rfl, hR1, ht1⟩; have H1 := Lib.hid hR1; clear hR1 ht1))
  all_goals
    go_wp2_with fail
    refine (HL.out w1).mono ?_
    rintro e w2 ⟨rfl, rfl⟩
    go_wp2_with fail
    go_ret
    exact ⟨rfl, H1.out⟩
theorem DecR.cell21 {U : Nat → Prop} {w0 w : World} {b : Nat} {s : PS} (h : DecR U w0 w b s) : w.cell? ⟨b, 21, none⟩ = some (.int .i64 (s.size : Nat)) := by
  obtain ⟨v5, g, v7, v8, p17, p18, hD, _⟩ := h
  exact Block.cell hD.blk 21
theorem DecR.cell22 {U : Nat → Prop} {w0 w : World} {b : Nat} {s : PS} (h : DecR U w0 w b s) : w.cell? ⟨b, 22, none⟩ = some (.int .i64 (s.dist : Nat)) := by
  obtain ⟨v5, g, v7, v8, p17, p18, hD, _⟩ := h
  exact Block.cell hD.blk 22
theorem DecR.cell23 {U : Nat → Prop} {w0 w : World} {b : Nat} {s : PS} (h : DecR U w0 w b s) : w.cell? ⟨b, 23, none⟩ = some (.int .i64 (s.extra : Nat)) := by
  obtain ⟨v5, g, v7, v8, p17, p18, hD, _⟩ := h
  exact Block.cell hD.blk 23
theorem has_far {φ : TypeId × (Nat → Option Value)} (b o : Nat) (all : List UInt8) (row : Option Nat) (d : Int) (w : World) (h : WinAt φ w b o all row) (hd : (min all.length 32768 : Nat) < d) :
    Calls Tryd.prog 149 #[.pointer (some ⟨b, o, none⟩), .int .i64 d] w fun e w' => e = .returned (.bool false) ∧ ∃ m, w' = w.drewN m := by
  have HL := Lib.hid (fun W (ht : Touch (fun _ => False) w W) => winlen_calls b o all row W (h.still ht))
  generalize min all.length 32768 = m at HL hd
  have h1 : 1 ≤ d := by omega
  have h2 : ¬ d ≤ (m : Int) := by omega
  clear hd
  go_enter Tryd.func149, Tryd.ntmps149
  go_wp2_with (go_at_call 158; refine (HL.out _ (by first | exact Touch.refl _ _ | exact (Touch.refl _ _).drew)).mono ?_; rintro e w' ⟨rfl, rfl⟩)
  all_goals go_ret
  all_goals exact ⟨ret1 (congrArg Value.bool (decide_eq_false (by omega))), by first | exact ⟨0, rfl⟩ | exact ⟨1, rfl⟩⟩
theorem copy_far {φ : TypeId × (Nat → Option Value)} (b o : Nat) (n d : Int) (all : List UInt8) (row0 : Option Nat) (w : World) (h : WinAt φ w b o all row0) (hn : 0 ≤ n ∧ n ≤ 258) (hd : (min all.length 32768 : Nat) < d) :
    Calls Tryd.prog 131 #[.pointer (some ⟨b, o, none⟩), .int .i64 n, .int .i64 d] w fun e w' => e = .returned (.tuple #[.string ⟨#[]⟩, .bool false]) ∧ ∃ m, w' = w.drewN m := by
  have HH := Lib.hid (fun W (ht : Touch (fun _ => False) w W) => has_far b o all row0 d W (h.still ht) hd)
  have e1 : decide (n < 0) = false := decide_eq_false (by omega)
  have e2 : decide (258 < n) = false := decide_eq_false (by omega)
  clear h hn hd
  go_enter Tryd.func131, Tryd.ntmps131
  go_wp2_with (go_at_call 149; refine (HH.out _ (by first | exact Touch.refl _ _ | exact (Touch.refl _ _).drew)).mono ?_; rintro e w1 ⟨rfl, m, rfl⟩)
  go_ret2
  exact ⟨rfl, by first | exact ⟨m, rfl⟩ | exact ⟨1 + m, by simp⟩⟩
set_option maxHeartbeats 4000000 in
/-- A match that goes back too far. -/
theorem idb_bad {U : Nat → Prop} {w0 w : World} {b : Nat} {s : PS} (h : DecR U w0 w b s) (he : s.extra ≤ 16) (hl : s.extra ≤ s.bits.length) (N : Nat) (hN : N = numN (s.bits.take s.extra)) (hN2 : N < 65536) (hdd : s.dist < 65536) (hs : s.size ≤ 258) (h2 : min s.all.length 32768 < s.dist + N) :
    Calls Tryd.prog 99 #[.pointer (some ⟨b, 0, none⟩)] w fun e w' => e = .returned (.int .i64 6) ∧ DecR U w0 w' b { s with bits := s.bits.drop s.extra } := by
  have hread := iread_calls (h.still (Touch.refl (fun _ => False) w).drew) s.extra (by omega) hl
  rw [← hN] at hread
  have HR := Lib.hid hread
  have c23 := h.cell23
  have HA := Lib.hid (⟨hs, h2⟩ : _ ∧ _)
  clear hread h hl hN hs h2
  go_enter Tryd.func99, Tryd.ntmps99
  go_upto_region 1 with fail
  go_region_law (first
    | (go_simp; go_at_call 67; refine HR.out.mono ?_; rintro e w1 ⟨rfl, hR1⟩; have H1 := Lib.hid hR1; clear hR1))
  go_upto_region 4 with fail
  have m21 := H1.out.cell21
  have m22 := H1.out.cell22
  change w1.cell? ⟨b, 21, none⟩ = some (.int .i64 (s.size : Nat)) at m21
  change w1.cell? ⟨b, 22, none⟩ = some (.int .i64 (s.dist : Nat)) at m22
  have HC : Hid (∀ q, Calls Tryd.prog 131 #[.pointer (some ⟨b, 8, none⟩), .int .i64 (s.size : Nat), .int .i64 ((s.dist : Int) + (N : Int))] (w1.drewN q) fun e w' => e = .returned (.tuple #[.string ⟨#[]⟩, .bool false]) ∧ ∃ m, w' = (w1.drewN q).drewN m) := Lib.hid (fun q => by
    obtain ⟨v5, g, v7, v8, p17, p18, hD, _⟩ := H1.out.still ((Touch.refl (fun _ => False) w1).drewN q)
    exact copy_far b 8 s.size ((s.dist : Int) + (N : Int)) s.all _ _ (win_at hD.blk hD.win hD.ap.2.2.1) (by have := HA.out.1; omega) (by have := HA.out.2; omega))
  obtain ⟨size, hsz⟩ : ∃ n, n = s.size := ⟨_, rfl⟩
  obtain ⟨dist, hds⟩ : ∃ n, n = s.dist := ⟨_, rfl⟩
  rw [← hsz] at m21
  rw [← hds] at m22
  rw [← hsz, ← hds] at HC
  have hdd2 : dist < 65536 := by rw [hds]; exact hdd
  clear HA HR c23 hsz hds hdd
  go_quiet (first | (go_at_call 131; with_reducible exact Calls.quiet_of (HC.out _)))
  go_wp2_with fail
  go_ret
  exact ⟨rfl, H1.out.still ((Touch.refl _ _).drewN _)⟩
end Go.Proofs.YtoaeffinjpkahaaDoor
/- A decoder: its parts as a function of plain data. -/
namespace Go.Proofs.YtoaeffinjpkahaaDoor
set_option linter.unusedSimpArgs false
set_option linter.unusedVariables false
open Go Go.RowKit
set_option maxRecDepth 100000

/-- A decoder's state, as plain data. -/
structure QS where
  st : Nat
  came : Nat
  told : Nat
  bits : List Nat
  out : List UInt8
  all : List UInt8
  last : Bool
  left : Nat
  lits : Nat
  both : Nat
  trip : Nat
  fixed : Bool
  sym : Nat
  size : Nat
  dist : Nat
  extra : Nat
  cds : Option (List Nat × List Nat)
  tl : Option (List Nat)
  ls : List Nat
@[reducible] def QS.ps (q : QS) (v p : Value) : PS := ⟨q.st, q.came, q.told, q.bits, q.out, q.all, q.last, q.left, q.lits, q.both, q.trip, q.fixed, q.sym, q.size, q.dist, q.extra, q.cds, v, p, q.tl⟩
def qs0 : QS := ⟨0, 0, 0, [], [], [], false, 0, 0, 0, 0, false, 0, 0, 0, 0, none, none, []⟩

/-- Each part, by its state: what it answers, and the state behind it. -/
def blockQ (q : QS) : Nat × QS := match q.bits with
  | x0 :: x1 :: x2 :: l =>
    if x2 = 0 then
      if x1 = 0 then (0, { q with bits := l.drop (l.length % 8), last := x0 == 1, st := 1 })
      else (0, { q with bits := l, last := x0 == 1, fixed := true, cds := some (fixW, fixD), st := 7 })
    else if x1 = 0 then (0, { q with bits := l, last := x0 == 1, st := 3 })
    else (3, { q with bits := l, last := x0 == 1 })
  | _ => (2, q)
def sizesQ (q : QS) : Nat × QS :=
  if q.bits.length < 32 then (2, q)
  else if numN (q.bits.take 32) % 65536 + numN (q.bits.take 32) / 65536 ≠ 65535 then (8, { q with bits := q.bits.drop 32 })
  else (0, { q with bits := q.bits.drop 32, left := numN (q.bits.take 32) % 65536, st := 2 })
def bytesQ2 (q : QS) (y z : List UInt8) : QS := { q with bits := bitsL z, all := q.all ++ y, out := q.out ++ y, left := q.left - y.length, st := if q.left - y.length = 0 then (if q.last then 11 else 0) else q.st }
def bytesPQ (q : QS) : Nat × QS := (if q.left - ((bytesL q.bits).take q.left).length = 0 then 0 else 2, bytesQ2 q ((bytesL q.bits).take q.left) ((bytesL q.bits).drop q.left))
def countsQ (q : QS) : Nat × QS :=
  if q.bits.length < 14 then (2, q)
  else if 286 < cntW (numN (q.bits.take 14)) ∨ 30 < cntD (numN (q.bits.take 14)) then (20, { q with bits := q.bits.drop 14 })
  else (0, { q with bits := q.bits.drop 14, lits := cntW (numN (q.bits.take 14)), both := cntW (numN (q.bits.take 14)) + cntD (numN (q.bits.take 14)), trip := cntT (numN (q.bits.take 14)), st := 4 })
def triplesQ (q : QS) : Nat × QS :=
  if q.bits.length < 3 * q.trip then (2, q)
  else if whyN ((trL q.bits q.trip).map Int.ofNat) false ≠ 0 then (whyN ((trL q.bits q.trip).map Int.ofNat) false, { q with bits := q.bits.drop (3 * q.trip) })
  else (0, { q with bits := q.bits.drop (3 * q.trip), tl := some (trL q.bits q.trip), st := 5 })
def takeQ (q : QS) : Nat × QS :=
  if q.ls.getD 256 0 = 0 then (12, q)
  else if whyN ((q.ls.take q.lits).map Int.ofNat) false ≠ 0 then (whyN ((q.ls.take q.lits).map Int.ofNat) false, q)
  else if whyN ((q.ls.drop q.lits).map Int.ofNat) true ≠ 0 then (whyN ((q.ls.drop q.lits).map Int.ofNat) true, q)
  else (0, { q with ls := [], tl := none, fixed := false, cds := some (q.ls.take q.lits, q.ls.drop q.lits), st := 7 })
def addQ (q : QS) (x n : Nat) : Nat × QS :=
  if q.both < q.ls.length + n then (20, q)
  else if q.ls.length + n < q.both then (0, { q with ls := q.ls ++ List.replicate n x, st := 5 })
  else takeQ { q with ls := q.ls ++ List.replicate n x, st := 5 }
noncomputable def tellerQ (q : QS) : Nat × QS := match q.tl with
  | none => (0, q)
  | some lt => match nextP lt q.bits with
    | .more => (2, q)
    | .bad => (4, q)
    | .sym t => if t < 16 then addQ { q with bits := q.bits.drop (lt.getD t 0) } t 1
      else if t = 16 ∧ q.ls = [] then (3, { q with bits := q.bits.drop (lt.getD t 0) })
      else (0, { q with bits := q.bits.drop (lt.getD t 0), sym := t, st := 6 })
def repeatQ (q : QS) : Nat × QS :=
  if q.bits.length < repB q.sym then (2, q)
  else addQ { q with bits := q.bits.drop (repB q.sym) } (if q.sym = 16 then q.ls.getD (q.ls.length - 1) 0 else 0) (repM q.sym + numN (q.bits.take (repB q.sym)))
noncomputable def symbolQ (q : QS) : Nat × QS := match q.cds with
  | none => (0, q)
  | some (lw, _) => match nextP lw q.bits with
    | .more => (2, q)
    | .bad => (4, q)
    | .sym t => if t < 256 then (0, { q with bits := q.bits.drop (lw.getD t 0), all := q.all ++ [UInt8.ofNat t], out := q.out ++ [UInt8.ofNat t] })
      else if t = 256 then (0, { q with bits := q.bits.drop (lw.getD t 0), st := if q.last then 11 else 0 })
      else if t < 286 then (0, { q with bits := q.bits.drop (lw.getD t 0), size := lenL (t - 257), extra := lenE (t - 257), st := 8 })
      else (4, { q with bits := q.bits.drop (lw.getD t 0) })
def lengthQ (q : QS) : Nat × QS :=
  if q.bits.length < q.extra then (2, q)
  else (0, { q with bits := q.bits.drop q.extra, size := q.size + numN (q.bits.take q.extra), st := 9 })
noncomputable def distQ (q : QS) : Nat × QS := match q.cds with
  | none => (0, q)
  | some (_, ld) => match nextP ld q.bits with
    | .more => (2, q)
    | .bad => (4, q)
    | .sym t => if t < 30 then (0, { q with bits := q.bits.drop (ld.getD t 0), dist := leastN 1 t + 1, extra := extN 1 t, st := 10 })
      else (4, { q with bits := q.bits.drop (ld.getD t 0) })
def dbitsQ (q : QS) : Nat × QS :=
  if q.bits.length < q.extra then (2, q)
  else if min q.all.length 32768 < q.dist + numN (q.bits.take q.extra) then (6, { q with bits := q.bits.drop q.extra })
  else (0, { q with bits := q.bits.drop q.extra, all := copyL q.size (q.dist + numN (q.bits.take q.extra)) q.all, out := q.out ++ (copyL q.size (q.dist + numN (q.bits.take q.extra)) q.all).drop q.all.length, st := 7 })
noncomputable def partQ (q : QS) : Nat × QS := match q.st with
  | 0 => blockQ q
  | 1 => sizesQ q
  | 2 => bytesPQ q
  | 3 => countsQ q
  | 4 => triplesQ q
  | 5 => tellerQ q
  | 6 => repeatQ q
  | 7 => symbolQ q
  | 8 => lengthQ q
  | 9 => distQ q
  | _ => dbitsQ q

/-- What is true of each state. -/
structure GoodQ (q : QS) : Prop where
  st : q.st ≤ 11
  by8 : q.st = 1 ∨ q.st = 2 → q.bits.length % 8 = 0
  left : q.st = 2 → q.left < 65536
  trip : q.st = 4 → q.trip ≤ 19
  trip4 : q.st = 4 → 4 ≤ q.trip
  cnt : q.st = 4 ∨ q.st = 5 ∨ q.st = 6 → 257 ≤ q.lits ∧ q.lits ≤ 286 ∧ q.lits < q.both ∧ q.both ≤ 316 ∧ q.ls.length < q.both
  nil : q.st ≠ 5 → q.st ≠ 6 → q.ls = []
  tel : q.st = 5 ∨ q.st = 6 → ∃ lt, q.tl = some lt
  sym : q.st = 6 → (q.sym = 16 ∨ q.sym = 17 ∨ q.sym = 18) ∧ (q.sym = 16 → q.ls ≠ [])
  cds : 7 ≤ q.st → q.st ≤ 10 → ∃ lw ld, q.cds = some (lw, ld)
  tlen : ∀ lt, q.tl = some lt → lt.length = 19
  len : q.st = 8 → q.extra ≤ 5 ∧ q.size + 2 ^ q.extra ≤ 259 ∧ 3 ≤ q.size
  len9 : q.st = 9 ∨ q.st = 10 → q.size ≤ 258
  dst : q.st = 10 → q.extra ≤ 13 ∧ q.dist < 32769 ∧ 1 ≤ q.dist

/-- A decoder of such a state. -/
def DecQ (U : Nat → Prop) (w0 w : World) (b : Nat) (q : QS) : Prop := ∃ v p, DecL U w0 w b (q.ps v p) q.ls ∧ (q.ls = [] → v = .slice none 0 0)
/-- What stands behind a part: a decoder, whole where it goes on. -/
def DecX (U : Nat → Prop) (w0 w : World) (b : Nat) (x : Nat × QS) : Prop := (∃ v p, DecR U w0 w b (x.2.ps v p)) ∧ (x.1 = 0 ∨ x.1 = 2 → DecQ U w0 w b x.2)
theorem DecX.ok {U : Nat → Prop} {w0 w : World} {b : Nat} {r : Nat} {q : QS} (h : DecQ U w0 w b q) : DecX U w0 w b (r, q) := by
  obtain ⟨v, p, h1, h2⟩ := h
  exact ⟨⟨v, p, h1.1⟩, fun _ => ⟨v, p, h1, h2⟩⟩
theorem DecX.bad {U : Nat → Prop} {w0 w : World} {b : Nat} {r : Nat} {q : QS} {v p : Value} (h : DecR U w0 w b (q.ps v p)) (hr : r ≠ 0 ∧ r ≠ 2) : DecX U w0 w b (r, q) :=
  ⟨⟨v, p, h⟩, fun e => by rcases e with e | e; exact absurd e hr.1; exact absurd e hr.2⟩
theorem DecQ.nil {U : Nat → Prop} {w0 w : World} {b : Nat} {q : QS} {p : Value} (h : DecR U w0 w b (q.ps (.slice none 0 0) p)) (hl : q.ls = []) : DecQ U w0 w b q :=
  ⟨.slice none 0 0, p, by rw [hl]; exact DecL.nil h rfl, fun _ => rfl⟩
theorem partE_0 {w : World} {b : Nat} (h0 : w.cell? ⟨b, 0, none⟩ = some (.int .i64 0)) {Q : Int → World → Prop}
    (hc : Calls Tryd.prog 89 #[.pointer (some ⟨b, 0, none⟩)] w fun e w' => ∃ r, e = .returned (.int .i64 r) ∧ Q r w') :
    Calls Tryd.prog 63 #[.pointer (some ⟨b, 0, none⟩)] w fun e w' => ∃ r, e = .returned (.int .i64 r) ∧ Q r w' := by
  have HC := Lib.hid hc
  clear hc
  go_enter Tryd.func63, Tryd.ntmps63
  go_wp2_with fail
  refine HC.out.mono ?_
  rintro e w' ⟨r, rfl, hq⟩
  have HQ := Lib.hid hq
  clear hq
  go_wp2_with fail
  go_ret
  exact ⟨r, rfl, HQ.out⟩
theorem partE_1 {w : World} {b : Nat} (h0 : w.cell? ⟨b, 0, none⟩ = some (.int .i64 1)) {Q : Int → World → Prop}
    (hc : Calls Tryd.prog 90 #[.pointer (some ⟨b, 0, none⟩)] w fun e w' => ∃ r, e = .returned (.int .i64 r) ∧ Q r w') :
    Calls Tryd.prog 63 #[.pointer (some ⟨b, 0, none⟩)] w fun e w' => ∃ r, e = .returned (.int .i64 r) ∧ Q r w' := by
  have HC := Lib.hid hc
  clear hc
  go_enter Tryd.func63, Tryd.ntmps63
  go_wp2_with fail
  refine HC.out.mono ?_
  rintro e w' ⟨r, rfl, hq⟩
  have HQ := Lib.hid hq
  clear hq
  go_wp2_with fail
  go_ret
  exact ⟨r, rfl, HQ.out⟩
theorem partE_2 {w : World} {b : Nat} (h0 : w.cell? ⟨b, 0, none⟩ = some (.int .i64 2)) {Q : Int → World → Prop}
    (hc : Calls Tryd.prog 91 #[.pointer (some ⟨b, 0, none⟩)] w fun e w' => ∃ r, e = .returned (.int .i64 r) ∧ Q r w') :
    Calls Tryd.prog 63 #[.pointer (some ⟨b, 0, none⟩)] w fun e w' => ∃ r, e = .returned (.int .i64 r) ∧ Q r w' := by
  have HC := Lib.hid hc
  clear hc
  go_enter Tryd.func63, Tryd.ntmps63
  go_wp2_with fail
  refine HC.out.mono ?_
  rintro e w' ⟨r, rfl, hq⟩
  have HQ := Lib.hid hq
  clear hq
  go_wp2_with fail
  go_ret
  exact ⟨r, rfl, HQ.out⟩
theorem partE_3 {w : World} {b : Nat} (h0 : w.cell? ⟨b, 0, none⟩ = some (.int .i64 3)) {Q : Int → World → Prop}
    (hc : Calls Tryd.prog 92 #[.pointer (some ⟨b, 0, none⟩)] w fun e w' => ∃ r, e = .returned (.int .i64 r) ∧ Q r w') :
    Calls Tryd.prog 63 #[.pointer (some ⟨b, 0, none⟩)] w fun e w' => ∃ r, e = .returned (.int .i64 r) ∧ Q r w' := by
  have HC := Lib.hid hc
  clear hc
  go_enter Tryd.func63, Tryd.ntmps63
  go_wp2_with fail
  refine HC.out.mono ?_
  rintro e w' ⟨r, rfl, hq⟩
  have HQ := Lib.hid hq
  clear hq
  go_wp2_with fail
  go_ret
  exact ⟨r, rfl, HQ.out⟩
theorem partE_4 {w : World} {b : Nat} (h0 : w.cell? ⟨b, 0, none⟩ = some (.int .i64 4)) {Q : Int → World → Prop}
    (hc : Calls Tryd.prog 93 #[.pointer (some ⟨b, 0, none⟩)] w fun e w' => ∃ r, e = .returned (.int .i64 r) ∧ Q r w') :
    Calls Tryd.prog 63 #[.pointer (some ⟨b, 0, none⟩)] w fun e w' => ∃ r, e = .returned (.int .i64 r) ∧ Q r w' := by
  have HC := Lib.hid hc
  clear hc
  go_enter Tryd.func63, Tryd.ntmps63
  go_wp2_with fail
  refine HC.out.mono ?_
  rintro e w' ⟨r, rfl, hq⟩
  have HQ := Lib.hid hq
  clear hq
  go_wp2_with fail
  go_ret
  exact ⟨r, rfl, HQ.out⟩
theorem partE_5 {w : World} {b : Nat} (h0 : w.cell? ⟨b, 0, none⟩ = some (.int .i64 5)) {Q : Int → World → Prop}
    (hc : Calls Tryd.prog 94 #[.pointer (some ⟨b, 0, none⟩)] w fun e w' => ∃ r, e = .returned (.int .i64 r) ∧ Q r w') :
    Calls Tryd.prog 63 #[.pointer (some ⟨b, 0, none⟩)] w fun e w' => ∃ r, e = .returned (.int .i64 r) ∧ Q r w' := by
  have HC := Lib.hid hc
  clear hc
  go_enter Tryd.func63, Tryd.ntmps63
  go_wp2_with fail
  refine HC.out.mono ?_
  rintro e w' ⟨r, rfl, hq⟩
  have HQ := Lib.hid hq
  clear hq
  go_wp2_with fail
  go_ret
  exact ⟨r, rfl, HQ.out⟩
theorem partE_6 {w : World} {b : Nat} (h0 : w.cell? ⟨b, 0, none⟩ = some (.int .i64 6)) {Q : Int → World → Prop}
    (hc : Calls Tryd.prog 95 #[.pointer (some ⟨b, 0, none⟩)] w fun e w' => ∃ r, e = .returned (.int .i64 r) ∧ Q r w') :
    Calls Tryd.prog 63 #[.pointer (some ⟨b, 0, none⟩)] w fun e w' => ∃ r, e = .returned (.int .i64 r) ∧ Q r w' := by
  have HC := Lib.hid hc
  clear hc
  go_enter Tryd.func63, Tryd.ntmps63
  go_wp2_with fail
  refine HC.out.mono ?_
  rintro e w' ⟨r, rfl, hq⟩
  have HQ := Lib.hid hq
  clear hq
  go_wp2_with fail
  go_ret
  exact ⟨r, rfl, HQ.out⟩
theorem partE_7 {w : World} {b : Nat} (h0 : w.cell? ⟨b, 0, none⟩ = some (.int .i64 7)) {Q : Int → World → Prop}
    (hc : Calls Tryd.prog 96 #[.pointer (some ⟨b, 0, none⟩)] w fun e w' => ∃ r, e = .returned (.int .i64 r) ∧ Q r w') :
    Calls Tryd.prog 63 #[.pointer (some ⟨b, 0, none⟩)] w fun e w' => ∃ r, e = .returned (.int .i64 r) ∧ Q r w' := by
  have HC := Lib.hid hc
  clear hc
  go_enter Tryd.func63, Tryd.ntmps63
  go_wp2_with fail
  refine HC.out.mono ?_
  rintro e w' ⟨r, rfl, hq⟩
  have HQ := Lib.hid hq
  clear hq
  go_wp2_with fail
  go_ret
  exact ⟨r, rfl, HQ.out⟩
theorem partE_8 {w : World} {b : Nat} (h0 : w.cell? ⟨b, 0, none⟩ = some (.int .i64 8)) {Q : Int → World → Prop}
    (hc : Calls Tryd.prog 97 #[.pointer (some ⟨b, 0, none⟩)] w fun e w' => ∃ r, e = .returned (.int .i64 r) ∧ Q r w') :
    Calls Tryd.prog 63 #[.pointer (some ⟨b, 0, none⟩)] w fun e w' => ∃ r, e = .returned (.int .i64 r) ∧ Q r w' := by
  have HC := Lib.hid hc
  clear hc
  go_enter Tryd.func63, Tryd.ntmps63
  go_wp2_with fail
  refine HC.out.mono ?_
  rintro e w' ⟨r, rfl, hq⟩
  have HQ := Lib.hid hq
  clear hq
  go_wp2_with fail
  go_ret
  exact ⟨r, rfl, HQ.out⟩
theorem partE_9 {w : World} {b : Nat} (h0 : w.cell? ⟨b, 0, none⟩ = some (.int .i64 9)) {Q : Int → World → Prop}
    (hc : Calls Tryd.prog 98 #[.pointer (some ⟨b, 0, none⟩)] w fun e w' => ∃ r, e = .returned (.int .i64 r) ∧ Q r w') :
    Calls Tryd.prog 63 #[.pointer (some ⟨b, 0, none⟩)] w fun e w' => ∃ r, e = .returned (.int .i64 r) ∧ Q r w' := by
  have HC := Lib.hid hc
  clear hc
  go_enter Tryd.func63, Tryd.ntmps63
  go_wp2_with fail
  refine HC.out.mono ?_
  rintro e w' ⟨r, rfl, hq⟩
  have HQ := Lib.hid hq
  clear hq
  go_wp2_with fail
  go_ret
  exact ⟨r, rfl, HQ.out⟩
theorem partE_10 {w : World} {b : Nat} (h0 : w.cell? ⟨b, 0, none⟩ = some (.int .i64 10)) {Q : Int → World → Prop}
    (hc : Calls Tryd.prog 99 #[.pointer (some ⟨b, 0, none⟩)] w fun e w' => ∃ r, e = .returned (.int .i64 r) ∧ Q r w') :
    Calls Tryd.prog 63 #[.pointer (some ⟨b, 0, none⟩)] w fun e w' => ∃ r, e = .returned (.int .i64 r) ∧ Q r w' := by
  have HC := Lib.hid hc
  clear hc
  go_enter Tryd.func63, Tryd.ntmps63
  go_wp2_with fail
  refine HC.out.mono ?_
  rintro e w' ⟨r, rfl, hq⟩
  have HQ := Lib.hid hq
  clear hq
  go_wp2_with fail
  go_ret
  exact ⟨r, rfl, HQ.out⟩
end Go.Proofs.YtoaeffinjpkahaaDoor
/- A decoder: each part does what the function of plain data tells. -/
namespace Go.Proofs.YtoaeffinjpkahaaDoor
set_option linter.unusedSimpArgs false
set_option linter.unusedVariables false
open Go Go.RowKit
set_option maxRecDepth 100000
set_option linter.unusedVariables false

theorem bytesK_whole (k : Nat) : ∀ l : List Nat, (∀ x ∈ l, x < 2) → l.length = 8 * k → bitsL (bytesK k l) = l := by
  induction k with
  | zero =>
    intro l _ h
    have : l = [] := List.length_eq_zero_iff.1 (by omega)
    subst this; rfl
  | succ k ih =>
    intro l h2 h
    have h8 : (l.take 8).length = 8 := by rw [List.length_take]; omega
    have hx : numN (l.take 8) < 256 := by
      have := numN_lt (l.take 8) (fun x hx => h2 x (List.mem_of_mem_take hx))
      rw [h8] at this; exact this
    have e1 : (UInt8.ofNat (numN (l.take 8))).toNat = numN (l.take 8) := by rw [UInt8.toNat_ofNat']; omega
    have e2 : bitsN 8 (numN (l.take 8)) = l.take 8 := by
      have := bitsN_numN (l.take 8) (fun x hx => h2 x (List.mem_of_mem_take hx))
      rw [h8] at this; exact this
    show bitsN 8 (UInt8.ofNat (numN (l.take 8))).toNat ++ bitsL (bytesK k (l.drop 8)) = l
    rw [e1, e2, ih (l.drop 8) (fun x hx => h2 x (List.mem_of_mem_drop hx)) (by rw [List.length_drop]; omega)]
    exact List.take_append_drop 8 l
theorem bits_bytes (l : List Nat) (h2 : ∀ x ∈ l, x < 2) (h8 : l.length % 8 = 0) : bitsL (bytesL l) = l := bytesK_whole _ l h2 (by omega)
theorem why_not2 (xs : List Int) (z : Bool) : whyN xs z ≠ 2 := by
  unfold whyN
  split
  · decide
  · split
    · decide
    · split <;> decide
theorem numN_take_lt {l : List Nat} (h2 : ∀ x ∈ l, x < 2) (n : Nat) : numN (l.take n) < 2 ^ n := by
  have h1 := numN_lt (l.take n) (fun x hx => h2 x (List.mem_of_mem_take hx))
  refine Nat.lt_of_lt_of_le h1 (Nat.pow_le_pow_right (by decide) ?_)
  rw [List.length_take]; omega

section
variable {U : Nat → Prop} {w0 w : World} {b : Nat} {q : QS}

theorem q_block (h : DecQ U w0 w b q) (hg : GoodQ q) (h0 : q.st = 0) : Calls Tryd.prog 89 #[.pointer (some ⟨b, 0, none⟩)] w fun e w' => ∃ r : Int, e = .returned (.int .i64 r) ∧ r = ((blockQ q).1 : Nat) ∧ DecX U w0 w' b (blockQ q) := by
  obtain ⟨v, p, hL, hv⟩ := h
  have hnil := hg.nil (by omega) (by omega)
  obtain rfl := hv hnil
  have hR := hL.1
  have h2 := hR.bits_lt.2
  have few : q.bits.length < 3 → blockQ q = (2, q) → Calls Tryd.prog 89 #[.pointer (some ⟨b, 0, none⟩)] w fun e w' => ∃ r : Int, e = .returned (.int .i64 r) ∧ r = ((blockQ q).1 : Nat) ∧ DecX U w0 w' b (blockQ q) := by
    intro hl e
    rw [e]
    refine (iblock_more hR hl).mono ?_
    rintro e w' ⟨rfl, hD⟩
    exact ⟨2, rfl, rfl, DecX.ok (DecQ.nil hD hnil)⟩
  rcases hbs : q.bits with _ | ⟨x0, _ | ⟨x1, _ | ⟨x2, l⟩⟩⟩
  · exact few (by rw [hbs]; simp) (by unfold blockQ; rw [hbs])
  · exact few (by rw [hbs]; simp) (by unfold blockQ; rw [hbs])
  · exact few (by rw [hbs]; simp) (by unfold blockQ; rw [hbs])
  have hx1 : x1 < 2 := h2 x1 (by show x1 ∈ q.bits; rw [hbs]; simp)
  have hx2 : x2 < 2 := h2 x2 (by show x2 ∈ q.bits; rw [hbs]; simp)
  rcases (show x2 = 0 ∨ x2 = 1 by omega) with rfl | rfl
  · rcases (show x1 = 0 ∨ x1 = 1 by omega) with rfl | rfl
    · have e : blockQ q = (0, { q with bits := l.drop (l.length % 8), last := x0 == 1, st := 1 }) := by unfold blockQ; rw [hbs]; rfl
      rw [e]
      refine (iblock_stored hR hbs).mono ?_
      rintro e w' ⟨rfl, hD⟩
      exact ⟨0, rfl, rfl, DecX.ok (DecQ.nil hD hnil)⟩
    · have e : blockQ q = (0, { q with bits := l, last := x0 == 1, fixed := true, cds := some (fixW, fixD), st := 7 }) := by unfold blockQ; rw [hbs]; rfl
      rw [e]
      by_cases hf : q.fixed = true
      · have hcds : q.cds = some (fixW, fixD) := hR.fx.1 hf
        have e2 : ({ q with bits := l, last := x0 == 1, fixed := true, cds := some (fixW, fixD), st := 7 } : QS) = { q with bits := l, last := x0 == 1, st := 7 } := by rw [← hcds, ← hf]
        rw [e2]
        refine (iblock_fixed2 hR hbs hf).mono ?_
        rintro e w' ⟨rfl, hD⟩
        exact ⟨0, rfl, rfl, DecX.ok (DecQ.nil hD hnil)⟩
      · refine (iblock_fixed hR hbs (by simpa using hf)).mono ?_
        rintro e w' ⟨rfl, hD⟩
        exact ⟨0, rfl, rfl, DecX.ok (DecQ.nil hD hnil)⟩
  · rcases (show x1 = 0 ∨ x1 = 1 by omega) with rfl | rfl
    · have e : blockQ q = (0, { q with bits := l, last := x0 == 1, st := 3 }) := by unfold blockQ; rw [hbs]; rfl
      rw [e]
      refine (iblock_dyn hR hbs).mono ?_
      rintro e w' ⟨rfl, hD⟩
      exact ⟨0, rfl, rfl, DecX.ok (DecQ.nil hD hnil)⟩
    · have e : blockQ q = (3, { q with bits := l, last := x0 == 1 }) := by unfold blockQ; rw [hbs]; rfl
      rw [e]
      refine (iblock_none hR hbs).mono ?_
      rintro e w' ⟨rfl, hD⟩
      exact ⟨3, rfl, rfl, DecX.ok (DecQ.nil hD hnil)⟩

theorem q_sizes (h : DecQ U w0 w b q) (hg : GoodQ q) (h0 : q.st = 1) : Calls Tryd.prog 90 #[.pointer (some ⟨b, 0, none⟩)] w fun e w' => ∃ r : Int, e = .returned (.int .i64 r) ∧ r = ((sizesQ q).1 : Nat) ∧ DecX U w0 w' b (sizesQ q) := by
  obtain ⟨v, p, hL, hv⟩ := h
  have hnil := hg.nil (by omega) (by omega)
  obtain rfl := hv hnil
  have hR := hL.1
  have h2 := hR.bits_lt.2
  by_cases hl : q.bits.length < 32
  · have e : sizesQ q = (2, q) := by unfold sizesQ; rw [if_pos hl]
    rw [e]
    refine (isizes_more hR hl).mono ?_
    rintro e w' ⟨rfl, hD⟩
    exact ⟨2, rfl, rfl, DecX.ok (DecQ.nil hD hnil)⟩
  · have hN : numN (q.bits.take 32) < 2 ^ 32 := numN_take_lt h2 32
    by_cases hs : numN (q.bits.take 32) % 65536 + numN (q.bits.take 32) / 65536 ≠ 65535
    · have e : sizesQ q = (8, { q with bits := q.bits.drop 32 }) := by unfold sizesQ; rw [if_neg hl, if_pos hs]
      rw [e]
      refine (isizes_bad hR _ rfl (by show 32 ≤ q.bits.length; omega) hN hs).mono ?_
      rintro e w' ⟨rfl, hD⟩
      exact ⟨8, rfl, rfl, DecX.ok (DecQ.nil hD hnil)⟩
    · have e : sizesQ q = (0, { q with bits := q.bits.drop 32, left := numN (q.bits.take 32) % 65536, st := 2 }) := by unfold sizesQ; rw [if_neg hl, if_neg hs]
      rw [e]
      refine (isizes_ok hR (numN (q.bits.take 32) % 65536) (by omega) (by show 32 ≤ q.bits.length; omega) (by show numN (q.bits.take 32) = _; omega)).mono ?_
      rintro e w' ⟨rfl, hD⟩
      exact ⟨0, rfl, rfl, DecX.ok (DecQ.nil hD hnil)⟩

theorem q_bytes (h : DecQ U w0 w b q) (hg : GoodQ q) (h0 : q.st = 2) (hz : q.out.length < 900000000 ∧ q.all.length < 900000000) : Calls Tryd.prog 91 #[.pointer (some ⟨b, 0, none⟩)] w fun e w' => ∃ r : Int, e = .returned (.int .i64 r) ∧ r = ((bytesPQ q).1 : Nat) ∧ DecX U w0 w' b (bytesPQ q) := by
  obtain ⟨v, p, hL, hv⟩ := h
  have hnil := hg.nil (by omega) (by omega)
  obtain rfl := hv hnil
  have hR := hL.1
  have h2 := hR.bits_lt.2
  have hl := hg.left h0
  have hb : q.bits = bitsL ((bytesL q.bits).take q.left ++ (bytesL q.bits).drop q.left) := by rw [List.take_append_drop, bits_bytes _ h2 (hg.by8 (.inr h0))]
  have hy : ((bytesL q.bits).take q.left).length = q.left ∨ (((bytesL q.bits).take q.left).length < q.left ∧ (bytesL q.bits).drop q.left = []) := by
    rw [List.length_take]
    by_cases hc : q.left ≤ (bytesL q.bits).length
    · exact .inl (by omega)
    · exact .inr ⟨by omega, List.drop_eq_nil_iff.2 (by omega)⟩
  have hc := ibytes_calls hR ((bytesL q.bits).take q.left) ((bytesL q.bits).drop q.left) hb hy (by show q.left < _; omega) hz (((bytesPQ q).1 : Nat) : Int) (by unfold bytesPQ; show (if q.left - _ = 0 then _ else _) = _; split <;> rfl)
  refine hc.mono ?_
  rintro e w' ⟨rfl, hD⟩
  refine ⟨_, rfl, rfl, DecX.ok (DecQ.nil (p := p) ?_ hnil)⟩
  exact hD

theorem q_counts (h : DecQ U w0 w b q) (hg : GoodQ q) (h0 : q.st = 3) : Calls Tryd.prog 92 #[.pointer (some ⟨b, 0, none⟩)] w fun e w' => ∃ r : Int, e = .returned (.int .i64 r) ∧ r = ((countsQ q).1 : Nat) ∧ DecX U w0 w' b (countsQ q) := by
  obtain ⟨v, p, hL, hv⟩ := h
  have hnil := hg.nil (by omega) (by omega)
  obtain rfl := hv hnil
  have hR := hL.1
  have h2 := hR.bits_lt.2
  by_cases hl : q.bits.length < 14
  · have e : countsQ q = (2, q) := by unfold countsQ; rw [if_pos hl]
    rw [e]
    refine (icounts_more hR hl).mono ?_
    rintro e w' ⟨rfl, hD⟩
    exact ⟨2, rfl, rfl, DecX.ok (DecQ.nil hD hnil)⟩
  · have hN : numN (q.bits.take 14) < 2 ^ 14 := numN_take_lt h2 14
    by_cases hs : 286 < cntW (numN (q.bits.take 14)) ∨ 30 < cntD (numN (q.bits.take 14))
    · have e : countsQ q = (20, { q with bits := q.bits.drop 14 }) := by unfold countsQ; rw [if_neg hl, if_pos hs]
      rw [e]
      refine (icounts_bad hR _ (by show 14 ≤ q.bits.length; omega) rfl hN hs).mono ?_
      rintro e w' ⟨rfl, hD⟩
      exact ⟨20, rfl, rfl, DecX.ok (DecQ.nil hD hnil)⟩
    · have e : countsQ q = (0, { q with bits := q.bits.drop 14, lits := cntW (numN (q.bits.take 14)), both := cntW (numN (q.bits.take 14)) + cntD (numN (q.bits.take 14)), trip := cntT (numN (q.bits.take 14)), st := 4 }) := by unfold countsQ; rw [if_neg hl, if_neg hs]
      rw [e]
      refine (icounts_ok hR _ (by show 14 ≤ q.bits.length; omega) rfl hN (by show cntW (numN (q.bits.take 14)) ≤ 286; omega) (by show cntD (numN (q.bits.take 14)) ≤ 30; omega)).mono ?_
      rintro e w' ⟨rfl, hD⟩
      exact ⟨0, rfl, rfl, DecX.ok (DecQ.nil hD hnil)⟩

theorem q_triples (h : DecQ U w0 w b q) (hg : GoodQ q) (h0 : q.st = 4) (hT : TabsI w0) (hU1 : ¬ U 1) (hU2 : ¬ U 2) : Calls Tryd.prog 93 #[.pointer (some ⟨b, 0, none⟩)] w fun e w' => ∃ r : Int, e = .returned (.int .i64 r) ∧ r = ((triplesQ q).1 : Nat) ∧ DecX U w0 w' b (triplesQ q) := by
  obtain ⟨v, p, hL, hv⟩ := h
  have hnil := hg.nil (by omega) (by omega)
  obtain rfl := hv hnil
  have hR := hL.1
  have ht := hg.trip h0
  by_cases hl : q.bits.length < 3 * q.trip
  · have e : triplesQ q = (2, q) := by unfold triplesQ; rw [if_pos hl]
    rw [e]
    refine (itriples_more hR hl ht).mono ?_
    rintro e w' ⟨rfl, hD⟩
    exact ⟨2, rfl, rfl, DecX.ok (DecQ.nil hD hnil)⟩
  · by_cases hs : whyN ((trL q.bits q.trip).map Int.ofNat) false ≠ 0
    · have e : triplesQ q = (whyN ((trL q.bits q.trip).map Int.ofNat) false, { q with bits := q.bits.drop (3 * q.trip) }) := by unfold triplesQ; rw [if_neg hl, if_pos hs]
      rw [e]
      refine (itriples_bad hR (by show 3 * q.trip ≤ q.bits.length; omega) ht hT hU1 hU2 _ rfl hs).mono ?_
      rintro e w' ⟨rfl, hD⟩
      exact ⟨_, rfl, rfl, DecX.ok (DecQ.nil hD hnil)⟩
    · have e : triplesQ q = (0, { q with bits := q.bits.drop (3 * q.trip), tl := some (trL q.bits q.trip), st := 5 }) := by unfold triplesQ; rw [if_neg hl, if_neg hs]
      rw [e]
      have hw : whyN ((trL q.bits q.trip).map Int.ofNat) false = 0 := by omega
      refine (itriples_ok hR (by show 3 * q.trip ≤ q.bits.length; omega) ht hT hU1 hU2 hw (ofNat_toNat _) (whole_why _ _ hw)).mono ?_
      rintro e w' ⟨rfl, p2, hD⟩
      exact ⟨0, rfl, rfl, DecX.ok (DecQ.nil hD hnil)⟩

theorem q_take {v p : Value} (hL : DecL U w0 w b (q.ps v p) q.ls) (hlt : 257 ≤ q.lits ∧ q.lits < q.ls.length ∧ q.ls.length ≤ 316) : Calls Tryd.prog 147 #[.pointer (some ⟨b, 0, none⟩)] w fun e w' => ∃ r : Int, e = .returned (.int .i64 r) ∧ r = ((takeQ q).1 : Nat) ∧ DecX U w0 w' b (takeQ q) := by
  by_cases h0 : q.ls.getD 256 0 = 0
  · have e : takeQ q = (12, q) := by unfold takeQ; rw [if_pos h0]
    rw [e]
    refine (itake_end hL (by omega) (by omega) h0).mono ?_
    rintro e w' ⟨rfl, hD⟩
    exact ⟨12, rfl, rfl, DecX.bad hD (by decide)⟩
  · by_cases h1 : whyN ((q.ls.take q.lits).map Int.ofNat) false ≠ 0
    · have e : takeQ q = (whyN ((q.ls.take q.lits).map Int.ofNat) false, q) := by unfold takeQ; rw [if_neg h0, if_pos h1]
      rw [e]
      refine (itake_bad1 hL (by omega) (by omega) _ rfl h0 (by show q.lits ≤ _; omega) _ rfl h1).mono ?_
      rintro e w' ⟨rfl, hD⟩
      exact ⟨_, rfl, rfl, DecX.bad hD ⟨h1, why_not2 _ _⟩⟩
    · have h1' : whyN ((q.ls.take q.lits).map Int.ofNat) false = 0 := by omega
      have hc := itake_two hL (by omega) (by omega) _ rfl h0 (by show q.lits < _; omega) h1' _ rfl
      by_cases h3 : whyN ((q.ls.drop q.lits).map Int.ofNat) true ≠ 0
      · have e : takeQ q = (whyN ((q.ls.drop q.lits).map Int.ofNat) true, q) := by unfold takeQ; rw [if_neg h0, if_neg h1, if_pos h3]
        rw [e]
        rw [if_neg h3] at hc
        refine hc.mono ?_
        rintro e w' ⟨rfl, hD⟩
        exact ⟨_, rfl, rfl, DecX.bad hD ⟨h3, why_not2 _ _⟩⟩
      · have h3' : whyN ((q.ls.drop q.lits).map Int.ofNat) true = 0 := by omega
        have e : takeQ q = (0, { q with ls := [], tl := none, fixed := false, cds := some (q.ls.take q.lits, q.ls.drop q.lits), st := 7 }) := by unfold takeQ; rw [if_neg h0, if_neg h1, if_neg h3]
        rw [e]
        have hc2 := hc
        rw [if_pos h3'] at hc2
        have e0 : ((whyN (List.map Int.ofNat (List.drop (q.ps v p).lits q.ls)) true : Nat) : Int) = 0 := by
          have : whyN (List.map Int.ofNat (List.drop (q.ps v p).lits q.ls)) true = 0 := h3'
          rw [this]; rfl
        rw [e0] at hc2
        refine hc2.mono ?_
        rintro e w' ⟨rfl, hD⟩
        exact ⟨0, rfl, rfl, DecX.ok (DecQ.nil hD rfl)⟩

theorem q_add {v p : Value} (hL : DecL U w0 w b (q.ps v p) q.ls) (hv : q.ls = [] → v = .slice none 0 0) (x n : Nat) (hn : n < 1000) (hn1 : 1 ≤ n) (hc : 257 ≤ q.lits ∧ q.lits < q.both ∧ q.both ≤ 316 ∧ q.ls.length < q.both) :
    Calls Tryd.prog 127 #[.pointer (some ⟨b, 0, none⟩), .int .i64 (x : Nat), .int .i64 (n : Nat)] w fun e w' => ∃ r : Int, e = .returned (.int .i64 r) ∧ r = ((addQ q x n).1 : Nat) ∧ DecX U w0 w' b (addQ q x n) := by
  by_cases h1 : q.both < q.ls.length + n
  · have e : addQ q x n = (20, q) := by unfold addQ; rw [if_pos h1]
    rw [e]
    refine (iaddlen_range hL x n hn (by show q.both < _; omega) (by omega) h1).mono ?_
    rintro e w' ⟨rfl, hD⟩
    exact ⟨20, rfl, rfl, DecX.ok ⟨v, p, hD, hv⟩⟩
  · refine iaddlen_calls hL x n hn (by show q.both < _; omega) (by omega) (by show _ ≤ q.both; omega) (fun r w' => r = ((addQ q x n).1 : Nat) ∧ DecX U w0 w' b (addQ q x n)) ?_ ?_
    · intro h2 w' v' hD
      have h2' : q.ls.length + n < q.both := h2
      have e : addQ q x n = (0, { q with ls := q.ls ++ List.replicate n x, st := 5 }) := by unfold addQ; rw [if_neg h1, if_pos h2']
      rw [e]
      refine ⟨rfl, DecX.ok ⟨v', p, hD, fun e => ?_⟩⟩
      have e2 := congrArg List.length e
      rw [List.length_append, List.length_replicate] at e2
      simp at e2
      omega
    · intro h2 w' v' hD
      have h2' : q.ls.length + n = q.both := h2
      have e : addQ q x n = takeQ { q with ls := q.ls ++ List.replicate n x, st := 5 } := by unfold addQ; rw [if_neg h1, if_neg (by omega)]
      rw [e]
      exact q_take (q := { q with ls := q.ls ++ List.replicate n x, st := 5 }) hD ⟨hc.1, by show q.lits < (q.ls ++ List.replicate n x).length; rw [List.length_append, List.length_replicate]; omega, by show (q.ls ++ List.replicate n x).length ≤ 316; rw [List.length_append, List.length_replicate]; omega⟩

theorem q_teller (h : DecQ U w0 w b q) (hg : GoodQ q) (h0 : q.st = 5) : Calls Tryd.prog 94 #[.pointer (some ⟨b, 0, none⟩)] w fun e w' => ∃ r : Int, e = .returned (.int .i64 r) ∧ r = ((tellerQ q).1 : Nat) ∧ DecX U w0 w' b (tellerQ q) := by
  obtain ⟨v, p, hL, hv⟩ := h
  obtain ⟨lt, hlt⟩ := hg.tel (.inl h0)
  have hc := hg.cnt (.inr (.inl h0))
  rcases hx : nextP lt q.bits with t | _ | _
  · have hF := nextP_sym hx
    have e : tellerQ q = if t < 16 then addQ { q with bits := q.bits.drop (lt.getD t 0) } t 1
      else if t = 16 ∧ q.ls = [] then (3, { q with bits := q.bits.drop (lt.getD t 0) })
      else (0, { q with bits := q.bits.drop (lt.getD t 0), sym := t, st := 6 }) := by unfold tellerQ; rw [hlt]; dsimp only; rw [hx]
    rw [e]
    refine itel_sym hL hlt t hx (fun r w' => r = ((if t < 16 then addQ { q with bits := q.bits.drop (lt.getD t 0) } t 1
      else if t = 16 ∧ q.ls = [] then (3, { q with bits := q.bits.drop (lt.getD t 0) })
      else (0, { q with bits := q.bits.drop (lt.getD t 0), sym := t, st := 6 })).1 : Nat) ∧ DecX U w0 w' b (if t < 16 then addQ { q with bits := q.bits.drop (lt.getD t 0) } t 1
      else if t = 16 ∧ q.ls = [] then (3, { q with bits := q.bits.drop (lt.getD t 0) })
      else (0, { q with bits := q.bits.drop (lt.getD t 0), sym := t, st := 6 }))) ?_ ?_ ?_
    · intro ht W hD
      rw [if_pos ht]
      exact q_add (q := { q with bits := q.bits.drop (lt.getD t 0) }) hD hv t 1 (by decide) (Nat.le_refl _) ⟨hc.1, hc.2.2.1, hc.2.2.2.1, hc.2.2.2.2⟩
    · intro ht hls W hD
      rw [if_neg (by omega), if_pos ⟨ht, hls⟩]
      exact ⟨rfl, DecX.ok ⟨v, p, hD, hv⟩⟩
    · intro ht hno W hD
      rw [if_neg (by omega), if_neg hno]
      exact ⟨rfl, DecX.ok ⟨v, p, hD, hv⟩⟩
  · have e : tellerQ q = (2, q) := by unfold tellerQ; rw [hlt]; dsimp only; rw [hx]
    rw [e]
    refine (itel_more hL hlt 2 (.inl ⟨hx, rfl⟩)).mono ?_
    rintro e w' ⟨rfl, hD⟩
    exact ⟨_, rfl, rfl, DecX.ok ⟨v, p, hD, hv⟩⟩
  · have e : tellerQ q = (4, q) := by unfold tellerQ; rw [hlt]; dsimp only; rw [hx]
    rw [e]
    refine (itel_more hL hlt 4 (.inr ⟨hx, rfl⟩)).mono ?_
    rintro e w' ⟨rfl, hD⟩
    exact ⟨_, rfl, rfl, DecX.ok ⟨v, p, hD, hv⟩⟩

theorem q_repeat (h : DecQ U w0 w b q) (hg : GoodQ q) (h0 : q.st = 6) (hT : TabsI w0) (hU1 : ¬ U 1) (hU2 : ¬ U 2) : Calls Tryd.prog 95 #[.pointer (some ⟨b, 0, none⟩)] w fun e w' => ∃ r : Int, e = .returned (.int .i64 r) ∧ r = ((repeatQ q).1 : Nat) ∧ DecX U w0 w' b (repeatQ q) := by
  obtain ⟨v, p, hL, hv⟩ := h
  have h2 := hL.1.bits_lt.2
  obtain ⟨hs, hs16⟩ := hg.sym h0
  have hc := hg.cnt (.inr (.inr h0))
  by_cases hl : q.bits.length < repB q.sym
  · have e : repeatQ q = (2, q) := by unfold repeatQ; rw [if_pos hl]
    rw [e]
    refine (irep_more hL hT hU1 hU2 q.sym rfl hs hl).mono ?_
    rintro e w' ⟨rfl, hD⟩
    exact ⟨2, rfl, rfl, DecX.ok ⟨v, p, hD, hv⟩⟩
  · have e : repeatQ q = addQ { q with bits := q.bits.drop (repB q.sym) } (if q.sym = 16 then q.ls.getD (q.ls.length - 1) 0 else 0) (repM q.sym + numN (q.bits.take (repB q.sym))) := by unfold repeatQ; rw [if_neg hl]
    rw [e]
    have hB : repB q.sym ≤ 7 := by unfold repB; split; decide; split <;> decide
    have hM : 1 ≤ repM q.sym ∧ repM q.sym ≤ 11 := by unfold repM; split <;> decide
    have hN : numN (q.bits.take (repB q.sym)) < 128 := Nat.lt_of_lt_of_le (numN_take_lt h2 _) (Nat.pow_le_pow_right (by decide) hB)
    exact irep_ok hL hT hU1 hU2 q.sym rfl hs (by show repB q.sym ≤ q.bits.length; omega) (by omega) hs16 _ rfl hN _ (fun W hD => q_add (q := { q with bits := q.bits.drop (repB q.sym) }) hD hv _ _ (by show repM q.sym + numN (q.bits.take (repB q.sym)) < 1000; omega) (by show 1 ≤ repM q.sym + numN (q.bits.take (repB q.sym)); omega) ⟨hc.1, hc.2.2.1, hc.2.2.2.1, hc.2.2.2.2⟩)

theorem DecR.one {s : PS} (h : DecR U w0 w b s) {lw ld : List Nat} (hf : s.cds = some (lw, ld)) : (∀ i j, FoundAt lw s.bits i → FoundAt lw s.bits j → i = j) ∧ (∀ i j, FoundAt ld s.bits i → FoundAt ld s.bits j → i = j) := by
  obtain ⟨v5, g, v7, v8, p17, p18, hD, _⟩ := h
  obtain ⟨⟨_, _, _, _, hC1, _⟩, ⟨_, _, _, _, hC2, _⟩⟩ := hD.cod.cod _ _ hf
  exact ⟨fun i j hi hj => code_one hC1 hD.l2 hi hj, fun i j hi hj => code_one hC2 hD.l2 hi hj⟩

theorem q_symbol (h : DecQ U w0 w b q) (hg : GoodQ q) (h0 : q.st = 7) (hz : q.out.length < 900000000 ∧ q.all.length < 900000000) : Calls Tryd.prog 96 #[.pointer (some ⟨b, 0, none⟩)] w fun e w' => ∃ r : Int, e = .returned (.int .i64 r) ∧ r = ((symbolQ q).1 : Nat) ∧ DecX U w0 w' b (symbolQ q) := by
  obtain ⟨v, p, hL, hv⟩ := h
  have hnil := hg.nil (by omega) (by omega)
  obtain rfl := hv hnil
  have hR := hL.1
  obtain ⟨lw, ld, hf⟩ := hg.cds (by omega) (by omega)
  have hone := (hR.one hf).1
  rcases hx : nextP lw q.bits with t | _ | _
  · have hF := nextP_sym hx
    have e : symbolQ q = if t < 256 then (0, { q with bits := q.bits.drop (lw.getD t 0), all := q.all ++ [UInt8.ofNat t], out := q.out ++ [UInt8.ofNat t] })
      else if t = 256 then (0, { q with bits := q.bits.drop (lw.getD t 0), st := if q.last then 11 else 0 })
      else if t < 286 then (0, { q with bits := q.bits.drop (lw.getD t 0), size := lenL (t - 257), extra := lenE (t - 257), st := 8 })
      else (4, { q with bits := q.bits.drop (lw.getD t 0) }) := by unfold symbolQ; rw [hf]; dsimp only; rw [hx]
    rw [e]
    by_cases t1 : t < 256
    · rw [if_pos t1]
      have ht : (UInt8.ofNat t).toNat = t := by rw [UInt8.toNat_ofNat']; omega
      refine (isym_lit hR hf (UInt8.ofNat t) (lw.getD t 0) (by rw [ht]) (by rw [ht]; exact hF) (fun i hi => by rw [ht]; exact hone i t hi hF) ⟨by show q.out.length < _; omega, by show q.all.length < _; omega⟩).mono ?_
      rintro e w' ⟨rfl, hD⟩
      exact ⟨0, rfl, rfl, DecX.ok (DecQ.nil hD hnil)⟩
    · rw [if_neg t1]
      by_cases t2 : t = 256
      · subst t2
        rw [if_pos rfl]
        refine (isym_end hR hf hF (fun i hi => hone i 256 hi hF) _ rfl).mono ?_
        rintro e w' ⟨rfl, hD⟩
        exact ⟨0, rfl, rfl, DecX.ok (DecQ.nil hD hnil)⟩
      · rw [if_neg t2]
        by_cases t3 : t < 286
        · rw [if_pos t3]
          have ht : 257 + (t - 257) = t := by omega
          refine (isym_len hR hf (t - 257) (by omega) (lw.getD t 0) (by rw [ht]) (by rw [ht]; exact hF) (fun i hi => by rw [ht]; exact hone i t hi hF)).mono ?_
          rintro e w' ⟨rfl, hD⟩
          exact ⟨0, rfl, rfl, DecX.ok (DecQ.nil hD hnil)⟩
        · rw [if_neg t3]
          refine (isym_code hR hf t hx (by omega)).mono ?_
          rintro e w' ⟨rfl, hD⟩
          exact ⟨4, rfl, rfl, DecX.ok (DecQ.nil hD hnil)⟩
  · have e : symbolQ q = (2, q) := by unfold symbolQ; rw [hf]; dsimp only; rw [hx]
    rw [e]
    refine (isym_none hR hf 2 (.inl ⟨hx, rfl⟩)).mono ?_
    rintro e w' ⟨rfl, hD⟩
    exact ⟨_, rfl, rfl, DecX.ok (DecQ.nil hD hnil)⟩
  · have e : symbolQ q = (4, q) := by unfold symbolQ; rw [hf]; dsimp only; rw [hx]
    rw [e]
    refine (isym_none hR hf 4 (.inr ⟨hx, rfl⟩)).mono ?_
    rintro e w' ⟨rfl, hD⟩
    exact ⟨_, rfl, rfl, DecX.ok (DecQ.nil hD hnil)⟩

theorem q_length (h : DecQ U w0 w b q) (hg : GoodQ q) (h0 : q.st = 8) : Calls Tryd.prog 97 #[.pointer (some ⟨b, 0, none⟩)] w fun e w' => ∃ r : Int, e = .returned (.int .i64 r) ∧ r = ((lengthQ q).1 : Nat) ∧ DecX U w0 w' b (lengthQ q) := by
  obtain ⟨v, p, hL, hv⟩ := h
  have hnil := hg.nil (by omega) (by omega)
  obtain rfl := hv hnil
  have hR := hL.1
  have h2 := hR.bits_lt.2
  obtain ⟨he, hsz, _⟩ := hg.len h0
  have hpos : 0 < 2 ^ q.extra := Nat.pow_pos (by decide)
  by_cases hl : q.bits.length < q.extra
  · have e : lengthQ q = (2, q) := by unfold lengthQ; rw [if_pos hl]
    rw [e]
    refine (ilen_more hR (by show q.extra ≤ 32; omega) hl).mono ?_
    rintro e w' ⟨rfl, hD⟩
    exact ⟨2, rfl, rfl, DecX.ok (DecQ.nil hD hnil)⟩
  · have e : lengthQ q = (0, { q with bits := q.bits.drop q.extra, size := q.size + numN (q.bits.take q.extra), st := 9 }) := by unfold lengthQ; rw [if_neg hl]
    rw [e]
    refine (ilen_ok hR (by show q.extra ≤ 16; omega) (by show q.size ≤ _; omega) (by show q.extra ≤ q.bits.length; omega) _ rfl (Nat.lt_of_lt_of_le (numN_take_lt h2 _) (Nat.pow_le_pow_right (n := 2) (i := _) (j := 16) (by decide) (by show q.extra ≤ 16; omega)))).mono ?_
    rintro e w' ⟨rfl, hD⟩
    exact ⟨0, rfl, rfl, DecX.ok (DecQ.nil hD hnil)⟩

theorem q_dist (h : DecQ U w0 w b q) (hg : GoodQ q) (h0 : q.st = 9) : Calls Tryd.prog 98 #[.pointer (some ⟨b, 0, none⟩)] w fun e w' => ∃ r : Int, e = .returned (.int .i64 r) ∧ r = ((distQ q).1 : Nat) ∧ DecX U w0 w' b (distQ q) := by
  obtain ⟨v, p, hL, hv⟩ := h
  have hnil := hg.nil (by omega) (by omega)
  obtain rfl := hv hnil
  have hR := hL.1
  obtain ⟨lw, ld, hf⟩ := hg.cds (by omega) (by omega)
  have hone := (hR.one hf).2
  rcases hx : nextP ld q.bits with t | _ | _
  · have hF := nextP_sym hx
    have e : distQ q = if t < 30 then (0, { q with bits := q.bits.drop (ld.getD t 0), dist := leastN 1 t + 1, extra := extN 1 t, st := 10 })
      else (4, { q with bits := q.bits.drop (ld.getD t 0) }) := by unfold distQ; rw [hf]; dsimp only; rw [hx]
    rw [e]
    by_cases t3 : t < 30
    · rw [if_pos t3]
      refine (idist_ok hR hf t t3 hF (fun i hi => hone i t hi hF)).mono ?_
      rintro e w' ⟨rfl, hD⟩
      exact ⟨0, rfl, rfl, DecX.ok (DecQ.nil hD hnil)⟩
    · rw [if_neg t3]
      refine (idist_code hR hf t hx (by omega)).mono ?_
      rintro e w' ⟨rfl, hD⟩
      exact ⟨4, rfl, rfl, DecX.ok (DecQ.nil hD hnil)⟩
  · have e : distQ q = (2, q) := by unfold distQ; rw [hf]; dsimp only; rw [hx]
    rw [e]
    refine (idist_none hR hf 2 (.inl ⟨hx, rfl⟩)).mono ?_
    rintro e w' ⟨rfl, hD⟩
    exact ⟨_, rfl, rfl, DecX.ok (DecQ.nil hD hnil)⟩
  · have e : distQ q = (4, q) := by unfold distQ; rw [hf]; dsimp only; rw [hx]
    rw [e]
    refine (idist_none hR hf 4 (.inr ⟨hx, rfl⟩)).mono ?_
    rintro e w' ⟨rfl, hD⟩
    exact ⟨_, rfl, rfl, DecX.ok (DecQ.nil hD hnil)⟩

theorem q_dbits (h : DecQ U w0 w b q) (hg : GoodQ q) (h0 : q.st = 10) (hz : q.out.length < 900000000 ∧ q.all.length < 900000000) : Calls Tryd.prog 99 #[.pointer (some ⟨b, 0, none⟩)] w fun e w' => ∃ r : Int, e = .returned (.int .i64 r) ∧ r = ((dbitsQ q).1 : Nat) ∧ DecX U w0 w' b (dbitsQ q) := by
  obtain ⟨v, p, hL, hv⟩ := h
  have hnil := hg.nil (by omega) (by omega)
  obtain rfl := hv hnil
  have hR := hL.1
  have h2 := hR.bits_lt.2
  obtain ⟨he, hd1, hd2⟩ := hg.dst h0
  have hsz := hg.len9 (.inr h0)
  have hN : numN (q.bits.take q.extra) < 65536 := Nat.lt_of_lt_of_le (numN_take_lt h2 _) (Nat.pow_le_pow_right (n := 2) (i := _) (j := 16) (by decide) (by omega))
  by_cases hl : q.bits.length < q.extra
  · have e : dbitsQ q = (2, q) := by unfold dbitsQ; rw [if_pos hl]
    rw [e]
    refine (idb_more hR (by show q.extra ≤ 32; omega) hl).mono ?_
    rintro e w' ⟨rfl, hD⟩
    exact ⟨2, rfl, rfl, DecX.ok (DecQ.nil hD hnil)⟩
  · by_cases hd : min q.all.length 32768 < q.dist + numN (q.bits.take q.extra)
    · have e : dbitsQ q = (6, { q with bits := q.bits.drop q.extra }) := by unfold dbitsQ; rw [if_neg hl, if_pos hd]
      rw [e]
      refine (idb_bad hR (by show q.extra ≤ 16; omega) (by show q.extra ≤ q.bits.length; omega) _ rfl hN (by show q.dist < _; omega) hsz hd).mono ?_
      rintro e w' ⟨rfl, hD⟩
      exact ⟨6, rfl, rfl, DecX.ok (DecQ.nil hD hnil)⟩
    · have e : dbitsQ q = (0, { q with bits := q.bits.drop q.extra, all := copyL q.size (q.dist + numN (q.bits.take q.extra)) q.all, out := q.out ++ (copyL q.size (q.dist + numN (q.bits.take q.extra)) q.all).drop q.all.length, st := 7 }) := by unfold dbitsQ; rw [if_neg hl, if_neg hd]
      rw [e]
      refine (idb_ok hR (by show q.extra ≤ 16; omega) (by show q.extra ≤ q.bits.length; omega) _ rfl hN (by show q.dist < _; omega) hsz (by show 1 ≤ q.dist + numN (q.bits.take q.extra); omega) (by show q.dist + numN (q.bits.take q.extra) ≤ min q.all.length 32768; omega) ⟨by show q.out.length < _; omega, by show q.all.length < _; omega⟩ _ rfl).mono ?_
      rintro e w' ⟨rfl, hD⟩
      exact ⟨0, rfl, rfl, DecX.ok (DecQ.nil hD hnil)⟩

/-- A part. -/
theorem q_part (h : DecQ U w0 w b q) (hg : GoodQ q) (hst : q.st < 11) (hz : q.out.length < 900000000 ∧ q.all.length < 900000000) (hT : TabsI w0) (hU1 : ¬ U 1) (hU2 : ¬ U 2) :
    Calls Tryd.prog 63 #[.pointer (some ⟨b, 0, none⟩)] w fun e w' => ∃ r : Int, e = .returned (.int .i64 r) ∧ r = ((partQ q).1 : Nat) ∧ DecX U w0 w' b (partQ q) := by
  have c0 : w.cell? ⟨b, 0, none⟩ = some (.int .i64 (q.st : Nat)) := by
    obtain ⟨v, p, hL, _⟩ := h
    exact hL.1.cell0
  obtain ⟨k, hk⟩ : ∃ k, q.st = k := ⟨_, rfl⟩
  rw [hk] at c0 hst
  unfold partQ
  rw [hk]
  match k, hk, c0, hst with
  | 0, hk, c0, _ => exact partE_0 c0 (q_block h hg hk)
  | 1, hk, c0, _ => exact partE_1 c0 (q_sizes h hg hk)
  | 2, hk, c0, _ => exact partE_2 c0 (q_bytes h hg hk hz)
  | 3, hk, c0, _ => exact partE_3 c0 (q_counts h hg hk)
  | 4, hk, c0, _ => exact partE_4 c0 (q_triples h hg hk hT hU1 hU2)
  | 5, hk, c0, _ => exact partE_5 c0 (q_teller h hg hk)
  | 6, hk, c0, _ => exact partE_6 c0 (q_repeat h hg hk hT hU1 hU2)
  | 7, hk, c0, _ => exact partE_7 c0 (q_symbol h hg hk hz)
  | 8, hk, c0, _ => exact partE_8 c0 (q_length h hg hk)
  | 9, hk, c0, _ => exact partE_9 c0 (q_dist h hg hk)
  | 10, hk, c0, _ => exact partE_10 c0 (q_dbits h hg hk hz)
end
end Go.Proofs.YtoaeffinjpkahaaDoor
/- A decoder: each part of plain data leads to a good state, with less still to do; a run of parts. -/
namespace Go.Proofs.YtoaeffinjpkahaaDoor
set_option linter.unusedSimpArgs false
set_option linter.unusedVariables false
open Go Go.RowKit
set_option maxRecDepth 100000
set_option linter.unusedVariables false

theorem gqA {q : QS} (hk : q.st = 0 ∨ q.st = 3 ∨ q.st = 11) (h1 : q.ls = []) (h3 : ∀ lt, q.tl = some lt → lt.length = 19) : GoodQ q :=
  ⟨by omega, fun h => by omega, fun h => by omega, fun h => by omega, fun h => by omega, fun h => by omega, fun _ _ => h1, fun h => by omega, fun h => by omega, fun h h' => by omega, h3, fun h => by omega, fun h => by omega, fun h => by omega⟩
theorem gq1 {q : QS} (hk : q.st = 1) (h1 : q.ls = []) (h3 : ∀ lt, q.tl = some lt → lt.length = 19) (h4 : q.bits.length % 8 = 0) : GoodQ q :=
  ⟨by omega, fun h => h4, fun h => by omega, fun h => by omega, fun h => by omega, fun h => by omega, fun _ _ => h1, fun h => by omega, fun h => by omega, fun h h' => by omega, h3, fun h => by omega, fun h => by omega, fun h => by omega⟩
theorem gq2 {q : QS} (hk : q.st = 2) (h1 : q.ls = []) (h3 : ∀ lt, q.tl = some lt → lt.length = 19) (h4 : q.bits.length % 8 = 0) (h5 : q.left < 65536) : GoodQ q :=
  ⟨by omega, fun h => h4, fun h => h5, fun h => by omega, fun h => by omega, fun h => by omega, fun _ _ => h1, fun h => by omega, fun h => by omega, fun h h' => by omega, h3, fun h => by omega, fun h => by omega, fun h => by omega⟩
theorem gq4 {q : QS} (hk : q.st = 4) (h1 : q.ls = []) (h3 : ∀ lt, q.tl = some lt → lt.length = 19) (h4 : 4 ≤ q.trip ∧ q.trip ≤ 19) (h5 : 257 ≤ q.lits ∧ q.lits ≤ 286 ∧ q.lits < q.both ∧ q.both ≤ 316 ∧ q.ls.length < q.both) : GoodQ q :=
  ⟨by omega, fun h => by omega, fun h => by omega, fun h => h4.2, fun h => h4.1, fun h => h5, fun _ _ => h1, fun h => by omega, fun h => by omega, fun h h' => by omega, h3, fun h => by omega, fun h => by omega, fun h => by omega⟩
theorem gq5 {q : QS} (hk : q.st = 5) (h3 : ∃ lt, q.tl = some lt ∧ lt.length = 19) (h5 : 257 ≤ q.lits ∧ q.lits ≤ 286 ∧ q.lits < q.both ∧ q.both ≤ 316 ∧ q.ls.length < q.both) : GoodQ q :=
  ⟨by omega, fun h => by omega, fun h => by omega, fun h => by omega, fun h => by omega, fun h => h5, fun h _ => by omega, fun h => ⟨h3.choose, h3.choose_spec.1⟩, fun h => by omega, fun h h' => by omega, fun lt e => by
    obtain ⟨l2, e2, h2⟩ := h3
    rw [e2] at e
    rw [← Option.some.inj e]; exact h2, fun h => by omega, fun h => by omega, fun h => by omega⟩
theorem gq6 {q : QS} (hk : q.st = 6) (h3 : ∃ lt, q.tl = some lt ∧ lt.length = 19) (h5 : 257 ≤ q.lits ∧ q.lits ≤ 286 ∧ q.lits < q.both ∧ q.both ≤ 316 ∧ q.ls.length < q.both) (h6 : (q.sym = 16 ∨ q.sym = 17 ∨ q.sym = 18) ∧ (q.sym = 16 → q.ls ≠ [])) : GoodQ q :=
  ⟨by omega, fun h => by omega, fun h => by omega, fun h => by omega, fun h => by omega, fun h => h5, fun _ h => by omega, fun h => ⟨h3.choose, h3.choose_spec.1⟩, fun h => h6, fun h h' => by omega, fun lt e => by
    obtain ⟨l2, e2, h2⟩ := h3
    rw [e2] at e
    rw [← Option.some.inj e]; exact h2, fun h => by omega, fun h => by omega, fun h => by omega⟩
theorem gq7 {q : QS} (hk : q.st = 7) (h1 : q.ls = []) (h3 : ∀ lt, q.tl = some lt → lt.length = 19) (h2 : ∃ lw ld, q.cds = some (lw, ld)) : GoodQ q :=
  ⟨by omega, fun h => by omega, fun h => by omega, fun h => by omega, fun h => by omega, fun h => by omega, fun _ _ => h1, fun h => by omega, fun h => by omega, fun _ _ => h2, h3, fun h => by omega, fun h => by omega, fun h => by omega⟩
theorem gq8 {q : QS} (hk : q.st = 8) (h1 : q.ls = []) (h3 : ∀ lt, q.tl = some lt → lt.length = 19) (h2 : ∃ lw ld, q.cds = some (lw, ld)) (h4 : q.extra ≤ 5 ∧ q.size + 2 ^ q.extra ≤ 259 ∧ 3 ≤ q.size) : GoodQ q :=
  ⟨by omega, fun h => by omega, fun h => by omega, fun h => by omega, fun h => by omega, fun h => by omega, fun _ _ => h1, fun h => by omega, fun h => by omega, fun _ _ => h2, h3, fun _ => h4, fun h => by omega, fun h => by omega⟩
theorem gq9 {q : QS} (hk : q.st = 9) (h1 : q.ls = []) (h3 : ∀ lt, q.tl = some lt → lt.length = 19) (h2 : ∃ lw ld, q.cds = some (lw, ld)) (h4 : q.size ≤ 258) : GoodQ q :=
  ⟨by omega, fun h => by omega, fun h => by omega, fun h => by omega, fun h => by omega, fun h => by omega, fun _ _ => h1, fun h => by omega, fun h => by omega, fun _ _ => h2, h3, fun h => by omega, fun _ => h4, fun h => by omega⟩
theorem gq10 {q : QS} (hk : q.st = 10) (h1 : q.ls = []) (h3 : ∀ lt, q.tl = some lt → lt.length = 19) (h2 : ∃ lw ld, q.cds = some (lw, ld)) (h4 : q.size ≤ 258) (h5 : q.extra ≤ 13 ∧ q.dist < 32769 ∧ 1 ≤ q.dist) : GoodQ q :=
  ⟨by omega, fun h => by omega, fun h => by omega, fun h => by omega, fun h => by omega, fun h => by omega, fun _ _ => h1, fun h => by omega, fun h => by omega, fun _ _ => h2, h3, fun h => by omega, fun _ => h4, fun _ => h5⟩
theorem good0 : GoodQ qs0 := gqA (.inl rfl) rfl (fun lt h => by cases h)

/-- How much is still to do. -/
def rkQ (k : Nat) : Nat := if k = 2 ∨ k = 8 ∨ k = 10 then 1 else 0
def msQ (q : QS) : Nat := 2 * q.bits.length + rkQ q.st
/-- A part of plain data keeps what it should. -/
structure StepQ (q : QS) (x : Nat × QS) : Prop where
  good : x.1 = 0 ∨ x.1 = 2 → GoodQ x.2
  less : x.1 = 0 → msQ x.2 < msQ q
  wait : x.1 = 2 → x.2.st < 11
  came : x.2.came = q.came
  told : x.2.told = q.told
  two : ∀ y ∈ x.2.bits, y < 2
  tells : ∃ ext, x.2.out = q.out ++ ext ∧ x.2.all = q.all ++ ext ∧ ext.length + 300 * msQ x.2 ≤ 300 * msQ q

theorem StepQ.stay {q : QS} (hg : GoodQ q) (h2 : ∀ x ∈ q.bits, x < 2) (hst : q.st < 11) {r : Nat} (hr : r ≠ 0) : StepQ q (r, q) :=
  ⟨fun _ => hg, fun e => absurd e hr, fun _ => hst, rfl, rfl, h2, [], by simp, by simp, by simp⟩
/-- Bits that are taken, and nothing told. -/
theorem StepQ.drop {q q' : QS} {r : Nat} (n : Nat) (hb : q'.bits = q.bits.drop n) (hg : r = 0 ∨ r = 2 → GoodQ q') (hr : r ≠ 2) (h2 : ∀ x ∈ q.bits, x < 2) (hm : r = 0 → msQ q' < msQ q) (hm2 : msQ q' ≤ msQ q) (he : q'.came = q.came ∧ q'.told = q.told ∧ q'.out = q.out ∧ q'.all = q.all) : StepQ q (r, q') :=
  ⟨hg, hm, fun e => absurd e hr, he.1, he.2.1, fun y hy => h2 y (by rw [hb] at hy; exact List.mem_of_mem_drop hy), [], by rw [List.append_nil]; exact he.2.2.1, by rw [List.append_nil]; exact he.2.2.2, by show 0 + 300 * msQ q' ≤ 300 * msQ q; omega⟩

section
variable {q : QS}

theorem s_block (hg : GoodQ q) (h2 : ∀ x ∈ q.bits, x < 2) (h0 : q.st = 0) : StepQ q (blockQ q) := by
  have hnil := hg.nil (by omega) (by omega)
  have htl := hg.tlen
  have hrk : rkQ q.st = 0 := by rw [h0]; rfl
  have few : blockQ q = (2, q) → StepQ q (blockQ q) := fun e => by rw [e]; exact StepQ.stay hg h2 (by omega) (by decide)
  rcases hbs : q.bits with _ | ⟨x0, _ | ⟨x1, _ | ⟨x2, l⟩⟩⟩
  · exact few (by unfold blockQ; rw [hbs])
  · exact few (by unfold blockQ; rw [hbs])
  · exact few (by unfold blockQ; rw [hbs])
  have hlen : q.bits.length = l.length + 3 := by rw [hbs]; rfl
  have hdrop : l = q.bits.drop 3 := by rw [hbs]; rfl
  have e : blockQ q = if x2 = 0 then
      if x1 = 0 then (0, { q with bits := l.drop (l.length % 8), last := x0 == 1, st := 1 })
      else (0, { q with bits := l, last := x0 == 1, fixed := true, cds := some (fixW, fixD), st := 7 })
    else if x1 = 0 then (0, { q with bits := l, last := x0 == 1, st := 3 })
    else (3, { q with bits := l, last := x0 == 1 }) := by unfold blockQ; rw [hbs]
  rw [e]
  have m0 : ∀ q' : QS, q'.bits = l → rkQ q'.st = 0 → msQ q' < msQ q := fun q' e1 e2 => by unfold msQ; rw [e1, e2, hrk, hlen]; omega
  split
  · split
    · have hm : msQ { q with bits := l.drop (l.length % 8), last := x0 == 1, st := 1 } < msQ q := by
        show 2 * (l.drop (l.length % 8)).length + rkQ 1 < 2 * q.bits.length + rkQ q.st
        rw [hrk, hlen, List.length_drop, show rkQ 1 = 0 from rfl]; omega
      exact StepQ.drop (3 + l.length % 8) (by show l.drop _ = _; rw [hdrop, List.drop_drop, ← hdrop]) (fun _ => gq1 rfl hnil htl (by show (l.drop (l.length % 8)).length % 8 = 0; rw [List.length_drop]; omega)) (by decide) h2 (fun _ => hm) (Nat.le_of_lt hm) ⟨rfl, rfl, rfl, rfl⟩
    · exact StepQ.drop 3 hdrop (fun _ => gq7 rfl hnil htl ⟨_, _, rfl⟩) (by decide) h2 (fun _ => m0 _ rfl rfl) (Nat.le_of_lt (m0 _ rfl rfl)) ⟨rfl, rfl, rfl, rfl⟩
  · split
    · exact StepQ.drop 3 hdrop (fun _ => gqA (.inr (.inl rfl)) hnil htl) (by decide) h2 (fun _ => m0 _ rfl rfl) (Nat.le_of_lt (m0 _ rfl rfl)) ⟨rfl, rfl, rfl, rfl⟩
    · exact StepQ.drop 3 hdrop (fun e => by omega) (by decide) h2 (fun e => by omega) (Nat.le_of_lt (m0 _ rfl hrk)) ⟨rfl, rfl, rfl, rfl⟩

theorem ms_drop {q q' : QS} (n : Nat) (hb : q'.bits = q.bits.drop n) (hn : n ≤ q.bits.length) (hr : rkQ q'.st + 1 ≤ 2 * n + rkQ q.st) : msQ q' < msQ q := by
  unfold msQ
  rw [hb, List.length_drop]
  omega
theorem rk_le (k : Nat) : rkQ k ≤ 1 := by unfold rkQ; split <;> omega

theorem s_sizes (hg : GoodQ q) (h2 : ∀ x ∈ q.bits, x < 2) (h0 : q.st = 1) : StepQ q (sizesQ q) := by
  have hnil := hg.nil (by omega) (by omega)
  have htl := hg.tlen
  have h8 := hg.by8 (.inl h0)
  unfold sizesQ
  split
  · exact StepQ.stay hg h2 (by omega) (by decide)
  · rename_i hl
    have hm : ∀ q' : QS, q'.bits = q.bits.drop 32 → msQ q' < msQ q := fun q' e => ms_drop 32 e (by omega) (by have := rk_le q'.st; omega)
    split
    · exact StepQ.drop 32 rfl (fun e => by omega) (by decide) h2 (fun e => by omega) (Nat.le_of_lt (hm _ rfl)) ⟨rfl, rfl, rfl, rfl⟩
    · exact StepQ.drop 32 rfl (fun _ => gq2 rfl hnil htl (by show (q.bits.drop 32).length % 8 = 0; rw [List.length_drop]; omega) (by show _ % 65536 < 65536; omega)) (by decide) h2 (fun _ => hm _ rfl) (Nat.le_of_lt (hm _ rfl)) ⟨rfl, rfl, rfl, rfl⟩

theorem s_bytes (hg : GoodQ q) (h2 : ∀ x ∈ q.bits, x < 2) (h0 : q.st = 2) : StepQ q (bytesPQ q) := by
  have hnil := hg.nil (by omega) (by omega)
  have htl := hg.tlen
  have h8 := hg.by8 (.inr h0)
  have hlf := hg.left h0
  have hbl : (bytesL q.bits).length = q.bits.length / 8 := bytesK_length _ _
  obtain ⟨Y, hY⟩ : ∃ Y, bytesL q.bits = Y := ⟨_, rfl⟩
  unfold bytesPQ
  rw [hY] at hbl ⊢
  have hlen : (bitsL (Y.drop q.left)).length = 8 * (Y.length - q.left) := by rw [bitsL_length, List.length_drop]
  have htk : (Y.take q.left).length = min q.left Y.length := List.length_take
  refine ⟨fun hr => ?_, fun hr => ?_, fun hr => ?_, rfl, rfl, fun y hy => bitsL_lt _ y hy, Y.take q.left, rfl, rfl, ?_⟩
  · by_cases hz : q.left - (Y.take q.left).length = 0
    · have hst : (bytesQ2 q (Y.take q.left) (Y.drop q.left)).st = if q.last then 11 else 0 := by unfold bytesQ2; show (if q.left - (Y.take q.left).length = 0 then _ else _) = _; rw [if_pos hz]
      exact gqA (by rw [hst]; cases q.last; exact .inl rfl; exact .inr (.inr rfl)) hnil htl
    · have hst : (bytesQ2 q (Y.take q.left) (Y.drop q.left)).st = 2 := by unfold bytesQ2; show (if q.left - (Y.take q.left).length = 0 then _ else _) = _; rw [if_neg hz, h0]
      exact gq2 hst hnil htl (by show (bitsL (Y.drop q.left)).length % 8 = 0; rw [hlen]; omega) (by show q.left - _ < _; omega)
  · by_cases hz : q.left - (Y.take q.left).length = 0
    · have hst : (bytesQ2 q (Y.take q.left) (Y.drop q.left)).st = if q.last then 11 else 0 := by unfold bytesQ2; show (if q.left - (Y.take q.left).length = 0 then _ else _) = _; rw [if_pos hz]
      show 2 * (bitsL (Y.drop q.left)).length + rkQ (bytesQ2 q (Y.take q.left) (Y.drop q.left)).st < 2 * q.bits.length + rkQ q.st
      rw [hst, h0, hlen, show rkQ 2 = 1 from rfl, show rkQ (if q.last then 11 else 0) = 0 by cases q.last <;> rfl]
      omega
    · exact absurd hr (by dsimp only; rw [if_neg hz]; decide)
  · by_cases hz : q.left - (Y.take q.left).length = 0
    · exact absurd hr (by dsimp only; rw [if_pos hz]; decide)
    · have hst : (bytesQ2 q (Y.take q.left) (Y.drop q.left)).st = 2 := by unfold bytesQ2; show (if q.left - (Y.take q.left).length = 0 then _ else _) = _; rw [if_neg hz, h0]
      rw [hst]; decide
  · show (Y.take q.left).length + 300 * (2 * (bitsL (Y.drop q.left)).length + rkQ (bytesQ2 q (Y.take q.left) (Y.drop q.left)).st) ≤ 300 * (2 * q.bits.length + rkQ q.st)
    have h9 := rk_le (bytesQ2 q (Y.take q.left) (Y.drop q.left)).st
    rw [h0, hlen, show rkQ 2 = 1 from rfl, htk]
    omega

theorem s_counts (hg : GoodQ q) (h2 : ∀ x ∈ q.bits, x < 2) (h0 : q.st = 3) : StepQ q (countsQ q) := by
  have hnil := hg.nil (by omega) (by omega)
  have htl := hg.tlen
  unfold countsQ
  split
  · exact StepQ.stay hg h2 (by omega) (by decide)
  · rename_i hl
    have hm : ∀ q' : QS, q'.bits = q.bits.drop 14 → msQ q' < msQ q := fun q' e => ms_drop 14 e (by omega) (by have := rk_le q'.st; omega)
    split
    · exact StepQ.drop 14 rfl (fun e => by omega) (by decide) h2 (fun e => by omega) (Nat.le_of_lt (hm _ rfl)) ⟨rfl, rfl, rfl, rfl⟩
    · rename_i hc
      have hN : numN (q.bits.take 14) < 2 ^ 14 := by
        have h1 := numN_lt (q.bits.take 14) (fun x hx => h2 x (List.mem_of_mem_take hx))
        rw [List.length_take, Nat.min_eq_left (by omega)] at h1
        exact h1
      have hT : 4 ≤ cntT (numN (q.bits.take 14)) ∧ cntT (numN (q.bits.take 14)) ≤ 19 := by unfold cntT; omega
      have hW : 257 ≤ cntW (numN (q.bits.take 14)) := by unfold cntW; omega
      have hD : 1 ≤ cntD (numN (q.bits.take 14)) := by unfold cntD; omega
      refine StepQ.drop 14 rfl (fun _ => gq4 rfl hnil htl hT ?_) (by decide) h2 (fun _ => hm _ rfl) (Nat.le_of_lt (hm _ rfl)) ⟨rfl, rfl, rfl, rfl⟩
      show 257 ≤ cntW _ ∧ cntW _ ≤ 286 ∧ cntW _ < cntW _ + cntD _ ∧ cntW _ + cntD _ ≤ 316 ∧ q.ls.length < cntW _ + cntD _
      rw [hnil]
      show _ ∧ _ ∧ _ ∧ _ ∧ 0 < _
      omega

theorem s_triples (hg : GoodQ q) (h2 : ∀ x ∈ q.bits, x < 2) (h0 : q.st = 4) : StepQ q (triplesQ q) := by
  have hnil := hg.nil (by omega) (by omega)
  have ht4 := hg.trip4 h0
  have hcn := hg.cnt (.inl h0)
  unfold triplesQ
  split
  · exact StepQ.stay hg h2 (by omega) (by decide)
  · rename_i hl
    have hm : ∀ q' : QS, q'.bits = q.bits.drop (3 * q.trip) → msQ q' < msQ q := fun q' e => ms_drop (3 * q.trip) e (by omega) (by have := rk_le q'.st; omega)
    split
    · rename_i hw
      have hw2 : whyN ((trL q.bits q.trip).map Int.ofNat) false ≠ 2 := by
        unfold whyN
        split
        · decide
        · split
          · decide
          · split <;> decide
      exact StepQ.drop (3 * q.trip) rfl (fun e => by rcases e with e | e; exact absurd e hw; exact absurd e hw2) hw2 h2 (fun e => absurd e hw) (Nat.le_of_lt (hm _ rfl)) ⟨rfl, rfl, rfl, rfl⟩
    · exact StepQ.drop (3 * q.trip) rfl (fun _ => gq5 rfl ⟨_, rfl, trL_length _ _⟩ hcn) (by decide) h2 (fun _ => hm _ rfl) (Nat.le_of_lt (hm _ rfl)) ⟨rfl, rfl, rfl, rfl⟩

theorem whyN_ne2 (xs : List Int) (z : Bool) : whyN xs z ≠ 2 := by
  unfold whyN
  split
  · decide
  · split
    · decide
    · split <;> decide
/-- Lengths that are appended: nothing else turns but the state. -/
theorem add_facts (q : QS) (x n : Nat) (hst : q.st = 5 ∨ q.st = 6) (htl : ∃ lt, q.tl = some lt ∧ lt.length = 19) (hc : 257 ≤ q.lits ∧ q.lits ≤ 286 ∧ q.lits < q.both ∧ q.both ≤ 316 ∧ q.ls.length < q.both) :
    (addQ q x n).1 ≠ 2 ∧ ((addQ q x n).1 = 0 → GoodQ (addQ q x n).2) ∧ (addQ q x n).2.bits = q.bits ∧ rkQ (addQ q x n).2.st = 0 ∧ (addQ q x n).2.came = q.came ∧ (addQ q x n).2.told = q.told ∧ (addQ q x n).2.out = q.out ∧ (addQ q x n).2.all = q.all := by
  have hrk : rkQ q.st = 0 := by rcases hst with e | e <;> rw [e] <;> rfl
  unfold addQ
  split
  · exact ⟨(by show (20 : Nat) ≠ 2; decide), (fun e => by cases e), rfl, hrk, rfl, rfl, rfl, rfl⟩
  · split
    · rename_i hlt
      exact ⟨(by show (0 : Nat) ≠ 2; decide), fun _ => gq5 rfl htl ⟨hc.1, hc.2.1, hc.2.2.1, hc.2.2.2.1, by show (q.ls ++ List.replicate n x).length < q.both; rw [List.length_append, List.length_replicate]; exact hlt⟩, rfl, rfl, rfl, rfl, rfl, rfl⟩
    · unfold takeQ
      split
      · exact ⟨(by show (12 : Nat) ≠ 2; decide), (fun e => by cases e), rfl, rfl, rfl, rfl, rfl, rfl⟩
      · split
        · rename_i h1
          exact ⟨whyN_ne2 _ _, fun e => absurd e h1, rfl, rfl, rfl, rfl, rfl, rfl⟩
        · split
          · rename_i h1
            exact ⟨whyN_ne2 _ _, fun e => absurd e h1, rfl, rfl, rfl, rfl, rfl, rfl⟩
          · exact ⟨(by show (0 : Nat) ≠ 2; decide), fun _ => gq7 rfl rfl (fun lt h => by cases h) ⟨_, _, rfl⟩, rfl, rfl, rfl, rfl, rfl, rfl⟩
theorem s_add (q1 : QS) (m : Nat) (hb : q1.bits = q.bits.drop m) (hm : 1 ≤ m ∧ m ≤ q.bits.length) (h2 : ∀ x ∈ q.bits, x < 2) (x n : Nat) (hst : q1.st = 5 ∨ q1.st = 6) (htl : ∃ lt, q1.tl = some lt ∧ lt.length = 19) (hc : 257 ≤ q1.lits ∧ q1.lits ≤ 286 ∧ q1.lits < q1.both ∧ q1.both ≤ 316 ∧ q1.ls.length < q1.both)
    (he : q1.came = q.came ∧ q1.told = q.told ∧ q1.out = q.out ∧ q1.all = q.all) : StepQ q (addQ q1 x n) := by
  obtain ⟨a1, a2, a3, a4, a5, a6, a7, a8⟩ := add_facts q1 x n hst htl hc
  have hms : msQ (addQ q1 x n).2 < msQ q := ms_drop m (by rw [a3, hb]) hm.2 (by rw [a4]; omega)
  refine ⟨fun hr => a2 (by rcases hr with e | e; exact e; exact absurd e a1), fun _ => hms, fun e => absurd e a1, by rw [a5, he.1], by rw [a6, he.2.1], fun y hy => h2 y (by rw [a3, hb] at hy; exact List.mem_of_mem_drop hy), [], by rw [a7, he.2.2.1, List.append_nil], by rw [a8, he.2.2.2, List.append_nil], ?_⟩
  show 0 + 300 * msQ (addQ q1 x n).2 ≤ 300 * msQ q
  omega

theorem s_teller (hg : GoodQ q) (h2 : ∀ x ∈ q.bits, x < 2) (h0 : q.st = 5) : StepQ q (tellerQ q) := by
  obtain ⟨lt, hlt⟩ := hg.tel (.inl h0)
  have h19 := hg.tlen lt hlt
  have hcn := hg.cnt (.inr (.inl h0))
  rcases hx : nextP lt q.bits with t | _ | _
  · obtain ⟨f1, f2, f3, _⟩ := nextP_sym hx
    have e : tellerQ q = if t < 16 then addQ { q with bits := q.bits.drop (lt.getD t 0) } t 1
      else if t = 16 ∧ q.ls = [] then (3, { q with bits := q.bits.drop (lt.getD t 0) })
      else (0, { q with bits := q.bits.drop (lt.getD t 0), sym := t, st := 6 }) := by unfold tellerQ; rw [hlt]; dsimp only; rw [hx]
    rw [e]
    have hm : ∀ q' : QS, q'.bits = q.bits.drop (lt.getD t 0) → msQ q' < msQ q := fun q' e => ms_drop (lt.getD t 0) e f3 (by have := rk_le q'.st; omega)
    split
    · exact s_add _ (lt.getD t 0) rfl ⟨by omega, f3⟩ h2 t 1 (.inl h0) ⟨lt, hlt, h19⟩ hcn ⟨rfl, rfl, rfl, rfl⟩
    · split
      · exact StepQ.drop (lt.getD t 0) rfl (fun e => by omega) (by decide) h2 (fun e => by omega) (Nat.le_of_lt (hm _ rfl)) ⟨rfl, rfl, rfl, rfl⟩
      · rename_i t1 t2
        exact StepQ.drop (lt.getD t 0) rfl (fun _ => gq6 rfl ⟨lt, hlt, h19⟩ hcn ⟨by show t = 16 ∨ t = 17 ∨ t = 18; omega, fun e e2 => t2 ⟨e, e2⟩⟩) (by decide) h2 (fun _ => hm _ rfl) (Nat.le_of_lt (hm _ rfl)) ⟨rfl, rfl, rfl, rfl⟩
  · have e : tellerQ q = (2, q) := by unfold tellerQ; rw [hlt]; dsimp only; rw [hx]
    rw [e]
    exact StepQ.stay hg h2 (by omega) (by decide)
  · have e : tellerQ q = (4, q) := by unfold tellerQ; rw [hlt]; dsimp only; rw [hx]
    rw [e]
    exact StepQ.stay hg h2 (by omega) (by decide)

theorem s_repeat (hg : GoodQ q) (h2 : ∀ x ∈ q.bits, x < 2) (h0 : q.st = 6) : StepQ q (repeatQ q) := by
  obtain ⟨lt, hlt⟩ := hg.tel (.inr h0)
  have h19 := hg.tlen lt hlt
  have hcn := hg.cnt (.inr (.inr h0))
  have hB : 1 ≤ repB q.sym := by unfold repB; split; decide; split <;> decide
  unfold repeatQ
  split
  · exact StepQ.stay hg h2 (by omega) (by decide)
  · exact s_add _ (repB q.sym) rfl ⟨hB, by omega⟩ h2 _ _ (.inr h0) ⟨lt, hlt, h19⟩ hcn ⟨rfl, rfl, rfl, rfl⟩

theorem len_facts : ∀ t, t < 29 → lenE t ≤ 5 ∧ lenL t + 2 ^ lenE t ≤ 259 ∧ 3 ≤ lenL t := by decide
theorem dst_facts : ∀ t, t < 30 → extN 1 t ≤ 13 ∧ leastN 1 t + 1 < 32769 ∧ 1 ≤ leastN 1 t + 1 := by decide

theorem s_symbol (hg : GoodQ q) (h2 : ∀ x ∈ q.bits, x < 2) (h0 : q.st = 7) : StepQ q (symbolQ q) := by
  have hnil := hg.nil (by omega) (by omega)
  have htl := hg.tlen
  obtain ⟨lw, ld, hf⟩ := hg.cds (by omega) (by omega)
  rcases hx : nextP lw q.bits with t | _ | _
  · obtain ⟨f1, f2, f3, _⟩ := nextP_sym hx
    have e : symbolQ q = if t < 256 then (0, { q with bits := q.bits.drop (lw.getD t 0), all := q.all ++ [UInt8.ofNat t], out := q.out ++ [UInt8.ofNat t] })
      else if t = 256 then (0, { q with bits := q.bits.drop (lw.getD t 0), st := if q.last then 11 else 0 })
      else if t < 286 then (0, { q with bits := q.bits.drop (lw.getD t 0), size := lenL (t - 257), extra := lenE (t - 257), st := 8 })
      else (4, { q with bits := q.bits.drop (lw.getD t 0) }) := by unfold symbolQ; rw [hf]; dsimp only; rw [hx]
    rw [e]
    have hm : ∀ q' : QS, q'.bits = q.bits.drop (lw.getD t 0) → msQ q' < msQ q := fun q' e => ms_drop (lw.getD t 0) e f3 (by have := rk_le q'.st; omega)
    split
    · refine ⟨fun _ => gq7 h0 hnil htl ⟨_, _, hf⟩, fun _ => hm _ rfl, (fun e => by cases e), rfl, rfl, fun y hy => h2 y (List.mem_of_mem_drop hy), [UInt8.ofNat t], rfl, rfl, ?_⟩
      have h9 := hm { q with bits := q.bits.drop (lw.getD t 0), all := q.all ++ [UInt8.ofNat t], out := q.out ++ [UInt8.ofNat t] } rfl
      show 1 + 300 * msQ { q with bits := q.bits.drop (lw.getD t 0), all := q.all ++ [UInt8.ofNat t], out := q.out ++ [UInt8.ofNat t] } ≤ 300 * msQ q
      omega
    · split
      · exact StepQ.drop (lw.getD t 0) rfl (fun _ => gqA (by show (if q.last then 11 else 0) = 0 ∨ (if q.last then 11 else 0) = 3 ∨ (if q.last then 11 else 0) = 11; cases q.last; exact .inl rfl; exact .inr (.inr rfl)) hnil htl) (by decide) h2 (fun _ => hm _ rfl) (Nat.le_of_lt (hm _ rfl)) ⟨rfl, rfl, rfl, rfl⟩
      · split
        · rename_i t1 t2 t3
          exact StepQ.drop (lw.getD t 0) rfl (fun _ => gq8 rfl hnil htl ⟨_, _, hf⟩ (len_facts (t - 257) (by omega))) (by decide) h2 (fun _ => hm _ rfl) (Nat.le_of_lt (hm _ rfl)) ⟨rfl, rfl, rfl, rfl⟩
        · exact StepQ.drop (lw.getD t 0) rfl (fun e => by omega) (by decide) h2 (fun e => by omega) (Nat.le_of_lt (hm _ rfl)) ⟨rfl, rfl, rfl, rfl⟩
  · have e : symbolQ q = (2, q) := by unfold symbolQ; rw [hf]; dsimp only; rw [hx]
    rw [e]
    exact StepQ.stay hg h2 (by omega) (by decide)
  · have e : symbolQ q = (4, q) := by unfold symbolQ; rw [hf]; dsimp only; rw [hx]
    rw [e]
    exact StepQ.stay hg h2 (by omega) (by decide)

theorem s_length (hg : GoodQ q) (h2 : ∀ x ∈ q.bits, x < 2) (h0 : q.st = 8) : StepQ q (lengthQ q) := by
  have hnil := hg.nil (by omega) (by omega)
  have htl := hg.tlen
  have hcd := hg.cds (by omega) (by omega)
  obtain ⟨l1, l2, l3⟩ := hg.len h0
  unfold lengthQ
  split
  · exact StepQ.stay hg h2 (by omega) (by decide)
  · have hN : numN (q.bits.take q.extra) < 2 ^ q.extra := by
      have h1 := numN_lt (q.bits.take q.extra) (fun x hx => h2 x (List.mem_of_mem_take hx))
      rw [List.length_take, Nat.min_eq_left (by omega)] at h1
      exact h1
    have hm : ∀ q' : QS, q'.bits = q.bits.drop q.extra → q'.st = 9 → msQ q' < msQ q := fun q' e e2 => ms_drop q.extra e (by omega) (by rw [e2, h0]; show 0 + 1 ≤ _ + 1; omega)
    exact StepQ.drop q.extra rfl (fun _ => gq9 rfl hnil htl hcd (by show q.size + _ ≤ 258; omega)) (by decide) h2 (fun _ => hm _ rfl rfl) (Nat.le_of_lt (hm _ rfl rfl)) ⟨rfl, rfl, rfl, rfl⟩

theorem s_dist (hg : GoodQ q) (h2 : ∀ x ∈ q.bits, x < 2) (h0 : q.st = 9) : StepQ q (distQ q) := by
  have hnil := hg.nil (by omega) (by omega)
  have htl := hg.tlen
  have h9 := hg.len9 (.inl h0)
  obtain ⟨lw, ld, hf⟩ := hg.cds (by omega) (by omega)
  rcases hx : nextP ld q.bits with t | _ | _
  · obtain ⟨f1, f2, f3, _⟩ := nextP_sym hx
    have e : distQ q = if t < 30 then (0, { q with bits := q.bits.drop (ld.getD t 0), dist := leastN 1 t + 1, extra := extN 1 t, st := 10 })
      else (4, { q with bits := q.bits.drop (ld.getD t 0) }) := by unfold distQ; rw [hf]; dsimp only; rw [hx]
    rw [e]
    have hm : ∀ q' : QS, q'.bits = q.bits.drop (ld.getD t 0) → msQ q' < msQ q := fun q' e => ms_drop (ld.getD t 0) e f3 (by have := rk_le q'.st; omega)
    split
    · rename_i t1
      exact StepQ.drop (ld.getD t 0) rfl (fun _ => gq10 rfl hnil htl ⟨_, _, hf⟩ h9 (dst_facts t t1)) (by decide) h2 (fun _ => hm _ rfl) (Nat.le_of_lt (hm _ rfl)) ⟨rfl, rfl, rfl, rfl⟩
    · exact StepQ.drop (ld.getD t 0) rfl (fun e => by omega) (by decide) h2 (fun e => by omega) (Nat.le_of_lt (hm _ rfl)) ⟨rfl, rfl, rfl, rfl⟩
  · have e : distQ q = (2, q) := by unfold distQ; rw [hf]; dsimp only; rw [hx]
    rw [e]
    exact StepQ.stay hg h2 (by omega) (by decide)
  · have e : distQ q = (4, q) := by unfold distQ; rw [hf]; dsimp only; rw [hx]
    rw [e]
    exact StepQ.stay hg h2 (by omega) (by decide)

theorem copyL_pre : ∀ (n d : Nat) (l : List UInt8), ∃ e, copyL n d l = l ++ e ∧ e.length = n
  | 0, d, l => ⟨[], by simp [copyL], rfl⟩
  | n + 1, d, l => by
    obtain ⟨e, h1, h2⟩ := copyL_pre n d (l ++ [l.getD (l.length - d) 0])
    exact ⟨l.getD (l.length - d) 0 :: e, by unfold copyL; rw [h1, List.append_assoc]; rfl, by simp [h2]⟩
theorem s_dbits (hg : GoodQ q) (h2 : ∀ x ∈ q.bits, x < 2) (h0 : q.st = 10) : StepQ q (dbitsQ q) := by
  have hnil := hg.nil (by omega) (by omega)
  have htl := hg.tlen
  have h9 := hg.len9 (.inr h0)
  have hcd := hg.cds (by omega) (by omega)
  unfold dbitsQ
  split
  · exact StepQ.stay hg h2 (by omega) (by decide)
  · rename_i hl
    have hm2 : msQ { q with bits := q.bits.drop q.extra } ≤ msQ q := by
      show 2 * (q.bits.drop q.extra).length + rkQ q.st ≤ 2 * q.bits.length + rkQ q.st
      rw [List.length_drop]; omega
    split
    · exact StepQ.drop q.extra rfl (fun e => by omega) (by decide) h2 (fun e => by omega) hm2 ⟨rfl, rfl, rfl, rfl⟩
    · obtain ⟨e, he, hel⟩ := copyL_pre q.size (q.dist + numN (q.bits.take q.extra)) q.all
      rw [he, List.drop_left]
      have hm : msQ { q with bits := q.bits.drop q.extra, all := q.all ++ e, out := q.out ++ e, st := 7 } < msQ q := ms_drop q.extra rfl (by omega) (by rw [h0]; show 0 + 1 ≤ _ + 1; omega)
      refine ⟨fun _ => gq7 rfl hnil htl hcd, fun _ => hm, (fun e => by cases e), rfl, rfl, fun y hy => h2 y (List.mem_of_mem_drop hy), e, rfl, rfl, ?_⟩
      rw [hel]
      dsimp only
      omega

theorem s_part (hg : GoodQ q) (h2 : ∀ x ∈ q.bits, x < 2) (hst : q.st < 11) : StepQ q (partQ q) := by
  obtain ⟨k, hk⟩ : ∃ k, q.st = k := ⟨_, rfl⟩
  rw [hk] at hst
  unfold partQ
  rw [hk]
  match k, hk, hst with
  | 0, hk, _ => exact s_block hg h2 hk
  | 1, hk, _ => exact s_sizes hg h2 hk
  | 2, hk, _ => exact s_bytes hg h2 hk
  | 3, hk, _ => exact s_counts hg h2 hk
  | 4, hk, _ => exact s_triples hg h2 hk
  | 5, hk, _ => exact s_teller hg h2 hk
  | 6, hk, _ => exact s_repeat hg h2 hk
  | 7, hk, _ => exact s_symbol hg h2 hk
  | 8, hk, _ => exact s_length hg h2 hk
  | 9, hk, _ => exact s_dist hg h2 hk
  | 10, hk, _ => exact s_dbits hg h2 hk
end

/-- As many parts as there are. -/
noncomputable def runQ : Nat → QS → Nat × QS
  | 0, q => (2, q)
  | n + 1, q => if q.st = 11 then (0, q) else if (partQ q).1 = 0 then runQ n (partQ q).2 else partQ q
/-- What a run keeps. -/
structure RunQ (q : QS) (x : Nat × QS) : Prop where
  good : x.1 = 0 ∨ x.1 = 2 → GoodQ x.2
  fin : x.1 = 0 → x.2.st = 11
  wait : x.1 = 2 → x.2.st < 11
  came : x.2.came = q.came
  told : x.2.told = q.told
  two : ∀ y ∈ x.2.bits, y < 2
  tells : ∃ ext, x.2.out = q.out ++ ext ∧ x.2.all = q.all ++ ext ∧ ext.length + 300 * msQ x.2 ≤ 300 * msQ q
theorem run_q : ∀ (n : Nat) (q : QS), GoodQ q → (∀ x ∈ q.bits, x < 2) → msQ q < n → RunQ q (runQ n q)
  | 0, q, _, _, h => absurd h (Nat.not_lt_zero _)
  | n + 1, q, hg, h2, hn => by
    unfold runQ
    by_cases h11 : q.st = 11
    · rw [if_pos h11]
      exact ⟨fun _ => hg, fun _ => h11, (fun e => by cases e), rfl, rfl, h2, [], by simp, by simp, by simp⟩
    · rw [if_neg h11]
      have hs := s_part hg h2 (by have := hg.st; omega)
      by_cases h0 : (partQ q).1 = 0
      · rw [if_pos h0]
        have hr := run_q n (partQ q).2 (hs.good (.inl h0)) hs.two (by have := hs.less h0; omega)
        obtain ⟨e1, a1, a2, a3⟩ := hs.tells
        obtain ⟨e2, b1, b2, b3⟩ := hr.tells
        exact ⟨hr.good, hr.fin, hr.wait, hr.came.trans hs.came, hr.told.trans hs.told, hr.two, e1 ++ e2, by rw [b1, a1, List.append_assoc], by rw [b2, a2, List.append_assoc], by rw [List.length_append]; omega⟩
      · rw [if_neg h0]
        exact ⟨hs.good, fun e => absurd e h0, hs.wait, hs.came, hs.told, hs.two, hs.tells⟩
end Go.Proofs.YtoaeffinjpkahaaDoor

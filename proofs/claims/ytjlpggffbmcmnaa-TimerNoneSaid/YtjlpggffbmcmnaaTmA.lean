/- Contracts of package timer, and of the reference's: New, Start, Stop, Reset, Wait, On, Tick; the statements' own beginning. -/
import Derived.Test.YtjlpggffbmcmnaaRows
import Derived.Test.YtjlpggffbmcmnaaNum
import Derived.Test.YtjlpggffbmcmnaaMem
import Derived.Test.YtjlpggffbmcmnaaArr
import Derived.Test.YtjlpggffbmcmnaaDosQ
import Derived.WalkSpells
import Derived.OwnWalk
import Derived.WalkLawsBesides
import Derived.Lib.Hide
import Derived.Laws.BitsAllLaws
import Derived.Laws.Rows
import Derived.Laws.ResultCell
import Derived.RegionTactic
import Derived.BigRegion
import Derived.BigQuiet
import Derived.Deep.QuietTactic
import Derived.Deep.RegionHeld3
import Derived.Deep.RegionLaw
namespace Go.Proofs.Ytjlpggffbmcmnaa
open Go Go.RowKit
set_option maxRecDepth 100000

/-- A timer's cells. -/
def TmAt (w : World) (b fi mo wa le : Nat) : Prop := Block w b 65 [.int .i64 fi, .int .i64 mo, .int .i64 wa, .int .i64 le]
theorem TmAt.kept {S : Nat → Prop} {w w' : World} {b fi mo wa le : Nat} (h : TmAt w b fi mo wa le) (ht : Touch S w w') (hn : ¬ S b) : TmAt w' b fi mo wa le := Block.kept h ht hn
theorem TmAt.cells {w : World} {b fi mo wa le : Nat} (h : TmAt w b fi mo wa le) :
    w.cell? ⟨b, 0, none⟩ = some (.int .i64 fi) ∧ w.cell? ⟨b, 1, none⟩ = some (.int .i64 mo) ∧ w.cell? ⟨b, 2, none⟩ = some (.int .i64 wa) ∧ w.cell? ⟨b, 3, none⟩ = some (.int .i64 le) :=
  ⟨Block.cell h 0, Block.cell h 1, Block.cell h 2, Block.cell h 3⟩
theorem tm_touch (w : World) (b k : Nat) (u : Value) : Touch (fun i => i = b) w (w.setCell ⟨b, k, none⟩ u) := (Touch.refl (fun i => i = b) w).setCell (p := ⟨b, k, none⟩) (Or.inl rfl) _
theorem TmAt.wait {w : World} {b fi mo wa le : Nat} (h : TmAt w b fi mo wa le) (n : Nat) : TmAt (w.setCell ⟨b, 2, none⟩ (.int .i64 n)) b fi mo n le := Block.set h 2 _
theorem TmAt.left {w : World} {b fi mo wa le : Nat} (h : TmAt w b fi mo wa le) (n : Nat) : TmAt (w.setCell ⟨b, 3, none⟩ (.int .i64 n)) b fi mo wa n := Block.set h 3 _

theorem tret_int {a b : Int} (h : a = b) : Ending.returned (.int .i64 a) = .returned (.int .i64 b) := by rw [h]

theorem Try.sizeTm : (Try.prog.info? 27).map (·.size) = some 4 := by kernel_rfl
def fiT (a : Int) : Nat := (min (max a 1) 64).toNat
def moT (a b : Int) : Nat := (min (max b (fiT a)) 64).toNat
theorem fiT_lo (a : Int) : 1 ≤ fiT a := by unfold fiT; omega
theorem fiT_hi (a : Int) : fiT a ≤ 64 := by unfold fiT; omega
theorem moT_lo (a b : Int) : fiT a ≤ moT a b := by have := fiT_hi a; unfold moT; omega
theorem moT_hi (a b : Int) : moT a b ≤ 64 := by unfold moT; omega

set_option maxHeartbeats 1000000 in
theorem twithin_calls (n a b : Int) (hab : a ≤ b) (w : World) : Calls Try.prog 33 #[.int .i64 n, .int .i64 a, .int .i64 b] w fun e w' => e = .returned (.int .i64 (min (max n a) b)) ∧ w = w' := by
  go_enter Try.func33, Try.ntmps33
  go_wp2
  all_goals
    go_ret
    refine ⟨tret_int ?_, rfl⟩
    omega
theorem tnew_calls (a b : Int) (w : World) : Calls Try.prog 11 #[.int .i64 a, .int .i64 b] w fun e w' => ∃ tb, e = .returned (.pointer (some ⟨tb, 0, none⟩)) ∧ TmAt w' tb (fiT a) (moT a b) (fiT a) 0 ∧ w.heap.size ≤ tb ∧ Touch (fun _ => False) w w' := by
  have h1 : min (max a 1) 64 = (fiT a : Int) := by unfold fiT; omega
  have h2 : min (max b (fiT a)) 64 = (moT a b : Int) := by have := fiT_lo a; unfold moT; omega
  have HF := Lib.hid (fiT_hi a)
  have c1 := fun W => twithin_calls a 1 64 (by omega) W
  have c2 := fun W => twithin_calls b (fiT a) 64 (by have := HF.out; omega) W
  rw [h1] at c1
  rw [h2] at c2
  have C1 := Lib.hid c1
  have C2 := Lib.hid c2
  clear h1 h2 c1 c2 HF
  generalize fiT a = f at *
  generalize moT a b = m at *
  go_enter Try.func11, Try.ntmps11
  go_wp2_with fail
  refine (C1.out _).mono ?_
  rintro e w' ⟨rfl, rfl⟩
  go_wp2_with fail
  refine (C2.out _).mono ?_
  rintro e w' ⟨rfl, rfl⟩
  go_wp2_with fail
  go_ret
  exact ⟨w.heap.size, rfl, Block.new w _ _, Nat.le_refl _, (Touch.refl (fun _ => False) w).alloc _⟩

theorem tstart_nil (w : World) : Calls Try.prog 13 #[.pointer none] w fun e w' => e = .returned (.tuple #[]) ∧ w = w' := by
  go_enter Try.func13, Try.ntmps13
  go_wp2
  go_end0
  exact ⟨rfl, rfl⟩
theorem tstop_nil (w : World) : Calls Try.prog 14 #[.pointer none] w fun e w' => e = .returned (.tuple #[]) ∧ w = w' := by
  go_enter Try.func14, Try.ntmps14
  go_wp2
  go_end0
  exact ⟨rfl, rfl⟩
theorem treset_nil (w : World) : Calls Try.prog 15 #[.pointer none] w fun e w' => e = .returned (.tuple #[]) ∧ w = w' := by
  go_enter Try.func15, Try.ntmps15
  go_wp2
  go_end0
  exact ⟨rfl, rfl⟩
theorem twait_nil (w : World) : Calls Try.prog 18 #[.pointer none] w fun e w' => e = .returned (.int .i64 0) ∧ w = w' := by
  go_enter Try.func18, Try.ntmps18
  go_wp2
  go_ret
  exact ⟨rfl, rfl⟩
theorem ton_nil (w : World) : Calls Try.prog 19 #[.pointer none] w fun e w' => e = .returned (.bool false) ∧ w = w' := by
  go_enter Try.func19, Try.ntmps19
  go_wp2
  go_ret
  exact ⟨rfl, rfl⟩
theorem ttick_nil (w : World) : Calls Try.prog 17 #[.pointer none] w fun e w' => e = .returned (.bool false) ∧ w = w' := by
  go_enter Try.func17, Try.ntmps17
  go_wp2_with (go_at_call 19; refine (ton_nil _).mono ?_; rintro e w' ⟨rfl, rfl⟩)
  go_ret
  exact ⟨rfl, rfl⟩

theorem tstart_calls {w : World} {b fi mo wa le : Nat} (h : TmAt w b fi mo wa le) : Calls Try.prog 13 #[.pointer (some ⟨b, 0, none⟩)] w fun e w' => e = .returned (.tuple #[]) ∧ TmAt w' b fi mo wa wa ∧ Touch (fun i => i = b) w w' := by
  obtain ⟨c0, c1, c2, c3⟩ := h.cells
  have f2 := Block.free h 2
  have f3 := Block.free h 3
  have H := Lib.hid h
  clear h
  go_enter Try.func13, Try.ntmps13
  go_wp2
  go_end0
  exact ⟨rfl, H.out.left wa, tm_touch _ _ _ _⟩
theorem tstop_calls {w : World} {b fi mo wa le : Nat} (h : TmAt w b fi mo wa le) : Calls Try.prog 14 #[.pointer (some ⟨b, 0, none⟩)] w fun e w' => e = .returned (.tuple #[]) ∧ TmAt w' b fi mo wa 0 ∧ Touch (fun i => i = b) w w' := by
  obtain ⟨c0, c1, c2, c3⟩ := h.cells
  have f2 := Block.free h 2
  have f3 := Block.free h 3
  have H := Lib.hid h
  clear h
  go_enter Try.func14, Try.ntmps14
  go_wp2
  go_end0
  exact ⟨rfl, H.out.left 0, tm_touch _ _ _ _⟩
theorem treset_calls {w : World} {b fi mo wa le : Nat} (h : TmAt w b fi mo wa le) : Calls Try.prog 15 #[.pointer (some ⟨b, 0, none⟩)] w fun e w' => e = .returned (.tuple #[]) ∧ TmAt w' b fi mo fi le ∧ Touch (fun i => i = b) w w' := by
  obtain ⟨c0, c1, c2, c3⟩ := h.cells
  have f2 := Block.free h 2
  have f3 := Block.free h 3
  have H := Lib.hid h
  clear h
  go_enter Try.func15, Try.ntmps15
  go_wp2
  go_end0
  exact ⟨rfl, H.out.wait fi, tm_touch _ _ _ _⟩
theorem twait_calls {w : World} {b fi mo wa le : Nat} (h : TmAt w b fi mo wa le) : Calls Try.prog 18 #[.pointer (some ⟨b, 0, none⟩)] w fun e w' => e = .returned (.int .i64 wa) ∧ w = w' := by
  obtain ⟨c0, c1, c2, c3⟩ := h.cells
  clear h
  go_enter Try.func18, Try.ntmps18
  go_wp2
  go_ret
  exact ⟨rfl, rfl⟩
theorem ton_calls {w : World} {b fi mo wa le : Nat} (h : TmAt w b fi mo wa le) : Calls Try.prog 19 #[.pointer (some ⟨b, 0, none⟩)] w fun e w' => e = .returned (.bool (decide (0 < le))) ∧ w = w' := by
  obtain ⟨c0, c1, c2, c3⟩ := h.cells
  clear h
  go_enter Try.func19, Try.ntmps19
  go_wp2
  go_ret
  exact ⟨by simp, rfl⟩

/-- A round that goes by: how long it waits then, what is left, does it go off? -/
def tickW (mo wa le : Nat) : Nat := if le = 1 then min (2 * wa) mo else wa
def tickL (mo wa le : Nat) : Nat := if le = 1 then min (2 * wa) mo else le - 1
theorem tickW_le {mo wa le : Nat} (h : wa ≤ mo) : tickW mo wa le ≤ mo := by unfold tickW; split <;> omega
theorem tickL_le {mo wa le : Nat} (h : le ≤ mo) : tickL mo wa le ≤ mo := by unfold tickL; split <;> omega
theorem tickW_lo {mo wa le : Nat} (h : 1 ≤ wa) (h2 : 1 ≤ mo) : 1 ≤ tickW mo wa le := by unfold tickW; split <;> omega

set_option maxHeartbeats 2000000 in
theorem ttick_calls {w : World} {b fi mo wa le : Nat} (h : TmAt w b fi mo wa le) (_hm : mo ≤ 64) (hw : wa ≤ 64) (hl : le ≤ 64) :
    Calls Try.prog 17 #[.pointer (some ⟨b, 0, none⟩)] w fun e w' => e = .returned (.bool (decide (le = 1))) ∧ TmAt w' b fi mo (tickW mo wa le) (tickL mo wa le) ∧ Touch (fun i => i = b) w w' := by
  obtain ⟨c0, c1, c2, c3⟩ := h.cells
  have f2 := Block.free h 2
  have f3 := Block.free h 3
  have H := Lib.hid h
  clear h
  by_cases h0 : le = 0
  · have e1 : tickW mo wa le = wa := by unfold tickW; rw [if_neg (by omega)]
    have e2 : tickL mo wa le = 0 := by unfold tickL; rw [if_neg (by omega)]; omega
    have e3 : decide (le = 1) = false := decide_eq_false (by omega)
    rw [e1, e2, e3]
    subst h0
    clear e1 e2 e3
    go_enter Try.func17, Try.ntmps17
    go_wp2_with (go_at_call 19; refine (ton_calls H.out).mono ?_; rintro e w' ⟨rfl, rfl⟩)
    go_ret
    exact ⟨rfl, H.out, Touch.refl _ _⟩
  · have hd : decide (0 < le) = true := decide_eq_true (by omega)
    have es : IntKind.i64.wrap ((le : Int) - 1) = ((le - 1 : Nat) : Int) := by rw [IntWalk.i64_in _ (by omega)]; omega
    by_cases h1 : le = 1
    · have e1 : tickW mo wa le = min (2 * wa) mo := by unfold tickW; rw [if_pos h1]
      have e2 : tickL mo wa le = min (2 * wa) mo := by unfold tickL; rw [if_pos h1]
      have e3 : decide (le = 1) = true := decide_eq_true h1
      rw [e1, e2, e3]
      subst h1
      clear e1 e2 e3 h0 hd es
      obtain ⟨q, hq⟩ : ∃ q, q = min (2 * wa) mo := ⟨_, rfl⟩
      rw [← hq]
      have hq1 : min (2 * (wa : Int)) (mo : Int) = (q : Int) := by omega
      have HQ := Lib.hid hq
      clear hq
      go_enter Try.func17, Try.ntmps17
      go_wp2_with (go_at_call 19; refine (ton_calls H.out).mono ?_; rintro e w' ⟨rfl, rfl⟩)
      go_region
      all_goals go_wp2_with fail
      all_goals
        have hT0 : TmAt _ b fi mo q 0 := (H.out.left 0).wait q
        first
          | (have e : 2 * (wa : Int) = (q : Int) := by have := HQ.out; omega
             simp only [e])
          | (have e : (mo : Int) = (q : Int) := by have := HQ.out; omega
             simp only [e])
        refine (tstart_calls (wa := q) (le := 0) hT0.drew).mono ?_
        rintro e w' ⟨rfl, hT, ht⟩
        go_wp2_with fail
        go_ret
        exact ⟨rfl, hT, (((tm_touch _ _ _ _).trans (tm_touch _ _ _ _)).drew).trans ht⟩
    · have e1 : tickW mo wa le = wa := by unfold tickW; rw [if_neg h1]
      have e2 : tickL mo wa le = le - 1 := by unfold tickL; rw [if_neg h1]
      have e3 : decide (le = 1) = false := decide_eq_false h1
      rw [e1, e2, e3]
      have hd2 : decide (0 < le - 1) = true := decide_eq_true (by omega)
      have hd3 : (0 : Int) < ((le - 1 : Nat) : Int) := by omega
      clear e1 e2 e3
      generalize le - 1 = q at *
      go_enter Try.func17, Try.ntmps17
      go_wp2_with (go_at_call 19; refine (ton_calls H.out).mono ?_; rintro e w' ⟨rfl, rfl⟩)
      go_ret
      exact ⟨rfl, H.out.left q, tm_touch _ _ _ _⟩

/-- The reference's New and Tick. -/
theorem rtnew_calls (a b : Int) (w : World) : Calls Try.prog 12 #[.int .i64 a, .int .i64 b] w fun e w' => e = .returned (.agg #[.int .i64 (fiT a), .int .i64 (moT a b), .int .i64 (fiT a), .int .i64 0]) ∧ Touch (fun _ => False) w w' := by
  have hf : (fiT a : Int) = if a < 1 then 1 else if 64 < a then 64 else a := by unfold fiT; split <;> (try split) <;> omega
  have hm : (moT a b : Int) = if b < fiT a then (fiT a : Int) else if 64 < b then 64 else b := by have := fiT_lo a; have := fiT_hi a; unfold moT; split <;> (try split) <;> omega
  generalize fiT a = f at *
  generalize moT a b = m at *
  rw [hf] at hm
  rw [hm, hf]
  clear hm hf
  by_cases h1 : a < 1
  · simp only [if_pos h1]
    go_enter Try.func12, Try.ntmps12
    go_wp2_with fail
    all_goals exact bodyPost_ret (results_cell_row rfl _ _ w.heap.size _ _ _ _ rfl (heap_alloc_new w _) Try.underlying27 rfl Try.sizeTm) rfl ⟨rfl, (Touch.refl _ w).alloc _⟩
  · by_cases h2 : 64 < a
    · simp only [if_neg h1, if_pos h2]
      go_enter Try.func12, Try.ntmps12
      go_wp2_with fail
      all_goals exact bodyPost_ret (results_cell_row rfl _ _ w.heap.size _ _ _ _ rfl (heap_alloc_new w _) Try.underlying27 rfl Try.sizeTm) rfl ⟨rfl, (Touch.refl _ w).alloc _⟩
    · simp only [if_neg h1, if_neg h2]
      go_enter Try.func12, Try.ntmps12
      go_wp2_with fail
      all_goals exact bodyPost_ret (results_cell_row rfl _ _ w.heap.size _ _ _ _ rfl (heap_alloc_new w _) Try.underlying27 rfl Try.sizeTm) rfl ⟨rfl, (Touch.refl _ w).alloc _⟩

def tmV (fi mo wa le : Nat) : Value := .agg #[.int .i64 fi, .int .i64 mo, .int .i64 wa, .int .i64 le]
theorem tmV_eq (fi mo wa le : Nat) : tmV fi mo wa le = .agg #[.int .i64 fi, .int .i64 mo, .int .i64 wa, .int .i64 le] := rfl

theorem alloc2_new (w : World) (o o2 : Obj) : ((w.alloc o).alloc o2).heap[w.heap.size + 1]? = some o2 := by
  have h := heap_alloc_new (w.alloc o) o2
  rwa [alloc_size] at h

set_option maxHeartbeats 2000000 in
theorem rttick_calls (fi mo wa le : Nat) (hw : wa ≤ 64) (hl : le ≤ 64) (w : World) : Calls Try.prog 16 #[tmV fi mo wa le] w fun e w' => e = .returned (.tuple #[tmV fi mo (tickW mo wa le) (tickL mo wa le), .bool (decide (le = 1))]) ∧ Touch (fun _ => False) w w' := by
  simp only [tmV_eq]
  by_cases h0 : le = 0
  · have e1 : tickW mo wa le = wa := by unfold tickW; rw [if_neg (by omega)]
    have e2 : tickL mo wa le = 0 := by unfold tickL; rw [if_neg (by omega)]; omega
    have e3 : decide (le = 1) = false := decide_eq_false (by omega)
    rw [e1, e2, e3]
    subst h0
    clear e1 e2 e3
    go_enter Try.func16, Try.ntmps16
    go_wp2_with fail
    exact bodyPost_ret (results_cell_slot rfl _ _ (w.heap.size + 1) _ _ _ _ rfl (alloc2_new w _ _) Try.underlying27 rfl Try.sizeTm) rfl ⟨rfl, ((Touch.refl _ w).alloc _).alloc _⟩
  · have es : IntKind.i64.wrap ((le : Int) - 1) = ((le - 1 : Nat) : Int) := by rw [IntWalk.i64_in _ (by omega)]; omega
    have hz : ((le : Int) == 0) = false := by simp; omega
    by_cases h1 : le = 1
    · have e1 : tickW mo wa le = min (2 * wa) mo := by unfold tickW; rw [if_pos h1]
      have e2 : tickL mo wa le = min (2 * wa) mo := by unfold tickL; rw [if_pos h1]
      have e3 : decide (le = 1) = true := decide_eq_true h1
      rw [e1, e2, e3]
      subst h1
      clear e1 e2 e3 h0 es hz
      by_cases hq : mo < 2 * wa
      · have hq1 : (mo : Int) < wa * 2 := by omega
        rw [show min (2 * wa) mo = mo by omega]
        go_enter Try.func16, Try.ntmps16
        go_wp2_with fail
        exact bodyPost_ret (results_cell_slot rfl _ _ (w.heap.size + 1) _ _ _ _ rfl (alloc2_new w _ _) Try.underlying27 rfl Try.sizeTm) rfl ⟨rfl, ((Touch.refl _ w).alloc _).alloc _⟩
      · have hq1 : ¬ (mo : Int) < wa * 2 := by omega
        rw [show min (2 * wa) mo = wa * 2 by omega]
        go_enter Try.func16, Try.ntmps16
        go_wp2_with fail
        exact bodyPost_ret (results_cell_slot rfl _ _ (w.heap.size + 1) _ _ _ _ rfl (alloc2_new w _ _) Try.underlying27 rfl Try.sizeTm) rfl ⟨rfl, ((Touch.refl _ w).alloc _).alloc _⟩
    · have e1 : tickW mo wa le = wa := by unfold tickW; rw [if_neg h1]
      have e2 : tickL mo wa le = le - 1 := by unfold tickL; rw [if_neg h1]
      have e3 : decide (le = 1) = false := decide_eq_false h1
      rw [e1, e2, e3]
      have hd3 : (0 : Int) < ((le - 1 : Nat) : Int) := by omega
      clear e1 e2 e3
      generalize le - 1 = q at *
      go_enter Try.func16, Try.ntmps16
      go_wp2_with fail
      exact bodyPost_ret (results_cell_slot rfl _ _ (w.heap.size + 1) _ _ _ _ rfl (alloc2_new w _ _) Try.underlying27 rfl Try.sizeTm) rfl ⟨rfl, ((Touch.refl _ w).alloc _).alloc _⟩
end Go.Proofs.Ytjlpggffbmcmnaa

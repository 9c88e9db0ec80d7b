/- Contract of the reference's Size, and what a header that is told has to do with it. -/
import Derived.Test.YtdohhmaggeocjaaDoorZipQ
import Derived.Laws.IdiomStrings
namespace Go.Proofs.YtdohhmaggeocjaaDoor
open Go Go.RowKit
set_option maxRecDepth 100000

/-- How many bytes a header has by its lengths. -/
def szM (M : ByteArray) (f l : Nat) (s : ByteArray) : Int :=
  if s.extract 0 (min s.size 4) = M.extract 0 (min s.size 4) then
    if s.size < f then 0
    else if s.size < f + gN (s.extract l (l + 2)) + gN (s.extract (l + 2) (l + 4)) then 0
    else ((f + gN (s.extract l (l + 2)) + gN (s.extract (l + 2) (l + 4)) : Nat) : Int)
  else -1

/-- What is told, and how many bytes it has: no header, too few bytes, other bytes than its own, or its own. -/
inductive RdCase (sh : Hd → ByteArray) (s : ByteArray) (h : Hd) (r z : Int) : Prop
  | bad (h1 : h = zeroH) (h2 : r = -1) (h3 : z = -1)
  | few (h1 : h = zeroH) (h2 : r = 0) (h3 : z = 0)
  | other (N : Nat) (h1 : h = zeroH) (h2 : r = -1) (h3 : z = N) (h4 : 1 ≤ N) (h5 : N ≤ s.size)
  | own (N : Nat) (h2 : r = N) (h3 : z = N) (h4 : 1 ≤ N) (h5 : N ≤ s.size) (h6 : sh h = s.extract 0 N) (h7 : HdOk h)

theorem rd_case (M : ByteArray) (f l : Nat) (tell : ByteArray → ByteArray → Hd) (sh : Hd → ByteArray) (s : ByteArray) (hf : 1 ≤ f) (hs : s.size ≤ 500000) (ht : ∀ F X nm : ByteArray, nm.size ≤ 1000000 → HdOk { tell F X with n := nm }) :
    RdCase sh s (rdM M f l tell sh s).1 (rdM M f l tell sh s).2 (szM M f l s) := by
  unfold rdM szM
  split
  · split
    · exact .few rfl rfl rfl
    · split
      · exact .few rfl rfl rfl
      · rename_i h1 h2 h3
        split
        · rename_i h4
          exact .own _ rfl rfl (by omega) (by omega) h4 (ht _ _ _ (by rw [ByteArray.size_extract]; omega))
        · exact .other _ rfl rfl rfl (by omega) (by omega)
  · exact .bad rfl rfl rfl

theorem rd_caseL (s : ByteArray) (hs : s.size ≤ 500000) : RdCase localB s (rdL s).1 (rdL s).2 (szM sgnL 30 26 s) := rd_case _ _ _ _ _ _ (by omega) hs (fun F X nm h => tL_ok F X nm h)
theorem rd_caseC (s : ByteArray) (hs : s.size ≤ 500000) : RdCase centralB s (rdC s).1 (rdC s).2 (szM sgnC 46 28 s) := rd_case _ _ _ _ _ _ (by omega) hs (fun F X nm h => tC_ok F X nm h)
theorem own_good {s : ByteArray} {h : Hd} {N : Nat} (h1 : centralB h = s.extract 0 N) (h2 : 1 ≤ N) (h3 : N ≤ s.size) : goodH h = true := by
  cases hg : goodH h
  · unfold centralB at h1
    rw [hg] at h1
    have := congrArg ByteArray.size h1
    simp [ByteArray.size_extract] at this
    omega
  · rfl
theorem refgN_calls (s : ByteArray) (n : Nat) (hn : gN s = n) (hs : s.size ≤ 8) (w : World) : Calls Tryd.prog 64 #[.string s] w fun e w' => e = .returned (.int .u64 n) ∧ w = w' := by
  subst hn; exact refget_small s w hs

set_option maxHeartbeats 1000000 in
theorem refsizeL_sign (s : ByteArray) (k : Nat) (hk : k = min s.size 4) (hs : s.size ≤ 500000) (w : World) (hm : s.extract 0 k ≠ ByteArray.extract ⟨#[80, 75, 3, 4]⟩ 0 k) : Calls Tryd.prog 34 #[.string s, .string ⟨#[80, 75, 3, 4]⟩, .int .i64 30, .int .i64 26] w fun e w' => e = .returned (.int .i64 (-1)) ∧ Touch (fun _ => False) w w' := by
  have hk1 : min (s.size : Int) 4 = (k : Int) := by omega
  have hk0 : (0 : Int) ≤ (k : Int) := by omega
  have hkl : (k : Int) ≤ (s.size : Int) := by omega
  have hk4 : (k : Int) ≤ 4 := by omega
  clear hk
  have hmb := strEq_f hm
  clear hm
  go_enter Tryd.func34, Tryd.ntmps34
  go_wp2
  go_quiet (fail)
  go_wp2
  go_ret
  exact ⟨rfl, (Touch.refl _ _).drewN _⟩

set_option maxHeartbeats 1000000 in
theorem refsizeL_few (s : ByteArray) (k : Nat) (hk : k = min s.size 4) (hs : s.size ≤ 500000) (w : World) (hm : s.extract 0 k = ByteArray.extract ⟨#[80, 75, 3, 4]⟩ 0 k) (hf : s.size < 30) : Calls Tryd.prog 34 #[.string s, .string ⟨#[80, 75, 3, 4]⟩, .int .i64 30, .int .i64 26] w fun e w' => e = .returned (.int .i64 0) ∧ Touch (fun _ => False) w w' := by
  have hk1 : min (s.size : Int) 4 = (k : Int) := by omega
  have hk0 : (0 : Int) ≤ (k : Int) := by omega
  have hkl : (k : Int) ≤ (s.size : Int) := by omega
  have hk4 : (k : Int) ≤ 4 := by omega
  clear hk
  have hmb := strEq_t hm
  have hf' : (s.size : Int) < 30 := by omega
  clear hm hf
  go_enter Tryd.func34, Tryd.ntmps34
  go_wp2
  go_quiet (fail)
  go_wp2
  go_ret
  exact ⟨rfl, (Touch.refl _ _).drewN _⟩

set_option maxHeartbeats 2000000 in
theorem refsizeL_short (s : ByteArray) (k b1 b2 : Nat) (hk : k = min s.size 4) (hs : s.size ≤ 500000) (w : World) (hm : s.extract 0 k = ByteArray.extract ⟨#[80, 75, 3, 4]⟩ 0 k) (hf : ¬ s.size < 30)
    (hb1 : gN (s.extract 26 (26 + 2)) = b1) (hb2 : gN (s.extract (26 + 2) (26 + 4)) = b2) (hz : s.size < 30 + b1 + b2) : Calls Tryd.prog 34 #[.string s, .string ⟨#[80, 75, 3, 4]⟩, .int .i64 30, .int .i64 26] w fun e w' => e = .returned (.int .i64 0) ∧ Touch (fun _ => False) w w' := by
  have HN1 := Lib.hid (fun W => refgN_calls (s.extract 26 28) b1 hb1 (by rw [ByteArray.size_extract]; omega) W)
  have HN2 := Lib.hid (fun W => refgN_calls (s.extract 28 30) b2 hb2 (by rw [ByteArray.size_extract]; omega) W)
  have B1 : b1 < 256 ^ 2 := by rw [← hb1]; exact gN_lt _ _ (by rw [ByteArray.size_extract]; omega)
  have B2 : b2 < 256 ^ 2 := by rw [← hb2]; exact gN_lt _ _ (by rw [ByteArray.size_extract]; omega)
  have hmb := strEq_t hm
  have hf' : ¬ (s.size : Int) < 30 := by omega
  have hll : (30 : Int) ≤ (s.size : Int) := by omega
  clear hm hb1 hb2 hf
  obtain ⟨q1, hq1⟩ : ∃ q, 30 + b1 = q := ⟨_, rfl⟩
  obtain ⟨q2, hq2⟩ : ∃ q, q1 + b2 = q := ⟨_, rfl⟩
  have hq1' : (30 : Int) + (b1 : Int) = (q1 : Int) := by omega
  have hq2' : (q1 : Int) + (b2 : Int) = (q2 : Int) := by omega
  have hzq : (s.size : Int) < (q2 : Int) := by omega
  have g1 : (q1 : Int) ≤ 70000 := by omega
  have g2 : (q2 : Int) ≤ 140000 := by omega
  have g3 : (b1 : Int) ≤ 70000 := by omega
  have g4 : (b2 : Int) ≤ 70000 := by omega
  clear hz hq1 hq2 B1 B2
  have hk1 : min (s.size : Int) 4 = (k : Int) := by omega
  have hk0 : (0 : Int) ≤ (k : Int) := by omega
  have hkl : (k : Int) ≤ (s.size : Int) := by omega
  have hk4 : (k : Int) ≤ 4 := by omega
  clear hk
  go_enter Tryd.func34, Tryd.ntmps34
  go_wp2
  go_quiet (fail)
  go_wp2_with fail
  refine wp_region_quiet_lit (by kernel_rfl) (by kernel_rfl) ?_
  repeat (go_big_quiet_step (first
    | (go_at_call 64; ((with_reducible refine (HN1.out _).mono ?_); exact fun _ _ ⟨he, hm⟩ => ⟨he, _, hm.symm⟩))
    | (go_at_call 64; ((with_reducible refine (HN2.out _).mono ?_); exact fun _ _ ⟨he, hm⟩ => ⟨he, _, hm.symm⟩))))
  refine wpQuiet_nil ?_
  intro _ hw1
  obtain ⟨nq, hw2⟩ := hw1
  subst hw2
  go_wp2
  go_ret
  exact ⟨rfl, by first | exact (Touch.refl _ _).drewN _ | exact ((Touch.refl _ _).drewN _).drewN _⟩

set_option maxHeartbeats 2000000 in
theorem refsizeL_full (s : ByteArray) (k b1 b2 : Nat) (hk : k = min s.size 4) (hs : s.size ≤ 500000) (w : World) (hm : s.extract 0 k = ByteArray.extract ⟨#[80, 75, 3, 4]⟩ 0 k) (hf : ¬ s.size < 30)
    (hb1 : gN (s.extract 26 (26 + 2)) = b1) (hb2 : gN (s.extract (26 + 2) (26 + 4)) = b2) (hz : ¬ s.size < 30 + b1 + b2) : Calls Tryd.prog 34 #[.string s, .string ⟨#[80, 75, 3, 4]⟩, .int .i64 30, .int .i64 26] w fun e w' => e = .returned (.int .i64 ((30 + b1 + b2 : Nat) : Int)) ∧ Touch (fun _ => False) w w' := by
  have HN1 := Lib.hid (fun W => refgN_calls (s.extract 26 28) b1 hb1 (by rw [ByteArray.size_extract]; omega) W)
  have HN2 := Lib.hid (fun W => refgN_calls (s.extract 28 30) b2 hb2 (by rw [ByteArray.size_extract]; omega) W)
  have B1 : b1 < 256 ^ 2 := by rw [← hb1]; exact gN_lt _ _ (by rw [ByteArray.size_extract]; omega)
  have B2 : b2 < 256 ^ 2 := by rw [← hb2]; exact gN_lt _ _ (by rw [ByteArray.size_extract]; omega)
  have hmb := strEq_t hm
  have hf' : ¬ (s.size : Int) < 30 := by omega
  have hll : (30 : Int) ≤ (s.size : Int) := by omega
  clear hm hb1 hb2 hf
  obtain ⟨q1, hq1⟩ : ∃ q, 30 + b1 = q := ⟨_, rfl⟩
  obtain ⟨q2, hq2⟩ : ∃ q, q1 + b2 = q := ⟨_, rfl⟩
  have hq1' : (30 : Int) + (b1 : Int) = (q1 : Int) := by omega
  have hq2' : (q1 : Int) + (b2 : Int) = (q2 : Int) := by omega
  have hzq : ¬ (s.size : Int) < (q2 : Int) := by omega
  have g1 : (q1 : Int) ≤ 70000 := by omega
  have g2 : (q2 : Int) ≤ 140000 := by omega
  have g3 : (b1 : Int) ≤ 70000 := by omega
  have g4 : (b2 : Int) ≤ 70000 := by omega
  have HZ : Hid (((30 + b1 + b2 : Nat) : Int) = (q2 : Int)) := Lib.hid (by omega)
  clear hz hq1 hq2 B1 B2
  have hk1 : min (s.size : Int) 4 = (k : Int) := by omega
  have hk0 : (0 : Int) ≤ (k : Int) := by omega
  have hkl : (k : Int) ≤ (s.size : Int) := by omega
  have hk4 : (k : Int) ≤ 4 := by omega
  clear hk
  go_enter Tryd.func34, Tryd.ntmps34
  go_wp2
  go_quiet (fail)
  go_wp2_with fail
  refine wp_region_quiet_lit (by kernel_rfl) (by kernel_rfl) ?_
  repeat (go_big_quiet_step (first
    | (go_at_call 64; ((with_reducible refine (HN1.out _).mono ?_); exact fun _ _ ⟨he, hm⟩ => ⟨he, _, hm.symm⟩))
    | (go_at_call 64; ((with_reducible refine (HN2.out _).mono ?_); exact fun _ _ ⟨he, hm⟩ => ⟨he, _, hm.symm⟩))))
  refine wpQuiet_nil ?_
  intro _ hw1
  obtain ⟨nq, hw2⟩ := hw1
  subst hw2
  go_wp2
  go_ret
  exact ⟨ret_int HZ.out.symm, by first | exact (Touch.refl _ _).drewN _ | exact ((Touch.refl _ _).drewN _).drewN _⟩

theorem refsizeL_calls (s : ByteArray) (hs : s.size ≤ 500000) (w : World) : Calls Tryd.prog 34 #[.string s, .string ⟨#[80, 75, 3, 4]⟩, .int .i64 30, .int .i64 26] w fun e w' => e = .returned (.int .i64 (szM sgnL 30 26 s)) ∧ Touch (fun _ => False) w w' := by
  unfold szM sgnL
  by_cases hm : s.extract 0 (min s.size 4) = ByteArray.extract ⟨#[80, 75, 3, 4]⟩ 0 (min s.size 4)
  · rw [if_pos hm]
    by_cases hf : s.size < 30
    · rw [if_pos hf]
      exact refsizeL_few s _ rfl hs w hm hf
    · rw [if_neg hf]
      split
      · rename_i hz
        exact refsizeL_short s _ _ _ rfl hs w hm hf rfl rfl hz
      · rename_i hz
        exact refsizeL_full s _ _ _ rfl hs w hm hf rfl rfl hz
  · rw [if_neg hm]
    exact refsizeL_sign s _ rfl hs w hm

set_option maxHeartbeats 1000000 in
theorem refsizeC_sign (s : ByteArray) (k : Nat) (hk : k = min s.size 4) (hs : s.size ≤ 500000) (w : World) (hm : s.extract 0 k ≠ ByteArray.extract ⟨#[80, 75, 1, 2]⟩ 0 k) : Calls Tryd.prog 34 #[.string s, .string ⟨#[80, 75, 1, 2]⟩, .int .i64 46, .int .i64 28] w fun e w' => e = .returned (.int .i64 (-1)) ∧ Touch (fun _ => False) w w' := by
  have hk1 : min (s.size : Int) 4 = (k : Int) := by omega
  have hk0 : (0 : Int) ≤ (k : Int) := by omega
  have hkl : (k : Int) ≤ (s.size : Int) := by omega
  have hk4 : (k : Int) ≤ 4 := by omega
  clear hk
  have hmb := strEq_f hm
  clear hm
  go_enter Tryd.func34, Tryd.ntmps34
  go_wp2
  go_quiet (fail)
  go_wp2
  go_ret
  exact ⟨rfl, (Touch.refl _ _).drewN _⟩

set_option maxHeartbeats 1000000 in
theorem refsizeC_few (s : ByteArray) (k : Nat) (hk : k = min s.size 4) (hs : s.size ≤ 500000) (w : World) (hm : s.extract 0 k = ByteArray.extract ⟨#[80, 75, 1, 2]⟩ 0 k) (hf : s.size < 46) : Calls Tryd.prog 34 #[.string s, .string ⟨#[80, 75, 1, 2]⟩, .int .i64 46, .int .i64 28] w fun e w' => e = .returned (.int .i64 0) ∧ Touch (fun _ => False) w w' := by
  have hk1 : min (s.size : Int) 4 = (k : Int) := by omega
  have hk0 : (0 : Int) ≤ (k : Int) := by omega
  have hkl : (k : Int) ≤ (s.size : Int) := by omega
  have hk4 : (k : Int) ≤ 4 := by omega
  clear hk
  have hmb := strEq_t hm
  have hf' : (s.size : Int) < 46 := by omega
  clear hm hf
  go_enter Tryd.func34, Tryd.ntmps34
  go_wp2
  go_quiet (fail)
  go_wp2
  go_ret
  exact ⟨rfl, (Touch.refl _ _).drewN _⟩

set_option maxHeartbeats 2000000 in
theorem refsizeC_short (s : ByteArray) (k b1 b2 : Nat) (hk : k = min s.size 4) (hs : s.size ≤ 500000) (w : World) (hm : s.extract 0 k = ByteArray.extract ⟨#[80, 75, 1, 2]⟩ 0 k) (hf : ¬ s.size < 46)
    (hb1 : gN (s.extract 28 (28 + 2)) = b1) (hb2 : gN (s.extract (28 + 2) (28 + 4)) = b2) (hz : s.size < 46 + b1 + b2) : Calls Tryd.prog 34 #[.string s, .string ⟨#[80, 75, 1, 2]⟩, .int .i64 46, .int .i64 28] w fun e w' => e = .returned (.int .i64 0) ∧ Touch (fun _ => False) w w' := by
  have HN1 := Lib.hid (fun W => refgN_calls (s.extract 28 30) b1 hb1 (by rw [ByteArray.size_extract]; omega) W)
  have HN2 := Lib.hid (fun W => refgN_calls (s.extract 30 32) b2 hb2 (by rw [ByteArray.size_extract]; omega) W)
  have B1 : b1 < 256 ^ 2 := by rw [← hb1]; exact gN_lt _ _ (by rw [ByteArray.size_extract]; omega)
  have B2 : b2 < 256 ^ 2 := by rw [← hb2]; exact gN_lt _ _ (by rw [ByteArray.size_extract]; omega)
  have hmb := strEq_t hm
  have hf' : ¬ (s.size : Int) < 46 := by omega
  have hll : (32 : Int) ≤ (s.size : Int) := by omega
  clear hm hb1 hb2 hf
  obtain ⟨q1, hq1⟩ : ∃ q, 46 + b1 = q := ⟨_, rfl⟩
  obtain ⟨q2, hq2⟩ : ∃ q, q1 + b2 = q := ⟨_, rfl⟩
  have hq1' : (46 : Int) + (b1 : Int) = (q1 : Int) := by omega
  have hq2' : (q1 : Int) + (b2 : Int) = (q2 : Int) := by omega
  have hzq : (s.size : Int) < (q2 : Int) := by omega
  have g1 : (q1 : Int) ≤ 70000 := by omega
  have g2 : (q2 : Int) ≤ 140000 := by omega
  have g3 : (b1 : Int) ≤ 70000 := by omega
  have g4 : (b2 : Int) ≤ 70000 := by omega
  clear hz hq1 hq2 B1 B2
  have hk1 : min (s.size : Int) 4 = (k : Int) := by omega
  have hk0 : (0 : Int) ≤ (k : Int) := by omega
  have hkl : (k : Int) ≤ (s.size : Int) := by omega
  have hk4 : (k : Int) ≤ 4 := by omega
  clear hk
  go_enter Tryd.func34, Tryd.ntmps34
  go_wp2
  go_quiet (fail)
  go_wp2_with fail
  refine wp_region_quiet_lit (by kernel_rfl) (by kernel_rfl) ?_
  repeat (go_big_quiet_step (first
    | (go_at_call 64; ((with_reducible refine (HN1.out _).mono ?_); exact fun _ _ ⟨he, hm⟩ => ⟨he, _, hm.symm⟩))
    | (go_at_call 64; ((with_reducible refine (HN2.out _).mono ?_); exact fun _ _ ⟨he, hm⟩ => ⟨he, _, hm.symm⟩))))
  refine wpQuiet_nil ?_
  intro _ hw1
  obtain ⟨nq, hw2⟩ := hw1
  subst hw2
  go_wp2
  go_ret
  exact ⟨rfl, by first | exact (Touch.refl _ _).drewN _ | exact ((Touch.refl _ _).drewN _).drewN _⟩

set_option maxHeartbeats 2000000 in
theorem refsizeC_full (s : ByteArray) (k b1 b2 : Nat) (hk : k = min s.size 4) (hs : s.size ≤ 500000) (w : World) (hm : s.extract 0 k = ByteArray.extract ⟨#[80, 75, 1, 2]⟩ 0 k) (hf : ¬ s.size < 46)
    (hb1 : gN (s.extract 28 (28 + 2)) = b1) (hb2 : gN (s.extract (28 + 2) (28 + 4)) = b2) (hz : ¬ s.size < 46 + b1 + b2) : Calls Tryd.prog 34 #[.string s, .string ⟨#[80, 75, 1, 2]⟩, .int .i64 46, .int .i64 28] w fun e w' => e = .returned (.int .i64 ((46 + b1 + b2 : Nat) : Int)) ∧ Touch (fun _ => False) w w' := by
  have HN1 := Lib.hid (fun W => refgN_calls (s.extract 28 30) b1 hb1 (by rw [ByteArray.size_extract]; omega) W)
  have HN2 := Lib.hid (fun W => refgN_calls (s.extract 30 32) b2 hb2 (by rw [ByteArray.size_extract]; omega) W)
  have B1 : b1 < 256 ^ 2 := by rw [← hb1]; exact gN_lt _ _ (by rw [ByteArray.size_extract]; omega)
  have B2 : b2 < 256 ^ 2 := by rw [← hb2]; exact gN_lt _ _ (by rw [ByteArray.size_extract]; omega)
  have hmb := strEq_t hm
  have hf' : ¬ (s.size : Int) < 46 := by omega
  have hll : (32 : Int) ≤ (s.size : Int) := by omega
  clear hm hb1 hb2 hf
  obtain ⟨q1, hq1⟩ : ∃ q, 46 + b1 = q := ⟨_, rfl⟩
  obtain ⟨q2, hq2⟩ : ∃ q, q1 + b2 = q := ⟨_, rfl⟩
  have hq1' : (46 : Int) + (b1 : Int) = (q1 : Int) := by omega
  have hq2' : (q1 : Int) + (b2 : Int) = (q2 : Int) := by omega
  have hzq : ¬ (s.size : Int) < (q2 : Int) := by omega
  have g1 : (q1 : Int) ≤ 70000 := by omega
  have g2 : (q2 : Int) ≤ 140000 := by omega
  have g3 : (b1 : Int) ≤ 70000 := by omega
  have g4 : (b2 : Int) ≤ 70000 := by omega
  have HZ : Hid (((46 + b1 + b2 : Nat) : Int) = (q2 : Int)) := Lib.hid (by omega)
  clear hz hq1 hq2 B1 B2
  have hk1 : min (s.size : Int) 4 = (k : Int) := by omega
  have hk0 : (0 : Int) ≤ (k : Int) := by omega
  have hkl : (k : Int) ≤ (s.size : Int) := by omega
  have hk4 : (k : Int) ≤ 4 := by omega
  clear hk
  go_enter Tryd.func34, Tryd.ntmps34
  go_wp2
  go_quiet (fail)
  go_wp2_with fail
  refine wp_region_quiet_lit (by kernel_rfl) (by kernel_rfl) ?_
  repeat (go_big_quiet_step (first
    | (go_at_call 64; ((with_reducible refine (HN1.out _).mono ?_); exact fun _ _ ⟨he, hm⟩ => ⟨he, _, hm.symm⟩))
    | (go_at_call 64; ((with_reducible refine (HN2.out _).mono ?_); exact fun _ _ ⟨he, hm⟩ => ⟨he, _, hm.symm⟩))))
  refine wpQuiet_nil ?_
  intro _ hw1
  obtain ⟨nq, hw2⟩ := hw1
  subst hw2
  go_wp2
  go_ret
  exact ⟨ret_int HZ.out.symm, by first | exact (Touch.refl _ _).drewN _ | exact ((Touch.refl _ _).drewN _).drewN _⟩

theorem refsizeC_calls (s : ByteArray) (hs : s.size ≤ 500000) (w : World) : Calls Tryd.prog 34 #[.string s, .string ⟨#[80, 75, 1, 2]⟩, .int .i64 46, .int .i64 28] w fun e w' => e = .returned (.int .i64 (szM sgnC 46 28 s)) ∧ Touch (fun _ => False) w w' := by
  unfold szM sgnC
  by_cases hm : s.extract 0 (min s.size 4) = ByteArray.extract ⟨#[80, 75, 1, 2]⟩ 0 (min s.size 4)
  · rw [if_pos hm]
    by_cases hf : s.size < 46
    · rw [if_pos hf]
      exact refsizeC_few s _ rfl hs w hm hf
    · rw [if_neg hf]
      split
      · rename_i hz
        exact refsizeC_short s _ _ _ rfl hs w hm hf rfl rfl hz
      · rename_i hz
        exact refsizeC_full s _ _ _ rfl hs w hm hf rfl rfl hz
  · rw [if_neg hm]
    exact refsizeC_sign s _ rfl hs w hm

theorem mark2 {X M : ByteArray} {x : UInt8} (h : X.extract 0 4 = M) (hm : M.data.toList[2]? = some x) : X.data.toList[2]? = some x := by
  rw [← h] at hm
  have e : (X.extract 0 4).data.toList = (X.data.toList).take 4 := by simp
  rw [e, List.getElem?_take] at hm
  simpa using hm
theorem loc_mark (h : Hd) : (locB h).data.toList[2]? = some 3 := by
  have h1 := loc30_at h ByteArray.empty 0 4 (by omega)
  rw [ByteArray.append_empty, loc30_sign h 4 (by omega)] at h1
  exact mark2 h1 (by decide +kernel)
theorem cen_mark (h : Hd) : (cenB h).data.toList[2]? = some 1 := by
  have h1 := cen46_at h ByteArray.empty 0 4 (by omega)
  rw [ByteArray.append_empty, cen46_sign h 4 (by omega)] at h1
  exact mark2 h1 (by decide +kernel)
theorem and3_i64 (x : Int) : bits .and .i64 x 3 = x % 4 := by
  show IntKind.i64.wrap ((BitVec.ofInt 64 x &&& BitVec.ofInt 64 ((3 : Nat) : Int)).toNat : Int) = _
  rw [BitVec.toNat_and, ofInt_u64 3 (by decide), BitVec.toNat_ofInt, show (3 : Nat) = 2 ^ 2 - 1 from rfl, Nat.and_two_pow_sub_one_eq_mod]
  simp [IntKind.wrap, IntKind.bits, IntKind.signed]
  omega
/-- Bytes that a string was turned into: its row bears a mark behind its end. -/
def BufAt (w : World) (G : Nat) (e : List UInt8) : Prop :=
  ∃ cur : Array Value, w.heap[G]? = some (.cells cur 5 (cur.size, cur.size + 1)) ∧ e.length ≤ cur.size ∧ cur.toList.take e.length = byteVs e
theorem BufAt.lt {w : World} {G : Nat} {e : List UInt8} (h : BufAt w G e) : G < w.heap.size := by
  obtain ⟨cur, h1, _⟩ := h
  exact (Array.getElem?_eq_some_iff.1 h1).1
theorem BufAt.cell {w : World} {G : Nat} {e : List UInt8} (h : BufAt w G e) {j : Nat} (hj : j < e.length) : w.cell? ⟨G, j, none⟩ = some (.int .u8 (e[j].toNat : Int)) := by
  obtain ⟨cur, h1, h2, h3⟩ := h
  rw [cell_of_row w G j cur _ _ h1, ← Array.getElem?_toList]
  have h4 := congrArg (fun l => l[j]?) h3
  simp only [List.getElem?_take, if_pos hj] at h4
  rw [h4]
  simp [byteVs, hj]
theorem BufAt.free {w : World} {G : Nat} {e : List UInt8} (h : BufAt w G e) {j : Nat} (hj : j < e.length) : w.frozen? ⟨G, j, none⟩ = false := by
  obtain ⟨cur, h1, h2, _⟩ := h
  simp only [World.frozen?, h1]
  simp
  omega
theorem BufAt.set {w : World} {G : Nat} {e : List UInt8} (h : BufAt w G e) (j : Nat) (x : UInt8) : BufAt (w.setCell ⟨G, j, none⟩ (.int .u8 (x.toNat : Int))) G (e.set j x) := by
  obtain ⟨cur, h1, h2, h3⟩ := h
  refine ⟨cur.setIfInBounds j (.int .u8 (x.toNat : Int)), by rw [heap_setCell_same _ h1]; simp, by simpa using h2, ?_⟩
  rw [Array.toList_setIfInBounds, List.length_set, List.take_set, h3]
  simp [byteVs, List.map_set]
theorem BufAt.kept {S : Nat → Prop} {w w' : World} {G : Nat} {e : List UInt8} (h : BufAt w G e) (ht : Touch S w w') (hn : ¬ S G) : BufAt w' G e := by
  obtain ⟨cur, h1, h2⟩ := h
  exact ⟨cur, (ht.block G (Array.getElem?_eq_some_iff.1 h1).1 hn).trans h1, h2⟩
theorem BufAt.new (w : World) (s : ByteArray) (cap : Nat) : BufAt (w.alloc (.cells (bytesRow s cap) 5 ((bytesRow s cap).size, (bytesRow s cap).size + 1))) w.heap.size s.data.toList := by
  refine ⟨_, heap_alloc_new w _, ?_, ?_⟩
  · simp [bytesRow]
  · simp [bytesRow, byteVs]
theorem BufAt.ne {w : World} {G1 G2 : Nat} {e1 e2 : List UInt8} (h1 : BufAt w G1 e1) (h2 : BufAt w G2 e2) (j : Nat) (x y : UInt8) (hx : e1[j]? = some x) (hy : e2[j]? = some y) (hne : x ≠ y) : G1 ≠ G2 := by
  rintro rfl
  obtain ⟨l1, rfl⟩ := List.getElem?_eq_some_iff.1 hx
  obtain ⟨l2, rfl⟩ := List.getElem?_eq_some_iff.1 hy
  have h := (h1.cell l1).symm.trans (h2.cell l2)
  injection h with h
  injection h with _ h
  exact hne (UInt8.toNat.inj (by omega))
theorem run_convert_buf {W : World} {G k cap : Nat} {e : List UInt8} (h : BufAt W G e) (hk : k ≤ e.length) : (convert 31 9 (.slice (some ⟨G, 0, none⟩) k cap)).run Tryd.prog W = .ok (.string ⟨(e.take k).toArray⟩) W := by
  have := run_convert_bytes_back (P := Tryd.prog) W 31 9 5 ⟨G, 0, none⟩ cap (e.take k) Tryd.underlying31 Tryd.underlying5 Tryd.underlying9 (fun j hj => by
    rw [List.length_take] at hj
    have h1 := h.cell (j := j) (by omega)
    have h2 : (⟨G, 0, none⟩ : Addr).add j = ⟨G, j, none⟩ := by
      by_cases h0 : j = 0
      · subst h0; simp [Addr.add]
      · simp [Addr.add, h0]
    rw [h2, h1]
    simp)
  rw [List.length_take, Nat.min_eq_left hk] at this
  exact this
theorem of_anyB (tm : Int) (h2 : tm ≤ 9223372036854775807) : ∃ (b : Bool) (t : Tim), ∀ W, Calls Tryd.prog 55 #[.int .i64 tm] W fun e w' => e = .returned (.tuple #[t.v, .bool b]) ∧ Touch (fun _ => False) W w' := by
  by_cases h1 : tm < 0
  · exact ⟨false, Tim.zero, fun W => of_neg tm W h1⟩
  · by_cases h3 : 2019643200 ≤ tm
    · exact ⟨false, Tim.zero, fun W => of_big tm W h3 h2⟩
    · obtain ⟨t, ht, rfl⟩ := num_surj tm (by omega) (by omega)
      exact ⟨true, t, fun W => of_calls t W ht⟩
end Go.Proofs.YtdohhmaggeocjaaDoor


/- Contracts of package lz's numbers over the translated program: symbols and extra bits. -/
import Derived.Test.YtnjgalalnnldiaaRows
import Derived.Test.YtnjgalalnnldiaaNum
import Derived.Test.YtnjgalalnnldiaaMem
import Derived.WalkSpells
import Derived.OwnWalk
import Derived.WalkLawsBesides
import Derived.Lib.Hide
import Derived.Lib.BitFns
import Derived.Laws.BitsAllLaws
import Derived.Laws.Rows
import Derived.Laws.ResultCell
import Derived.RegionTactic
import Derived.BigRegion
import Derived.BigQuiet
import Derived.Deep.QuietTactic
import Derived.Deep.RegionHeld3
import Derived.Deep.RegionLaw
namespace Go.Proofs.Ytnjgalalnnldiaa
open Go Go.RowKit
set_option maxRecDepth 100000
set_option maxRecDepth 100000

/-- How many binary digits: for numbers below 2^16. -/
def blen (n : Nat) : Nat := Lib.bitLen n

set_option maxHeartbeats 4000000 in
theorem len64_calls (x : Int) (w : World) (h0 : 0 ≤ x) (h : x < 65536) : Calls Try.prog 59 #[.int .u64 x] w fun e w' => e = .returned (.int .i64 (blen x.toNat : Nat)) ∧ w = w' := by
  go_enter Try.func59, Try.ntmps59
  by_cases h8 : x ≤ 255
  · go_wp2
    go_ret
    have l := Lib.bitLen_le8' x (by omega) (by omega)
    refine ⟨congrArg Ending.returned (congrArg (Value.int IntKind.i64) ?_), rfl⟩
    rw [Lib.len8_of x h0 h8]
    unfold blen wrap64
    omega
  · have h9 : x / 256 ≤ 255 := by omega
    have h10 : 0 ≤ x / 256 := by omega
    go_wp2
    go_ret
    have l := Lib.bitLen_le8' (x / 256) (by omega) (by omega)
    have s := Lib.bitLen_shift8 x.toNat (by omega) (by omega)
    refine ⟨congrArg Ending.returned (congrArg (Value.int IntKind.i64) ?_), rfl⟩
    rw [Lib.len8_of (x / 256) h10 h9]
    rw [show (x / 256).toNat = x.toNat / 256 by omega] at l ⊢
    unfold blen wrap64
    omega

theorem len_calls (n : Nat) (w : World) (h : n < 65536) : Calls Try.prog 47 #[.int .u64 n] w fun e w' => e = .returned (.int .i64 (blen n : Nat)) ∧ w = w' := by
  go_enter Try.func47, Try.ntmps47
  go_wp2_with (go_at_call 59; refine (len64_calls n _ (by omega) (by omega)).mono ?_; rintro e w' ⟨rfl, rfl⟩)
  go_ret
  exact ⟨by simp, rfl⟩

theorem blen_le (n : Nat) (h : n < 32768) : blen n ≤ 15 := Lib.bitLen_le n 15 (by omega) h

theorem and_pow (n e : Nat) (hn : n < 32768) (he : e ≤ 15) : bits .and .u64 (n : Int) (IntKind.u64.wrap (IntKind.u64.wrap (2 ^ e) - 1)) = ((n % 2 ^ e : Nat) : Int) := by
  have hn1 : 2 ^ e ≤ 2 ^ 15 := Nat.pow_le_pow_right (by decide) he
  have hn0 := Nat.two_pow_pos e
  have e1 : ((2 : Int) ^ e) = ((2 ^ e : Nat) : Int) := by simp
  rw [e1, IntKind.wrap_u64, IntKind.wrap_u64, show (((2 ^ e : Nat) : Int) % 18446744073709551616 - 1) % 18446744073709551616 = ((2 ^ e - 1 : Nat) : Int) by omega, u64_and_nat _ _ (by omega) (by omega), Nat.and_two_pow_sub_one_eq_mod]

theorem div_pow (n e : Nat) : (n : Int) / 2 ^ e = ((n / 2 ^ e : Nat) : Int) := by simp

theorem and_zero (n : Nat) (hn : n < 32768) : bits .and .u64 (n : Int) 0 = 0 := by
  have := u64_and_nat n 0 (by omega) (by omega)
  simpa using this
theorem ext3 {a a' b b' c c' : Int} (h1 : a = a') (h2 : b = b') (h3 : c = c') : Ending.returned (.agg #[.int .i64 a, .int .i64 b, .int .u64 c]) = Ending.returned (.agg #[.int .i64 a', .int .i64 b', .int .u64 c']) := by rw [h1, h2, h3]

theorem box_kept {w w1 : World} {t : TypeId} {cs : Array Value} (h : Touch (fun _ => False) (w.alloc (.cells cs t)) w1) : w.heap.size < w1.heap.size ∧ w1.heap[w.heap.size]? = some (.cells cs t) := by
  have h1 : w.heap.size < (w.alloc (.cells cs t)).heap.size := by show w.heap.size < (w.heap.push _).size; simp
  exact ⟨Nat.lt_of_lt_of_le h1 h.size, (h.block _ h1 id).trans (heap_alloc_new w _)⟩
theorem box_cells {w : World} {b : Nat} {x0 x1 x2 : Value} {t : TypeId} (h : w.heap[b]? = some (.cells #[x0, x1, x2] t)) : Cell3 w b 0 x0 x1 x2 := by
  refine ⟨?_, ?_, ?_, ?_, ?_, ?_⟩
  all_goals first
    | (rw [cell_of_row w b _ _ _ _ h]; rfl)
    | (simp [World.frozen?, h])

theorem box_set3 {w : World} {b : Nat} {x0 x1 x2 y0 y1 y2 : Value} {t : TypeId} (h : w.heap[b]? = some (.cells #[x0, x1, x2] t)) :
    (((w.setCell ⟨b, 0, none⟩ y0).setCell ⟨b, 1, none⟩ y1).setCell ⟨b, 2, none⟩ y2).heap[b]? = some (.cells #[y0, y1, y2] t) :=
  heap_setCell_same y2 (heap_setCell_same y1 (heap_setCell_same y0 h))

theorem Try.sizeE : (Try.prog.info? 63).map (·.size) = some 3 := by kernel_rfl

/-- A number split: fold low bits below the highest one, and the rest. -/
def symN (f n : Nat) : Nat := (blen n - 1 - f) * 2 ^ f + n / 2 ^ (blen n - 1 - f)
def bitN (f n : Nat) : Nat := blen n - 1 - f
def valN (f n : Nat) : Nat := n % 2 ^ (blen n - 1 - f)
def extraV (s e v : Nat) : Value := .agg #[.int .i64 (s : Nat), .int .i64 (e : Nat), .int .u64 (v : Nat)]

set_option maxHeartbeats 1000000 in
theorem split_calls (n f : Nat) (w : World) (hn : n < 32768) (hf : f = 1 ∨ f = 2) : Calls Try.prog 44 #[.int .i64 n, .int .i64 f] w fun e w' => e = .returned (extraV (symN f n) (bitN f n) (valN f n)) ∧ Touch (fun _ => False) w w' := by
  have hb := blen_le n hn
  unfold symN bitN valN extraV
  have HA := Lib.hid (fun e he => and_pow n e hn he)
  have HLE := Lib.hid (fun e => Nat.div_le_self n (2 ^ e))
  rcases hf with rfl | rfl
  all_goals
    go_enter Try.func44, Try.ntmps44
    go_wp2_with (go_at_call 47; refine (len_calls n _ (by omega)).mono ?_; rintro e w' ⟨rfl, rfl⟩)
    all_goals go_region
    all_goals go_wp2
    all_goals ((try simp only [Exit.inBlock, Exit.then]); refine bodyPost_ret (results_cell_row rfl _ _ w.heap.size _ _ _ _ rfl (heap_alloc_new w _) Try.underlying63 rfl Try.sizeE) rfl ?_)
    all_goals refine ⟨?_, ((Touch.refl _ _).alloc _).drew⟩
    all_goals first
      | (have h0 : blen n - 1 - 1 = 0 := by omega
         rw [h0]
         refine ext3 (by simp) (by simp) (by simpa using and_zero n hn))
      | (have h0 : blen n - 1 - 2 = 0 := by omega
         rw [h0]
         refine ext3 (by simp) (by simp) (by simpa using and_zero n hn))
      | (obtain ⟨e, he⟩ : ∃ e, e = blen n - 1 - 1 := ⟨_, rfl⟩
         have h1 : (blen n : Int) - 1 - 1 = (e : Nat) := by omega
         have h2 := HLE.out e
         rw [← he, h1, div_pow, HA.out e (by omega)]
         generalize n / 2 ^ e = q at h2 ⊢
         refine ext3 ?_ rfl rfl
         unfold wrap64
         omega)
      | (obtain ⟨e, he⟩ : ∃ e, e = blen n - 1 - 2 := ⟨_, rfl⟩
         have h1 : (blen n : Int) - 1 - 2 = (e : Nat) := by omega
         have h2 := HLE.out e
         rw [← he, h1, div_pow, HA.out e (by omega)]
         generalize n / 2 ^ e = q at h2 ⊢
         refine ext3 ?_ rfl rfl
         unfold wrap64
         omega)

/-- The least number of a symbol, counted from 0. -/
def leastN (f s : Nat) : Nat := (s - (s / 2 ^ f - 1) * 2 ^ f) * 2 ^ (s / 2 ^ f - 1)
def extN (f s : Nat) : Nat := s / 2 ^ f - 1

theorem tup2 {a a' b b' : Int} (h1 : a = a') (h2 : b = b') : Ending.returned (.tuple #[.int .i64 a, .int .i64 b]) = Ending.returned (.tuple #[.int .i64 a', .int .i64 b']) := by rw [h1, h2]
theorem lst1 (s : Nat) (h : s < 32) (h1 : 1 < (s : Int) / 2) : wrap64 (((s : Int) - ((s : Int) / 2 - 1) * 2) * 2 ^ (((s : Int) / 2).toNat - 1)) = ((s - (s / 2 - 1) * 2 : Nat) : Int) * 2 ^ (s / 2 - 1) := by
  have : ∀ s : Fin 32, 1 < (s.val : Int) / 2 → wrap64 (((s.val : Int) - ((s.val : Int) / 2 - 1) * 2) * 2 ^ (((s.val : Int) / 2).toNat - 1)) = ((s.val - (s.val / 2 - 1) * 2 : Nat) : Int) * 2 ^ (s.val / 2 - 1) := by decide +kernel
  exact this ⟨s, h⟩ h1
theorem lst2 (s : Nat) (h : s < 32) (h1 : 1 < (s : Int) / 4) : wrap64 (((s : Int) - ((s : Int) / 4 - 1) * 4) * 2 ^ (((s : Int) / 4).toNat - 1)) = ((s - (s / 4 - 1) * 4 : Nat) : Int) * 2 ^ (s / 4 - 1) := by
  have : ∀ s : Fin 32, 1 < (s.val : Int) / 4 → wrap64 (((s.val : Int) - ((s.val : Int) / 4 - 1) * 4) * 2 ^ (((s.val : Int) / 4).toNat - 1)) = ((s.val - (s.val / 4 - 1) * 4 : Nat) : Int) * 2 ^ (s.val / 4 - 1) := by decide +kernel
  exact this ⟨s, h⟩ h1
theorem lst1' (s : Nat) (h : s < 32) (h1 : (s : Int) / 2 ≤ 1) : wrap64 (s : Int) = ((s - (s / 2 - 1) * 2 : Nat) : Int) * 2 ^ (s / 2 - 1) := by
  have : ∀ s : Fin 32, (s.val : Int) / 2 ≤ 1 → wrap64 (s.val : Int) = ((s.val - (s.val / 2 - 1) * 2 : Nat) : Int) * 2 ^ (s.val / 2 - 1) := by decide +kernel
  exact this ⟨s, h⟩ h1
theorem lst2' (s : Nat) (h : s < 32) (h1 : (s : Int) / 4 ≤ 1) : wrap64 (s : Int) = ((s - (s / 4 - 1) * 4 : Nat) : Int) * 2 ^ (s / 4 - 1) := by
  have : ∀ s : Fin 32, (s.val : Int) / 4 ≤ 1 → wrap64 (s.val : Int) = ((s.val - (s.val / 4 - 1) * 4 : Nat) : Int) * 2 ^ (s.val / 4 - 1) := by decide +kernel
  exact this ⟨s, h⟩ h1

def lenS (n : Nat) : Nat := if n = 258 then 285 else 257 + symN 2 (n - 3)
def lenB (n : Nat) : Nat := if n = 258 then 0 else bitN 2 (n - 3)
def lenV (n : Nat) : Nat := if n = 258 then 0 else valN 2 (n - 3)

theorem symN_le (f n : Nat) (h : n < 32768) (hf : f = 1 ∨ f = 2) : symN f n < 100000 := by
  have hb := blen_le n h
  have h2 := Nat.div_le_self n (2 ^ (blen n - 1 - f))
  unfold symN
  generalize n / 2 ^ (blen n - 1 - f) = q at h2 ⊢
  rcases hf with rfl | rfl <;> omega

theorem islen_calls (n : Int) (w : World) : Calls Try.prog 43 #[.int .i64 n] w fun e w' => e = .returned (.bool (decide (3 ≤ n ∧ n ≤ 258))) ∧ w = w' := by
  by_cases h : 3 ≤ n
  · by_cases h2 : n ≤ 258
    · go_enter Try.func43, Try.ntmps43
      go_wp2
      go_ret
      exact ⟨by simp [h, h2], rfl⟩
    · go_enter Try.func43, Try.ntmps43
      go_wp2
      go_ret
      exact ⟨by simp [h2], rfl⟩
  · go_enter Try.func43, Try.ntmps43
    go_wp2
    go_ret
    exact ⟨by simp; omega, rfl⟩
theorem isdist_calls (n : Int) (w : World) : Calls Try.prog 45 #[.int .i64 n] w fun e w' => e = .returned (.bool (decide (1 ≤ n ∧ n ≤ 32768))) ∧ w = w' := by
  by_cases h : 1 ≤ n
  · by_cases h2 : n ≤ 32768
    · go_enter Try.func45, Try.ntmps45
      go_wp2
      go_ret
      exact ⟨by simp [h, h2], rfl⟩
    · go_enter Try.func45, Try.ntmps45
      go_wp2
      go_ret
      exact ⟨by simp [h2], rfl⟩
  · go_enter Try.func45, Try.ntmps45
    go_wp2
    go_ret
    exact ⟨by simp; omega, rfl⟩

theorem islen_yes (n : Int) (w : World) (h : 3 ≤ n) (h2 : n ≤ 258) : Calls Try.prog 43 #[.int .i64 n] w fun e w' => e = .returned (.bool true) ∧ w = w' := by
  have h3 := islen_calls n w
  rwa [decide_eq_true (show 3 ≤ n ∧ n ≤ 258 from ⟨h, h2⟩)] at h3
theorem islen_no (n : Int) (w : World) (h : n < 3 ∨ 258 < n) : Calls Try.prog 43 #[.int .i64 n] w fun e w' => e = .returned (.bool false) ∧ w = w' := by
  have h3 := islen_calls n w
  rwa [decide_eq_false (show ¬ (3 ≤ n ∧ n ≤ 258) by omega)] at h3
theorem isdist_yes (n : Int) (w : World) (h : 1 ≤ n) (h2 : n ≤ 32768) : Calls Try.prog 45 #[.int .i64 n] w fun e w' => e = .returned (.bool true) ∧ w = w' := by
  have h3 := isdist_calls n w
  rwa [decide_eq_true (show 1 ≤ n ∧ n ≤ 32768 from ⟨h, h2⟩)] at h3
theorem isdist_no (n : Int) (w : World) (h : n < 1 ∨ 32768 < n) : Calls Try.prog 45 #[.int .i64 n] w fun e w' => e = .returned (.bool false) ∧ w = w' := by
  have h3 := isdist_calls n w
  rwa [decide_eq_false (show ¬ (1 ≤ n ∧ n ≤ 32768) by omega)] at h3

set_option maxHeartbeats 1000000 in
theorem length_in (n : Nat) (w : World) (h3 : 3 ≤ n) (h : n ≤ 258) : Calls Try.prog 29 #[.int .i64 n] w fun e w' => e = .returned (extraV (lenS n) (lenB n) (lenV n)) ∧ Touch (fun _ => False) w w' := by
  have hil := Lib.hid (fun W => islen_yes n W (by omega) (by omega))
  by_cases h8 : n = 258
  · have e1 : lenS n = 285 := if_pos h8
    have e2 : lenB n = 0 := if_pos h8
    have e3 : lenV n = 0 := if_pos h8
    rw [e1, e2, e3]
    clear e1 e2 e3
    subst h8
    go_enter Try.func29, Try.ntmps29
    go_wp2_with (go_at_call 43; refine (hil.out _).mono ?_; rintro e w1 ⟨rfl, rfl⟩)
    ((try simp only [Exit.inBlock, Exit.then]); refine bodyPost_ret (results_cell_row rfl _ _ w.heap.size _ _ _ _ rfl (heap_alloc_new w _) Try.underlying63 rfl Try.sizeE) rfl ?_)
    exact ⟨rfl, (Touch.refl _ _).alloc _⟩
  · obtain ⟨m, hm⟩ : ∃ m, m = n - 3 := ⟨_, rfl⟩
    have hmn : (n : Int) - 3 = (m : Nat) := by omega
    have hs := symN_le 2 m (by omega) (.inr rfl)
    have e1 : lenS n = 257 + symN 2 m := by rw [hm]; exact if_neg h8
    have e2 : lenB n = bitN 2 m := by rw [hm]; exact if_neg h8
    have e3 : lenV n = valN 2 m := by rw [hm]; exact if_neg h8
    rw [e1, e2, e3]
    clear e1 e2 e3
    have hsp : RowKit.Hid (∀ W, Calls Try.prog 44 #[.int .i64 m, .int .i64 2] W fun e w' => e = .returned (extraV (symN 2 m) (bitN 2 m) (valN 2 m)) ∧ Touch (fun _ => False) W w') := Lib.hid (fun W => split_calls m 2 W (by omega) (.inr rfl))
    unfold extraV at hsp ⊢
    generalize symN 2 m = S at hs hsp ⊢
    generalize bitN 2 m = B at hsp ⊢
    generalize valN 2 m = V at hsp ⊢
    have h8' : (n : Int) ≠ 258 := by omega
    clear hm h8
    go_enter Try.func29, Try.ntmps29
    go_wp2_with (first | (go_at_call 43; refine (hil.out _).mono ?_; rintro e w1 ⟨rfl, rfl⟩) | (go_at_call 44; refine (hsp.out _).mono ?_; rintro e w1 ⟨rfl, ht1⟩; obtain ⟨hlt, hb1⟩ := box_kept ht1; obtain ⟨c0, c1, c2, f0, f1, f2⟩ := box_cells hb1))
    ((try simp only [Exit.inBlock, Exit.then]); refine bodyPost_ret (results_cell_row rfl _ _ w.heap.size _ _ _ _ rfl ((heap_alloc_old _ _ (by simpa using hlt)).trans (box_set3 hb1)) Try.underlying63 rfl Try.sizeE) rfl ?_)
    refine ⟨ext3 (by omega) rfl rfl, ?_⟩
    exact ((((((Touch.refl _ w).alloc _).trans ht1).setCell (.inr (Nat.le_refl _)) _).setCell (.inr (Nat.le_refl _)) _).setCell (.inr (Nat.le_refl _)) _).alloc _

set_option maxHeartbeats 1000000 in
theorem dist_in (n : Nat) (w : World) (h1 : 1 ≤ n) (h : n ≤ 32768) : Calls Try.prog 30 #[.int .i64 n] w fun e w' => e = .returned (extraV (symN 1 (n - 1)) (bitN 1 (n - 1)) (valN 1 (n - 1))) ∧ Touch (fun _ => False) w w' := by
  have hil := Lib.hid (fun W => isdist_yes n W (by omega) (by omega))
  obtain ⟨m, hm⟩ : ∃ m, m = n - 1 := ⟨_, rfl⟩
  have hmn : (n : Int) - 1 = (m : Nat) := by omega
  rw [← hm]
  have hsp : RowKit.Hid (∀ W, Calls Try.prog 44 #[.int .i64 m, .int .i64 1] W fun e w' => e = .returned (extraV (symN 1 m) (bitN 1 m) (valN 1 m)) ∧ Touch (fun _ => False) W w') := Lib.hid (fun W => split_calls m 1 W (by omega) (.inl rfl))
  unfold extraV at hsp ⊢
  generalize symN 1 m = S at hsp ⊢
  generalize bitN 1 m = B at hsp ⊢
  generalize valN 1 m = V at hsp ⊢
  clear hm
  go_enter Try.func30, Try.ntmps30
  go_wp2_with (first | (go_at_call 45; refine (hil.out _).mono ?_; rintro e w1 ⟨rfl, rfl⟩) | (go_at_call 44; refine (hsp.out _).mono ?_; rintro e w1 ⟨rfl, ht1⟩; obtain ⟨hlt, hb1⟩ := box_kept ht1; obtain ⟨c0, c1, c2, f0, f1, f2⟩ := box_cells hb1))
  ((try simp only [Exit.inBlock, Exit.then]); refine bodyPost_ret (results_cell_row rfl _ _ w.heap.size _ _ _ _ rfl (box_set3 hb1) Try.underlying63 rfl Try.sizeE) rfl ?_)
  exact ⟨rfl, (((((Touch.refl _ w).alloc _).trans ht1).setCell (.inr (Nat.le_refl _)) _).setCell (.inr (Nat.le_refl _)) _).setCell (.inr (Nat.le_refl _)) _⟩

theorem length_out (n : Int) (w : World) (h : n < 3 ∨ 258 < n) : Calls Try.prog 29 #[.int .i64 n] w fun e w' => e = .returned (extraV 0 0 0) ∧ Touch (fun _ => False) w w' := by
  have hil := Lib.hid (fun W => islen_no n W h)
  clear h
  go_enter Try.func29, Try.ntmps29
  go_wp2_with (go_at_call 43; refine (hil.out _).mono ?_; rintro e w1 ⟨rfl, rfl⟩)
  ((try simp only [Exit.inBlock, Exit.then]); refine bodyPost_ret (results_cell_row rfl _ _ w.heap.size _ _ _ _ rfl (heap_alloc_new w _) Try.underlying63 rfl Try.sizeE) rfl ?_)
  exact ⟨rfl, (Touch.refl _ _).alloc _⟩

theorem dist_out (n : Int) (w : World) (h : n < 1 ∨ 32768 < n) : Calls Try.prog 30 #[.int .i64 n] w fun e w' => e = .returned (extraV 0 0 0) ∧ Touch (fun _ => False) w w' := by
  have hil := Lib.hid (fun W => isdist_no n W h)
  clear h
  go_enter Try.func30, Try.ntmps30
  go_wp2_with (go_at_call 45; refine (hil.out _).mono ?_; rintro e w1 ⟨rfl, rfl⟩)
  ((try simp only [Exit.inBlock, Exit.then]); refine bodyPost_ret (results_cell_row rfl _ _ w.heap.size _ _ _ _ rfl (heap_alloc_new w _) Try.underlying63 rfl Try.sizeE) rfl ?_)
  exact ⟨rfl, (Touch.refl _ _).alloc _⟩

/-- The least length and the bits of a symbol, counted from the first one. -/
def lenL (s : Nat) : Nat := if s = 28 then 258 else leastN 2 s + 3
def lenE (s : Nat) : Nat := if s = 28 then 0 else extN 2 s

end Go.Proofs.Ytnjgalalnnldiaa

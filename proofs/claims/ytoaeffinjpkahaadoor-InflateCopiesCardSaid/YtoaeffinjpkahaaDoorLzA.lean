
/- Contracts of package lz's numbers over the translated program: symbols and extra bits. -/
import Derived.Test.YtoaeffinjpkahaaDoorRows
import Derived.Test.YtoaeffinjpkahaaDoorNum
import Derived.Test.YtoaeffinjpkahaaDoorMem
import Derived.WalkSpells
import Derived.OwnWalk
import Derived.WalkLawsBesides
import Derived.Lib.Hide
import Derived.Lib.BitFns
import Derived.Laws.BitsAllLaws
import Derived.Laws.Rows
import Derived.Laws.ResultCell
import Derived.RegionTactic
import Derived.BigRegion
import Derived.BigQuiet
import Derived.Deep.QuietTactic
import Derived.Deep.RegionHeld3
import Derived.Deep.RegionLaw
namespace Go.Proofs.YtoaeffinjpkahaaDoor
set_option linter.unusedSimpArgs false
set_option linter.unusedVariables false
open Go Go.RowKit
set_option maxRecDepth 100000

/-- How many binary digits: for numbers below 2^16. -/
def blen (n : Nat) : Nat := Lib.bitLen n

theorem blen_le (n : Nat) (h : n < 32768) : blen n ≤ 15 := Lib.bitLen_le n 15 (by omega) h

theorem and_pow (n e : Nat) (hn : n < 32768) (he : e ≤ 15) : bits .and .u64 (n : Int) (IntKind.u64.wrap (IntKind.u64.wrap (2 ^ e) - 1)) = ((n % 2 ^ e : Nat) : Int) := by
  have hn1 : 2 ^ e ≤ 2 ^ 15 := Nat.pow_le_pow_right (by decide) he
  have hn0 := Nat.two_pow_pos e
  have e1 : ((2 : Int) ^ e) = ((2 ^ e : Nat) : Int) := by simp
  rw [e1, IntKind.wrap_u64, IntKind.wrap_u64, show (((2 ^ e : Nat) : Int) % 18446744073709551616 - 1) % 18446744073709551616 = ((2 ^ e - 1 : Nat) : Int) by omega, u64_and_nat _ _ (by omega) (by omega), Nat.and_two_pow_sub_one_eq_mod]

theorem div_pow (n e : Nat) : (n : Int) / 2 ^ e = ((n / 2 ^ e : Nat) : Int) := by simp

theorem and_zero (n : Nat) (hn : n < 32768) : bits .and .u64 (n : Int) 0 = 0 := by
  have := u64_and_nat n 0 (by omega) (by omega)
  simpa using this
theorem ext3 {a a' b b' c c' : Int} (h1 : a = a') (h2 : b = b') (h3 : c = c') : Ending.returned (.agg #[.int .i64 a, .int .i64 b, .int .u64 c]) = Ending.returned (.agg #[.int .i64 a', .int .i64 b', .int .u64 c']) := by rw [h1, h2, h3]

theorem box_kept {w w1 : World} {t : TypeId} {cs : Array Value} (h : Touch (fun _ => False) (w.alloc (.cells cs t)) w1) : w.heap.size < w1.heap.size ∧ w1.heap[w.heap.size]? = some (.cells cs t) := by
  have h1 : w.heap.size < (w.alloc (.cells cs t)).heap.size := by show w.heap.size < (w.heap.push _).size; simp
  exact ⟨Nat.lt_of_lt_of_le h1 h.size, (h.block _ h1 id).trans (heap_alloc_new w _)⟩
theorem box_cells {w : World} {b : Nat} {x0 x1 x2 : Value} {t : TypeId} (h : w.heap[b]? = some (.cells #[x0, x1, x2] t)) : Cell3 w b 0 x0 x1 x2 := by
  refine ⟨?_, ?_, ?_, ?_, ?_, ?_⟩
  all_goals first
    | (rw [cell_of_row w b _ _ _ _ h]; rfl)
    | (simp [World.frozen?, h])

theorem box_set3 {w : World} {b : Nat} {x0 x1 x2 y0 y1 y2 : Value} {t : TypeId} (h : w.heap[b]? = some (.cells #[x0, x1, x2] t)) :
    (((w.setCell ⟨b, 0, none⟩ y0).setCell ⟨b, 1, none⟩ y1).setCell ⟨b, 2, none⟩ y2).heap[b]? = some (.cells #[y0, y1, y2] t) :=
  heap_setCell_same y2 (heap_setCell_same y1 (heap_setCell_same y0 h))

/-- A number split: fold low bits below the highest one, and the rest. -/
def symN (f n : Nat) : Nat := (blen n - 1 - f) * 2 ^ f + n / 2 ^ (blen n - 1 - f)
def bitN (f n : Nat) : Nat := blen n - 1 - f
def valN (f n : Nat) : Nat := n % 2 ^ (blen n - 1 - f)
def extraV (s e v : Nat) : Value := .agg #[.int .i64 (s : Nat), .int .i64 (e : Nat), .int .u64 (v : Nat)]

/-- The least number of a symbol, counted from 0. -/
def leastN (f s : Nat) : Nat := (s - (s / 2 ^ f - 1) * 2 ^ f) * 2 ^ (s / 2 ^ f - 1)
def extN (f s : Nat) : Nat := s / 2 ^ f - 1

theorem tup2 {a a' b b' : Int} (h1 : a = a') (h2 : b = b') : Ending.returned (.tuple #[.int .i64 a, .int .i64 b]) = Ending.returned (.tuple #[.int .i64 a', .int .i64 b']) := by rw [h1, h2]
theorem lst1 (s : Nat) (h : s < 32) (h1 : 1 < (s : Int) / 2) : wrap64 (((s : Int) - ((s : Int) / 2 - 1) * 2) * 2 ^ (((s : Int) / 2).toNat - 1)) = ((s - (s / 2 - 1) * 2 : Nat) : Int) * 2 ^ (s / 2 - 1) := by
  have : ∀ s : Fin 32, 1 < (s.val : Int) / 2 → wrap64 (((s.val : Int) - ((s.val : Int) / 2 - 1) * 2) * 2 ^ (((s.val : Int) / 2).toNat - 1)) = ((s.val - (s.val / 2 - 1) * 2 : Nat) : Int) * 2 ^ (s.val / 2 - 1) := by decide +kernel
  exact this ⟨s, h⟩ h1
theorem lst2 (s : Nat) (h : s < 32) (h1 : 1 < (s : Int) / 4) : wrap64 (((s : Int) - ((s : Int) / 4 - 1) * 4) * 2 ^ (((s : Int) / 4).toNat - 1)) = ((s - (s / 4 - 1) * 4 : Nat) : Int) * 2 ^ (s / 4 - 1) := by
  have : ∀ s : Fin 32, 1 < (s.val : Int) / 4 → wrap64 (((s.val : Int) - ((s.val : Int) / 4 - 1) * 4) * 2 ^ (((s.val : Int) / 4).toNat - 1)) = ((s.val - (s.val / 4 - 1) * 4 : Nat) : Int) * 2 ^ (s.val / 4 - 1) := by decide +kernel
  exact this ⟨s, h⟩ h1
theorem lst1' (s : Nat) (h : s < 32) (h1 : (s : Int) / 2 ≤ 1) : wrap64 (s : Int) = ((s - (s / 2 - 1) * 2 : Nat) : Int) * 2 ^ (s / 2 - 1) := by
  have : ∀ s : Fin 32, (s.val : Int) / 2 ≤ 1 → wrap64 (s.val : Int) = ((s.val - (s.val / 2 - 1) * 2 : Nat) : Int) * 2 ^ (s.val / 2 - 1) := by decide +kernel
  exact this ⟨s, h⟩ h1
theorem lst2' (s : Nat) (h : s < 32) (h1 : (s : Int) / 4 ≤ 1) : wrap64 (s : Int) = ((s - (s / 4 - 1) * 4 : Nat) : Int) * 2 ^ (s / 4 - 1) := by
  have : ∀ s : Fin 32, (s.val : Int) / 4 ≤ 1 → wrap64 (s.val : Int) = ((s.val - (s.val / 4 - 1) * 4 : Nat) : Int) * 2 ^ (s.val / 4 - 1) := by decide +kernel
  exact this ⟨s, h⟩ h1

set_option maxHeartbeats 1000000 in
theorem least_calls (s f : Nat) (w : World) (hs : s < 32) (hf : f = 1 ∨ f = 2) : Calls Tryd.prog 148 #[.int .i64 s, .int .i64 f] w fun e w' => e = .returned (.tuple #[.int .i64 (leastN f s : Nat), .int .i64 (extN f s : Nat)]) ∧ w = w' := by
  unfold leastN extN
  rcases hf with rfl | rfl
  all_goals
    go_enter Tryd.func148, Tryd.ntmps148
    go_wp2
    all_goals go_ret2
    all_goals first
      | exact ⟨tup2 (lst1 s hs h) (by omega), rfl⟩
      | exact ⟨tup2 (lst1' s hs h) (by omega), rfl⟩
      | exact ⟨tup2 (lst2 s hs h) (by omega), rfl⟩
      | exact ⟨tup2 (lst2' s hs h) (by omega), rfl⟩

def lenS (n : Nat) : Nat := if n = 258 then 285 else 257 + symN 2 (n - 3)
def lenB (n : Nat) : Nat := if n = 258 then 0 else bitN 2 (n - 3)
def lenV (n : Nat) : Nat := if n = 258 then 0 else valN 2 (n - 3)

theorem symN_le (f n : Nat) (h : n < 32768) (hf : f = 1 ∨ f = 2) : symN f n < 100000 := by
  have hb := blen_le n h
  have h2 := Nat.div_le_self n (2 ^ (blen n - 1 - f))
  unfold symN
  generalize n / 2 ^ (blen n - 1 - f) = q at h2 ⊢
  rcases hf with rfl | rfl <;> omega

theorem lengthof_out (s : Int) (w : World) (h : s < 257 ∨ 285 < s) : Calls Tryd.prog 129 #[.int .i64 s] w fun e w' => e = .returned (.tuple #[.int .i64 0, .int .i64 0, .bool false]) ∧ w = w' := by
  by_cases h1 : s < 257
  · clear h
    go_enter Tryd.func129, Tryd.ntmps129
    go_wp2
    go_ret3
    exact ⟨rfl, rfl⟩
  · have h2 : 285 < s := by omega
    clear h
    go_enter Tryd.func129, Tryd.ntmps129
    go_wp2
    go_ret3
    exact ⟨rfl, rfl⟩

/-- The least length and the bits of a symbol, counted from the first one. -/
def lenL (s : Nat) : Nat := if s = 28 then 258 else leastN 2 s + 3
def lenE (s : Nat) : Nat := if s = 28 then 0 else extN 2 s

set_option maxHeartbeats 1000000 in
theorem lengthof_in (s : Nat) (w : World) (h : s < 29) : Calls Tryd.prog 129 #[.int .i64 ((s : Int) + 257)] w fun e w' => e = .returned (.tuple #[.int .i64 (lenL s : Nat), .int .i64 (lenE s : Nat), .bool true]) ∧ w = w' := by
  by_cases h8 : s = 28
  · subst h8
    go_enter Tryd.func129, Tryd.ntmps129
    go_wp2
    go_ret3
    exact ⟨rfl, rfl⟩
  · have e1 : lenL s = leastN 2 s + 3 := if_neg h8
    have e2 : lenE s = extN 2 s := if_neg h8
    rw [e1, e2]
    have hb : leastN 2 s < 100000 := by
      have : ∀ s : Fin 32, leastN 2 s.val < 100000 := by decide +kernel
      exact this ⟨s, by omega⟩
    have hsp : RowKit.Hid (∀ W, Calls Tryd.prog 148 #[.int .i64 s, .int .i64 2] W fun e w' => e = .returned (.tuple #[.int .i64 (leastN 2 s : Nat), .int .i64 (extN 2 s : Nat)]) ∧ W = w') := Lib.hid (fun W => least_calls s 2 W (by omega) (.inr rfl))
    generalize leastN 2 s = L at hb hsp ⊢
    generalize extN 2 s = E at hsp ⊢
    have hs2 : s < 28 := by omega
    clear h8 e1 e2 h
    go_enter Tryd.func129, Tryd.ntmps129
    go_wp2_with (go_at_call 148; refine (hsp.out _).mono ?_; rintro e w1 ⟨rfl, rfl⟩)
    go_ret3
    exact ⟨rfl, rfl⟩

theorem distof_out (s : Int) (w : World) (h : s < 0 ∨ 29 < s) : Calls Tryd.prog 130 #[.int .i64 s] w fun e w' => e = .returned (.tuple #[.int .i64 0, .int .i64 0, .bool false]) ∧ w = w' := by
  by_cases h1 : s < 0
  · clear h
    go_enter Tryd.func130, Tryd.ntmps130
    go_wp2
    go_ret3
    exact ⟨rfl, rfl⟩
  · have h2 : 29 < s := by omega
    clear h
    go_enter Tryd.func130, Tryd.ntmps130
    go_wp2
    go_ret3
    exact ⟨rfl, rfl⟩

set_option maxHeartbeats 1000000 in
theorem distof_in (s : Nat) (w : World) (h : s < 30) : Calls Tryd.prog 130 #[.int .i64 s] w fun e w' => e = .returned (.tuple #[.int .i64 (leastN 1 s + 1 : Nat), .int .i64 (extN 1 s : Nat), .bool true]) ∧ w = w' := by
  have hb : leastN 1 s < 100000 := by
    have : ∀ s : Fin 32, leastN 1 s.val < 100000 := by decide +kernel
    exact this ⟨s, by omega⟩
  have hsp : RowKit.Hid (∀ W, Calls Tryd.prog 148 #[.int .i64 s, .int .i64 1] W fun e w' => e = .returned (.tuple #[.int .i64 (leastN 1 s : Nat), .int .i64 (extN 1 s : Nat)]) ∧ W = w') := Lib.hid (fun W => least_calls s 1 W (by omega) (.inl rfl))
  generalize leastN 1 s = L at hb hsp ⊢
  generalize extN 1 s = E at hsp ⊢
  go_enter Tryd.func130, Tryd.ntmps130
  go_wp2_with (go_at_call 148; refine (hsp.out _).mono ?_; rintro e w1 ⟨rfl, rfl⟩)
  go_ret3
  exact ⟨rfl, rfl⟩

end Go.Proofs.YtoaeffinjpkahaaDoor


/- Contracts of package window over the translated program, what is told and copied. -/
import Derived.Test.YtoaeffinjpkahaaDoorWinA
import Derived.Laws.BytesString
namespace Go.Proofs.YtoaeffinjpkahaaDoor
set_option linter.unusedSimpArgs false
set_option linter.unusedVariables false
open Go Go.RowKit
set_option maxRecDepth 100000
variable {φ : TypeId × (Nat → Option Value)}

theorem ring_at {R all : List UInt8} (h : RingOf R all) {d : Nat} (h1 : 1 ≤ d) (h2 : d ≤ min all.length 32768) : (all.length - d) % 32768 < R.length ∧ R[(all.length - d) % 32768]? = some (all.getD (all.length - d) 0) := by
  obtain ⟨h3, h4⟩ := h
  have h5 := h4 (all.length - d) (by omega) (by omega)
  have h6 : all[all.length - d]? = some (all.getD (all.length - d) 0) := by
    rw [List.getElem?_eq_getElem (by omega)]
    simp [List.getD, List.getElem?_eq_getElem (show all.length - d < all.length by omega)]
  rw [h6] at h5
  exact ⟨(List.getElem?_eq_some_iff.1 h5).1, h5⟩

set_option maxHeartbeats 400000 in
theorem at_drew (b o d : Nat) (all : List UInt8) (row : Option Nat) (w : World) (h : WinAt φ w b o all row) (h1 : 1 ≤ d) (h2 : d ≤ min all.length 32768) (hl : all.length < 1099511627776) :
    Calls Tryd.prog 150 #[.pointer (some ⟨b, o, none⟩), .int .i64 d] w fun e w' => e = .returned (.int .u8 ((all.getD (all.length - d) 0).toNat : Nat)) ∧ w' = w.drew := by
  obtain ⟨R, v, ⟨c0, c1, f0, f1⟩, hrow, hap, rfl, hR⟩ := h
  obtain ⟨hq1, hq2⟩ := ring_at hR h1 h2
  obtain ⟨q, hq⟩ : ∃ q, q = (all.length - d) % 32768 := ⟨_, rfl⟩
  rw [← hq] at hq1 hq2
  obtain ⟨a, cap, hv, hc1, hc2⟩ := hrow.form
  rw [byteVs_length] at hv
  obtain ⟨g, off, hga⟩ : ∃ g off, a = some ⟨g, off, none⟩ := by
    rcases hrow with ⟨e1, e2⟩ | ⟨g, off, cap', cur, e1, _⟩
    · rw [hv] at e1; injection e1 with _ e1; omega
    · rw [hv] at e1; injection e1 with e1; exact ⟨g, off, e1⟩
  subst hga
  subst hv
  have hcell := (Row.cells hrow).2 q (.int .u8 ((all.getD (all.length - d) 0).toNat : Nat)) (by simp only [byteVs, List.getElem?_map, hq2]; rfl)
  obtain ⟨t, ht⟩ : ∃ t : Nat, (all.length : Int) - (d : Int) = t := ⟨all.length - d, by omega⟩
  have hqi : (t : Int) % 32768 = (q : Nat) := by omega
  have hqi2 : (t : Int).tmod 32768 = (q : Nat) := by rw [Int.tmod_eq_emod_of_nonneg (by omega)]; exact hqi
  have hq3 : (q : Int) < (R.length : Int) := by omega
  have hq4 : (0 : Int) ≤ (q : Int) := by omega
  have hw : wrap64 (t : Int) = t := by unfold wrap64; omega
  generalize (all.getD (all.length - d) 0).toNat = y at hcell ⊢
  have HL := Lib.hid hl
  clear hR hq hq2 h2 hc1 hc2 hl
  go_enter Tryd.func150, Tryd.ntmps150
  go_wp2
  go_region
  go_wp2
  go_ret
  exact ⟨rfl, rfl⟩

theorem at_calls (b o d : Nat) (all : List UInt8) (row : Option Nat) (w : World) (h : WinAt φ w b o all row) (h1 : 1 ≤ d) (h2 : d ≤ min all.length 32768) (hl : all.length < 1099511627776) :
    Calls Tryd.prog 150 #[.pointer (some ⟨b, o, none⟩), .int .i64 d] w fun e w' => e = .returned (.int .u8 ((all.getD (all.length - d) 0).toNat : Nat)) ∧ Touch (fun _ => False) w w' :=
  (at_drew b o d all row w h h1 h2 hl).mono fun e w' ⟨he, hw⟩ => ⟨he, by rw [hw]; exact (Touch.refl _ _).drew⟩

theorem wadd_nil (s : ByteArray) (w : World) (hs : s.size ≤ 9223372036854775807) :
    Calls Tryd.prog 124 #[.pointer none, .string s] w fun e w' => e = .returned (.tuple #[]) ∧ w = w' := by
  go_enter Tryd.func124, Tryd.ntmps124
  go_wp2_with fail
  go_loopw [4, 7] (fun _ i wr => wr = w ∧ ∃ k : Nat, k ≤ s.size ∧ i = .int .i64 (k : Nat)) (fun _ i _ => s.size - (intOf i).toNat)
  case atStart => exact ⟨rfl, 0, Nat.zero_le _, rfl⟩
  case round =>
    obtain ⟨rfl, k, hk, rfl⟩ := hrel
    by_cases hlt : k < s.size
    · go_wp2_with (go_at_call 128; refine (put_nil _ _).mono ?_; rintro e w1 ⟨rfl, rfl⟩)
      go_roundw
      case rel => exact ⟨by first | rfl | trivial, k + 1, by omega, by go_num⟩
      case measure => simp [intOf]; omega
    · obtain rfl : k = s.size := by omega
      go_wp2_with fail
      go_end0
      exact ⟨rfl, rfl⟩
/-- What is put, byte by byte. -/
def copyL : Nat → Nat → List UInt8 → List UInt8
  | 0, _, b => b
  | n + 1, d, b => copyL n d (b ++ [b.getD (b.length - d) 0])
theorem copyL_snoc (k d : Nat) (b : List UInt8) : copyL (k + 1) d b = copyL k d b ++ [(copyL k d b).getD ((copyL k d b).length - d) 0] := by
  induction k generalizing b with
  | zero => rfl
  | succ k ih => exact ih _
theorem copyL_length (k d : Nat) (b : List UInt8) : (copyL k d b).length = b.length + k := by
  induction k generalizing b with
  | zero => rfl
  | succ k ih => rw [copyL, ih, List.length_append]; simp; omega

theorem copy_nil (n d : Int) (w : World) :
    Calls Tryd.prog 131 #[.pointer none, .int .i64 n, .int .i64 d] w fun e w' => e = .returned (.tuple #[.string ⟨#[]⟩, .bool false]) ∧ Touch (fun _ => False) w w' := by
  by_cases hn : n < 0
  · go_enter Tryd.func131, Tryd.ntmps131
    go_wp2_with fail
    go_ret2
    exact ⟨rfl, Touch.refl _ _⟩
  · by_cases hn2 : 258 < n
    · go_enter Tryd.func131, Tryd.ntmps131
      go_wp2_with fail
      go_ret2
      exact ⟨rfl, Touch.refl _ _⟩
    · have e1 : decide (n < 0) = false := decide_eq_false hn
      have e2 : decide (258 < n) = false := decide_eq_false hn2
      go_enter Tryd.func131, Tryd.ntmps131
      go_wp2_with (go_at_call 149; refine (has_nil d _).mono ?_; rintro e w1 ⟨rfl, rfl⟩)
      go_ret2
      exact ⟨rfl, Touch.refl _ _⟩
theorem made_zero (n : Nat) : (madeCells (Value.cells (.int .u8 0)) n).toList = byteVs (List.replicate n 0) := by
  have hZ : madeCells (Value.int .u8 0).cells n = (byteVs (List.replicate n 0)).toArray := by
    simp only [madeCells, Value.cells, byteVs, List.map_replicate]
    apply Array.ext
    · simp
    · intro i h1 h2
      simp [Nat.mod_one]
  rw [hZ]
theorem WinAt.rowlt {w : World} {b o : Nat} {all : List UInt8} {row : Option Nat} (h : WinAt φ w b o all row) : ∀ g, row = some g → g < w.heap.size := by
  obtain ⟨R, v, _, hr, _, hv, _⟩ := h
  intro g hg
  exact hr.lt g (by rw [hv, hg])
theorem copied_set (all X : List UInt8) (n k : Nat) (c : UInt8) (hk : k < n) (hX : X.length = all.length + k) :
    ((X.drop all.length ++ List.replicate (n - k) 0).set k c) = (X ++ [c]).drop all.length ++ List.replicate (n - (k + 1)) 0 := by
  have hl : (X.drop all.length).length = k := by rw [List.length_drop]; omega
  rw [List.set_append_right _ _ (by omega), hl, Nat.sub_self, show n - k = (n - (k + 1)) + 1 by omega, List.replicate_succ, List.set_cons_zero, List.drop_append_of_le_length (by omega), List.append_assoc]
  rfl
end Go.Proofs.YtoaeffinjpkahaaDoor


/- Contract of package canon's New for any lengths, over the translated program. -/
import Derived.Test.YtoaeffinjpkahaaDoorCanH
import Derived.Test.YtoaeffinjpkahaaDoorCanF4
namespace Go.Proofs.YtoaeffinjpkahaaDoor
set_option linter.unusedSimpArgs false
set_option linter.unusedVariables false
open Go Go.RowKit
set_option maxRecDepth 100000

/-- Why lengths may not be: 0: they may. -/
def whyN (xs : List Int) (loose : Bool) : Nat :=
  if xs.any badLen = true ∨ 288 < xs.length then 1
  else if 32768 < kraftN (xs.map Int.toNat) then 5
  else if kraftN (xs.map Int.toNat) < 32768 ∧ ¬ (loose = true ∧ (kraftN (xs.map Int.toNat) = 0 ∨ kraftN (xs.map Int.toNat) = 16384 ∧ cntN (xs.map Int.toNat) 1 = 1)) then 4
  else 0

theorem good_nat (xs : List Int) (h : ¬ xs.any badLen = true) : xs = (xs.map Int.toNat).map Int.ofNat ∧ ∀ x ∈ xs.map Int.toNat, x ≤ 15 := by
  have h1 : ∀ x ∈ xs, ¬ x < 0 ∧ ¬ 15 < x := fun x hx => by
    have h2 : badLen x = false := by
      cases hb : badLen x with
      | false => rfl
      | true => exact absurd (List.any_eq_true.2 ⟨x, hx, hb⟩) h
    unfold badLen at h2
    simpa using h2
  constructor
  · rw [List.map_map]
    conv => lhs; rw [← List.map_id xs]
    apply List.map_congr_left
    intro x hx
    have := h1 x hx
    show x = ((x.toNat : Nat) : Int)
    omega
  · intro y hy
    obtain ⟨x, hx, rfl⟩ := List.mem_map.1 hy
    have := h1 x hx
    omega

theorem new_calls (xs : List Int) (loose : Bool) (v : Value) (w : World) (hv : Reads w v (intsV xs)) :
    Calls Tryd.prog 80 #[v, .bool loose] w fun e w' => Touch (fun _ => False) w w' ∧
      ((whyN xs loose ≠ 0 ∧ e = .returned (.tuple #[.pointer none, .int .i64 (whyN xs loose : Nat)])) ∨
       (whyN xs loose = 0 ∧ xs = (xs.map Int.toNat).map Int.ofNat ∧ ∃ b, e = .returned (.tuple #[.pointer (some ⟨b, 0, none⟩), .int .i64 0]) ∧ CodeAt w' b (xs.map Int.toNat) w.heap.size w'.heap.size)) := by
  by_cases h1 : xs.any badLen = true ∨ 288 < xs.length
  · refine (new_arg xs loose v w hv h1).mono fun e w' ⟨he, ht⟩ => ⟨ht, .inl ?_⟩
    unfold whyN
    rw [if_pos h1]
    exact ⟨by decide, he⟩
  · have hb : ¬ xs.any badLen = true := fun h => h1 (.inl h)
    have hl : ¬ 288 < xs.length := fun h => h1 (.inr h)
    obtain ⟨hx, h15⟩ := good_nat xs hb
    have hv' : Reads w v (intVs (xs.map Int.toNat)) := by rw [← intsV_nat, ← hx]; exact hv
    have hn : (xs.map Int.toNat).length ≤ 288 := by rw [List.length_map]; omega
    by_cases h2 : 32768 < kraftN (xs.map Int.toNat)
    · refine (new_over _ loose v w hv' h15 hn h2).mono fun e w' ⟨he, ht⟩ => ⟨ht, .inl ?_⟩
      unfold whyN
      rw [if_neg h1, if_pos h2]
      exact ⟨by decide, he⟩
    · by_cases h3 : kraftN (xs.map Int.toNat) < 32768 ∧ ¬ (loose = true ∧ (kraftN (xs.map Int.toNat) = 0 ∨ kraftN (xs.map Int.toNat) = 16384 ∧ cntN (xs.map Int.toNat) 1 = 1))
      · refine (new_few _ loose v w hv' h15 hn h3.1 (fun hl => ⟨fun h => h3.2 ⟨hl, .inl h⟩, fun h => h3.2 ⟨hl, .inr h⟩⟩)).mono fun e w' ⟨he, ht⟩ => ⟨ht, .inl ?_⟩
        unfold whyN
        rw [if_neg h1, if_neg h2, if_pos h3]
        exact ⟨by decide, he⟩
      · have hw : whyN xs loose = 0 := by
          unfold whyN
          rw [if_neg h1, if_neg h2, if_neg h3]
        have fin : ∀ (e : Ending) (w' : World), (∃ b, e = .returned (.tuple #[.pointer (some ⟨b, 0, none⟩), .int .i64 0]) ∧ CodeAt w' b (xs.map Int.toNat) w.heap.size w'.heap.size ∧ Touch (fun _ => False) w w') →
            Touch (fun _ => False) w w' ∧ ((whyN xs loose ≠ 0 ∧ e = .returned (.tuple #[.pointer none, .int .i64 (whyN xs loose : Nat)])) ∨
            (whyN xs loose = 0 ∧ xs = (xs.map Int.toNat).map Int.ofNat ∧ ∃ b, e = .returned (.tuple #[.pointer (some ⟨b, 0, none⟩), .int .i64 0]) ∧ CodeAt w' b (xs.map Int.toNat) w.heap.size w'.heap.size)) :=
          fun e w' ⟨b, he, hc, ht⟩ => ⟨ht, .inr ⟨hw, hx, b, he, hc⟩⟩
        by_cases h4 : kraftN (xs.map Int.toNat) = 32768
        · exact (new_full _ loose v w hv' h15 hn h4).mono fin
        · have h5 : loose = true ∧ (kraftN (xs.map Int.toNat) = 0 ∨ kraftN (xs.map Int.toNat) = 16384 ∧ cntN (xs.map Int.toNat) 1 = 1) := by
            apply Classical.byContradiction
            intro h5
            exact h3 ⟨by omega, h5⟩
          obtain ⟨rfl, h6⟩ := h5
          rcases h6 with h6 | ⟨h6, h7⟩
          · exact (new_none _ v w hv' h15 hn h6).mono fin
          · exact (new_one _ v w hv' h15 hn h6 h7).mono fin

/-- No word begins another one, as numbers whose lowest bit comes first. -/
theorem word_mod (m n c : Nat) (h : n ≤ m) : numN (wordH m c) % 2 ^ n = numN (wordH n (c / 2 ^ (m - n))) := by
  rw [← numN_take _ (wordH_lt m c)]
  congr 1
  unfold wordH
  rw [List.take_reverse, bitsN_length]
  congr 1
  have h1 := bitsN_split (m - n) n c
  rw [show m - n + n = m by omega] at h1
  rw [h1, List.drop_left' (bitsN_length _ _)]
theorem wordH_inj (n a b : Nat) (ha : a < 2 ^ n) (hb : b < 2 ^ n) (h : numN (wordH n a) = numN (wordH n b)) : a = b := by
  have h1 := bitsN_numN (wordH n a) (wordH_lt n a)
  have h2 := bitsN_numN (wordH n b) (wordH_lt n b)
  rw [wordH_length] at h1 h2
  have h3 := congrArg valH (h1.symm.trans ((congrArg (bitsN n) h).trans h2))
  rwa [valH_wordH, valH_wordH, Nat.mod_eq_of_lt ha, Nat.mod_eq_of_lt hb] at h3
theorem words_apart (ls : List Nat) (h15 : ∀ x ∈ ls, x ≤ 15) (hk : kraftN ls ≤ 32768) {i k : Nat} (hi : i < ls.length) (hkl : k < ls.length) (hne : i ≠ k) (h0 : ls.getD i 0 ≠ 0) (hle : ls.getD i 0 ≤ ls.getD k 0) :
    wordN ls i ≠ wordN ls k % 2 ^ ls.getD i 0 := by
  unfold wordN
  rw [word_mod _ _ _ hle]
  intro h
  have h1 := code_fits ls i hi h0 h15 hk
  have h2 := code_fits ls k hkl (by omega) h15 hk
  have h3 := wordH_inj _ _ _ h1 (by
    rw [Nat.div_lt_iff_lt_mul (Nat.two_pow_pos _), ← Nat.pow_add, show ls.getD i 0 + (ls.getD k 0 - ls.getD i 0) = ls.getD k 0 by omega]
    exact h2) h
  exact apart ls hi hkl hne h0 hle (mem_15 ls h15 k hkl) h3.symm
theorem wordN_lt (ls : List Nat) (h15 : ∀ x ∈ ls, x ≤ 15) (s : Nat) (hs : s < ls.length) : wordN ls s < 32768 :=
  Nat.lt_of_lt_of_le (numN_wordH_lt _ _) (Nat.le_trans (Nat.pow_le_pow_right (by decide) (mem_15 ls h15 s hs)) (by decide))
end Go.Proofs.YtoaeffinjpkahaaDoor

/- Package merge: what the lengths cost is what the table finds; the reference's order. -/
import Derived.Test.YthobbdnmhldglaaMrgM
import Derived.Test.YthobbdnmhldglaaMrgPs
namespace Go.Proofs.Ythobbdnmhldglaa
open Go Go.RowKit Go.Shelf
set_option maxRecDepth 100000

theorem sortD_costs (c : List Nat) : sortD c c.length = (costsM c).reverse := by
  refine falls_eq _ _ (sortD_falls c c.length) ?_ ?_
  · rw [List.pairwise_reverse]
    exact costsM_sorted c
  · refine (sortD_perm c c.length).trans ?_
    refine List.Perm.trans ?_ (List.reverse_perm _).symm
    exact ((symsM_perm c).map (fun s => c.getD s 0)).symm
theorem costN_sumR (c l : List Nat) (k : Nat) : costN c l k = sumR (fun p => c.getD p 0 * l.getD p 0) k := by
  induction k with
  | zero => rfl
  | succ k ih => rw [costN, sumR, ih]
theorem sumR_range (g : Nat → Nat) (n : Nat) : sumR g n = ((List.range n).map g).sum := by
  induction n with
  | zero => rfl
  | succ n ih => rw [sumR, ih, List.range_succ, List.map_append, List.sum_append]; simp
theorem lens_cost (c : List Nat) (N : Nat) (hN1 : 1 ≤ N) (h2 : 2 ≤ (symsM c).length) (hn : (symsM c).length ≤ 2 ^ N) : costN c (lensM c N) c.length = optM (costsM c) N := by
  have hL : lensM c N = (spreadK (symsM c) (costsM c) N (List.replicate c.length 0) N).2 := if_neg (by omega)
  have hget := (spreadK_get (symsM c) (costsM c) N (List.replicate c.length 0) (costsM_length c) (fun s hs => by rw [List.length_replicate]; exact symsM_lt c s hs) (symsM_nodup c) N).1
  rw [costN_sumR, sumR_range, sum_filter _ (fun s => decide (0 < c.getD s 0)) _ (fun p _ hp => by
    have : ¬ 0 < c.getD p 0 := of_decide_eq_false hp
    rw [show c.getD p 0 = 0 by omega, Nat.zero_mul])]
  have hperm : (((List.range c.length).filter fun s => decide (0 < c.getD s 0)).map fun p => c.getD p 0 * (lensM c N).getD p 0).sum = ((symsM c).map fun p => c.getD p 0 * (lensM c N).getD p 0).sum :=
    (((symsM_perm c).map (fun p => c.getD p 0 * (lensM c N).getD p 0)).symm).sum_nat
  rw [hperm, sum_sumR, opt_all (symsM c) (costsM c) N (costsM_length c) hN1 hn, ← len_path (symsM c) (costsM c) N (costsM_length c) N]
  refine sumR_congr _ _ _ (fun i hi => ?_)
  have hg : (symsM c).getD i 0 = (symsM c)[i] := by simp [List.getD_eq_getElem?_getD, hi]
  have hc : (costsM c).getD i 0 = c.getD (symsM c)[i] 0 := by
    unfold costsM
    rw [List.getD_eq_getElem?_getD, List.getElem?_map, List.getElem?_eq_getElem hi]
    rfl
  rw [hg, hc, hL, hget i hi, rep_getD, Nat.zero_add]

theorem costN_take (c l : List Nat) (B : Nat) (hB : ∀ p, l.getD p 0 ≤ B) (k : Nat) : costN c l k ≤ B * (c.take k).sum := by
  induction k with
  | zero => simp [costN]
  | succ k ih =>
    have e : (c.take (k + 1)).sum = (c.take k).sum + c.getD k 0 := by
      rw [List.take_add_one, List.sum_append, List.getD_eq_getElem?_getD]
      cases c[k]? with
      | none => simp
      | some x => simp
    have := Nat.mul_le_mul_left (c.getD k 0) (hB k)
    rw [costN, e, Nat.mul_add, Nat.mul_comm B (c.getD k 0)]
    omega
theorem costN_small (c l : List Nat) (hB : ∀ p, l.getD p 0 ≤ 15) (hc : ∀ x ∈ c, x ≤ 1073741824) (h24 : c.length ≤ 24) (k : Nat) : costN c l k < 4611686018427387904 := by
  have h1 := costN_take c l 15 hB k
  have h2 := sum_le_mul (c.take k) 1073741824 (fun x hx => hc x (List.mem_of_mem_take hx))
  have h3 : (c.take k).length * 1073741824 ≤ 24 * 1073741824 := Nat.mul_le_mul_right _ (by rw [List.length_take]; omega)
  omega

theorem lenK_anti (ss CS : List Nat) (N i j : Nat) (h : i ≤ j) (k : Nat) : lenK ss CS N j k ≤ lenK ss CS N i k := by
  induction k with
  | zero => exact Nat.le_refl _
  | succ k ih =>
    rw [lenK, lenK]
    by_cases h1 : j < sK ss CS N k
    · rw [if_pos h1, if_pos (by omega)]; omega
    · rw [if_neg h1]; omega
theorem symsM_order (c : List Nat) : (symsM c).Pairwise fun x y => rarer c y x = false := by
  have h := List.pairwise_mergeSort (le := fun x y => !rarer c y x) (by
    intro x y z hxy hyz
    simp only [rarer, Bool.not_eq_true', decide_eq_false_iff_not] at hxy hyz ⊢
    omega) (by
    intro x y
    simp only [rarer, Bool.or_eq_true, Bool.not_eq_true', decide_eq_false_iff_not]
    omega) (comesL c c.length)
  refine h.imp fun hxy => ?_
  simpa using hxy
/-- More frequent symbols have no longer words. -/
theorem lens_order (c : List Nat) (N : Nat) (hn1 : (symsM c).length ≠ 1) (p p' : Nat) (hp : p ∈ symsM c) (hp' : p' ∈ symsM c) (h : c.getD p' 0 < c.getD p 0 ∨ (c.getD p' 0 = c.getD p 0 ∧ p < p')) : (lensM c N).getD p 0 ≤ (lensM c N).getD p' 0 := by
  have hL : lensM c N = (spreadK (symsM c) (costsM c) N (List.replicate c.length 0) N).2 := if_neg hn1
  have hget := (spreadK_get (symsM c) (costsM c) N (List.replicate c.length 0) (costsM_length c) (fun s hs => by rw [List.length_replicate]; exact symsM_lt c s hs) (symsM_nodup c) N).1
  obtain ⟨j, hj, rfl⟩ := List.getElem_of_mem hp
  obtain ⟨i, hi, rfl⟩ := List.getElem_of_mem hp'
  have hij : i ≤ j := by
    rcases Nat.lt_or_ge j i with h1 | h1
    · have := List.pairwise_iff_getElem.1 (symsM_order c) j i hj hi h1
      simp only [rarer, decide_eq_false_iff_not] at this
      omega
    · exact h1
  rw [hL, hget j hj, hget i hi, rep_getD, rep_getD]
  have := lenK_anti (symsM c) (costsM c) N i j hij N
  omega
end Go.Proofs.Ythobbdnmhldglaa

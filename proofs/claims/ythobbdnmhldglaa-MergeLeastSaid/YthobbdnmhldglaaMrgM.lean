/- Package merge: the lengths are those of a code that canon.New takes. -/
import Derived.Test.YthobbdnmhldglaaMrgL
import Derived.Test.YthobbdnmhldglaaCanI
namespace Go.Proofs.Ythobbdnmhldglaa
open Go Go.RowKit Go.Shelf

theorem sum_filter (g : Nat → Nat) (q : Nat → Bool) (l : List Nat) (h : ∀ p ∈ l, q p = false → g p = 0) : (l.map g).sum = ((l.filter q).map g).sum := by
  induction l with
  | nil => rfl
  | cons x l ih =>
    have h2 := ih (fun p hp => h p (List.mem_cons_of_mem _ hp))
    cases hq : q x with
    | true => rw [List.filter_cons_of_pos hq, List.map_cons, List.map_cons, List.sum_cons, List.sum_cons, h2]
    | false =>
      rw [List.filter_cons_of_neg (by simp [hq]), List.map_cons, List.sum_cons, h2, h x List.mem_cons_self hq, Nat.zero_add]
theorem map_range_getD (f : Nat → Nat) (L : List Nat) : L.map f = (List.range L.length).map fun p => f (L.getD p 0) := by
  apply List.ext_getElem
  · simp
  · intro i h1 h2
    simp at h1
    simp [List.getD_eq_getElem?_getD, h1]
/-- A sum over all lengths is one over the symbols that come. -/
theorem sum_syms (f : Nat → Nat) (hf : f 0 = 0) (c L : List Nat) (hL : L.length = c.length) (h0 : ∀ p, p ∉ symsM c → L.getD p 0 = 0) : (L.map f).sum = ((symsM c).map fun s => f (L.getD s 0)).sum := by
  rw [map_range_getD, hL, sum_filter _ (fun s => decide (0 < c.getD s 0)) _ (fun p hp hq => by
    rw [h0 p (fun hm => by
      have := ((symsM_mem c p).1 hm).2
      simp only [decide_eq_false_iff_not] at hq
      exact hq this), hf])]
  exact ((symsM_perm c).map _).sum_nat.symm
theorem sum_take_sumR (g : Nat → Nat) (l : List Nat) (k : Nat) (hk : k ≤ l.length) : ((l.take k).map g).sum = sumR (fun i => g (l.getD i 0)) k := by
  induction k with
  | zero => rfl
  | succ k ih =>
    rw [List.take_succ_eq_append_getElem (by omega), List.map_append, List.sum_append, ih (by omega), sumR]
    simp [List.getD_eq_getElem?_getD, show k < l.length by omega]
theorem sum_sumR (g : Nat → Nat) (l : List Nat) : (l.map g).sum = sumR (fun i => g (l.getD i 0)) l.length := by
  have := sum_take_sumR g l l.length (Nat.le_refl _)
  rwa [List.take_length] at this
theorem sumR_congr (f g : Nat → Nat) (n : Nat) (h : ∀ i, i < n → f i = g i) : sumR f n = sumR g n := by
  induction n with
  | zero => rfl
  | succ n ih => simp only [sumR]; rw [ih (fun i hi => h i (by omega)), h n (by omega)]
theorem sumR_mul (a : Nat) (f : Nat → Nat) (n : Nat) : sumR (fun i => a * f i) n = a * sumR f n := by
  induction n with
  | zero => rfl
  | succ n ih => simp only [sumR]; rw [ih, Nat.mul_add]

theorem rep_getD (n p : Nat) : (List.replicate n 0).getD p 0 = 0 := by
  simp [List.getD_eq_getElem?_getD, List.getElem?_replicate]
  split <;> rfl

/-- What the lengths are. -/
theorem lensM_facts (c : List Nat) (N : Nat) (hN1 : 1 ≤ N) (hN2 : N ≤ 15) (hn : (symsM c).length ≤ 2 ^ N) :
    (∀ p, p ∉ symsM c → (lensM c N).getD p 0 = 0) ∧ (∀ p, p ∈ symsM c → 1 ≤ (lensM c N).getD p 0 ∧ (lensM c N).getD p 0 ≤ N) ∧
    kraftN (lensM c N) = (if (symsM c).length = 0 then 0 else if (symsM c).length = 1 then 16384 else 32768) ∧ ((symsM c).length = 1 → cntN (lensM c N) 1 = 1) := by
  have hzero : ∀ p, p ∉ symsM c → (lensM c N).getD p 0 = 0 := by
    intro p hp
    unfold lensM
    split
    · rename_i h1
      obtain ⟨sy, hsy⟩ := List.length_eq_one_iff.1 h1
      rw [hsy] at hp ⊢
      have hne : sy ≠ p := fun e => hp (by rw [e]; simp)
      simp only [List.getD_eq_getElem?_getD]
      rw [List.getElem?_set]
      simp [hne, List.getElem?_replicate]
      split <;> rfl
    · have h := (spreadK_get (symsM c) (costsM c) N (List.replicate c.length 0) (costsM_length c) (fun s hs => by rw [List.length_replicate]; exact symsM_lt c s hs) (symsM_nodup c) N).2 p hp
      rw [h, rep_getD]
  have hkr : kraftN (lensM c N) = ((symsM c).map fun s => shareN ((lensM c N).getD s 0)).sum := sum_syms shareN rfl c (lensM c N) (lensM_length c N) hzero
  refine ⟨hzero, ?_, ?_, ?_⟩
  · intro p hp
    obtain ⟨i, hi, rfl⟩ := List.getElem_of_mem hp
    unfold lensM
    split
    · rename_i h1
      have hlt := symsM_lt c _ hp
      obtain ⟨sy, hsy⟩ := List.length_eq_one_iff.1 h1
      have h2 : (symsM c)[i] = (symsM c).getD 0 0 := by
        have hi0 : i = 0 := by omega
        subst hi0
        simp [List.getD_eq_getElem?_getD, hi]
      rw [h2] at hlt ⊢
      simp only [List.getD_eq_getElem?_getD] at hlt ⊢
      rw [List.getElem?_set]
      simp [hlt]
      omega
    · rename_i h1
      have h := (spreadK_get (symsM c) (costsM c) N (List.replicate c.length 0) (costsM_length c) (fun s hs => by rw [List.length_replicate]; exact symsM_lt c s hs) (symsM_nodup c) N).1 i hi
      rw [h, rep_getD, Nat.zero_add]
      exact ⟨lenK_pos (symsM c) (costsM c) N (costsM_length c) (costsM_sorted c) (by omega) hN1 hn i hi, lenK_le _ _ _ _ _⟩
  · rw [hkr]
    split
    · rename_i h0
      rw [List.eq_nil_of_length_eq_zero h0]
      rfl
    · split
      · rename_i h1
        have hL : lensM c N = (List.replicate c.length 0).set ((symsM c).getD 0 0) 1 := if_pos h1
        obtain ⟨sy, hsy⟩ := List.length_eq_one_iff.1 h1
        have hlt := symsM_lt c sy (by rw [hsy]; simp)
        rw [hL, hsy]
        simp [List.getD_eq_getElem?_getD, List.getElem?_set, hlt, shareN]
      · rename_i h0 h1
        have hL : lensM c N = (spreadK (symsM c) (costsM c) N (List.replicate c.length 0) N).2 := if_neg h1
        rw [sum_sumR, sumR_congr _ (fun i => 2 ^ (15 - N) * 2 ^ (N - lenK (symsM c) (costsM c) N i N)) _ (fun i hi => ?_), sumR_mul, kraft_N (symsM c) (costsM c) N (costsM_length c) (costsM_sorted c) (by omega) hN1 hn, ← Nat.pow_add, show 15 - N + N = 15 by omega]
        have h := (spreadK_get (symsM c) (costsM c) N (List.replicate c.length 0) (costsM_length c) (fun s hs => by rw [List.length_replicate]; exact symsM_lt c s hs) (symsM_nodup c) N).1 i hi
        have hg : (symsM c).getD i 0 = (symsM c)[i] := by simp [List.getD_eq_getElem?_getD, hi]
        rw [hL, hg, h, rep_getD, Nat.zero_add]
        have h3 := lenK_pos (symsM c) (costsM c) N (costsM_length c) (costsM_sorted c) (by omega) hN1 hn i hi
        have h4 := lenK_le (symsM c) (costsM c) N i N
        unfold shareN
        rw [if_neg (by omega), ← Nat.pow_add]
        congr 1
        omega
  · intro h1
    have hL : lensM c N = (List.replicate c.length 0).set ((symsM c).getD 0 0) 1 := if_pos h1
    obtain ⟨sy, hsy⟩ := List.length_eq_one_iff.1 h1
    have hlt := symsM_lt c sy (by rw [hsy]; simp)
    rw [hL, hsy]
    unfold cntN
    rw [if_neg (by decide)]
    simp only [List.getD_eq_getElem?_getD, List.getElem?_cons_zero, Option.getD_some]
    rw [List.count_set (by rw [List.length_replicate]; exact hlt)]
    simp [List.count_replicate]

/-- A code of these lengths is one. -/
theorem lensM_code (c : List Nat) (N : Nat) (hN1 : 1 ≤ N) (hN2 : N ≤ 15) (hn : (symsM c).length ≤ 2 ^ N) (h288 : c.length ≤ 288) : whyN ((lensM c N).map Int.ofNat) (decide ((symsM c).length < 2)) = 0 := by
  obtain ⟨h1, h2, h3, h4⟩ := lensM_facts c N hN1 hN2 hn
  have hle : ∀ x ∈ lensM c N, x ≤ 15 := by
    intro x hx
    obtain ⟨p, hp, rfl⟩ := List.getElem_of_mem hx
    have e : (lensM c N).getD p 0 = (lensM c N)[p] := by simp [List.getD_eq_getElem?_getD, hp]
    rw [← e]
    by_cases hm : p ∈ symsM c
    · have := h2 p hm; omega
    · rw [h1 p hm]; omega
  have hm : ((lensM c N).map Int.ofNat).map Int.toNat = lensM c N := by
    rw [List.map_map]
    conv => rhs; rw [← List.map_id (lensM c N)]
    exact List.map_congr_left fun x _ => rfl
  have hb : ¬ (((lensM c N).map Int.ofNat).any badLen = true ∨ 288 < ((lensM c N).map Int.ofNat).length) := by
    intro h
    rcases h with h | h
    · obtain ⟨x, hx, hxb⟩ := List.any_eq_true.1 h
      obtain ⟨y, hy, rfl⟩ := List.mem_map.1 hx
      have := hle y hy
      unfold badLen at hxb
      simp at hxb
      omega
    · rw [List.length_map, lensM_length] at h
      omega
  unfold whyN
  rw [if_neg hb, hm, h3]
  by_cases e0 : (symsM c).length = 0
  · rw [if_pos e0, if_neg (by omega), if_neg (fun h => h.2 ⟨decide_eq_true (by omega), .inl rfl⟩)]
  · rw [if_neg e0]
    by_cases e1 : (symsM c).length = 1
    · rw [if_pos e1, if_neg (by omega), if_neg (fun h => h.2 ⟨decide_eq_true (by omega), .inr ⟨rfl, h4 e1⟩⟩)]
    · rw [if_neg e1, if_neg (by omega), if_neg (fun h => absurd h.1 (by omega))]
end Go.Proofs.Ythobbdnmhldglaa

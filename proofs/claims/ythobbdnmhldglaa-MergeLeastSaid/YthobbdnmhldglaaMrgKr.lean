/- Package merge, as plain lists: which things are taken from the last list on, and that the lengths that they make are a whole code. No program is named here. -/
import Derived.Test.YthobbdnmhldglaaMrgNum
namespace Go.Proofs.Ythobbdnmhldglaa

def incAt (ls : List Nat) (s : Nat) : List Nat := ls.set s (ls.getD s 0 + 1)
/-- Each thing that is no pair makes the next symbol's length greater by one. -/
def stepL (ss : List Nat) : List Thing → Nat → List Nat → List Nat
  | [], _, ls => ls
  | x :: xs, sg, ls => if x.2 then stepL ss xs sg ls else stepL ss xs (sg + 1) (incAt ls (ss.getD sg 0))
/-- Behind k lists, from the last one: how many things are taken, and the lengths. -/
def spreadK (ss CS : List Nat) (N : Nat) (ls : List Nat) : Nat → Nat × List Nat
  | 0 => (2 * ss.length - 2, ls)
  | k + 1 => (2 * pairsM ((levelM CS (N - k)).take (spreadK ss CS N ls k).1), stepL ss ((levelM CS (N - k)).take (spreadK ss CS N ls k).1) 0 (spreadK ss CS N ls k).2)

theorem stepL_snoc (ss : List Nat) (xs : List Thing) (x : Thing) (sg : Nat) (ls : List Nat) :
    stepL ss (xs ++ [x]) sg ls = if x.2 then stepL ss xs sg ls else incAt (stepL ss xs sg ls) (ss.getD (sg + singlesM xs) 0) := by
  induction xs generalizing sg ls with
  | nil => simp [stepL, singlesM]
  | cons y xs ih =>
    rw [List.cons_append, stepL, stepL]
    by_cases hy : y.2 = true
    · rw [if_pos hy, if_pos hy, ih]
      have : singlesM (y :: xs) = singlesM xs := by simp [singlesM, hy]
      rw [this]
    · rw [if_neg hy, if_neg hy, ih]
      have : singlesM (y :: xs) = singlesM xs + 1 := by simp [singlesM, hy]
      rw [this, show sg + (singlesM xs + 1) = sg + 1 + singlesM xs by omega]
theorem incAt_length (ls : List Nat) (s : Nat) : (incAt ls s).length = ls.length := by simp [incAt]
theorem stepL_length (ss : List Nat) (xs : List Thing) (sg : Nat) (ls : List Nat) : (stepL ss xs sg ls).length = ls.length := by
  induction xs generalizing sg ls with
  | nil => rfl
  | cons x xs ih =>
    rw [stepL]
    split
    · exact ih _ _
    · rw [ih, incAt_length]
theorem spreadK_length (ss CS : List Nat) (N : Nat) (ls : List Nat) (k : Nat) : (spreadK ss CS N ls k).2.length = ls.length := by
  induction k with
  | zero => rfl
  | succ k ih => rw [spreadK]; simp only; rw [stepL_length, ih]

theorem pairs_take (l : List Thing) (t : Nat) : pairsM (l.take t) ≤ pairsM l := (List.take_sublist t l).countP_le
theorem singles_take (l : List Thing) (t : Nat) : singlesM (l.take t) ≤ singlesM l := (List.take_sublist t l).countP_le

/-- There are always things enough. -/
theorem spreadK_taken (ss CS : List Nat) (N : Nat) (ls : List Nat) (hl : CS.length = ss.length) (hN : 1 ≤ N) (hn : ss.length ≤ 2 ^ N) (k : Nat) (hk : k < N) : (spreadK ss CS N ls k).1 ≤ (levelM CS (N - k)).length := by
  cases k with
  | zero =>
    have := levelM_enough CS (N - 1) (by rw [hl, show N - 1 + 1 = N by omega]; exact hn)
    rw [show N - 1 + 1 = N by omega] at this
    show 2 * ss.length - 2 ≤ _
    rw [Nat.sub_zero]
    omega
  | succ k =>
    rw [spreadK]
    have h1 := pairs_take (levelM CS (N - k)) (spreadK ss CS N ls k).1
    have h2 := (mergeL_pairs CS (levelM CS (N - (k + 1)))).1
    rw [show mergeL CS (levelM CS (N - (k + 1))) = levelM CS (N - (k + 1) + 1) from rfl, show N - (k + 1) + 1 = N - k by omega] at h2
    simp only
    omega

/-- What two things of the list ahead cost. -/
def costP (R : List Thing) (j : Nat) : Nat := (R.getD (2 * j) (0, false)).1 + (R.getD (2 * j + 1) (0, false)).1

theorem takeW_costs (c : Nat) (R : List Thing) : (takeW c R).2 = R.drop (2 * (takeW c R).1.length) ∧ ∀ j, j < (takeW c R).1.length → costP R j < c := by
  induction R using by_two with
  | h0 => simp [takeW]
  | h1 x => simp [takeW]
  | h2 x y R ih =>
    by_cases h : x.1 + y.1 < c
    · rw [takeW_lt c x y R h]
      obtain ⟨h1, h2⟩ := ih
      refine ⟨?_, ?_⟩
      · simp only [List.length_cons]
        rw [show 2 * ((takeW c R).1.length + 1) = 2 * (takeW c R).1.length + 1 + 1 by omega]
        simpa using h1
      · intro j hj
        cases j with
        | zero => simpa [costP] using h
        | succ j =>
          have := h2 j (by simpa using hj)
          unfold costP at this ⊢
          rw [show 2 * (j + 1) = 2 * j + 1 + 1 by omega, show 2 * j + 1 + 1 + 1 = (2 * j + 1) + 1 + 1 by omega]
          simpa using this
    · rw [takeW_ge c x y R h]; simp
theorem costP_drop (R : List Thing) (m j : Nat) : costP (R.drop (2 * m)) j = costP R (m + j) := by
  unfold costP
  simp only [List.getD_eq_getElem?_getD, List.getElem?_drop]
  rw [show 2 * m + 2 * j = 2 * (m + j) by omega, show 2 * m + (2 * j + 1) = 2 * (m + j) + 1 by omega]

theorem pairsM_append (a b : List Thing) : pairsM (a ++ b) = pairsM a + pairsM b := by simp [pairsM]
theorem singlesM_append (a b : List Thing) : singlesM (a ++ b) = singlesM a + singlesM b := by simp [singlesM]
theorem singlesM_none (c : Nat) (R : List Thing) (t : Nat) : singlesM ((takeW c R).1.take t) = 0 := by
  have h1 := (takeW_pairs c R).1
  have h2 := pairs_singles (takeW c R).1
  have h3 := singles_take (takeW c R).1 t
  omega
/-- The first things of one level's list. -/
theorem level_take (c : Nat) (cs : List Nat) (R : List Thing) (t : Nat) :
    (t ≤ (takeW c R).1.length ∧ (mergeL (c :: cs) R).take t = (takeW c R).1.take t) ∨
    (∃ t', t = (takeW c R).1.length + 1 + t' ∧ (mergeL (c :: cs) R).take t = (takeW c R).1 ++ (c, false) :: (mergeL cs (takeW c R).2).take t') := by
  rw [mergeL]
  rcases Nat.lt_or_ge (takeW c R).1.length t with h | h
  · right
    refine ⟨t - (takeW c R).1.length - 1, by omega, ?_⟩
    rw [List.take_append, List.take_of_length_le (by omega), show t - (takeW c R).1.length = (t - (takeW c R).1.length - 1) + 1 by omega, List.take_succ_cons]
    simp
  · left
    refine ⟨h, ?_⟩
    rw [List.take_append_of_le_length h]

/-- A symbol that costs no more than a pair that is taken is taken. -/
theorem taken_before : ∀ (cs : List Nat), cs.Pairwise (· ≤ ·) → ∀ (R : List Thing) (t i j : Nat) (hi : i < cs.length), j < pairsM ((mergeL cs R).take t) → cs[i] ≤ costP R j → i < singlesM ((mergeL cs R).take t)
  | [], _, _, _, i, _, hi, _, _ => absurd hi (Nat.not_lt_zero i)
  | c :: cs, hs, R, t, i, j, hi, hj, hc => by
    obtain ⟨hc1, hcs⟩ := List.pairwise_cons.1 hs
    obtain ⟨hW2, hWc⟩ := takeW_costs c R
    have hci : c ≤ (c :: cs)[i] := by
      cases i with
      | zero => exact Nat.le_refl _
      | succ i => exact hc1 _ (List.getElem_mem (by simpa using hi))
    rcases level_take c cs R t with ⟨ht, e⟩ | ⟨t', ht, e⟩
    · rw [e] at hj
      have h1 := (List.take_sublist t (takeW c R).1).countP_le (p := fun x : Thing => x.2)
      have h2 := (takeW_pairs c R).1
      have h3 : pairsM ((takeW c R).1.take t) ≤ pairsM (takeW c R).1 := h1
      have := hWc j (by omega)
      omega
    · rw [e] at hj ⊢
      have h2 := (takeW_pairs c R).1
      have h4 := pairs_singles (takeW c R).1
      have e1 : pairsM ((takeW c R).1 ++ (c, false) :: (mergeL cs (takeW c R).2).take t') = (takeW c R).1.length + pairsM ((mergeL cs (takeW c R).2).take t') := by
        rw [pairsM_append, h2]; simp [pairsM]
      have e2 : singlesM ((takeW c R).1 ++ (c, false) :: (mergeL cs (takeW c R).2).take t') = 1 + singlesM ((mergeL cs (takeW c R).2).take t') := by
        rw [singlesM_append, show singlesM (takeW c R).1 = 0 by omega]
        simp [singlesM]; omega
      rw [e1] at hj
      rw [e2]
      cases i with
      | zero => omega
      | succ i =>
        have hjW : (takeW c R).1.length ≤ j := by
          rcases Nat.lt_or_ge j (takeW c R).1.length with h | h
          · have := hWc j h; omega
          · exact h
        have := taken_before cs hcs (takeW c R).2 t' i (j - (takeW c R).1.length) (by simpa using hi) (by omega) (by
          rw [hW2, costP_drop, show (takeW c R).1.length + (j - (takeW c R).1.length) = j by omega]
          simpa using hc)
        omega

/-- Where a symbol stands that is taken. -/
theorem single_at : ∀ (cs : List Nat) (R : List Thing) (m i : Nat) (hi : i < cs.length), i < singlesM ((mergeL cs R).take m) → ∃ q, q < m ∧ ((mergeL cs R).getD q (0, false)).1 = cs[i]
  | [], _, _, i, hi, _ => absurd hi (Nat.not_lt_zero i)
  | c :: cs, R, m, i, hi, hm => by
    rcases level_take c cs R m with ⟨ht, e⟩ | ⟨t', ht, e⟩
    · rw [e, singlesM_none] at hm
      omega
    · have h2 := (takeW_pairs c R).1
      have h4 := pairs_singles (takeW c R).1
      have e2 : singlesM ((takeW c R).1 ++ (c, false) :: (mergeL cs (takeW c R).2).take t') = 1 + singlesM ((mergeL cs (takeW c R).2).take t') := by
        rw [singlesM_append, show singlesM (takeW c R).1 = 0 by omega]
        simp [singlesM]; omega
      rw [e, e2] at hm
      cases i with
      | zero =>
        refine ⟨(takeW c R).1.length, by omega, ?_⟩
        rw [mergeL]
        simp [List.getD_eq_getElem?_getD]
      | succ i =>
        obtain ⟨q, hq, hv⟩ := single_at cs (takeW c R).2 t' i (by simpa using hi) (by omega)
        refine ⟨(takeW c R).1.length + 1 + q, by omega, ?_⟩
        rw [mergeL]
        simp only [List.getD_eq_getElem?_getD] at hv ⊢
        rw [List.getElem?_append_right (by omega), show (takeW c R).1.length + 1 + q - (takeW c R).1.length = q + 1 by omega, List.getElem?_cons_succ]
        simpa using hv

theorem pair_of (R : List Thing) (q : Nat) : (R.getD q (0, false)).1 ≤ costP R (q / 2) := by
  unfold costP
  rcases Nat.mod_two_eq_zero_or_one q with h | h
  · rw [show 2 * (q / 2) = q by omega]; omega
  · rw [show 2 * (q / 2) + 1 = q by omega]; omega

/-- Of the list ahead no more symbols are taken. -/
theorem singles_mono (cs : List Nat) (hs : cs.Pairwise (· ≤ ·)) (d t : Nat) : singlesM ((levelM cs d).take (2 * pairsM ((levelM cs (d + 1)).take t))) ≤ singlesM ((levelM cs (d + 1)).take t) := by
  rcases Nat.lt_or_ge (singlesM ((levelM cs (d + 1)).take t)) (singlesM ((levelM cs d).take (2 * pairsM ((levelM cs (d + 1)).take t)))) with h | h
  · exfalso
    cases d with
    | zero => simp [levelM, singlesM] at h
    | succ d =>
      have h1 := singles_take (levelM cs (d + 1)) (2 * pairsM ((levelM cs (d + 1 + 1)).take t))
      have h2 : singlesM (levelM cs (d + 1)) = cs.length := mergeL_singles cs (levelM cs d)
      obtain ⟨q, hq, hv⟩ := single_at cs (levelM cs d) (2 * pairsM ((levelM cs (d + 1 + 1)).take t)) (singlesM ((levelM cs (d + 1 + 1)).take t)) (by omega) h
      have h3 := taken_before cs hs (levelM cs (d + 1)) t (singlesM ((levelM cs (d + 1 + 1)).take t)) (q / 2) (by omega) (by show q / 2 < pairsM ((levelM cs (d + 1 + 1)).take t); omega) (by rw [← hv]; exact pair_of _ q)
      exact Nat.lt_irrefl _ h3
  · exact h

theorem levelM_most (cs : List Nat) (h : 1 ≤ cs.length) (d : Nat) : (levelM cs d).length ≤ 2 * cs.length - 1 := by
  induction d with
  | zero => exact Nat.zero_le _
  | succ d ih => rw [levelM, (mergeL_pairs cs _).2]; omega

/-- All symbols are among the first 2n - 2 things. -/
theorem all_taken (cs : List Nat) (hs : cs.Pairwise (· ≤ ·)) (h2 : 2 ≤ cs.length) (d : Nat) (hd : 2 * cs.length - 2 ≤ (levelM cs d).length) : singlesM ((levelM cs d).take (2 * cs.length - 2)) = cs.length := by
  induction d with
  | zero => simp [levelM] at hd; omega
  | succ d ih =>
    have hm := levelM_most cs (by omega) d
    have hp := (mergeL_pairs cs (levelM cs d)).1
    have hsg := mergeL_singles cs (levelM cs d)
    have ht := pairs_singles ((levelM cs (d + 1)).take (2 * cs.length - 2))
    rw [List.length_take, Nat.min_eq_left hd] at ht
    have hp2 := pairs_take (levelM cs (d + 1)) (2 * cs.length - 2)
    have hs2 := singles_take (levelM cs (d + 1)) (2 * cs.length - 2)
    have e1 : levelM cs (d + 1) = mergeL cs (levelM cs d) := rfl
    rw [e1] at hp2 hs2 ht ⊢
    rcases Nat.lt_or_ge (singlesM ((mergeL cs (levelM cs d)).take (2 * cs.length - 2))) cs.length with h | h
    · exfalso
      have hih := ih (by omega)
      cases d with
      | zero => simp [levelM, singlesM] at hih; omega
      | succ d =>
        obtain ⟨q, hq, hv⟩ := single_at cs (levelM cs d) (2 * cs.length - 2) (cs.length - 1) (by omega) (by
          show cs.length - 1 < singlesM ((levelM cs (d + 1)).take (2 * cs.length - 2)); omega)
        have h3 := taken_before cs hs (levelM cs (d + 1)) (2 * cs.length - 2) (cs.length - 1) (q / 2) (by omega) (by omega) (by rw [← hv]; exact pair_of _ q)
        omega
    · omega

/-- How many symbols are taken of the k-th list from the last one on. -/
def sK (ss CS : List Nat) (N k : Nat) : Nat := singlesM ((levelM CS (N - k)).take (spreadK ss CS N [] k).1)
theorem spreadK_fst (ss CS : List Nat) (N : Nat) (ls : List Nat) (k : Nat) : (spreadK ss CS N ls k).1 = (spreadK ss CS N [] k).1 := by
  induction k with
  | zero => rfl
  | succ k ih => rw [spreadK, spreadK]; simp only; rw [ih]
theorem sK_zero (ss CS : List Nat) (N : Nat) (hl : CS.length = ss.length) (hs : CS.Pairwise (· ≤ ·)) (h2 : 2 ≤ ss.length) (hN : 1 ≤ N) (hn : ss.length ≤ 2 ^ N) : sK ss CS N 0 = ss.length := by
  have h := spreadK_taken ss CS N [] hl hN hn 0 (by omega)
  unfold sK
  rw [Nat.sub_zero] at h ⊢
  have e : (spreadK ss CS N [] 0).1 = 2 * CS.length - 2 := by rw [hl]; rfl
  rw [e] at h ⊢
  rw [all_taken CS hs (by omega) N h, hl]
theorem sK_mono (ss CS : List Nat) (N : Nat) (hs : CS.Pairwise (· ≤ ·)) (k : Nat) (hk : k + 1 < N) : sK ss CS N (k + 1) ≤ sK ss CS N k := by
  have := singles_mono CS hs (N - (k + 1)) (spreadK ss CS N [] k).1
  unfold sK
  rw [spreadK]
  simp only
  rw [show N - (k + 1) + 1 = N - k by omega] at this
  exact this
theorem sK_le (ss CS : List Nat) (N k : Nat) (hl : CS.length = ss.length) : sK ss CS N k ≤ ss.length := by
  have h1 := singles_take (levelM CS (N - k)) (spreadK ss CS N [] k).1
  unfold sK
  have h2 : singlesM (levelM CS (N - k)) ≤ CS.length := by
    cases N - k with
    | zero => simp [levelM, singlesM]
    | succ d => exact Nat.le_of_eq (mergeL_singles CS (levelM CS d))
  omega
theorem sK_down (ss CS : List Nat) (N : Nat) (hs : CS.Pairwise (· ≤ ·)) (j k : Nat) (hjk : j ≤ k) (hk : k < N) : sK ss CS N k ≤ sK ss CS N j := by
  induction k with
  | zero =>
    obtain rfl : j = 0 := by omega
    exact Nat.le_refl _
  | succ k ih =>
    rcases Nat.lt_or_ge j (k + 1) with h | h
    · exact Nat.le_trans (sK_mono ss CS N hs k hk) (ih (by omega) (by omega))
    · obtain rfl : j = k + 1 := by omega
      exact Nat.le_refl _

/-- In how many of the first k lists the i-th symbol is taken. -/
def lenK (ss CS : List Nat) (N : Nat) (i : Nat) : Nat → Nat
  | 0 => 0
  | k + 1 => lenK ss CS N i k + if i < sK ss CS N k then 1 else 0
theorem lenK_le (ss CS : List Nat) (N i k : Nat) : lenK ss CS N i k ≤ k := by
  induction k with
  | zero => exact Nat.le_refl _
  | succ k ih => rw [lenK]; split <;> omega
theorem lenK_all (ss CS : List Nat) (N : Nat) (hs : CS.Pairwise (· ≤ ·)) (i k : Nat) (hk : k < N) (h : i < sK ss CS N k) : lenK ss CS N i k = k := by
  have all : ∀ m, m ≤ k → lenK ss CS N i m = m := by
    intro m
    induction m with
    | zero => intro _; rfl
    | succ m ih =>
      intro hm
      have := sK_down ss CS N hs m k (by omega) hk
      rw [lenK, ih (by omega), if_pos (by omega)]
  exact all k (Nat.le_refl _)

theorem getD_incAt (ls : List Nat) (s p : Nat) (h : s < ls.length) : (incAt ls s).getD p 0 = ls.getD p 0 + if s = p then 1 else 0 := by
  unfold incAt
  simp only [List.getD_eq_getElem?_getD, List.getElem?_set]
  by_cases e : s = p
  · subst e; simp [h]
  · simp [e]
theorem stepL_get (ss : List Nat) (xs : List Thing) : ∀ (sg : Nat) (ls : List Nat), (∀ s ∈ ss, s < ls.length) → sg + singlesM xs ≤ ss.length → ∀ p, (stepL ss xs sg ls).getD p 0 = ls.getD p 0 + ((ss.drop sg).take (singlesM xs)).count p := by
  induction xs with
  | nil => intro sg ls _ _ p; simp [stepL, singlesM]
  | cons x xs ih =>
    intro sg ls hlt h p
    rw [stepL]
    by_cases hx : x.2 = true
    · have e : singlesM (x :: xs) = singlesM xs := by simp [singlesM, hx]
      rw [if_pos hx, e]
      rw [e] at h
      exact ih sg ls hlt h p
    · have e : singlesM (x :: xs) = singlesM xs + 1 := by simp [singlesM, hx]
      rw [e] at h
      have hsg : sg < ss.length := by omega
      rw [if_neg hx, e, ih (sg + 1) _ (fun s hs => by rw [incAt_length]; exact hlt s hs) (by omega) p]
      have hg : ss.getD sg 0 = ss[sg] := by simp [List.getD, hsg]
      rw [hg, getD_incAt ls _ p (hlt _ (List.getElem_mem hsg)), List.drop_eq_getElem_cons hsg, List.take_succ_cons, List.count_cons]
      by_cases e2 : ss[sg] = p
      · rw [if_pos e2, if_pos (by simpa using e2)]; omega
      · rw [if_neg e2, if_neg (by simpa using e2)]; omega

/-- The lengths behind k lists. -/
theorem spreadK_get (ss CS : List Nat) (N : Nat) (ls : List Nat) (hl : CS.length = ss.length) (hlt : ∀ s ∈ ss, s < ls.length) (hnd : ss.Nodup) (k : Nat) :
    (∀ i (hi : i < ss.length), (spreadK ss CS N ls k).2.getD ss[i] 0 = ls.getD ss[i] 0 + lenK ss CS N i k) ∧ (∀ p, p ∉ ss → (spreadK ss CS N ls k).2.getD p 0 = ls.getD p 0) := by
  induction k with
  | zero => exact ⟨fun i hi => rfl, fun p _ => rfl⟩
  | succ k ih =>
    have hfst := spreadK_fst ss CS N ls k
    have hsk : singlesM ((levelM CS (N - k)).take (spreadK ss CS N ls k).1) = sK ss CS N k := by rw [hfst]; rfl
    have hle := sK_le ss CS N k hl
    have hlt2 : ∀ s ∈ ss, s < (spreadK ss CS N ls k).2.length := fun s hs => by rw [spreadK_length]; exact hlt s hs
    refine ⟨fun i hi => ?_, fun p hp => ?_⟩
    · rw [spreadK]
      simp only
      rw [stepL_get ss _ 0 _ hlt2 (by rw [hsk]; omega), hsk, ih.1 i hi, lenK, List.drop_zero, Nat.add_assoc]
      congr 2
      rcases Nat.lt_or_ge i (sK ss CS N k) with h | h
      · rw [if_pos h]
        have hm : ss[i] ∈ ss.take (sK ss CS N k) := List.mem_take_iff_getElem.2 ⟨i, by omega, rfl⟩
        exact (List.Nodup.sublist (List.take_sublist _ _) hnd).count.trans (if_pos hm)
      · rw [if_neg (by omega)]
        refine List.count_eq_zero.2 fun hm => ?_
        obtain ⟨j, hj, e⟩ := List.mem_take_iff_getElem.1 hm
        have := (List.getElem_inj hnd).1 e
        omega
    · rw [spreadK]
      simp only
      rw [stepL_get ss _ 0 _ hlt2 (by rw [hsk]; omega), ih.2 p hp, List.drop_zero]
      rw [List.count_eq_zero.2 (fun hm => hp (List.mem_of_mem_take hm))]
      omega

def sumR (f : Nat → Nat) : Nat → Nat
  | 0 => 0
  | n + 1 => sumR f n + f n
theorem sumR_two (f g h : Nat → Nat) (n : Nat) (e : ∀ i, i < n → f i + g i = 2 * h i) : sumR f n + sumR g n = 2 * sumR h n := by
  induction n with
  | zero => rfl
  | succ n ih =>
    have h1 := e n (by omega)
    have h2 := ih (fun i hi => e i (by omega))
    simp only [sumR]
    omega
theorem sumR_below (s n : Nat) : sumR (fun i => if i < s then 1 else 0) n = min s n := by
  induction n with
  | zero => simp [sumR]
  | succ n ih => simp only [sumR]; rw [ih]; split <;> omega
theorem sumR_one (n : Nat) : sumR (fun _ => 1) n = n := by
  induction n with
  | zero => rfl
  | succ n ih => simp only [sumR]; omega

/-- Kraft's sum behind k lists. -/
theorem kraft_k (ss CS : List Nat) (N : Nat) (hl : CS.length = ss.length) (hs : CS.Pairwise (· ≤ ·)) (h2 : 2 ≤ ss.length) (hN : 1 ≤ N) (hn : ss.length ≤ 2 ^ N) (k : Nat) (hk : k ≤ N) :
    2 * sumR (fun i => 2 ^ (k - lenK ss CS N i k)) ss.length = 2 ^ (k + 1) + (spreadK ss CS N [] k).1 := by
  induction k with
  | zero =>
    have e : (fun i => 2 ^ (0 - lenK ss CS N i 0)) = fun _ => 1 := by funext i; simp
    rw [e, sumR_one]
    show 2 * ss.length = 2 ^ 1 + (2 * ss.length - 2)
    omega
  | succ k ih =>
    have h := ih (by omega)
    have hsl := sK_le ss CS N k hl
    have hst := sumR_two (fun i => 2 ^ (k + 1 - lenK ss CS N i (k + 1))) (fun i => if i < sK ss CS N k then 1 else 0) (fun i => 2 ^ (k - lenK ss CS N i k)) ss.length (by
      intro i _
      rw [lenK]
      by_cases hi : i < sK ss CS N k
      · rw [if_pos hi, lenK_all ss CS N hs i k (by omega) hi]
        simp
      · rw [if_neg hi]
        have := lenK_le ss CS N i k
        have e2 : k + 1 - (lenK ss CS N i k + 0) = (k - lenK ss CS N i k) + 1 := by omega
        rw [e2, Nat.pow_succ]
        omega)
    rw [sumR_below, Nat.min_eq_left hsl] at hst
    have ht : (spreadK ss CS N [] (k + 1)).1 = 2 * pairsM ((levelM CS (N - k)).take (spreadK ss CS N [] k).1) := rfl
    have hps := pairs_singles ((levelM CS (N - k)).take (spreadK ss CS N [] k).1)
    rw [List.length_take, Nat.min_eq_left (spreadK_taken ss CS N [] hl hN hn k (by omega))] at hps
    have hsk : singlesM ((levelM CS (N - k)).take (spreadK ss CS N [] k).1) = sK ss CS N k := rfl
    rw [hsk] at hps
    rw [ht]
    have e1 : 2 ^ (k + 1 + 1) = 2 * 2 ^ (k + 1) := by rw [Nat.pow_succ]; omega
    omega
theorem kraft_N (ss CS : List Nat) (N : Nat) (hl : CS.length = ss.length) (hs : CS.Pairwise (· ≤ ·)) (h2 : 2 ≤ ss.length) (hN : 1 ≤ N) (hn : ss.length ≤ 2 ^ N) :
    sumR (fun i => 2 ^ (N - lenK ss CS N i N)) ss.length = 2 ^ N := by
  have h := kraft_k ss CS N hl hs h2 hN hn N (Nat.le_refl _)
  have ht : (spreadK ss CS N [] N).1 = 0 := by
    obtain ⟨M, rfl⟩ : ∃ M, N = M + 1 := ⟨N - 1, by omega⟩
    rw [spreadK]
    simp only
    rw [show M + 1 - M = 1 by omega]
    have h1 := pairs_take (levelM CS 1) (spreadK ss CS (M + 1) [] M).1
    have h3 := (mergeL_pairs CS []).1
    have h4 : levelM CS 1 = mergeL CS [] := rfl
    rw [h4] at h1 ⊢
    simp at h3
    omega
  rw [ht, Nat.pow_succ] at h
  omega
/-- Each symbol has a length, and none too long. -/
theorem lenK_pos (ss CS : List Nat) (N : Nat) (hl : CS.length = ss.length) (hs : CS.Pairwise (· ≤ ·)) (h2 : 2 ≤ ss.length) (hN : 1 ≤ N) (hn : ss.length ≤ 2 ^ N) (i : Nat) (hi : i < ss.length) : 1 ≤ lenK ss CS N i N := by
  have h0 := sK_zero ss CS N hl hs h2 hN hn
  have grow : ∀ k, 1 ≤ k → 1 ≤ lenK ss CS N i k := by
    intro k hk
    induction k with
    | zero => omega
    | succ k ih =>
      rw [lenK]
      rcases Nat.eq_zero_or_pos k with rfl | h
      · rw [if_pos (by omega)]; omega
      · have := ih h; omega
  exact grow N hN
end Go.Proofs.Ythobbdnmhldglaa

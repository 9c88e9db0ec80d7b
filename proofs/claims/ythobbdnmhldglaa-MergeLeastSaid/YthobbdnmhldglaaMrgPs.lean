/- Package merge, as plain lists: of a merged list's first things none are cheaper. No program is named here. -/
import Derived.Test.YthobbdnmhldglaaMrgKr
namespace Go.Proofs.Ythobbdnmhldglaa

theorem mergeL_lt (c : Nat) (cs : List Nat) (x y : Thing) (R : List Thing) (h : x.1 + y.1 < c) : mergeL (c :: cs) (x :: y :: R) = (x.1 + y.1, true) :: mergeL (c :: cs) R := by
  rw [mergeL, takeW_lt c x y R h, mergeL]; rfl
theorem mergeL_ge (c : Nat) (cs : List Nat) (x y : Thing) (R : List Thing) (h : ¬ x.1 + y.1 < c) : mergeL (c :: cs) (x :: y :: R) = (c, false) :: mergeL cs (x :: y :: R) := by
  rw [mergeL, takeW_ge c x y R h]; rfl
theorem mergeL_few (c : Nat) (cs : List Nat) (R : List Thing) (h : R.length < 2) : mergeL (c :: cs) R = (c, false) :: mergeL cs R := by
  rw [mergeL, takeW_few c R h]; rfl

/-- The pairs' costs never fall. -/
def AscP (R : List Thing) : Prop := ∀ i, 2 * i + 3 < R.length → costP R i ≤ costP R (i + 1)
theorem costP_next (x y : Thing) (R : List Thing) (i : Nat) : costP (x :: y :: R) (i + 1) = costP R i := by
  unfold costP
  rw [show 2 * (i + 1) = 2 * i + 1 + 1 by omega, show 2 * i + 1 + 1 + 1 = (2 * i + 1) + 1 + 1 by omega]
  simp
theorem costP_zero (x y : Thing) (R : List Thing) : costP (x :: y :: R) 0 = x.1 + y.1 := by simp [costP]
theorem AscP.tail {x y : Thing} {R : List Thing} (h : AscP (x :: y :: R)) : AscP R := by
  intro i hi
  have := h (i + 1) (by simp only [List.length_cons]; omega)
  rwa [costP_next, costP_next] at this
theorem AscP.first {R : List Thing} (h : AscP R) : ∀ i, 2 * i + 1 < R.length → costP R 0 ≤ costP R i := by
  intro i
  induction i with
  | zero => intro _; exact Nat.le_refl _
  | succ i ih => intro hi; exact Nat.le_trans (ih (by omega)) (h i (by omega))
theorem sum_pair (R : List Thing) (j : Nat) : sumI (R.take (2 * (j + 1))) = sumI (R.take (2 * j)) + costP R j := by
  rw [show 2 * (j + 1) = 2 * j + 1 + 1 by omega, List.take_add_one, List.take_add_one, sumI_append, sumI_append]
  unfold costP
  have e : ∀ k, sumI (R[k]?).toList = (R.getD k (0, false)).1 := by
    intro k
    rw [List.getD_eq_getElem?_getD]
    cases R[k]? with
    | none => rfl
    | some x => simp [sumI]
  rw [e, e]
  omega
/-- Sums of the first ones. -/
def preC (cs : List Nat) (s : Nat) : Nat := (cs.take s).sum
theorem preC_cons (c : Nat) (cs : List Nat) (s : Nat) : preC (c :: cs) (s + 1) = c + preC cs s := by simp [preC]
theorem preC_zero (cs : List Nat) : preC cs 0 = 0 := by simp [preC]
theorem preC_last : ∀ (cs : List Nat) (b : Nat), (∀ c ∈ cs, b ≤ c) → ∀ s, s < cs.length → preC cs s + b ≤ preC cs (s + 1)
  | [], _, _, s, h => absurd h (Nat.not_lt_zero s)
  | c :: cs, b, hb, s, h => by
    cases s with
    | zero => rw [preC_cons, preC_zero, preC_zero]; have := hb c List.mem_cons_self; omega
    | succ s =>
      have := preC_last cs b (fun x hx => hb x (List.mem_cons_of_mem _ hx)) s (by simpa using h)
      rw [preC_cons, preC_cons]
      omega
theorem sorted_ge {c : Nat} {cs : List Nat} (h : (c :: cs).Pairwise (· ≤ ·)) : ∀ x ∈ c :: cs, c ≤ x := by
  intro x hx
  rcases List.mem_cons.1 hx with e | e
  · omega
  · exact (List.pairwise_cons.1 h).1 x e

theorem takeAll_take : ∀ (R : List Thing) (j : Nat), 2 * j ≤ R.length → sumI ((takeAll R).take j) = sumI (R.take (2 * j)) := by
  intro R
  induction R using by_two with
  | h0 => intro j hj; have : j = 0 := by simp only [List.length_nil] at hj; omega
          subst this; rfl
  | h1 x => intro j hj; have : j = 0 := by simp at hj; omega
            subst this; rfl
  | h2 x y R ih =>
    intro j hj
    cases j with
    | zero => rfl
    | succ j =>
      simp only [List.length_cons] at hj
      rw [takeAll, show 2 * (j + 1) = 2 * j + 1 + 1 by omega]
      simp only [List.take_succ_cons, sumI_cons]
      rw [ih j (by omega)]
      omega

/-- None are cheaper than the first things of the merged list. -/
theorem merge_min : ∀ (f : Nat) (cs : List Nat) (R : List Thing) (s j : Nat), cs.length + R.length ≤ f → cs.Pairwise (· ≤ ·) → AscP R → s ≤ cs.length → 2 * j ≤ R.length →
    sumI ((mergeL cs R).take (s + j)) ≤ preC cs s + sumI (R.take (2 * j)) := by
  intro f
  induction f with
  | zero =>
    intro cs R s j hf _ _ hs hj
    have h1 : s = 0 := by omega
    have h2 : j = 0 := by omega
    subst h1 h2
    simp [sumI]
  | succ f ih =>
    intro cs R s j hf hcs hR hs hj
    match cs, hcs, hs, hf with
    | [], _, hs, _ =>
      have h1 : s = 0 := by simpa using hs
      subst h1
      rw [mergeL, Nat.zero_add, takeAll_take R j hj]
      omega
    | c :: cs, hcs, hs, hf =>
      have hcs' := (List.pairwise_cons.1 hcs).2
      have hge := sorted_ge hcs
      simp only [List.length_cons] at hs hf
      match R, hR, hj, hf with
      | x :: y :: R, hR, hj, hf =>
        simp only [List.length_cons] at hj hf
        by_cases hxy : x.1 + y.1 < c
        · rw [mergeL_lt c cs x y R hxy]
          cases j with
          | succ j =>
            rw [show s + (j + 1) = (s + j) + 1 by omega, show 2 * (j + 1) = 2 * j + 1 + 1 by omega]
            simp only [List.take_succ_cons, sumI_cons]
            have := ih (c :: cs) R s j (by simp only [List.length_cons]; omega) hcs hR.tail (by simpa using hs) (by omega)
            omega
          | zero =>
            cases s with
            | zero => simp [sumI]
            | succ s =>
              rw [Nat.add_zero]
              simp only [List.take_succ_cons, sumI_cons]
              have h1 := ih (c :: cs) R s 0 (by simp only [List.length_cons]; omega) hcs hR.tail (by simp only [List.length_cons]; omega) (by omega)
              have h2 := preC_last (c :: cs) c hge s (by simp only [List.length_cons]; omega)
              rw [Nat.add_zero] at h1
              simp only [Nat.mul_zero, List.take_zero] at h1 ⊢
              omega
        · rw [mergeL_ge c cs x y R hxy]
          cases s with
          | succ s =>
            rw [show s + 1 + j = (s + j) + 1 by omega, preC_cons]
            simp only [List.take_succ_cons, sumI_cons]
            have := ih cs (x :: y :: R) s j (by simp only [List.length_cons]; omega) hcs' hR (by omega) (by simp only [List.length_cons]; omega)
            omega
          | zero =>
            cases j with
            | zero => simp [sumI]
            | succ j =>
              rw [show 0 + (j + 1) = (0 + j) + 1 by omega]
              rw [sum_pair (x :: y :: R) j]
              simp only [List.take_succ_cons, sumI_cons]
              have h1 := ih cs (x :: y :: R) 0 j (by simp only [List.length_cons]; omega) hcs' hR (Nat.zero_le _) (by simp only [List.length_cons]; omega)
              have h2 := hR.first j (by simp only [List.length_cons]; omega)
              rw [costP_zero] at h2
              rw [preC_zero] at h1 ⊢
              omega
      | [], _, hj, hf =>
        have h1 : j = 0 := by simp only [List.length_nil] at hj; omega
        subst h1
        rw [mergeL_few c cs [] (by decide)]
        cases s with
        | zero => simp [sumI]
        | succ s =>
          rw [Nat.add_zero, preC_cons]
          simp only [List.take_succ_cons, sumI_cons]
          have := ih cs [] s 0 (by simp only [List.length_nil] at hf ⊢; omega) hcs' (fun i hi => by simp at hi) (by omega) (by simp)
          rw [Nat.add_zero] at this
          omega
      | [x], _, hj, hf =>
        have h1 : j = 0 := by simp at hj; omega
        subst h1
        rw [mergeL_few c cs [x] (by simp)]
        cases s with
        | zero => simp [sumI]
        | succ s =>
          rw [Nat.add_zero, preC_cons]
          simp only [List.take_succ_cons, sumI_cons]
          have := ih cs [x] s 0 (by simp only [List.length_cons, List.length_nil] at hf ⊢; omega) hcs' (fun i hi => by simp at hi) (by omega) (by simp)
          rw [Nat.add_zero] at this
          omega

/-- What is below all is below each. -/
theorem merge_lb : ∀ (f : Nat) (cs : List Nat) (R : List Thing) (b : Nat), cs.length + R.length ≤ f → (∀ c ∈ cs, b ≤ c) → (∀ i, 2 * i + 1 < R.length → b ≤ costP R i) → ∀ x ∈ mergeL cs R, b ≤ x.1 := by
  have all : ∀ (R : List Thing) (b : Nat), (∀ i, 2 * i + 1 < R.length → b ≤ costP R i) → ∀ x ∈ takeAll R, b ≤ x.1 := by
    intro R
    induction R using by_two with
    | h0 => intro b _ x hx; cases hx
    | h1 x => intro b _ x hx; cases hx
    | h2 x y R ih =>
      intro b hb z hz
      rw [takeAll] at hz
      rcases List.mem_cons.1 hz with e | e
      · have := hb 0 (by simp only [List.length_cons]; omega)
        rw [costP_zero] at this
        rw [e]; exact this
      · exact ih b (fun i hi => by
          have := hb (i + 1) (by simp only [List.length_cons]; omega)
          rwa [costP_next] at this) z e
  intro f
  induction f with
  | zero =>
    intro cs R b hf hc hb x hx
    have h1 : cs = [] := List.eq_nil_of_length_eq_zero (by omega)
    subst h1
    exact all R b hb x hx
  | succ f ih =>
    intro cs R b hf hc hb z hz
    match cs, hc, hf, hz with
    | [], _, _, hz => exact all R b hb z hz
    | c :: cs, hc, hf, hz =>
      simp only [List.length_cons] at hf
      have hc' : ∀ x ∈ cs, b ≤ x := fun x hx => hc x (List.mem_cons_of_mem _ hx)
      match R, hb, hf, hz with
      | x :: y :: R, hb, hf, hz =>
        simp only [List.length_cons] at hf
        by_cases hxy : x.1 + y.1 < c
        · rw [mergeL_lt c cs x y R hxy] at hz
          rcases List.mem_cons.1 hz with e | e
          · have := hb 0 (by simp only [List.length_cons]; omega)
            rw [costP_zero] at this
            rw [e]; exact this
          · exact ih (c :: cs) R b (by simp only [List.length_cons]; omega) hc (fun i hi => by
              have := hb (i + 1) (by simp only [List.length_cons]; omega)
              rwa [costP_next] at this) z e
        · rw [mergeL_ge c cs x y R hxy] at hz
          rcases List.mem_cons.1 hz with e | e
          · rw [e]; exact hc c List.mem_cons_self
          · exact ih cs (x :: y :: R) b (by simp only [List.length_cons]; omega) hc' hb z e
      | [], hb, hf, hz =>
        rw [mergeL_few c cs [] (by decide)] at hz
        rcases List.mem_cons.1 hz with e | e
        · rw [e]; exact hc c List.mem_cons_self
        · exact ih cs [] b (by simp only [List.length_nil] at hf ⊢; omega) hc' hb z e
      | [x], hb, hf, hz =>
        rw [mergeL_few c cs [x] (by simp)] at hz
        rcases List.mem_cons.1 hz with e | e
        · rw [e]; exact hc c List.mem_cons_self
        · exact ih cs [x] b (by simp only [List.length_cons, List.length_nil] at hf ⊢; omega) hc' hb z e

def SortT (R : List Thing) : Prop := R.Pairwise fun a b => a.1 ≤ b.1
/-- The merged list is sorted. -/
theorem merge_sorted : ∀ (f : Nat) (cs : List Nat) (R : List Thing), cs.length + R.length ≤ f → cs.Pairwise (· ≤ ·) → AscP R → SortT (mergeL cs R) := by
  have all : ∀ (R : List Thing), AscP R → SortT (takeAll R) := by
    intro R
    induction R using by_two with
    | h0 => intro _; exact List.Pairwise.nil
    | h1 x => intro _; exact List.Pairwise.nil
    | h2 x y R ih =>
      intro hR
      rw [takeAll]
      refine List.pairwise_cons.2 ⟨fun z hz => ?_, ih hR.tail⟩
      have h := merge_lb R.length [] R (x.1 + y.1) (by simp) (fun c hc => by cases hc) (fun i hi => by
        have := hR.first (i + 1) (by simp only [List.length_cons]; omega)
        rwa [costP_zero, costP_next] at this)
      exact h z hz
  intro f
  induction f with
  | zero =>
    intro cs R hf hcs hR
    have h1 : cs = [] := List.eq_nil_of_length_eq_zero (by omega)
    subst h1
    exact all R hR
  | succ f ih =>
    intro cs R hf hcs hR
    match cs, hcs, hf with
    | [], _, _ => exact all R hR
    | c :: cs, hcs, hf =>
      have hcs' := (List.pairwise_cons.1 hcs).2
      have hge := sorted_ge hcs
      have hge' : ∀ x ∈ cs, c ≤ x := (List.pairwise_cons.1 hcs).1
      simp only [List.length_cons] at hf
      match R, hR, hf with
      | x :: y :: R, hR, hf =>
        simp only [List.length_cons] at hf
        by_cases hxy : x.1 + y.1 < c
        · rw [mergeL_lt c cs x y R hxy]
          refine List.pairwise_cons.2 ⟨fun z hz => ?_, ih (c :: cs) R (by simp only [List.length_cons]; omega) hcs hR.tail⟩
          exact merge_lb _ (c :: cs) R (x.1 + y.1) (Nat.le_refl _) (fun q hq => by have := hge q hq; omega) (fun i hi => by
            have := hR.first (i + 1) (by simp only [List.length_cons]; omega)
            rwa [costP_zero, costP_next] at this) z hz
        · rw [mergeL_ge c cs x y R hxy]
          refine List.pairwise_cons.2 ⟨fun z hz => ?_, ih cs (x :: y :: R) (by simp only [List.length_cons]; omega) hcs' hR⟩
          exact merge_lb _ cs (x :: y :: R) c (Nat.le_refl _) hge' (fun i hi => by
            have := hR.first i hi
            rw [costP_zero] at this
            omega) z hz
      | [], hR, hf =>
        rw [mergeL_few c cs [] (by decide)]
        refine List.pairwise_cons.2 ⟨fun z hz => ?_, ih cs [] (by simp only [List.length_nil] at hf ⊢; omega) hcs' hR⟩
        exact merge_lb _ cs [] c (Nat.le_refl _) hge' (fun i hi => by simp at hi) z hz
      | [x], hR, hf =>
        rw [mergeL_few c cs [x] (by simp)]
        refine List.pairwise_cons.2 ⟨fun z hz => ?_, ih cs [x] (by simp only [List.length_cons, List.length_nil] at hf ⊢; omega) hcs' hR⟩
        exact merge_lb _ cs [x] c (Nat.le_refl _) hge' (fun i hi => by simp at hi) z hz
theorem SortT.asc {R : List Thing} (h : SortT R) : AscP R := by
  have key : ∀ i j (hi : i < R.length) (hj : j < R.length), i < j → (R.getD i (0, false)).1 ≤ (R.getD j (0, false)).1 := by
    intro i j hi hj hij
    have := List.pairwise_iff_getElem.1 h i j hi hj hij
    simpa [List.getD_eq_getElem?_getD, hi, hj] using this
  intro i hi
  unfold costP
  have h1 := key (2 * i) (2 * (i + 1)) (by omega) (by omega) (by omega)
  have h2 := key (2 * i + 1) (2 * (i + 1) + 1) (by omega) (by omega) (by omega)
  omega
theorem level_sorted (cs : List Nat) (hs : cs.Pairwise (· ≤ ·)) (d : Nat) : SortT (levelM cs d) := by
  induction d with
  | zero => exact List.Pairwise.nil
  | succ d ih => exact merge_sorted _ cs (levelM cs d) (Nat.le_refl _) hs ih.asc

/-- What the first t things of a level cost. -/
def firstC (cs : List Nat) (d t : Nat) : Nat := sumI ((levelM cs d).take t)
theorem first_le (cs : List Nat) (hs : cs.Pairwise (· ≤ ·)) (d s j : Nat) (h1 : s ≤ cs.length) (h2 : 2 * j ≤ (levelM cs d).length) : firstC cs (d + 1) (s + j) ≤ preC cs s + firstC cs d (2 * j) :=
  merge_min _ cs (levelM cs d) s j (Nat.le_refl _) hs (level_sorted cs hs d).asc h1 h2
/-- What is taken costs its symbols, and what its pairs hold. -/
theorem merge_split : ∀ (f : Nat) (cs : List Nat) (R : List Thing) (t : Nat), cs.length + R.length ≤ f → t ≤ (mergeL cs R).length →
    sumI ((mergeL cs R).take t) = preC cs (singlesM ((mergeL cs R).take t)) + sumI (R.take (2 * pairsM ((mergeL cs R).take t))) := by
  have all : ∀ (R : List Thing) (t : Nat), t ≤ (takeAll R).length → sumI ((takeAll R).take t) = preC [] (singlesM ((takeAll R).take t)) + sumI (R.take (2 * pairsM ((takeAll R).take t))) := by
    intro R
    induction R using by_two with
    | h0 => intro t _; simp [takeAll, sumI, preC, singlesM, pairsM]
    | h1 x => intro t _; simp [takeAll, sumI, preC, singlesM, pairsM]
    | h2 x y R ih =>
      intro t ht
      cases t with
      | zero => simp [sumI, preC, singlesM, pairsM]
      | succ t =>
        rw [takeAll] at ht ⊢
        simp only [List.length_cons] at ht
        have h := ih t (by omega)
        simp only [List.take_succ_cons, sumI_cons]
        have e1 : singlesM ((x.1 + y.1, true) :: (takeAll R).take t) = singlesM ((takeAll R).take t) := by simp [singlesM]
        have e2 : pairsM ((x.1 + y.1, true) :: (takeAll R).take t) = pairsM ((takeAll R).take t) + 1 := by simp [pairsM]
        rw [e1, e2, show 2 * (pairsM ((takeAll R).take t) + 1) = 2 * pairsM ((takeAll R).take t) + 1 + 1 by omega]
        simp only [List.take_succ_cons, sumI_cons]
        omega
  intro f
  induction f with
  | zero =>
    intro cs R t hf ht
    have h1 : cs = [] := List.eq_nil_of_length_eq_zero (by omega)
    subst h1
    exact all R t ht
  | succ f ih =>
    intro cs R t hf ht
    match cs, hf, ht with
    | [], _, ht => exact all R t ht
    | c :: cs, hf, ht =>
      simp only [List.length_cons] at hf
      cases t with
      | zero => simp [sumI, preC, singlesM, pairsM]
      | succ t =>
        have one : ∀ (L : List Thing), singlesM ((c, false) :: L) = singlesM L + 1 ∧ pairsM ((c, false) :: L) = pairsM L := fun L => by simp [singlesM, pairsM]
        match R, hf, ht with
        | x :: y :: R, hf, ht =>
          simp only [List.length_cons] at hf
          by_cases hxy : x.1 + y.1 < c
          · rw [mergeL_lt c cs x y R hxy] at ht ⊢
            simp only [List.length_cons] at ht
            have h := ih (c :: cs) R t (by simp only [List.length_cons]; omega) (by omega)
            simp only [List.take_succ_cons, sumI_cons]
            have e1 : singlesM ((x.1 + y.1, true) :: (mergeL (c :: cs) R).take t) = singlesM ((mergeL (c :: cs) R).take t) := by simp [singlesM]
            have e2 : pairsM ((x.1 + y.1, true) :: (mergeL (c :: cs) R).take t) = pairsM ((mergeL (c :: cs) R).take t) + 1 := by simp [pairsM]
            rw [e1, e2, show 2 * (pairsM ((mergeL (c :: cs) R).take t) + 1) = 2 * pairsM ((mergeL (c :: cs) R).take t) + 1 + 1 by omega]
            simp only [List.take_succ_cons, sumI_cons]
            omega
          · rw [mergeL_ge c cs x y R hxy] at ht ⊢
            simp only [List.length_cons] at ht
            have h := ih cs (x :: y :: R) t (by simp only [List.length_cons]; omega) (by omega)
            simp only [List.take_succ_cons, sumI_cons]
            rw [(one _).1, (one _).2, preC_cons, h]
            omega
        | [], hf, ht =>
          rw [mergeL_few c cs [] (by decide)] at ht ⊢
          simp only [List.length_cons] at ht
          have h := ih cs [] t (by simp only [List.length_nil] at hf ⊢; omega) (by omega)
          simp only [List.take_succ_cons, sumI_cons]
          rw [(one _).1, (one _).2, preC_cons, h]
          omega
        | [x], hf, ht =>
          rw [mergeL_few c cs [x] (by simp)] at ht ⊢
          simp only [List.length_cons] at ht
          have h := ih cs [x] t (by simp only [List.length_cons, List.length_nil] at hf ⊢; omega) (by omega)
          simp only [List.take_succ_cons, sumI_cons]
          rw [(one _).1, (one _).2, preC_cons, h]
          omega
end Go.Proofs.Ythobbdnmhldglaa
/- Package merge, as plain lists: the table by levels finds what package merge costs. No program is named here. -/
namespace Go.Proofs.Ythobbdnmhldglaa

theorem preC_mono (cs : List Nat) (s t : Nat) (h : s ≤ t) : preC cs s ≤ preC cs t := by
  have key : ∀ (cs : List Nat) (s d : Nat), preC cs s ≤ preC cs (s + d) := by
    intro cs s d
    induction d with
    | zero => exact Nat.le_refl _
    | succ d ih =>
      refine Nat.le_trans ih ?_
      unfold preC
      rw [show s + (d + 1) = (s + d) + 1 by omega, List.take_add_one, List.sum_append]
      omega
  have := key cs s (t - s)
  rwa [show s + (t - s) = t by omega] at this
theorem firstC_zero (cs : List Nat) (d : Nat) : firstC cs d 0 = 0 := by simp [firstC, sumI]
theorem level_len (cs : List Nat) (d : Nat) : (levelM cs (d + 1)).length = cs.length + (levelM cs d).length / 2 := (mergeL_pairs cs (levelM cs d)).2
theorem first_few (cs : List Nat) (hs : cs.Pairwise (· ≤ ·)) (d s : Nat) (h : s ≤ cs.length) : firstC cs (d + 1) s ≤ preC cs s := by
  have := first_le cs hs d s 0 h (by omega)
  rwa [Nat.add_zero, Nat.mul_zero, firstC_zero, Nat.add_zero] at this

/-- What the best lengths cost. -/
def optM (cs : List Nat) (N : Nat) : Nat := firstC cs N (2 * cs.length - 2)

/-- Behind L levels: i counts have words, k nodes are open, at the cost v. -/
def DpInv (cs : List Nat) (N L i k v : Nat) : Prop :=
  i < cs.length ∧ 1 ≤ k ∧ k ≤ cs.length - i ∧ (optM cs N ≤ v + firstC cs (N - L) (2 * (cs.length - i - k)) ∨ (levelM cs (N - L)).length < 2 * (cs.length - i - k))
theorem DpInv.start (cs : List Nat) (N : Nat) (h : 2 ≤ cs.length) : DpInv cs N 0 0 1 0 := by
  refine ⟨by omega, Nat.le_refl _, by omega, .inl ?_⟩
  rw [show 2 * (cs.length - 0 - 1) = 2 * cs.length - 2 by omega, Nat.sub_zero, Nat.zero_add]
  exact Nat.le_refl _
theorem DpInv.step {cs : List Nat} {N L i k v w left : Nat} (h : DpInv cs N L i k v) (hs : cs.Pairwise (· ≤ ·)) (hL : L < N) (hw : w ≤ 2 * k) (hl : left = min (2 * k - w) cs.length) (h0 : 0 < left) (hi : i + w < cs.length) (hle : left ≤ cs.length - i - w) :
    DpInv cs N (L + 1) (i + w) left (v + preC cs (cs.length - i)) := by
  obtain ⟨h1, h2, h3, h4⟩ := h
  obtain ⟨d, hd⟩ : ∃ d, N - L = d + 1 := ⟨N - L - 1, by omega⟩
  have hd' : N - (L + 1) = d := by omega
  rw [hd] at h4
  refine ⟨hi, h0, by omega, ?_⟩
  rw [hd']
  have hlen := level_len cs d
  rcases Nat.lt_or_ge cs.length (2 * k - w) with hc | hc
  · have e1 : i = 0 := by omega
    have e2 : w = 0 := by omega
    have e3 : left = cs.length := by omega
    subst e1 e2 e3
    rw [show 2 * (cs.length - (0 + 0) - cs.length) = 0 by omega, firstC_zero]
    rcases h4 with h4 | h4
    · left
      have h5 := first_few cs hs d (2 * (cs.length - 0 - k)) (by omega)
      have h6 := preC_mono cs (2 * (cs.length - 0 - k)) (cs.length - 0) (by omega)
      omega
    · omega
  · have e3 : left = 2 * k - w := by omega
    subst e3
    rw [show 2 * (cs.length - (i + w) - (2 * k - w)) = 2 * (cs.length - i - 2 * k) by omega]
    have e4 : 2 * (cs.length - i - k) = (cs.length - i) + (cs.length - i - 2 * k) := by omega
    rw [e4] at h4
    rcases Nat.lt_or_ge (levelM cs d).length (2 * (cs.length - i - 2 * k)) with hj | hj
    · exact .inr hj
    · left
      have h5 := first_le cs hs d (cs.length - i) (cs.length - i - 2 * k) (by omega) hj
      rcases h4 with h4 | h4
      · omega
      · omega
theorem DpInv.last {cs : List Nat} {N L i k v w : Nat} (h : DpInv cs N L i k v) (hs : cs.Pairwise (· ≤ ·)) (hL : L < N) (hw : w ≤ 2 * k) (hl : min (2 * k - w) cs.length = 0) (hi : i + w = cs.length) :
    optM cs N ≤ v + preC cs (cs.length - i) := by
  obtain ⟨h1, h2, h3, h4⟩ := h
  obtain ⟨d, hd⟩ : ∃ d, N - L = d + 1 := ⟨N - L - 1, by omega⟩
  rw [hd, show 2 * (cs.length - i - k) = cs.length - i by omega] at h4
  have hlen := level_len cs d
  have h5 := first_few cs hs d (cs.length - i) (by omega)
  rcases h4 with h4 | h4 <;> omega

/-- How many pairs' halves are taken of the k-th list from the last one on. -/
def qK (ss CS : List Nat) (N k : Nat) : Nat := (spreadK ss CS N [] k).1 / 2
structure PathP (n N : Nat) (s q : Nat → Nat) : Prop where
  s0 : s 0 = n
  q0 : q 0 = n - 1
  next : ∀ k, k < N → q (k + 1) + s k = 2 * q k
  mono : ∀ k, k + 1 < N → s (k + 1) ≤ s k
  last : q N = 0
theorem PathP.none {n N : Nat} {s q : Nat → Nat} (h : PathP n N s q) : ∀ m L, L + m = N → q L ≤ q (L + 1) ∨ m = 0 → q L = 0 := by
  intro m
  induction m with
  | zero => intro L hL _; obtain rfl : L = N := by omega
            exact h.last
  | succ m ih =>
    intro L hL hq
    have hq' : q L ≤ q (L + 1) := by rcases hq with h | h; exact h; omega
    have h1 := h.next L (by omega)
    rcases Nat.eq_zero_or_pos m with e | e
    · have : q (L + 1) = 0 := by rw [show L + 1 = N by omega]; exact h.last
      omega
    · have h2 := h.next (L + 1) (by omega)
      have h3 := h.mono L (by omega)
      have := ih (L + 1) (by omega) (.inl (by omega))
      omega
theorem PathP.falls {n N : Nat} {s q : Nat → Nat} (h : PathP n N s q) (L : Nat) (hL : L < N) (hs : 0 < s L) : q (L + 1) < q L := by
  rcases Nat.lt_or_ge (q (L + 1)) (q L) with h1 | h1
  · exact h1
  · have h2 := h.none (N - L) L (by omega) (.inl h1)
    have h3 := h.next L hL
    omega
theorem PathP.le {n N : Nat} {s q : Nat → Nat} (h : PathP n N s q) (L : Nat) (hL : L < N) : s L ≤ n := by
  induction L with
  | zero => exact Nat.le_of_eq h.s0
  | succ L ih => exact Nat.le_trans (h.mono L hL) (ih (by omega))
theorem path_of (ss CS : List Nat) (N : Nat) (hl : CS.length = ss.length) (hs : CS.Pairwise (· ≤ ·)) (h2 : 2 ≤ ss.length) (hN : 1 ≤ N) (hn : ss.length ≤ 2 ^ N) : PathP ss.length N (sK ss CS N) (qK ss CS N) := by
  have hev : ∀ k, (spreadK ss CS N [] k).1 % 2 = 0 := by
    intro k
    cases k with
    | zero => show (2 * ss.length - 2) % 2 = 0; omega
    | succ k => rw [spreadK]; simp only; omega
  refine ⟨sK_zero ss CS N hl hs h2 hN hn, ?_, ?_, fun k hk => sK_mono ss CS N hs k hk, ?_⟩
  · show (2 * ss.length - 2) / 2 = _; omega
  · intro k hk
    have h1 : (spreadK ss CS N [] (k + 1)).1 = 2 * pairsM ((levelM CS (N - k)).take (spreadK ss CS N [] k).1) := by rw [spreadK]
    have h3 := pairs_singles ((levelM CS (N - k)).take (spreadK ss CS N [] k).1)
    rw [List.length_take, Nat.min_eq_left (spreadK_taken ss CS N [] hl hN hn k hk)] at h3
    have h4 : sK ss CS N k = singlesM ((levelM CS (N - k)).take (spreadK ss CS N [] k).1) := rfl
    have h5 := hev k
    unfold qK
    rw [h1, h4]
    omega
  · unfold qK
    obtain ⟨M, rfl⟩ : ∃ M, N = M + 1 := ⟨N - 1, by omega⟩
    rw [spreadK]
    simp only
    rw [show M + 1 - M = 1 by omega]
    have h1 := pairs_take (levelM CS 1) (spreadK ss CS (M + 1) [] M).1
    have h3 := (mergeL_pairs CS []).1
    have h4 : levelM CS 1 = mergeL CS [] := rfl
    rw [h4] at h1 ⊢
    simp at h3
    omega

/-- The path's cost behind L levels. -/
def pathC (CS : List Nat) (s : Nat → Nat) : Nat → Nat
  | 0 => 0
  | L + 1 => pathC CS s L + preC CS (s L)
theorem opt_path (ss CS : List Nat) (N : Nat) (hl : CS.length = ss.length) (hN : 1 ≤ N) (hn : ss.length ≤ 2 ^ N) : ∀ L, L ≤ N → optM CS N = pathC CS (sK ss CS N) L + firstC CS (N - L) (spreadK ss CS N [] L).1 := by
  intro L
  induction L with
  | zero =>
    intro _
    rw [pathC, Nat.zero_add, Nat.sub_zero]
    unfold optM
    rw [hl]; rfl
  | succ L ih =>
    intro hL
    rw [ih (by omega), pathC]
    obtain ⟨d, hd⟩ : ∃ d, N - L = d + 1 := ⟨N - L - 1, by omega⟩
    have hd' : N - (L + 1) = d := by omega
    have h1 := merge_split _ CS (levelM CS d) (spreadK ss CS N [] L).1 (Nat.le_refl _) (by
      have := spreadK_taken ss CS N [] hl hN hn L (by omega)
      rw [hd] at this
      exact this)
    have h2 : firstC CS (N - L) (spreadK ss CS N [] L).1 = sumI ((mergeL CS (levelM CS d)).take (spreadK ss CS N [] L).1) := by rw [hd]; rfl
    rw [h2, h1, hd']
    have h3 : sK ss CS N L = singlesM ((mergeL CS (levelM CS d)).take (spreadK ss CS N [] L).1) := by
      unfold sK
      rw [hd]; rfl
    have h4 : (spreadK ss CS N [] (L + 1)).1 = 2 * pairsM ((mergeL CS (levelM CS d)).take (spreadK ss CS N [] L).1) := by
      rw [spreadK, hd]; rfl
    rw [h3, h4]
    unfold firstC
    omega
theorem opt_all (ss CS : List Nat) (N : Nat) (hl : CS.length = ss.length) (hN : 1 ≤ N) (hn : ss.length ≤ 2 ^ N) : optM CS N = pathC CS (sK ss CS N) N := by
  have h := opt_path ss CS N hl hN hn N (Nat.le_refl _)
  rw [Nat.sub_self] at h
  rw [h]
  unfold firstC
  simp [levelM, sumI]

/-- One choice of words at a level. -/
def stepB (n i k w : Nat) (cost best : Int) : Int := if min (2 * k - w) n = 0 ∧ i + w = n ∧ (best < 0 ∨ cost < best) then cost else best
def stepN (n i k w : Nat) (cost : Int) (next : Nat → Nat → Int) : Nat → Nat → Int :=
  if 0 < min (2 * k - w) n ∧ i + w < n ∧ min (2 * k - w) n ≤ n - i - w ∧ (next (i + w) (min (2 * k - w) n) < 0 ∨ cost < next (i + w) (min (2 * k - w) n)) then
    fun a b => if a = i + w ∧ b = min (2 * k - w) n then cost else next a b
  else next

/-- What was found so far isn't too little. -/
def LowM (CS : List Nat) (N L : Nat) (T : Nat → Nat → Int) (best : Int) : Prop := (∀ a b, 0 ≤ T a b → DpInv CS N L a b (T a b).toNat) ∧ (best < 0 ∨ (optM CS N : Int) ≤ best)
theorem LowM.step {CS : List Nat} {N L i k w v : Nat} {T : Nat → Nat → Int} {best : Int} (h : LowM CS N (L + 1) T best) (hI : DpInv CS N L i k v) (hs : CS.Pairwise (· ≤ ·)) (hL : L < N) (hw : w ≤ 2 * k) :
    LowM CS N (L + 1) (stepN CS.length i k w ((v + preC CS (CS.length - i) : Nat) : Int) T) (stepB CS.length i k w ((v + preC CS (CS.length - i) : Nat) : Int) best) := by
  refine ⟨fun a b hab => ?_, ?_⟩
  · unfold stepN at hab ⊢
    split at hab
    · rename_i hc
      rw [if_pos hc]
      simp only at hab ⊢
      split at hab
      · rename_i he
        rw [if_pos he]
        obtain ⟨rfl, rfl⟩ := he
        rw [Int.toNat_natCast]
        exact hI.step hs hL hw rfl hc.1 hc.2.1 hc.2.2.1
      · rename_i he
        rw [if_neg he]
        exact h.1 a b hab
    · rename_i hc
      rw [if_neg hc]
      exact h.1 a b hab
  · unfold stepB
    split
    · rename_i hc
      right
      have := hI.last hs hL hw hc.1 hc.2.1
      omega
    · exact h.2

/-- The path's place is known, or the best is. -/
def HasM (CS : List Nat) (N : Nat) (s q : Nat → Nat) (L : Nat) (T : Nat → Nat → Int) (best : Int) : Prop :=
  (0 ≤ best ∧ best ≤ (optM CS N : Int)) ∨ (L < N ∧ 0 < s L ∧ 0 ≤ T (CS.length - s L) (q L - q (L + 1)) ∧ T (CS.length - s L) (q L - q (L + 1)) ≤ (pathC CS s L : Int))
theorem HasM.keep {CS : List Nat} {N : Nat} {s q : Nat → Nat} {L i k w : Nat} {T : Nat → Nat → Int} {best cost : Int} (h : HasM CS N s q L T best) (hc : 0 ≤ cost) : HasM CS N s q L (stepN CS.length i k w cost T) (stepB CS.length i k w cost best) := by
  rcases h with h | ⟨h1, h2, h3, h4⟩
  · left
    unfold stepB
    split
    · rename_i hb; omega
    · exact h
  · right
    refine ⟨h1, h2, ?_⟩
    unfold stepN
    split
    · rename_i hn
      simp only
      split
      · rename_i he
        rw [he.1, he.2] at h3 h4
        omega
      · exact ⟨h3, h4⟩
    · exact ⟨h3, h4⟩
/-- At the path's place, with the path's words: the next place is known. -/
theorem HasM.make {CS : List Nat} {N : Nat} {s q : Nat → Nat} {L : Nat} (hp : PathP CS.length N s q) (hopt : optM CS N = pathC CS s N) (hL : L < N) (hs : 0 < s L) {T : Nat → Nat → Int} {best : Int} {v : Nat} (hv : v ≤ pathC CS s L) (w : Nat)
    (hw : w = if L + 1 < N then s L - s (L + 1) else s L) :
    HasM CS N s q (L + 1) (stepN CS.length (CS.length - s L) (q L - q (L + 1)) w ((v + preC CS (CS.length - (CS.length - s L)) : Nat) : Int) T) (stepB CS.length (CS.length - s L) (q L - q (L + 1)) w ((v + preC CS (CS.length - (CS.length - s L)) : Nat) : Int) best) := by
  have h1 := hp.next L hL
  have h2 := hp.falls L hL hs
  have h3 := hp.le L hL
  rw [show CS.length - (CS.length - s L) = s L by omega]
  have hpc : pathC CS s (L + 1) = pathC CS s L + preC CS (s L) := rfl
  have stay : ∀ m, (∀ j, j < m → L + 1 + j < N → s (L + 1 + j) = 0) → L + 1 + m ≤ N → pathC CS s (L + 1 + m) = pathC CS s (L + 1) := by
    intro m
    induction m with
    | zero => intro _ _; rfl
    | succ m ih =>
      intro hz hm
      have : pathC CS s (L + 1 + (m + 1)) = pathC CS s (L + 1 + m) + preC CS (s (L + 1 + m)) := rfl
      rw [this, hz m (by omega) (by omega), preC_zero, Nat.add_zero]
      exact ih (fun j hj h => hz j (by omega) h) (by omega)
  have down : ∀ j, L + 1 + j < N → s (L + 1 + j) ≤ s (L + 1) := by
    intro j
    induction j with
    | zero => intro _; exact Nat.le_refl _
    | succ j ih => intro hj; exact Nat.le_trans (hp.mono (L + 1 + j) (by omega)) (ih (by omega))
  by_cases hz : L + 1 < N ∧ 0 < s (L + 1)
  · obtain ⟨hN, hs1⟩ := hz
    rw [if_pos hN] at hw
    have h4 := hp.next (L + 1) hN
    have h5 := hp.falls (L + 1) hN hs1
    have h6 := hp.mono L hN
    right
    have e1 : min (2 * (q L - q (L + 1)) - w) CS.length = q (L + 1) - q (L + 1 + 1) := by omega
    have e2 : CS.length - s L + w = CS.length - s (L + 1) := by omega
    refine ⟨hN, hs1, ?_⟩
    unfold stepN
    rw [e1, e2]
    split
    · simp only
      rw [if_pos ⟨trivial, trivial⟩]
      omega
    · rename_i hn
      have : ¬ (T (CS.length - s (L + 1)) (q (L + 1) - q (L + 1 + 1)) < 0 ∨ ((v + preC CS (s L) : Nat) : Int) < T (CS.length - s (L + 1)) (q (L + 1) - q (L + 1 + 1))) := fun h => hn ⟨by omega, by omega, by omega, h⟩
      omega
  · left
    have hq1 : q (L + 1) = 0 := by
      by_cases hN : L + 1 < N
      · have hs1 : s (L + 1) = 0 := by
          rcases Nat.eq_zero_or_pos (s (L + 1)) with h | h
          · exact h
          · exact absurd ⟨hN, h⟩ hz
        have h4 := hp.next (L + 1) hN
        exact hp.none (N - (L + 1)) (L + 1) (by omega) (.inl (by omega))
      · rw [show L + 1 = N by omega]; exact hp.last
    have hw2 : w = s L := by
      rw [hw]
      split
      · rename_i hN
        have : s (L + 1) = 0 := by
          rcases Nat.eq_zero_or_pos (s (L + 1)) with h | h
          · exact h
          · exact absurd ⟨hN, h⟩ hz
        omega
      · rfl
    have hall : pathC CS s N = pathC CS s (L + 1) := by
      have := stay (N - (L + 1)) (fun j _ hjN => by
        have h7 := down j hjN
        have : s (L + 1) = 0 := by
          rcases Nat.eq_zero_or_pos (s (L + 1)) with h | h
          · exact h
          · exact absurd ⟨by omega, h⟩ hz
        omega) (by omega)
      rwa [show L + 1 + (N - (L + 1)) = N by omega] at this
    have e1 : min (2 * (q L - q (L + 1)) - w) CS.length = 0 := by omega
    have e2 : CS.length - s L + w = CS.length := by omega
    unfold stepB
    rw [e1, e2, hopt, hall, hpc]
    split
    · omega
    · rename_i hn
      have : ¬ (best < 0 ∨ ((v + preC CS (s L) : Nat) : Int) < best) := fun h => hn ⟨rfl, rfl, h⟩
      omega
theorem both_M {CS : List Nat} {N : Nat} {s q : Nat → Nat} {T : Nat → Nat → Int} {best : Int} (h1 : LowM CS N N T best) (h2 : HasM CS N s q N T best) : best = (optM CS N : Int) := by
  rcases h2 with h | ⟨h, _⟩
  · rcases h1.2 with h3 | h3 <;> omega
  · omega
end Go.Proofs.Ythobbdnmhldglaa
/- Package merge, as plain lists: what the lengths cost; lists that fall. No program is named here. -/
namespace Go.Proofs.Ythobbdnmhldglaa

theorem sumR_pre (CS : List Nat) : ∀ s, s ≤ CS.length → sumR (fun i => CS.getD i 0) s = preC CS s := by
  intro s
  induction s with
  | zero => intro _; simp [sumR, preC]
  | succ s ih =>
    intro h
    rw [sumR, ih (by omega)]
    unfold preC
    rw [List.take_add_one, List.sum_append, List.getD_eq_getElem?_getD, List.getElem?_eq_getElem (by omega)]
    simp
theorem sumR_if (f : Nat → Nat) (s n : Nat) (h : s ≤ n) : sumR (fun i => if i < s then f i else 0) n = sumR f s := by
  induction n with
  | zero =>
    obtain rfl : s = 0 := by omega
    rfl
  | succ n ih =>
    rw [sumR]
    rcases Nat.lt_or_ge n s with h1 | h1
    · obtain rfl : s = n + 1 := by omega
      rw [if_pos h1, sumR]
      congr 1
      have : ∀ m, m ≤ n → sumR (fun i => if i < n + 1 then f i else 0) m = sumR f m := by
        intro m
        induction m with
        | zero => intro _; rfl
        | succ m ih => intro hm; rw [sumR, sumR, ih (by omega), if_pos (by omega)]
      exact this n (Nat.le_refl _)
    · rw [if_neg (by omega), ih h1, Nat.add_zero]
theorem sumR_add (f g : Nat → Nat) (n : Nat) : sumR (fun i => f i + g i) n = sumR f n + sumR g n := by
  induction n with
  | zero => rfl
  | succ n ih => simp only [sumR]; rw [ih]; omega
/-- What the lengths behind L lists cost. -/
theorem len_path (ss CS : List Nat) (N : Nat) (hl : CS.length = ss.length) (L : Nat) : sumR (fun i => CS.getD i 0 * lenK ss CS N i L) ss.length = pathC CS (sK ss CS N) L := by
  induction L with
  | zero =>
    have : ∀ n, sumR (fun i => CS.getD i 0 * lenK ss CS N i 0) n = 0 := by
      intro n
      induction n with
      | zero => rfl
      | succ n ih => rw [sumR, ih, lenK]; omega
    rw [this]; rfl
  | succ L ih =>
    have e : (fun i => CS.getD i 0 * lenK ss CS N i (L + 1)) = fun i => CS.getD i 0 * lenK ss CS N i L + (if i < sK ss CS N L then CS.getD i 0 else 0) := by
      funext i
      rw [lenK, Nat.mul_add]
      split <;> simp
    rw [e, sumR_add, ih, sumR_if _ _ _ (sK_le ss CS N L hl), sumR_pre CS _ (by rw [hl]; exact sK_le ss CS N L hl)]
    rfl

theorem falls_eq : ∀ (l l' : List Nat), l.Pairwise (· ≥ ·) → l'.Pairwise (· ≥ ·) → l.Perm l' → l = l'
  | [], l', _, _, h => (List.nil_perm.1 h).symm
  | a :: l, [], _, _, h => absurd h.length_eq (by simp)
  | a :: l, b :: l', h1, h2, h => by
    have p1 := List.pairwise_cons.1 h1
    have p2 := List.pairwise_cons.1 h2
    have e1 : a ≤ b := by
      rcases List.mem_cons.1 (h.mem_iff.1 List.mem_cons_self) with e | e
      · omega
      · exact p2.1 a e
    have e2 : b ≤ a := by
      rcases List.mem_cons.1 (h.mem_iff.2 List.mem_cons_self) with e | e
      · omega
      · exact p1.1 b e
    obtain rfl : a = b := by omega
    rw [falls_eq l l' p1.2 p2.2 (List.Perm.cons_inv h)]

/-- Where a number is laid into numbers that fall: behind all that are no less. -/
def whereD (x : Nat) : List Nat → Nat
  | [] => 0
  | y :: l => if x ≤ y then whereD x l + 1 else 0
theorem whereD_le (x : Nat) (l : List Nat) : whereD x l ≤ l.length := by
  induction l with
  | nil => exact Nat.le_refl _
  | cons y l ih => rw [whereD]; split <;> simp <;> omega
def insD (x : Nat) (l : List Nat) : List Nat := l.take (whereD x l) ++ x :: l.drop (whereD x l)
theorem whereD_eq (x : Nat) : ∀ (l : List Nat) (k : Nat), k ≤ l.length → (∀ j, j < k → x ≤ l.getD j 0) → (k = l.length ∨ l.getD k 0 < x) → whereD x l = k
  | [], k, hk, _, _ => by simp at hk; subst hk; rfl
  | y :: l, k, hk, h1, h2 => by
    rw [whereD]
    cases k with
    | zero =>
      rcases h2 with h2 | h2
      · simp at h2
      · simp at h2
        rw [if_neg (by omega)]
    | succ k =>
      have h0 := h1 0 (by omega)
      simp at h0
      rw [if_pos h0, whereD_eq x l k (by simpa using hk) (fun j hj => by have := h1 (j + 1) (by omega); simpa using this) (by simpa using h2)]
theorem insD_perm (x : Nat) (l : List Nat) : (insD x l).Perm (x :: l) := by
  unfold insD
  refine List.perm_middle.trans ?_
  rw [List.take_append_drop]
theorem insD_falls (x : Nat) (l : List Nat) (h : l.Pairwise (· ≥ ·)) : (insD x l).Pairwise (· ≥ ·) := by
  induction l with
  | nil => exact List.pairwise_singleton _ _
  | cons y l ih =>
    have p := List.pairwise_cons.1 h
    unfold insD
    rw [whereD]
    by_cases hx : x ≤ y
    · rw [if_pos hx, List.take_succ_cons, List.drop_succ_cons, List.cons_append]
      refine List.pairwise_cons.2 ⟨fun z hz => ?_, ih p.2⟩
      have hz' : z ∈ insD x l := hz
      rcases List.mem_cons.1 ((insD_perm x l).mem_iff.1 hz') with e | e
      · rw [e]; exact hx
      · exact p.1 z e
    · rw [if_neg hx, List.take_zero, List.drop_zero, List.nil_append]
      refine List.pairwise_cons.2 ⟨fun z hz => ?_, h⟩
      rcases List.mem_cons.1 hz with e | e
      · rw [e]; show y ≤ x; omega
      · have := p.1 z e; show z ≤ x; omega
/-- The first counts, those above nought, the greatest first. -/
def sortD (c : List Nat) : Nat → List Nat
  | 0 => []
  | k + 1 => if c.getD k 0 = 0 then sortD c k else insD (c.getD k 0) (sortD c k)
theorem sortD_falls (c : List Nat) (k : Nat) : (sortD c k).Pairwise (· ≥ ·) := by
  induction k with
  | zero => exact List.Pairwise.nil
  | succ k ih => rw [sortD]; split; exact ih; exact insD_falls _ _ ih
theorem sortD_perm (c : List Nat) (k : Nat) : (sortD c k).Perm (((List.range k).filter fun s => decide (0 < c.getD s 0)).map fun s => c.getD s 0) := by
  induction k with
  | zero => exact List.Perm.refl _
  | succ k ih =>
    rw [sortD, List.range_succ, List.filter_append, List.map_append]
    by_cases h : c.getD k 0 = 0
    · rw [if_pos h, List.filter_cons_of_neg (by rw [h]; decide)]
      simpa using ih
    · rw [if_neg h, List.filter_cons_of_pos (p := fun s => decide (0 < c.getD s 0)) (decide_eq_true (by omega : 0 < c.getD k 0))]
      refine (insD_perm _ _).trans ?_
      refine (List.Perm.cons _ ih).trans ?_
      simp only [List.filter_nil, List.map_cons, List.map_nil]
      exact (List.perm_append_singleton _ _).symm
theorem sortD_length (c : List Nat) (k : Nat) : (sortD c k).length ≤ k := by
  rw [(sortD_perm c k).length_eq, List.length_map]
  exact Nat.le_trans (List.length_filter_le _ _) (by simp)
end Go.Proofs.Ythobbdnmhldglaa
/- Package merge's table: how far the path has come, within a level's rounds. No program is named here. -/
namespace Go.Proofs.Ythobbdnmhldglaa

/-- The path's words at a level. -/
def wordsP (N : Nat) (s : Nat → Nat) (L : Nat) : Nat := if L + 1 < N then s L - s (L + 1) else s L
/-- Is a round behind the path's own one? -/
def behindP (n N : Nat) (s q : Nat → Nat) (L i k w : Nat) : Prop := n - s L < i ∨ (n - s L = i ∧ (q L - q (L + 1) < k ∨ (q L - q (L + 1) = k ∧ wordsP N s L < w)))
/-- The next level's place of the path is known, or its round is still to come. -/
def ProgM (CS : List Nat) (N : Nat) (s q : Nat → Nat) (L : Nat) (T Nx : Nat → Nat → Int) (best : Int) (i k w : Nat) : Prop :=
  HasM CS N s q (L + 1) Nx best ∨
  (¬ behindP CS.length N s q L i k w ∧ L < N ∧ 0 < s L ∧ 0 ≤ T (CS.length - s L) (q L - q (L + 1)) ∧ T (CS.length - s L) (q L - q (L + 1)) ≤ (pathC CS s L : Int))
theorem ProgM.start {CS : List Nat} {N : Nat} {s q : Nat → Nat} (hp : PathP CS.length N s q) {L : Nat} {T Nx : Nat → Nat → Int} {best : Int} (h : HasM CS N s q L T best) : ProgM CS N s q L T Nx best 0 1 0 := by
  rcases h with h | ⟨h1, h2, h3, h4⟩
  · exact .inl (.inl h)
  · have hf := hp.falls L h1 h2
    refine .inr ⟨fun hb => ?_, h1, h2, h3, h4⟩
    unfold behindP at hb
    omega
/-- A round that is none changes nothing, if it isn't the path's. -/
theorem ProgM.skip {CS : List Nat} {N : Nat} {s q : Nat → Nat} {L : Nat} {T Nx : Nat → Nat → Int} {best : Int} {i k w i' k' w' : Nat} (h : ProgM CS N s q L T Nx best i k w)
    (hb : L < N → 0 < s L → 0 ≤ T (CS.length - s L) (q L - q (L + 1)) → behindP CS.length N s q L i' k' w' → behindP CS.length N s q L i k w) : ProgM CS N s q L T Nx best i' k' w' := by
  rcases h with h | ⟨h0, h1, h2, h3, h4⟩
  · exact .inl h
  · exact .inr ⟨fun h => h0 (hb h1 h2 h3 h), h1, h2, h3, h4⟩
/-- One round. -/
theorem ProgM.step {CS : List Nat} {N : Nat} {s q : Nat → Nat} (hp : PathP CS.length N s q) (hopt : optM CS N = pathC CS s N) {L : Nat} {T Nx : Nat → Nat → Int} {best : Int} {i k w v : Nat} (h : ProgM CS N s q L T Nx best i k w) (hv : T i k = (v : Nat)) :
    ProgM CS N s q L T (stepN CS.length i k w ((v + preC CS (CS.length - i) : Nat) : Int) Nx) (stepB CS.length i k w ((v + preC CS (CS.length - i) : Nat) : Int) best) i k (w + 1) := by
  rcases h with h | ⟨h0, h1, h2, h3, h4⟩
  · exact .inl (h.keep (Int.natCast_nonneg _))
  · by_cases e : CS.length - s L = i ∧ q L - q (L + 1) = k ∧ wordsP N s L = w
    · obtain ⟨rfl, rfl, rfl⟩ := e
      rw [hv] at h4
      exact .inl (HasM.make hp hopt h1 h2 (by omega) _ rfl)
    · refine .inr ⟨fun hb => h0 ?_, h1, h2, h3, h4⟩
      unfold behindP at hb ⊢
      omega
/-- The words' rounds end where there are no more. -/
theorem ProgM.words {CS : List Nat} {N : Nat} {s q : Nat → Nat} (hp : PathP CS.length N s q) {L : Nat} {T Nx : Nat → Nat → Int} {best : Int} {i k w : Nat} (h : ProgM CS N s q L T Nx best i k w) (hw : 2 * k < w ∨ CS.length < i + w) : ProgM CS N s q L T Nx best i (k + 1) 0 := by
  refine h.skip fun h1 h2 _ hb => ?_
  have ha := hp.next L h1
  have hf := hp.falls L h1 h2
  have hl := hp.le L h1
  have hww : wordsP N s L ≤ 2 * (q L - q (L + 1)) ∧ wordsP N s L ≤ s L := by
    unfold wordsP
    split
    · rename_i hN
      have h4 := hp.next (L + 1) hN
      have h5 := hp.mono L hN
      refine ⟨?_, by omega⟩
      rcases Nat.eq_zero_or_pos (s (L + 1)) with e | e
      · have := hp.none (N - (L + 1)) (L + 1) (by omega) (.inl (by omega))
        omega
      · have h6 := hp.falls (L + 1) hN e
        omega
    · have : q (L + 1) = 0 := by rw [show L + 1 = N by omega]; exact hp.last
      omega
  unfold behindP at hb ⊢
  omega
theorem ProgM.none {CS : List Nat} {N : Nat} {s q : Nat → Nat} {L : Nat} {T Nx : Nat → Nat → Int} {best : Int} {i k : Nat} (h : ProgM CS N s q L T Nx best i k 0) (hT : T i k < 0) : ProgM CS N s q L T Nx best i (k + 1) 0 := by
  refine h.skip fun h1 h2 h3 hb => ?_
  unfold behindP at hb ⊢
  rcases Nat.lt_trichotomy (CS.length - s L) i with e | e | e
  · omega
  · rcases Nat.lt_trichotomy (q L - q (L + 1)) k with e2 | e2 | e2
    · omega
    · rw [e, e2] at h3
      omega
    · omega
  · omega
theorem ProgM.opens {CS : List Nat} {N : Nat} {s q : Nat → Nat} (hp : PathP CS.length N s q) {L : Nat} {T Nx : Nat → Nat → Int} {best : Int} {i k : Nat} (h : ProgM CS N s q L T Nx best i k 0) (hk : CS.length < k) : ProgM CS N s q L T Nx best (i + 1) 1 0 := by
  refine h.skip fun h1 h2 _ hb => ?_
  have ha := hp.next L h1
  have hf := hp.falls L h1 h2
  have hl := hp.le L h1
  unfold behindP at hb ⊢
  omega
theorem ProgM.level {CS : List Nat} {N : Nat} {s q : Nat → Nat} {L : Nat} {T Nx : Nat → Nat → Int} {best : Int} {i k : Nat} (h : ProgM CS N s q L T Nx best i k 0) (hi : CS.length < i) : HasM CS N s q (L + 1) Nx best := by
  rcases h with h | ⟨h0, h1, h2, h3, h4⟩
  · exact h
  · exact absurd (by unfold behindP; omega) h0
end Go.Proofs.Ythobbdnmhldglaa
/- Package merge's table: how it begins, and its bounds. No program is named here. -/
namespace Go.Proofs.Ythobbdnmhldglaa

def firstT : Nat → Nat → Int := fun i k => if i = 0 ∧ k = 1 then 0 else -1
theorem firstT_low (CS : List Nat) (N : Nat) (h : 2 ≤ CS.length) : LowM CS N 0 firstT (-1) := by
  refine ⟨fun a b hab => ?_, .inl (by omega)⟩
  unfold firstT at hab ⊢
  split at hab
  · rename_i h1
    rw [if_pos h1]
    obtain ⟨rfl, rfl⟩ := h1
    exact DpInv.start CS N h
  · omega
theorem firstT_has {CS : List Nat} {N : Nat} {s q : Nat → Nat} (hp : PathP CS.length N s q) (hN : 1 ≤ N) (h : 2 ≤ CS.length) : HasM CS N s q 0 firstT (-1) := by
  have h0 := hp.s0
  have h1 := hp.q0
  have h2 := hp.next 0 (by omega)
  refine .inr ⟨by omega, by omega, ?_⟩
  rw [show CS.length - s 0 = 0 by omega, show q 0 - q (0 + 1) = 1 by omega]
  unfold firstT
  rw [if_pos ⟨rfl, rfl⟩]
  exact ⟨Int.le_refl _, Int.natCast_nonneg _⟩
def BndM (B : Nat) (T : Nat → Nat → Int) : Prop := ∀ a b, -1 ≤ T a b ∧ T a b ≤ (B : Int)
theorem firstT_bnd : BndM 0 firstT := by
  intro a b
  unfold firstT
  split <;> omega
theorem none_bnd (B : Nat) : BndM B (fun _ _ => -1) := fun _ _ => ⟨Int.le_refl _, by show (-1 : Int) ≤ (B : Int); omega⟩
theorem BndM.step {B n i k w : Nat} {T : Nat → Nat → Int} {cost : Int} (h : BndM B T) (h0 : 0 ≤ cost) (hc : cost ≤ (B : Int)) : BndM B (stepN n i k w cost T) := by
  intro a b
  unfold stepN
  split
  · dsimp only
    split
    · omega
    · exact h a b
  · exact h a b
theorem LowM.fresh {CS : List Nat} {N L : Nat} {T : Nat → Nat → Int} {best : Int} (h : LowM CS N L T best) : LowM CS N (L + 1) (fun _ _ => -1) best := ⟨fun a b hab => absurd hab (by show ¬ (0 : Int) ≤ -1; decide), h.2⟩
theorem none_set (T : Nat → Nat → Int) (h : ∀ a b, T a b = -1) : (fun i k => if i = 0 ∧ k = 1 then 0 else T i k) = firstT := by
  funext i k
  unfold firstT
  split
  · rfl
  · exact h i k
/-- The cases of one round. -/
theorem stepN_no {n i k w : Nat} {cost : Int} {T : Nat → Nat → Int} (h : ¬ (0 < min (2 * k - w) n ∧ i + w < n ∧ min (2 * k - w) n ≤ n - i - w ∧ (T (i + w) (min (2 * k - w) n) < 0 ∨ cost < T (i + w) (min (2 * k - w) n)))) : stepN n i k w cost T = T := if_neg h
theorem stepB_no {n i k w : Nat} {cost best : Int} (h : ¬ (min (2 * k - w) n = 0 ∧ i + w = n ∧ (best < 0 ∨ cost < best))) : stepB n i k w cost best = best := if_neg h
theorem stepN_yes {n i k w : Nat} {cost : Int} {T : Nat → Nat → Int} (h : 0 < min (2 * k - w) n ∧ i + w < n ∧ min (2 * k - w) n ≤ n - i - w ∧ (T (i + w) (min (2 * k - w) n) < 0 ∨ cost < T (i + w) (min (2 * k - w) n))) : stepN n i k w cost T = fun a b => if a = i + w ∧ b = min (2 * k - w) n then cost else T a b := if_pos h
theorem stepB_yes {n i k w : Nat} {cost best : Int} (h : min (2 * k - w) n = 0 ∧ i + w = n ∧ (best < 0 ∨ cost < best)) : stepB n i k w cost best = cost := if_pos h
end Go.Proofs.Ythobbdnmhldglaa

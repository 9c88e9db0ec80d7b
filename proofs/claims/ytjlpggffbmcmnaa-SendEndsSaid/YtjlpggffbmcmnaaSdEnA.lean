/- What SendEnds counts: how many numbers are acknowledged, and the map of those that were sent. -/
import Derived.Test.YtjlpggffbmcmnaaSdF
namespace Go.Proofs.Ytjlpggffbmcmnaa
open Go Go.RowKit Go.Maps Go.MapKept Go.ChangeMaps
set_option maxRecDepth 100000

/-- How many of m places from b on are acknowledged. -/
def cN (A : Nat → Bool) (b m : Nat) : Nat := ((List.range m).filter fun e => A (b + e)).length
theorem cN_succ (A : Nat → Bool) (b m : Nat) : cN A b (m + 1) = cN A b m + (if A (b + m) = true then 1 else 0) := by
  unfold cN
  rw [List.range_succ, List.filter_append, List.length_append]
  by_cases h : A (b + m) = true
  · rw [if_pos h]; simp [h]
  · rw [if_neg h]; simp [h]
theorem cN_le (A : Nat → Bool) (b m : Nat) : cN A b m ≤ m := by
  unfold cN
  exact Nat.le_trans (List.length_filter_le _ _) (by simp)
theorem cN_more (A : Nat → Bool) (b s k : Nat) (hbs : b ≤ s) (hA : ∀ i, A i = true → b < i ∧ i < s) : cN A b (s + k - b) = cN A b (s - b) := by
  induction k with
  | zero => rfl
  | succ k ih =>
    rw [show s + (k + 1) - b = s + k - b + 1 by omega, cN_succ, ih, if_neg]
    · rfl
    · intro h
      have := hA _ h
      omega
theorem cN_first (A : Nat → Bool) (b s m : Nat) (hA : A b = false) : cN A b (m + 1) ≤ cN (ackA A (b + 1) s 0 32) (b + 1) m + 1 := by
  have hz : ∀ i, ackA A (b + 1) s 0 32 i = (A i && decide (b + 1 + 1 ≤ i)) := fun i => by
    unfold ackA
    rw [show bitB 0 (i - (b + 1) - 1) = false by unfold bitB; simp, Bool.and_false, Bool.or_false]
  induction m with
  | zero =>
    rw [cN_succ, Nat.add_zero, if_neg (by rw [hA]; decide)]
    show 0 + 0 ≤ _
    omega
  | succ m ih =>
    rw [cN_succ, cN_succ (ackA A (b + 1) s 0 32), hz]
    rcases Nat.eq_zero_or_pos m with h | h
    · subst h
      have h0 : cN A b (0 + 1) = 0 := by
        rw [cN_succ, Nat.add_zero, if_neg (by rw [hA]; decide)]
        rfl
      rw [h0]
      split <;> omega
    · rw [decide_eq_true (show b + 1 + 1 ≤ b + 1 + m by omega), Bool.and_true, show b + (m + 1) = b + 1 + m by omega]
      split <;> omega
theorem bitB_pow (e k : Nat) : bitB (2 ^ e) k = decide (k = e) := by
  unfold bitB
  by_cases h : k = e
  · subst h
    rw [Nat.div_self (Nat.pow_pos (by decide))]; simp
  · rw [decide_eq_false h]
    apply decide_eq_false
    rcases Nat.lt_or_gt_of_ne h with h | h
    · have : 2 ^ e = 2 ^ k * (2 * 2 ^ (e - k - 1)) := by
        rw [← Nat.pow_succ', ← Nat.pow_add]; congr 1; omega
      rw [this, Nat.mul_div_cancel_left _ (Nat.pow_pos (by decide))]
      omega
    · rw [Nat.div_eq_of_lt (Nat.pow_lt_pow_right (by decide) h)]; decide
theorem cN_set (A : Nat → Bool) (b s pl : Nat) (h1 : b < pl) (h2 : pl < s) (hs : s ≤ b + 32) (hA : A pl = false) (hAb : ∀ i, A i = true → b < i ∧ i < s) : cN (ackA A b s (2 ^ (pl - b - 1)) 32) b (s - b) = cN A b (s - b) + 1 := by
  have hz : ∀ i, i < s → ackA A b s (2 ^ (pl - b - 1)) 32 i = (A i || decide (i = pl)) := fun i hi => by
    unfold ackA
    rw [bitB_pow]
    by_cases e : i = pl
    · subst e
      rw [decide_eq_true (show b + 1 ≤ i ∧ i < s ∧ i < b + 1 + 32 by omega), decide_eq_true (show i - b - 1 = i - b - 1 from rfl), decide_eq_true (show i = i from rfl)]; simp
    · rw [decide_eq_false e, Bool.or_false]
      cases hi' : A i with
      | true => have := hAb i hi'; rw [decide_eq_true (show b + 1 ≤ i by omega)]; simp
      | false =>
        rw [Bool.false_and, Bool.false_or]
        by_cases h3 : b + 1 ≤ i
        · rw [decide_eq_false (show ¬ (i - b - 1 = pl - b - 1) by omega), Bool.and_false]
        · rw [decide_eq_false (show ¬ (b + 1 ≤ i ∧ i < s ∧ i < b + 1 + 32) by omega), Bool.false_and]
  have key : ∀ m, m ≤ s - b → cN (ackA A b s (2 ^ (pl - b - 1)) 32) b m = cN A b m + (if pl < b + m then 1 else 0) := by
    intro m hm
    induction m with
    | zero => rw [if_neg (by omega)]; rfl
    | succ m ih =>
      rw [cN_succ, cN_succ, ih (by omega), hz _ (by omega)]
      by_cases e : b + m = pl
      · have h4 : ¬ pl < b + m := by omega
        have h5 : pl < b + (m + 1) := by omega
        rw [if_neg h4, if_pos h5, e, hA]
        simp
      · rw [decide_eq_false e, Bool.or_false]
        by_cases h3 : pl < b + m
        · rw [if_pos h3, if_pos (show pl < b + (m + 1) by omega)]; omega
        · rw [if_neg h3, if_neg (show ¬ pl < b + (m + 1) by omega)]; omega
  rw [key _ (Nat.le_refl _), if_pos (by omega)]
/-- The element of a list of open numbers. -/
theorem openK_at (f b : Nat) (A : Nat → Bool) (m k : Nat) (hk : k < (openK f b A m).length) : ∃ e, e < m ∧ A (b + e) = false ∧ (openK f b A m)[k]? = some (numU f (b + e)) := by
  unfold openK at hk ⊢
  rw [List.length_map] at hk
  have hmem := List.getElem_mem hk
  rw [List.mem_filter, List.mem_range] at hmem
  refine ⟨_, hmem.1, by simpa using hmem.2, ?_⟩
  rw [List.getElem?_map, List.getElem?_eq_getElem hk]
  rfl
theorem openK_pos (f b : Nat) (A : Nat → Bool) (m : Nat) (hA : A b = false) : 0 < (openK f b A (m + 1)).length := by
  induction m with
  | zero =>
    rw [openK_succ, if_neg (by rw [Nat.add_zero, hA]; decide)]
    simp [openK]
  | succ m ih =>
    rw [openK_succ, List.length_append]; omega

def rdI : Value → Option (DataW Unit × List MemPlace)
  | .int k n => some (.lit (.int k n), [])
  | _ => none
theorem rdI_inv {v : Value} {y : DataW Unit × List MemPlace} (h : rdI v = some y) : ∃ k n, v = .int k n ∧ y = (.lit (.int k n), []) := by
  unfold rdI at h
  split at h
  · exact ⟨_, _, rfl, (Option.some.inj h).symm⟩
  · cases h
/-- The map of the numbers of the places ahead of s, each once. -/
def EndMap (w : World) (mb n f s : Nat) : Prop := ∃ D : DataW Unit, w.ownsMap Try.prog 35 rdI mb n D ∧ (∀ i, i < 2147483648 → Maps.has D (.int .u32 (numU f i : Nat)) = decide (i < s)) ∧
  (∀ (kl : Lit) (z : DataW Unit), Maps.has D kl = true → D.atKey kl z = .lit (.int .i64 1)) ∧ Maps.size D = s
theorem EndMap.lt {w : World} {mb n f s : Nat} (h : EndMap w mb n f s) : mb < w.heap.size := by
  obtain ⟨D, h, _⟩ := h; exact h.lt
theorem EndMap.kept {S : Nat → Prop} {w w' : World} {mb n f s : Nat} (h : EndMap w mb n f s) (ht : Touch S w w') (hn : ¬ S mb) : EndMap w' mb n f s := by
  have hb := ht.block mb h.lt hn
  obtain ⟨D, ⟨es, clock, h1, h2⟩, h3⟩ := h
  exact ⟨D, ⟨es, clock, hb.trans h1, h2⟩, h3⟩
theorem zeroI (w : World) : (zeroValue 3).run Try.prog w = .ok (.int .i64 0) w := by kernel_rfl
theorem lit_numU {f i j : Nat} (hi : i < 2147483648) (hj : j < 2147483648) (h : i ≠ j) : (Lit.int .u32 (numU f i : Nat)) ≠ Lit.int .u32 (numU f j : Nat) := fun e => by
  injection e with _ e
  exact h (numU_inj hi hj (Int.ofNat.inj e))
theorem EndMap.put {w : World} {mb n f s : Nat} (h : EndMap w mb n f s) (hs : s < 2147483648) (hn : n < maxLen) :
    (Instr.lookup 59 (.map (some mb)) (.int .u32 (numU f s : Nat)) false).run Try.prog w = .ok (.int .i64 0) w ∧
    ∃ w', (Instr.mapUpdate 59 (.map (some mb)) (.int .u32 (numU f s : Nat)) (.int .i64 1)).run Try.prog w = .ok () w' ∧ EndMap w' mb (n + 1) f (s + 1) ∧ w.grownBy w' (some mb) := by
  obtain ⟨D, hown, hhas, hone, hsz⟩ := h
  have ht := hown.tidy Try.keyedU
  have hk : WideAt.IsKeyLit (.int .u32 (numU f s : Nat)) := trivial
  have hno : Maps.has D (.int .u32 (numU f s : Nat)) = false := by rw [hhas s hs, decide_eq_false (Nat.lt_irrefl s)]
  refine ⟨?_, ?_⟩
  · obtain ⟨v, ps, hrun, hv⟩ := hown.lookup Try.keyedU Try.underlying59 (zeroI w) (show rdI (.int .i64 0) = some (.lit (.int .i64 0), []) from rfl) (keyU (numU_lt f s))
    rw [atKey_of_not_has hno] at hv
    obtain ⟨k, m, rfl, e⟩ := rdI_inv hv
    injection e with e _
    injection e with e
    injection e with e1 e2
    subst e1; subst e2
    exact hrun
  · obtain ⟨w', h1, h2, h3⟩ := hown.update Try.keyedU Try.underlying59 hn (keyU (numU_lt f s)) (show rdI (.int .i64 1) = some (.lit (.int .i64 1), []) from rfl)
    refine ⟨w', h1, ⟨_, h2, fun i hi => ?_, fun kl z hkl => ?_, ?_⟩, h3⟩
    · by_cases e : i = s
      · subst e; rw [has_put_same ht.isMap hk, decide_eq_true (by omega)]
      · rw [has_put_other (lit_numU hi hs e), hhas i hi, decide_eq_decide]; omega
    · by_cases e : kl = .int .u32 (numU f s : Nat)
      · subst e; exact atKey_put_same ht.isMap hk _ _
      · rw [has_put_other e] at hkl
        rw [atKey_put_other e]; exact hone kl z hkl
    · rw [size_put ht, hno, hsz]; rfl
theorem EndMap.made (w : World) (f : Nat) : EndMap (w.alloc (.map #[] 0)) w.heap.size 0 f 0 := ⟨_, World.ownsMap_made w _ _ _, fun i _ => by rw [decide_eq_false (Nat.not_lt_zero i)]; rfl, fun _ _ h => (by cases h), rfl⟩
theorem EndMap.mono {w : World} {mb n n' f s : Nat} (h : EndMap w mb n f s) (hn : n ≤ n') : EndMap w mb n' f s := by
  obtain ⟨D, h, h'⟩ := h; exact ⟨D, h.mono hn, h'⟩
end Go.Proofs.Ytjlpggffbmcmnaa

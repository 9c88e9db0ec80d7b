/- Package match's tokens of one byte again and again; plain lists. -/
import Derived.Test.YtbjkoepldccaaaaMatQ
namespace Go.Proofs.Ytbjkoepldccaaaa
open Go Go.RowKit Go.Maps
set_option maxRecDepth 100000

theorem rep_get (b : UInt8) (n k : Nat) (h : k < n) : (List.replicate n b).getD k 0 = b := by
  rw [List.getD_eq_getElem?_getD, List.getElem?_replicate, if_pos h]; rfl
theorem look_first (X : List UInt8) (tries : Nat) : lookU X 0 tries = (0, 0) := by
  unfold lookU
  have : candP 0 tries (allP X 0) = [] := by simp [candP, allP]
  rw [this]
  split
  · rfl
  · rfl
theorem look_run1 (b : UInt8) (n a tries : Nat) (ha : 1 ≤ a) (h3 : a + 3 ≤ n) (ht : 1 ≤ tries) : lookU (List.replicate n b) a tries = (min (n - a) 258, 1) := by
  have hl : (List.replicate n b).length = n := by simp
  obtain ⟨k, rfl⟩ : ∃ k, a = k + 1 := ⟨a - 1, by omega⟩
  obtain ⟨t, rfl⟩ : ∃ t, tries = t + 1 := ⟨tries - 1, by omega⟩
  have hh : hashN (List.replicate n b) k = hashN (List.replicate n b) (k + 1) := hashN_same _ _ _ (fun j hj => by rw [rep_get _ _ _ (by omega), rep_get _ _ _ (by omega)])
  have hc : ∃ r, candP (k + 1) (t + 1) (allP (List.replicate n b) (k + 1)) = k :: r := by
    unfold allP
    rw [List.range_succ, List.reverse_append, List.reverse_singleton, List.singleton_append, List.filter_cons_of_pos (by simpa using hh)]
    unfold candP
    rw [List.takeWhile_cons_of_pos (by simp), List.take_succ_cons]
    exact ⟨_, rfl⟩
  obtain ⟨r, hr⟩ := hc
  have hm : mlen (List.replicate n b) k (k + 1) (min (n - (k + 1)) 258) = min (n - (k + 1)) 258 := mlen_eq _ _ _ _ _ (Nat.le_refl _) (fun j hj => by rw [rep_get _ _ _ (by omega), rep_get _ _ _ (by omega)]) (.inl rfl)
  refine FoundE.look (by omega) ⟨min (n - (k + 1)) 258, 1, ?_, .inr ⟨by omega, rfl, rfl⟩⟩
  rw [hl, hr]
  refine .inr ⟨by omega, k, List.mem_cons_self, by omega, hm, fun q hq => ⟨mlen_le _ _ _ _, fun _ => ?_⟩⟩
  have := allP_lt (List.replicate n b) (k + 1) q ((candP_sub _ _ _).subset (by rw [hr]; exact hq))
  omega
theorem look_run0 (X : List UInt8) (a tries : Nat) (h3 : X.length < a + 3) : lookU X a tries = (0, 0) := by
  unfold lookU
  rw [if_pos h3]

theorem runs_len (b : UInt8) (n lv tr : Nat) (ht : 1 ≤ tr) : ∀ f a, 1 ≤ a → n ≤ a + f → 258 * (tokF (List.replicate n b) lv tr f a (lookU (List.replicate n b) a tr)).length ≤ (n - a) + 516 := by
  have hl : (List.replicate n b).length = n := by simp
  intro f
  induction f with
  | zero => intro a _ _; rw [tokF]; simp
  | succ f ih =>
    intro a ha hf
    by_cases hr : n < a + 3
    · have := tokF_len (List.replicate n b) lv tr (f + 1) a (lookU (List.replicate n b) a tr)
      rw [hl] at this
      omega
    · have hlk := look_run1 b n a tr ha (by omega) ht
      have hn1 : (lookU (List.replicate n b) (a + 1) tr).1 ≤ n - (a + 1) := by
        have := FoundL.le (z := (lookU (List.replicate n b) (a + 1) tr).1) (d := (lookU (List.replicate n b) (a + 1) tr).2) (look_found _ _ _)
        rw [hl] at this
        omega
      rw [tokF, if_neg (by omega), if_neg (by rw [hlk]; simp only; omega), List.length_cons, hlk]
      simp only
      rcases Nat.lt_or_ge 258 (n - a) with h | h
      · have h258 : min (n - a) 258 = 258 := by omega
        rw [h258]
        have := ih (a + 258) (by omega) (by omega)
        omega
      · rw [tokF_end _ _ _ _ _ _ (by omega)]
        simp
theorem runs_tokL (b : UInt8) (n lv : Nat) (h4 : 4 ≤ n) (hl : 1 ≤ lv) : (tokL (List.replicate n b) 0 lv).length ≤ 3 + n / 258 := by
  have hll : (List.replicate n b).length = n := by simp
  have hp : 1 ≤ 2 * 2 ^ lv := by have := Nat.pos_of_ne_zero (n := 2 ^ lv) (by simp); omega
  unfold tokL
  rw [if_neg (by omega), look_first]
  rw [restT_byte _ _ _ _ _ (by omega) (.inl rfl), List.length_cons]
  have := runs_len b n lv (2 * 2 ^ lv) hp (n - 1) 1 (Nat.le_refl _) (by omega)
  unfold restT
  rw [hll]
  simp only [Nat.zero_add]
  omega
end Go.Proofs.Ytbjkoepldccaaaa

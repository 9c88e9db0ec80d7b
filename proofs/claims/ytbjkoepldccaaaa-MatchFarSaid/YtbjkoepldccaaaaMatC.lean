/- Package match: common beginnings, and the best of several places. -/
import Derived.Test.YtbjkoepldccaaaaMatB
namespace Go.Proofs.Ytbjkoepldccaaaa
open Go Go.RowKit Go.Maps

/-- How many of at most n bytes from two places on are the same. -/
def mlen (X : List UInt8) (p a : Nat) : Nat → Nat
  | 0 => 0
  | n + 1 => if X.getD p 0 = X.getD a 0 then mlen X (p + 1) (a + 1) n + 1 else 0
theorem mlen_le (X : List UInt8) (p a n : Nat) : mlen X p a n ≤ n := by
  induction n generalizing p a with
  | zero => exact Nat.le_refl _
  | succ n ih =>
    have := ih (p + 1) (a + 1)
    rw [mlen]
    split <;> omega
theorem mlen_same (X : List UInt8) (p a n k : Nat) (h : k < mlen X p a n) : X.getD (p + k) 0 = X.getD (a + k) 0 := by
  induction n generalizing p a k with
  | zero => simp [mlen] at h
  | succ n ih =>
    rw [mlen] at h
    split at h
    · rename_i h0
      cases k with
      | zero => exact h0
      | succ k =>
        have := ih (p + 1) (a + 1) k (by omega)
        rw [show p + (k + 1) = p + 1 + k by omega, show a + (k + 1) = a + 1 + k by omega]
        exact this
    · omega
theorem mlen_ge (X : List UInt8) (p a n m : Nat) (hm : m ≤ n) (h : ∀ k, k < m → X.getD (p + k) 0 = X.getD (a + k) 0) : m ≤ mlen X p a n := by
  induction n generalizing p a m with
  | zero => omega
  | succ n ih =>
    cases m with
    | zero => exact Nat.zero_le _
    | succ m =>
      have h0 := h 0 (by omega)
      rw [Nat.add_zero, Nat.add_zero] at h0
      rw [mlen, if_pos h0]
      have := ih (p + 1) (a + 1) m (by omega) (fun k hk => by
        have := h (k + 1) (by omega)
        rw [show p + 1 + k = p + (k + 1) by omega, show a + 1 + k = a + (k + 1) by omega]
        exact this)
      omega
theorem mlen_lt (X : List UInt8) (p a n k : Nat) (h : X.getD (p + k) 0 ≠ X.getD (a + k) 0) : mlen X p a n ≤ k := by
  rcases Nat.lt_or_ge k (mlen X p a n) with h1 | h1
  · exact absurd (mlen_same X p a n k h1) h
  · exact h1
theorem mlen_eq (X : List UInt8) (p a n m : Nat) (hm : m ≤ n) (h : ∀ k, k < m → X.getD (p + k) 0 = X.getD (a + k) 0) (hn : m = n ∨ X.getD (p + m) 0 ≠ X.getD (a + m) 0) : mlen X p a n = m := by
  have h1 := mlen_ge X p a n m hm h
  have h2 := mlen_le X p a n
  rcases hn with h3 | h3
  · omega
  · have := mlen_lt X p a n m h3
    omega

/-- Each place knows the next one behind it. -/
def Hang (xs : List Int) : List Nat → Prop
  | [] => True
  | p :: C => xs[p]? = some (headI C) ∧ Hang xs C
theorem Linked.hang {X : List UInt8} {xs : List Int} {ps : List Nat} (h : Linked X xs ps) (hh : Nat) : Hang xs (chainP X ps hh) := by
  induction ps with
  | nil => trivial
  | cons p r ih =>
    unfold chainP
    by_cases e : hashN X p = hh
    · rw [List.filter_cons_of_pos (by simpa using e)]
      refine ⟨?_, ih h.2⟩
      have := h.1
      rw [e] at this
      exact this
    · rw [List.filter_cons_of_neg (by simpa using e)]
      exact ih h.2

/-- The best of the places that were looked at. -/
def Best (X : List UInt8) (a most : Nat) (done : List Nat) (S d : Nat) : Prop :=
  (S = 0 ∧ d = 0 ∧ ∀ q ∈ done, mlen X q a most = 0) ∨
  (1 ≤ S ∧ ∃ p ∈ done, d = a - p ∧ mlen X p a most = S ∧ (∀ q ∈ done, mlen X q a most ≤ S ∧ (mlen X q a most = S → q ≤ p)))
theorem Best.nil (X : List UInt8) (a most : Nat) : Best X a most [] 0 0 := .inl ⟨rfl, rfl, fun _ h => by cases h⟩
theorem Best.le {X : List UInt8} {a most S d : Nat} {done : List Nat} (h : Best X a most done S d) : ∀ q ∈ done, mlen X q a most ≤ S := by
  rcases h with ⟨h1, _, h3⟩ | ⟨_, p, _, _, _, h5⟩
  · intro q hq; rw [h3 q hq]; exact Nat.zero_le _
  · exact fun q hq => (h5 q hq).1
theorem Best.more {X : List UInt8} {a most S d : Nat} {done : List Nat} (h : Best X a most done S d) (p : Nat) (hp : mlen X p a most > S) : Best X a most (done ++ [p]) (mlen X p a most) (a - p) := by
  refine .inr ⟨by omega, p, by simp, rfl, rfl, fun q hq => ?_⟩
  rcases List.mem_append.1 hq with hq | hq
  · have := h.le q hq
    exact ⟨by omega, fun e => by omega⟩
  · obtain rfl : q = p := by simpa using hq
    exact ⟨Nat.le_refl _, fun _ => Nat.le_refl _⟩
theorem Best.same {X : List UInt8} {a most S d : Nat} {done : List Nat} (h : Best X a most done S d) (p : Nat) (hp : mlen X p a most ≤ S) (hlt : ∀ q ∈ done, p < q) : Best X a most (done ++ [p]) S d := by
  rcases h with ⟨h1, h2, h3⟩ | ⟨h1, r, hr, h2, h4, h5⟩
  · refine .inl ⟨h1, h2, fun q hq => ?_⟩
    rcases List.mem_append.1 hq with hq | hq
    · exact h3 q hq
    · obtain rfl : q = p := by simpa using hq
      omega
  · refine .inr ⟨h1, r, List.mem_append_left _ hr, h2, h4, fun q hq => ?_⟩
    rcases List.mem_append.1 hq with hq | hq
    · exact h5 q hq
    · obtain rfl : q = p := by simpa using hq
      have := hlt r hr
      exact ⟨hp, fun _ => by omega⟩

/-- What longest finds of the places of a chain. -/
def FoundR (X : List UInt8) (a most tries : Nat) (C : List Nat) (s d : Nat) : Prop :=
  (s = 0 ∧ d = 0 ∧ (32768 ≤ tries → ∀ q ∈ C, a - q ≤ 32768 → mlen X q a most < 3)) ∨
  (3 ≤ s ∧ ∃ p ∈ C, d = a - p ∧ d ≤ 32768 ∧ mlen X p a most = s ∧ (32768 ≤ tries → ∀ q ∈ C, a - q ≤ 32768 → mlen X q a most ≤ s ∧ (mlen X q a most = s → q ≤ p)))

/-- The loop's end: nothing that is left matters. -/
theorem found_of {X : List UInt8} {a most tries S d : Nat} {done rest : List Nat} (hB : Best X a most done S d) (hf : (done ++ rest).Pairwise (· > ·)) (hd : ∀ q ∈ done, a - q ≤ 32768)
    (hlt : ∀ q ∈ rest, q + done.length + 1 ≤ a) (hm : 3 ≤ most)
    (hend : rest = [] ∨ (∃ p C, rest = p :: C ∧ 32768 < a - p) ∨ (tries = done.length ∧ ∃ p C, rest = p :: C ∧ a - p ≤ 32768) ∨ S = most) :
    if S < 3 then FoundR X a most tries (done ++ rest) 0 0 else FoundR X a most tries (done ++ rest) S d := by
  have key : 32768 ≤ tries → ∀ q ∈ done ++ rest, a - q ≤ 32768 → q ∈ done ∨ (S = most ∧ q ∈ rest) := by
    intro ht q hq hqa
    rcases List.mem_append.1 hq with hq | hq
    · exact .inl hq
    · rcases hend with h | ⟨p, C, h, h2⟩ | ⟨h1, p, C, h, h2⟩ | h
      · rw [h] at hq; cases hq
      · rw [h] at hq hf
        have hf2 := (List.pairwise_append.1 hf).2.1
        rcases List.mem_cons.1 hq with e | e
        · omega
        · have := (List.pairwise_cons.1 hf2).1 q e
          omega
      · have := hlt p (by rw [h]; exact List.mem_cons_self)
        omega
      · exact .inr ⟨h, hq⟩
  split
  · rename_i hS
    refine .inl ⟨rfl, rfl, fun ht q hq hqa => ?_⟩
    rcases key ht q hq hqa with h | ⟨h, _⟩
    · have := hB.le q h; omega
    · omega
  · rename_i hS
    rcases hB with ⟨h1, _, _⟩ | ⟨h1, p, hp, h2, h3, h4⟩
    · omega
    · refine .inr ⟨by omega, p, List.mem_append_left _ hp, h2, by rw [h2]; exact hd p hp, h3, fun ht q hq hqa => ?_⟩
      rcases key ht q hq hqa with h | ⟨h, hr⟩
      · exact h4 q h
      · have h5 := mlen_le X q a most
        have h6 := (List.pairwise_append.1 hf).2.2 p hp q hr
        exact ⟨by omega, fun _ => by omega⟩
end Go.Proofs.Ytbjkoepldccaaaa

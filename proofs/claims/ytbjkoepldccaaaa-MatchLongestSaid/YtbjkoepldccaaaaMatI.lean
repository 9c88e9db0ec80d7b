/- What tokens tell, one more at a time: plain lists. -/
import Derived.Test.YtbjkoepldccaaaaMatC
import Derived.Test.YtbjkoepldccaaaaLzB
namespace Go.Proofs.Ytbjkoepldccaaaa
open Go Go.RowKit Go.Maps
set_option maxRecDepth 100000

theorem expand_snoc (l : List Tok) (t : Tok) : ∀ b r, expandL b l = some r → goodB t = true → t.d ≤ r.length → expandL b (l ++ [t]) = some (tellL t r) := by
  induction l with
  | nil =>
    intro b r h hg hd
    simp only [expandL, Option.some.injEq] at h
    subst h
    rw [List.nil_append, expandL, if_pos ⟨hg, hd⟩, expandL]
  | cons x l ih =>
    intro b r h hg hd
    rw [expandL] at h
    split at h
    · rename_i hx
      rw [List.cons_append, expandL, if_pos hx]
      exact ih _ _ h hg hd
    · exact absurd h (by simp)
theorem take_snoc (X : List UInt8) (k : Nat) (h : k < X.length) : X.take k ++ [X.getD k 0] = X.take (k + 1) := by
  rw [List.getD_eq_getElem?_getD, List.getElem?_eq_getElem h, Option.getD_some]
  exact (List.take_succ_eq_append_getElem h).symm
theorem getD_take (X : List UInt8) (i k : Nat) (h : i < k) : (X.take k).getD i 0 = X.getD i 0 := by
  simp [List.getD_eq_getElem?_getD, List.getElem?_take_of_lt h]
theorem copy_take (X : List UInt8) (at0 d : Nat) (hd : 1 ≤ d) (hda : d ≤ at0) : ∀ n, at0 + n ≤ X.length → (∀ k, k < n → X.getD (at0 - d + k) 0 = X.getD (at0 + k) 0) → copyL n d (X.take at0) = X.take (at0 + n) := by
  intro n
  induction n with
  | zero => intro _ _; rfl
  | succ n ih =>
    intro h1 h2
    have hl : (X.take (at0 + n)).length = at0 + n := by rw [List.length_take]; omega
    rw [copyL_snoc, ih (by omega) (fun k hk => h2 k (by omega)), hl, getD_take _ _ _ (by omega), show at0 + n - d = at0 - d + n by omega, h2 n (by omega), take_snoc _ _ (by omega)]
    rfl
/-- One more match. -/
theorem tell_match {X : List UInt8} {fr at0 p M n : Nat} {l : List Tok} (h : expandL (X.take fr) l = some (X.take at0)) (hM : at0 + M ≤ X.length) (hn3 : 3 ≤ n) (hn : n ≤ 258) (hp : p < at0) (hw : at0 - p ≤ 32768) (hm : mlen X p at0 M = n) :
    expandL (X.take fr) (l ++ [⟨0, (n : Nat), ((at0 - p : Nat) : Int)⟩]) = some (X.take (at0 + n)) := by
  have hnM : n ≤ M := by rw [← hm]; exact mlen_le X p at0 M
  have hl : (X.take at0).length = at0 := by rw [List.length_take]; omega
  have hn0 : ¬ ((n : Int) = 0) := by omega
  rw [expand_snoc l _ _ _ h (by unfold goodB; rw [if_neg hn0]; simp; omega) (by rw [hl]; show ((at0 - p : Nat) : Int) ≤ (at0 : Int); omega)]
  have e : tellL ⟨0, (n : Nat), ((at0 - p : Nat) : Int)⟩ (X.take at0) = copyL n (at0 - p) (X.take at0) := by
    unfold tellL
    rw [if_neg hn0]
    simp
  rw [e, copy_take X at0 (at0 - p) (by omega) (by omega) n (by omega) (fun k hk => by rw [show at0 - (at0 - p) = p by omega]; exact mlen_same X p at0 M k (by omega))]
/-- One more byte. -/
theorem tell_byte {X : List UInt8} {fr at0 : Nat} {l : List Tok} (h : expandL (X.take fr) l = some (X.take at0)) (ha : at0 < X.length) :
    expandL (X.take fr) (l ++ [⟨X.getD at0 0, 0, 0⟩]) = some (X.take (at0 + 1)) := by
  rw [expand_snoc l _ _ _ h (by unfold goodB; simp) (by show (0 : Int) ≤ _; omega)]
  unfold tellL
  rw [if_pos rfl, take_snoc _ _ ha]
end Go.Proofs.Ytbjkoepldccaaaa


/- Tokens that are cut: the plain mathematics of Cover and Cut. -/
import Derived.Test.YtnjgalalnnldiaaLzE
namespace Go.Proofs.Ytnjgalalnnldiaa
open Go Go.RowKit
set_option maxRecDepth 100000

/-- How many bytes a token tells. -/
def toldN (t : Tok) : Nat := max 1 t.n.toNat
def coverN : List Tok → Nat
  | [] => 0
  | t :: r => toldN t + coverN r
def allGood (l : List Tok) : Bool := l.all goodB
def coverZ (l : List Tok) : Int := if allGood l = true then (coverN l : Nat) else -1

theorem toldN_pos (t : Tok) : 1 ≤ toldN t := by unfold toldN; omega
theorem coverN_append (a b : List Tok) : coverN (a ++ b) = coverN a + coverN b := by
  induction a with
  | nil => simp [coverN]
  | cons x a ih => simp [coverN, ih]; omega
theorem good_n {t : Tok} (h : goodB t = true) : 0 ≤ t.n ∧ t.n ≤ 258 := by
  unfold goodB at h
  split at h
  · omega
  · have := of_decide_eq_true h
    omega
theorem toldN_le {t : Tok} (h : goodB t = true) : toldN t ≤ 258 := by
  have := good_n h
  unfold toldN
  omega
theorem coverN_le {l : List Tok} (h : allGood l = true) : coverN l ≤ 258 * l.length := by
  induction l with
  | nil => simp [coverN]
  | cons x l ih =>
    unfold allGood at h ih
    rw [List.all_cons, Bool.and_eq_true] at h
    have h1 := toldN_le h.1
    have h2 := ih h.2
    simp only [coverN, List.length_cons]
    omega
theorem coverN_take_succ (l : List Tok) (k : Nat) (h : k < l.length) : coverN (l.take (k + 1)) = coverN (l.take k) + toldN l[k] := by
  rw [List.take_succ_eq_append_getElem h, coverN_append]
  simp [coverN]
theorem coverN_take_le (l : List Tok) (k : Nat) : coverN (l.take k) ≤ coverN l := by
  have := congrArg coverN (List.take_append_drop k l)
  rw [coverN_append] at this
  omega
theorem allGood_at {l : List Tok} (h : allGood l = true) (k : Nat) (hk : k < l.length) : goodB l[k] = true := by
  unfold allGood at h
  exact List.all_eq_true.1 h _ (List.getElem_mem hk)
theorem allGood_take {l : List Tok} (h : allGood l = true) (k : Nat) : allGood (l.take k) = true := by
  unfold allGood at h ⊢
  exact List.all_eq_true.2 fun x hx => List.all_eq_true.1 h x (List.mem_of_mem_take hx)
theorem allGood_drop {l : List Tok} (h : allGood l = true) (k : Nat) : allGood (l.drop k) = true := by
  unfold allGood at h ⊢
  exact List.all_eq_true.2 fun x hx => List.all_eq_true.1 h x (List.mem_of_mem_drop hx)
theorem allGood_append (a b : List Tok) : allGood (a ++ b) = (allGood a && allGood b) := by unfold allGood; exact List.all_append
theorem allGood_cons (x : Tok) (b : List Tok) : allGood (x :: b) = (goodB x && allGood b) := by unfold allGood; exact List.all_cons
theorem allGood_take_succ (l : List Tok) (k : Nat) (h : k < l.length) : allGood (l.take (k + 1)) = (allGood (l.take k) && goodB l[k]) := by
  rw [List.take_succ_eq_append_getElem h, allGood_append]
  simp [allGood]
theorem allGood_bad {l : List Tok} (k : Nat) (hk : k < l.length) (h : goodB l[k] = false) : allGood l = false := by
  cases e : allGood l with
  | false => rfl
  | true => rw [allGood_at e k hk] at h; cases h

/-- The two parts of a token that is cut. -/
def headT (t : Tok) (n : Nat) : Tok := ⟨t.b, n, t.d⟩
def tailT (t : Tok) (n : Nat) : Tok := ⟨t.b, t.n - n, t.d⟩
/-- Tokens cut behind n bytes. -/
def cutL : List Tok → Nat → Option (List Tok × List Tok)
  | [], n => if n = 0 then some ([], []) else none
  | t :: r, n =>
    if n = 0 then some ([], t :: r)
    else if toldN t ≤ n then (cutL r (n - toldN t)).map fun p => (t :: p.1, p.2)
    else if goodB (headT t n) = true ∧ goodB (tailT t n) = true then some ([headT t n], tailT t n :: r) else none

theorem cutL_at (l : List Tok) (k : Nat) : ∀ n, k ≤ l.length → coverN (l.take k) ≤ n → (coverN (l.take k) = n → k = l.length ∨ True) →
    cutL l n = (cutL (l.drop k) (n - coverN (l.take k))).map fun p => (l.take k ++ p.1, p.2) := by
  induction k generalizing l with
  | zero => intro n _ _ _; simp [coverN]
  | succ k ih =>
    intro n hk hn _
    match l, hk with
    | t :: r, hk =>
      simp only [List.take_succ_cons, coverN, List.drop_succ_cons] at hn ⊢
      have ht := toldN_pos t
      rw [cutL, if_neg (by omega), if_pos (by omega), ih r (n - toldN t) (by simpa using hk) (by omega) (fun _ => .inr trivial)]
      rw [Nat.sub_sub, Option.map_map]
      rfl

/-- At a token's end. -/
theorem cutL_whole (l : List Tok) (k n : Nat) (hk : k ≤ l.length) (hn : coverN (l.take k) = n) : cutL l n = some (l.take k, l.drop k) := by
  rw [cutL_at l k n hk (by omega) (fun _ => .inr trivial), hn, Nat.sub_self]
  cases l.drop k with
  | nil => simp [cutL]
  | cons t r => simp [cutL]
/-- Within a token. -/
theorem cutL_within (l : List Tok) (k n : Nat) (hk : k < l.length) (m : Nat) (hm : 0 < m) (hn : coverN (l.take k) + m = n) (hl : m < toldN l[k]) :
    cutL l n = if goodB (headT l[k] m) = true ∧ goodB (tailT l[k] m) = true then some (l.take k ++ [headT l[k] m], tailT l[k] m :: l.drop (k + 1)) else none := by
  rw [cutL_at l k n (by omega) (by omega) (fun _ => .inr trivial), show n - coverN (l.take k) = m by omega, List.drop_eq_getElem_cons hk, cutL, if_neg (by omega), if_neg (by omega)]
  split <;> rfl

theorem copyL_add (a b d : Nat) (x : List UInt8) : copyL (a + b) d x = copyL b d (copyL a d x) := by
  induction a generalizing x with
  | zero => simp [copyL]
  | succ a ih => rw [show a + 1 + b = (a + b) + 1 by omega]; exact ih _

theorem tellL_length {t : Tok} (h : goodB t = true) (b : List UInt8) : (tellL t b).length = b.length + toldN t := by
  have h0 := good_n h
  unfold tellL toldN
  split
  · rename_i e; rw [List.length_append, e]; rfl
  · rw [copyL_length]; omega
theorem expandL_length (l : List Tok) : ∀ (b r : List UInt8), expandL b l = some r → r.length = b.length + coverN l ∧ b = r.take b.length := by
  induction l with
  | nil => intro b r h; simp [expandL] at h; subst h; simp [coverN]
  | cons t l ih =>
    intro b r h
    rw [expandL] at h
    split at h
    · rename_i hg
      obtain ⟨h1, h2⟩ := ih _ _ h
      rw [tellL_length hg.1] at h1 h2
      refine ⟨by rw [h1, coverN]; omega, ?_⟩
      have h3 : b = (tellL t b).take b.length := by
        unfold tellL
        split
        · simp
        · generalize t.n.toNat = n
          induction n with
          | zero => simp [copyL]
          | succ n ihn => 
            rw [copyL_snoc, List.take_append_of_le_length (by rw [copyL_length]; omega)]
            exact ihn
      rw [h2, List.take_take, Nat.min_eq_left (by omega)] at h3
      exact h3
    · cases h
theorem expandL_append (a c : List Tok) : ∀ b, expandL b (a ++ c) = (expandL b a).bind fun r => expandL r c := by
  induction a with
  | nil => intro b; rfl
  | cons t a ih =>
    intro b
    rw [List.cons_append, expandL, expandL]
    split
    · exact ih _
    · rfl

/-- What a cut comes to. -/
structure Cutting (l : List Tok) (n : Nat) (x y : List Tok) : Prop where
  gx : allGood x = true
  gy : allGood y = true
  cx : coverN x = n
  cy : coverN y = coverN l - n
  lx : x.length ≤ l.length
  ly : y.length ≤ l.length
  ex : ∀ b, expandL b l = (expandL b x).bind fun r => expandL r y
/-- Where tokens can't be cut. -/
def NoCut (l : List Tok) (n : Nat) : Prop := ∃ k, ∃ h : k < l.length, coverN (l.take k) < n ∧ n < coverN (l.take k) + toldN l[k] ∧ (n < coverN (l.take k) + 3 ∨ coverN (l.take k) + toldN l[k] < n + 3)

theorem goodB_of {t : Tok} (h : t.n ≠ 0) : goodB t = decide (t.b.toNat = 0 ∧ 3 ≤ t.n ∧ t.n ≤ 258 ∧ 1 ≤ t.d ∧ t.d ≤ 32768) := if_neg h
theorem tellL_of {t : Tok} (h : t.n ≠ 0) (b : List UInt8) : tellL t b = copyL t.n.toNat t.d.toNat b := if_neg h
theorem split_good {t : Tok} {m : Nat} (h : goodB t = true) (hm : 0 < m) (hl : m < toldN t) : (goodB (headT t m) = true ∧ goodB (tailT t m) = true) ↔ (3 ≤ m ∧ m + 3 ≤ toldN t) := by
  have h0 := good_n h
  have h1 : t.n ≠ 0 := by intro e; unfold toldN at hl; rw [e] at hl; simp at hl; omega
  have h2 : toldN t = t.n.toNat := by unfold toldN; omega
  rw [h2] at hl ⊢
  rw [goodB_of h1] at h
  have h3 := of_decide_eq_true h
  have e1 : (headT t m).n ≠ 0 := by show ((m : Nat) : Int) ≠ 0; omega
  have e2 : (tailT t m).n ≠ 0 := by show t.n - ((m : Nat) : Int) ≠ 0; omega
  rw [goodB_of e1, goodB_of e2, decide_eq_true_iff, decide_eq_true_iff]
  show ((t.b.toNat = 0 ∧ 3 ≤ ((m : Nat) : Int) ∧ ((m : Nat) : Int) ≤ 258 ∧ 1 ≤ t.d ∧ t.d ≤ 32768) ∧ (t.b.toNat = 0 ∧ 3 ≤ t.n - ((m : Nat) : Int) ∧ t.n - ((m : Nat) : Int) ≤ 258 ∧ 1 ≤ t.d ∧ t.d ≤ 32768)) ↔ _
  omega

theorem tell_split {t : Tok} {m : Nat} (h : goodB t = true) (h3 : 3 ≤ m) (hl : m + 3 ≤ toldN t) (b : List UInt8) (hd : t.d ≤ b.length) :
    tellL (tailT t m) (tellL (headT t m) b) = tellL t b ∧ t.d ≤ (tellL (headT t m) b).length := by
  have h0 := good_n h
  have h2 : toldN t = t.n.toNat := by unfold toldN at hl ⊢; omega
  have e1 : (headT t m).n ≠ 0 := by show ((m : Nat) : Int) ≠ 0; omega
  have e2 : (tailT t m).n ≠ 0 := by show t.n - ((m : Nat) : Int) ≠ 0; omega
  rw [tellL_of e1, tellL_of e2, tellL_of (t := t) (by omega)]
  show copyL (t.n - ((m : Nat) : Int)).toNat t.d.toNat (copyL ((m : Nat) : Int).toNat t.d.toNat b) = _ ∧ t.d ≤ ((copyL ((m : Nat) : Int).toNat t.d.toNat b).length : Int)
  rw [← copyL_add, copyL_length]
  refine ⟨?_, by omega⟩
  rw [show ((m : Nat) : Int).toNat + (t.n - ((m : Nat) : Int)).toNat = t.n.toNat by omega]

theorem cutting_of {l : List Tok} {n : Nat} (hg : allGood l = true) (hn : n ≤ coverN l) : (∃ x y, cutL l n = some (x, y) ∧ Cutting l n x y) ∨ (cutL l n = none ∧ NoCut l n) := by
  have hk : ∃ k, k ≤ l.length ∧ coverN (l.take k) ≤ n ∧ (coverN (l.take k) = n ∨ ∃ h : k < l.length, coverN (l.take k) < n ∧ n < coverN (l.take k) + toldN l[k]) := by
    clear hg
    induction l generalizing n with
    | nil => exact ⟨0, Nat.le_refl _, by simp [coverN], .inl (by simp [coverN] at hn ⊢; omega)⟩
    | cons t l ih =>
      have ht := toldN_pos t
      rcases Nat.lt_or_ge n (toldN t) with h | h
      · rcases Nat.eq_zero_or_pos n with h0 | h0
        · exact ⟨0, Nat.zero_le _, by simp [coverN], .inl (by simp [coverN, h0])⟩
        · exact ⟨0, Nat.zero_le _, by simp [coverN], .inr ⟨by simp, by simp [coverN]; exact h0, by simp [coverN]; exact h⟩⟩
      · obtain ⟨k, h1, h2, h3⟩ := ih (n := n - toldN t) (by rw [coverN] at hn; omega)
        refine ⟨k + 1, by simpa using h1, by simp only [List.take_succ_cons, coverN]; omega, ?_⟩
        rcases h3 with h3 | ⟨h3, h4, h5⟩
        · exact .inl (by simp only [List.take_succ_cons, coverN]; omega)
        · exact .inr ⟨by simpa using h3, by simp only [List.take_succ_cons, coverN]; omega, by simp only [List.take_succ_cons, coverN, List.getElem_cons_succ]; omega⟩
  obtain ⟨k, h1, h2, h3⟩ := hk
  rcases h3 with h3 | ⟨hlt, h4, h5⟩
  · left
    have hcov := congrArg coverN (List.take_append_drop k l)
    rw [coverN_append] at hcov
    refine ⟨_, _, cutL_whole l k n h1 h3, allGood_take hg k, allGood_drop hg k, h3, by omega, by simp; omega, by simp, fun b => ?_⟩
    rw [← expandL_append, List.take_append_drop]
  · have hgk := allGood_at hg k hlt
    have hs := split_good (m := n - coverN (l.take k)) hgk (by omega) (by omega)
    have hc := cutL_within l k n hlt (n - coverN (l.take k)) (by omega) (by omega) (by omega)
    by_cases hb : 3 ≤ n - coverN (l.take k) ∧ n - coverN (l.take k) + 3 ≤ toldN l[k]
    · left
      rw [if_pos (hs.2 hb)] at hc
      have hcov := congrArg coverN (List.take_append_drop k l)
      rw [coverN_append, List.drop_eq_getElem_cons hlt, coverN] at hcov
      have h0 := good_n hgk
      have ht : toldN l[k] = l[k].n.toNat := by unfold toldN at hb ⊢; omega
      generalize hm : n - coverN (l.take k) = m at *
      refine ⟨_, _, hc, ?_, ?_, ?_, ?_, ?_, ?_, fun b => ?_⟩
      · rw [allGood_append, allGood_take hg k, allGood_cons, (hs.2 hb).1]; rfl
      · rw [allGood_cons, (hs.2 hb).2, allGood_drop hg]; rfl
      · rw [coverN_append, coverN, coverN]
        unfold toldN
        simp only [headT]
        omega
      · rw [coverN]
        unfold toldN
        simp only [tailT]
        omega
      · simp; omega
      · simp; omega
      · have e1 : expandL b l = expandL b (l.take k ++ (l[k] :: l.drop (k + 1))) := by rw [← List.drop_eq_getElem_cons hlt, List.take_append_drop]
        rw [e1, expandL_append, expandL_append, Option.bind_assoc]
        congr 1
        funext r
        rw [expandL]
        by_cases hd : l[k].d ≤ r.length
        · obtain ⟨p, q⟩ := tell_split hgk hb.1 hb.2 r hd
          rw [if_pos ⟨hgk, hd⟩, expandL, if_pos ⟨(hs.2 hb).1, hd⟩]
          simp only [expandL, Option.bind_some]
          rw [if_pos ⟨(hs.2 hb).2, q⟩, p]
        · rw [if_neg (fun h => hd h.2), expandL, if_neg (fun h => hd h.2)]
          rfl
    · right
      rw [if_neg (fun h => hb (hs.1 h))] at hc
      exact ⟨hc, k, hlt, h4, h5, by omega⟩

/-- NoCut at a place: the only one. -/
theorem NoCut.at {l : List Tok} {n : Nat} (h : NoCut l n) (k : Nat) (hk : k < l.length) (h1 : coverN (l.take k) < n) (h2 : n < coverN (l.take k) + toldN l[k]) : n < coverN (l.take k) + 3 ∨ coverN (l.take k) + toldN l[k] < n + 3 := by
  obtain ⟨j, hj, h3, h4, h5⟩ := h
  have e : j = k := by
    have mono : ∀ a b, a < b → b ≤ l.length → coverN (l.take a) + toldN (l.getD a ⟨0, 0, 0⟩) ≤ coverN (l.take b) := by
      intro a b hab hb
      have ha : a < l.length := by omega
      have e1 : coverN (l.take (a + 1)) = coverN (l.take a) + toldN l[a] := coverN_take_succ l a ha
      have e2 : l.take (a + 1) = (l.take b).take (a + 1) := by rw [List.take_take, Nat.min_eq_left (by omega)]
      have e3 := coverN_take_le (l.take b) (a + 1)
      rw [← e2, e1] at e3
      simpa [List.getD, ha] using e3
    rcases Nat.lt_trichotomy j k with h | h | h
    · have := mono j k h (by omega)
      simp [List.getD, hj] at this
      omega
    · exact h
    · have := mono k j h (by omega)
      simp [List.getD, hk] at this
      omega
  subst e
  exact h5
/-- .. and there is one before the end. -/
theorem NoCut.lt {l : List Tok} {n : Nat} (h : NoCut l n) (hz : ∀ k (hk : k < l.length), ¬ (coverN (l.take k) < n ∧ n < coverN (l.take k) + toldN l[k])) : False := by
  obtain ⟨j, hj, h3, h4, h5⟩ := h
  exact hz j hj ⟨h3, h4⟩
end Go.Proofs.Ytnjgalalnnldiaa

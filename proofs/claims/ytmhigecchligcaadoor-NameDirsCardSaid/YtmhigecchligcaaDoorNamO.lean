
/- Contract: a text cleaned. -/
import Derived.Test.YtmhigecchligcaaDoorNamN
namespace Go.Proofs.YtmhigecchligcaaDoor
open Go Go.RowKit Go.Shelf
set_option maxRecDepth 100000
attribute [local go_sem] Oper.semAt_some

theorem Row.of_ownS {w : World} {base : Nat} {e : TypeId} {v : Value} {n : Nat} {xs : List Value} (h : w.ownsRow base e 1 v n xs) : Row w e v xs := Row.of_own h
/-- The first elements of what a slice owns. -/
theorem owns_upto {W : World} {base : Nat} {e : TypeId} {a : Option Addr} {k q cap : Nat} {xs : List Value} (h : W.ownsRow base e 1 (.slice a k cap) k xs) (hq : q ≤ k) : W.ownsRow base e 1 (.slice a q cap) q (xs.take q) := by
  obtain ⟨h1, h2⟩ := h
  refine ⟨by simp; omega, ?_⟩
  rcases h2 with ⟨h3, h4⟩ | ⟨g, c, cur, h3, h4, h5, h6, h7, h8, h9⟩
  · injection h3 with h5 h6 h7
    subst h5 h7
    obtain rfl : q = 0 := by omega
    exact .inl ⟨rfl, rfl⟩
  · injection h3 with h10 h11 h12
    subst h10 h12
    refine .inr ⟨g, _, cur, rfl, h4, h5, by omega, h7, by omega, ?_⟩
    rw [show q * 1 = q by omega]
    rw [show k * 1 = k by omega] at h9
    have := congrArg (List.take q) h9
    rw [List.take_take, Nat.min_eq_left hq] at this
    exact this
/-- How much parts weigh: their bytes, and one each. -/
def wt (L : List (List UInt8)) : Nat := (L.map fun p => p.length + 1).sum
theorem wt_snoc (L : List (List UInt8)) (p : List UInt8) : wt (L ++ [p]) = wt L + (p.length + 1) := by simp [wt]
theorem wt_drop (L : List (List UInt8)) : wt L.dropLast ≤ wt L := by
  rcases List.eq_nil_or_concat L with rfl | ⟨a, b, rfl⟩
  · simp
  · rw [List.concat_eq_append, List.dropLast_concat, wt_snoc]; omega
theorem cfold_wt (ts : List (List UInt8)) : ∀ L, cfold ts = some L → wt L ≤ wt ts := by
  refine rev_ind (M := fun ts => ∀ L, cfold ts = some L → wt L ≤ wt ts) ?_ (fun a t ih => ?_) ts
  · intro L h
    obtain rfl : [] = L := Option.some.inj h
    exact Nat.le_refl _
  · intro L h
    rw [cfold_snoc] at h
    rw [wt_snoc]
    cases hc : cfold a with
    | none => rw [hc] at h; cases h
    | some M =>
      rw [hc] at h
      have h1 := ih M hc
      simp only [cstep] at h
      split at h
      · obtain rfl := Option.some.inj h; omega
      · split at h
        · split at h
          · cases h
          · obtain rfl := Option.some.inj h
            have := wt_drop M
            omega
        · obtain rfl := Option.some.inj h
          rw [wt_snoc]; omega
theorem join_wt : ∀ (L : List (List UInt8)), L ≠ [] → (Lib.join L [47]).length + 1 = wt L
  | [], h => absurd rfl h
  | [x], _ => by rw [join_sing]; simp [wt]
  | x :: y :: r, _ => by
    have := join_wt (y :: r) (by simp)
    rw [join_cons x (y :: r) (by simp)]
    simp only [wt, List.map_cons, List.sum_cons, List.length_append, List.length_cons] at this ⊢
    omega
theorem join_spl (l : List UInt8) : Lib.join (spl l) [47] = l := by
  induction l with
  | nil => rw [spl, join_sing]
  | cons b r ih =>
    by_cases hb : b = 47
    · subst hb
      rw [show spl (47 :: r) = [] :: spl r by simp [spl], join_cons _ _ (spl_ne r), ih]; rfl
    · obtain ⟨x, q, hx⟩ := List.exists_cons_of_ne_nil (spl_ne r)
      rw [hx] at ih
      rw [spl_cons b r x q hb hx]
      cases q with
      | nil => rw [join_sing] at ih ⊢; rw [ih]
      | cons y q => rw [join_cons _ _ (by simp)] at ih ⊢; rw [List.cons_append, ih]
theorem joinT_le (S : ByteArray) (L : List (List UInt8)) (h : cfold (spl S.data.toList) = some L) : (joinT L).size ≤ S.size := by
  show (List.toArray _).size ≤ _
  rw [List.size_toArray]
  by_cases hL : L = []
  · subst hL; simp [Lib.join, List.intercalate]
  · have h1 := join_wt L hL
    have h2 := cfold_wt _ L h
    have h3 := join_wt _ (spl_ne S.data.toList)
    rw [join_spl] at h3
    have h4 : S.data.toList.length = S.size := by simp
    omega

theorem results_cell2 {P : Program} {fn : Func} {p q : Tmp} {ty tz : TypeId} (h : fn.results = #[.cell p ty, .cell q tz]) (tmps : Array Value) (w : World) (a b : Addr) (u v : Value)
    (hp : tmps.getD p undef = .pointer (some a)) (hq : tmps.getD q undef = .pointer (some b)) (ha : w.cell? a = some u) (hb : w.cell? b = some v) (hu : P.underlying ty = some .string) (hv : P.underlying tz = some .bool) :
    (results fn tmps).run P w = .ok (.tuple #[u, v]) w := by
  have hp' : tmps[p]?.getD undef = .pointer (some a) := by simpa using hp
  have hq' : tmps[q]?.getD undef = .pointer (some b) := by simpa using hq
  simp [results, h, hp', hq', asAddr, loadVar, isAgg, Sem.run_bind, run_underlying hu w, run_underlying hv w, go_sem, ha, hb]
end Go.Proofs.YtmhigecchligcaaDoor

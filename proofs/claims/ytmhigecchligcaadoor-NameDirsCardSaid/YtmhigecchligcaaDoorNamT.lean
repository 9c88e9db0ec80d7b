/- Trees of names as plain data: the paths by their numbers, and which are files. No program is named here. -/
import Derived.Test.YtmhigecchligcaaDoorNamO
namespace Go.Proofs.YtmhigecchligcaaDoor
open Go
set_option maxRecDepth 100000

abbrev Path := List (List UInt8)
/-- Paths by number: the first is the top, each stands once, and what it lies in stands there too. -/
structure TreeP (P : List Path) : Prop where
  top : P[0]? = some []
  nodup : P.Nodup
  closed : ∀ p t, p ++ [t] ∈ P → p ∈ P
theorem TreeP.first : TreeP [[]] := ⟨rfl, by simp, fun p t h => by simp at h⟩
theorem TreeP.inj {P : List Path} (h : TreeP P) {i j : Nat} {p : Path} (hi : P[i]? = some p) (hj : P[j]? = some p) : i = j := by
  have hli := (List.getElem?_eq_some_iff.1 hi).1
  exact (List.getElem?_inj hli h.nodup).1 (hi.trans hj.symm)
theorem TreeP.snoc {P : List Path} (h : TreeP P) {d : Nat} {q : Path} {t : List UInt8} (hd : P[d]? = some q) (hn : q ++ [t] ∉ P) : TreeP (P ++ [q ++ [t]]) := by
  have hlt := (List.getElem?_eq_some_iff.1 h.top).1
  refine ⟨by rw [List.getElem?_append_left hlt, h.top], ?_, fun p u hp => ?_⟩
  · rw [List.nodup_append]
    refine ⟨h.nodup, by simp, fun a ha b hb => ?_⟩
    rw [List.mem_singleton.1 hb]
    rintro rfl
    exact hn ha
  · rw [List.mem_append] at hp ⊢
    rcases hp with hp | hp
    · exact .inl (h.closed p u hp)
    · left
      have e := List.mem_singleton.1 hp
      have := (List.append_inj' e rfl).1
      rw [this]
      exact List.mem_of_getElem? hd
theorem TreeP.prefix {P : List Path} (h : TreeP P) {p q : Path} (hq : q ∈ P) (hp : p <+: q) : p ∈ P := by
  obtain ⟨r, rfl⟩ := hp
  induction r using rev_ind with
  | h0 => rw [List.append_nil] at hq; exact hq
  | h1 a t ih =>
    rw [← List.append_assoc] at hq
    exact ih (h.closed _ _ hq)

/-- Is a path a file's? -/
def isF (P : List Path) (F : List Bool) (p : Path) : Prop := ∃ k : Nat, P[k]? = some p ∧ F[k]? = some true
/-- While a name is added: what stood ahead, the parts that were read, and the place's number. -/
structure Adding (P0 : List Path) (F0 : List Bool) (pre : Path) (P : List Path) (F : List Bool) (k : Nat) : Prop where
  tree : TreeP P
  ext : ∃ X, P = P0 ++ X ∧ F = F0 ++ List.replicate X.length false
  only : ∀ p ∈ P, p ∈ P0 ∨ p <+: pre
  at' : P[k]? = some pre
  free : ∀ j, j < pre.length → ¬ isF P0 F0 (pre.take j)
theorem Adding.first {P0 : List Path} {F0 : List Bool} (h : TreeP P0) : Adding P0 F0 [] P0 F0 0 :=
  ⟨h, ⟨[], by simp, by simp⟩, fun p hp => .inl hp, h.top, fun j hj => absurd hj (Nat.not_lt_zero j)⟩
theorem Adding.len {P0 P : List Path} {F0 F : List Bool} {pre : Path} {k : Nat} (h : Adding P0 F0 pre P F k) (hl : F0.length = P0.length) : F.length = P.length := by
  obtain ⟨X, rfl, rfl⟩ := h.ext
  simp [hl]
/-- Is the place a file? -/
theorem Adding.file {P0 P : List Path} {F0 F : List Bool} {pre : Path} {k : Nat} (h : Adding P0 F0 pre P F k) (hl : F0.length = P0.length) : F[k]? = some true ↔ isF P0 F0 pre := by
  obtain ⟨X, rfl, rfl⟩ := h.ext
  have ha := h.at'
  constructor
  · intro hf
    by_cases hk : k < P0.length
    · rw [List.getElem?_append_left hk] at ha
      rw [List.getElem?_append_left (by omega)] at hf
      exact ⟨k, ha, hf⟩
    · rw [List.getElem?_append_right (by omega), List.getElem?_replicate] at hf
      split at hf <;> simp at hf
  · rintro ⟨j, hj, hf⟩
    have hjl := (List.getElem?_eq_some_iff.1 hj).1
    have : k = j := h.tree.inj ha (by rw [List.getElem?_append_left hjl]; exact hj)
    subst this
    rw [List.getElem?_append_left (by omega)]
    exact hf
theorem take_le {pre : Path} {t : List UInt8} {j : Nat} (h : j ≤ pre.length) : (pre ++ [t]).take j = pre.take j := List.take_append_of_le_length h
/-- One part more, that is there. -/
theorem Adding.old {P0 P : List Path} {F0 F : List Bool} {pre : Path} {k j : Nat} {t : List UInt8} (h : Adding P0 F0 pre P F k) (hf : ¬ isF P0 F0 pre) (hj : P[j]? = some (pre ++ [t])) : Adding P0 F0 (pre ++ [t]) P F j := by
  refine ⟨h.tree, h.ext, fun p hp => (h.only p hp).imp id (fun e => e.trans (List.prefix_append _ _)), hj, fun i hi => ?_⟩
  simp at hi
  rw [take_le (by omega)]
  rcases Nat.lt_or_ge i pre.length with h1 | h1
  · exact h.free i h1
  · rw [show i = pre.length by omega, List.take_length]; exact hf
/-- One part more, that is new. -/
theorem Adding.new {P0 P : List Path} {F0 F : List Bool} {pre : Path} {k : Nat} {t : List UInt8} (h : Adding P0 F0 pre P F k) (hf : ¬ isF P0 F0 pre) (hn : pre ++ [t] ∉ P) : Adding P0 F0 (pre ++ [t]) (P ++ [pre ++ [t]]) (F ++ [false]) P.length := by
  refine ⟨h.tree.snoc h.at' hn, ?_, fun p hp => ?_, by simp, fun i hi => ?_⟩
  · obtain ⟨X, rfl, rfl⟩ := h.ext
    refine ⟨X ++ [pre ++ [t]], by simp, ?_⟩
    rw [List.length_append, List.length_singleton, List.replicate_succ', List.append_assoc]
  · rw [List.mem_append] at hp
    rcases hp with hp | hp
    · exact (h.only p hp).imp id (fun e => e.trans (List.prefix_append _ _))
    · rw [List.mem_singleton.1 hp]; exact .inr (List.prefix_refl _)
  · simp at hi
    rw [take_le (by omega)]
    rcases Nat.lt_or_ge i pre.length with h1 | h1
    · exact h.free i h1
    · rw [show i = pre.length by omega, List.take_length]; exact hf
/-- Whether the last part was new. -/
theorem Adding.isNew {P0 P : List Path} {F0 F : List Bool} {pre : Path} {k : Nat} {t : List UInt8} (h : Adding P0 F0 pre P F k) : pre ++ [t] ∈ P ↔ pre ++ [t] ∈ P0 := by
  constructor
  · intro hp
    rcases h.only _ hp with hp | hp
    · exact hp
    · have := hp.length_le
      simp at this
      omega
  · obtain ⟨X, rfl, _⟩ := h.ext
    intro hp
    exact List.mem_append_left _ hp

/-- A tree of these names. -/
structure TreeN (ns : List Path) (P : List Path) (F : List Bool) : Prop where
  tree : TreeP P
  len : F.length = P.length
  mem : ∀ p, p ∈ P ↔ p = [] ∨ ∃ q ∈ ns, p <+: q
  file : ∀ (k : Nat) (p : Path), P[k]? = some p → F[k]? = some (decide (p ∈ ns))
theorem TreeN.first : TreeN [] [[]] [false] :=
  ⟨TreeP.first, rfl, fun p => by simp, fun k p h => by
    rcases k with _ | k
    · rfl
    · simp at h⟩
theorem TreeN.isF {ns P : List Path} {F : List Bool} (h : TreeN ns P F) (p : Path) : isF P F p ↔ p ∈ ns := by
  constructor
  · rintro ⟨k, hk, hf⟩
    rw [h.file k p hk] at hf
    simpa using hf
  · intro hp
    obtain ⟨k, hk⟩ := List.mem_iff_getElem?.1 ((h.mem p).2 (.inr ⟨p, hp, List.prefix_refl _⟩))
    exact ⟨k, hk, by rw [h.file k p hk]; simp [hp]⟩
/-- A name that was added. -/
theorem Adding.done {ns P0 P : List Path} {F0 F : List Bool} {pre : Path} {k : Nat} (h0 : TreeN ns P0 F0) (h : Adding P0 F0 pre P F k) (hn : pre ∉ P0) : TreeN (ns ++ [pre]) P (F.set k true) := by
  have hlen := h.len h0.len
  refine ⟨h.tree, by rw [List.length_set, hlen], fun p => ?_, fun j p hj => ?_⟩
  · constructor
    · intro hp
      rcases h.only p hp with hp | hp
      · rcases (h0.mem p).1 hp with rfl | ⟨q, hq, hpq⟩
        · exact .inl rfl
        · exact .inr ⟨q, List.mem_append_left _ hq, hpq⟩
      · exact .inr ⟨pre, by simp, hp⟩
    · rintro (rfl | ⟨q, hq, hpq⟩)
      · exact List.mem_of_getElem? h.tree.top
      · rw [List.mem_append] at hq
        rcases hq with hq | hq
        · obtain ⟨X, rfl, _⟩ := h.ext
          exact List.mem_append_left _ ((h0.mem p).2 (.inr ⟨q, hq, hpq⟩))
        · rw [List.mem_singleton.1 hq] at hpq
          exact h.tree.prefix (List.mem_of_getElem? h.at') hpq
  · have hjl := (List.getElem?_eq_some_iff.1 hj).1
    have hkl := (List.getElem?_eq_some_iff.1 h.at').1
    rw [List.getElem?_set]
    by_cases hkj : k = j
    · subst hkj
      have : p = pre := Option.some.inj (hj.symm.trans h.at')
      subst this
      rw [if_pos rfl, if_pos (by omega)]
      simp
    · rw [if_neg hkj]
      have hpp : p ≠ pre := fun e => hkj (h.tree.inj h.at' (e ▸ hj))
      obtain ⟨X, rfl, rfl⟩ := h.ext
      by_cases hj0 : j < P0.length
      · rw [List.getElem?_append_left hj0] at hj
        rw [List.getElem?_append_left (by rw [h0.len]; exact hj0), h0.file j p hj]
        simp [hpp]
      · rw [List.getElem?_append_right (by rw [h0.len]; omega), List.getElem?_replicate, if_pos (by simp at hjl; rw [h0.len]; omega)]
        have hnp : p ∉ P0 := fun hp => by
          obtain ⟨i, hi⟩ := List.mem_iff_getElem?.1 hp
          have hil := (List.getElem?_eq_some_iff.1 hi).1
          have := h.tree.inj hj (by rw [List.getElem?_append_left hil]; exact hi)
          omega
        have hns : p ∉ ns := fun hp => hnp ((h0.mem p).2 (.inr ⟨p, hp, List.prefix_refl _⟩))
        simp [hns, hpp]

/-- Does a name stand beside others: is it none of them, is none of them in it, and is it in none of them? -/
def fitsT (ns : List Path) (q : Path) : Prop := ∀ p ∈ ns, ¬ p <+: q ∧ ¬ q <+: p
theorem TreeN.fits {ns P : List Path} {F : List Bool} (h : TreeN ns P F) (q : Path) (hq : q ≠ []) : fitsT ns q ↔ (q ∉ P ∧ ∀ j, j < q.length → ¬ Go.Proofs.YtmhigecchligcaaDoor.isF P F (q.take j)) := by
  constructor
  · intro hf
    refine ⟨fun hp => ?_, fun j hj hi => ?_⟩
    · rcases (h.mem q).1 hp with e | ⟨p, hp, hqp⟩
      · exact hq e
      · exact (hf p hp).2 hqp
    · exact (hf _ ((h.isF _).1 hi)).1 (List.take_prefix _ _)
  · rintro ⟨h1, h2⟩ p hp
    refine ⟨fun hpq => ?_, fun hqp => h1 ((h.mem q).2 (.inr ⟨p, hp, hqp⟩))⟩
    have e : p = q.take p.length := List.prefix_iff_eq_take.1 hpq
    rcases Nat.lt_or_ge p.length q.length with hl | hl
    · exact h2 p.length hl (by rw [← e]; exact (h.isF _).2 hp)
    · have : p = q := by rw [e]; exact List.take_of_length_le hl
      subst this
      exact h1 ((h.mem p).2 (.inr ⟨p, hp, List.prefix_refl _⟩))

/-- Below, by parts. -/
theorem join_app (A B : Path) (hA : A ≠ []) (hB : B ≠ []) : Lib.join (A ++ B) [47] = Lib.join A [47] ++ 47 :: Lib.join B [47] := by
  induction A with
  | nil => exact absurd rfl hA
  | cons x A ih =>
    by_cases h : A = []
    · subst h
      rw [List.cons_append, List.nil_append, join_cons _ _ hB, join_sing]
    · rw [List.cons_append, join_cons _ _ (by simp [h]), ih h, join_cons _ _ h]
      simp
theorem below_iff (s d : List UInt8) : (∃ c, s = d ++ 47 :: c) ↔ (spl d <+: spl s ∧ spl d ≠ spl s) := by
  constructor
  · rintro ⟨c, rfl⟩
    rw [spl_mid]
    refine ⟨List.prefix_append _ _, fun e => ?_⟩
    have := congrArg List.length e
    rw [List.length_append] at this
    exact spl_ne c (List.eq_nil_of_length_eq_zero (by omega))
  · rintro ⟨⟨r, hr⟩, hne⟩
    have hr0 : r ≠ [] := fun e => hne (by rw [← hr, e, List.append_nil])
    refine ⟨Lib.join r [47], ?_⟩
    have h1 := join_spl s
    rw [← hr, join_app _ _ (spl_ne d) hr0, join_spl] at h1
    exact h1.symm
theorem spl_inj {s d : List UInt8} (h : spl s = spl d) : s = d := by
  rw [← join_spl s, h, join_spl]
/-- Of two names: the one is a beginning of the other, by parts. -/
theorem pre_iff (s d : List UInt8) : spl d <+: spl s ↔ (d = s ∨ ∃ c, s = d ++ 47 :: c) := by
  rw [below_iff]
  constructor
  · intro h
    by_cases e : spl d = spl s
    · exact .inl (spl_inj e)
    · exact .inr ⟨h, e⟩
  · rintro (rfl | h)
    · exact List.prefix_refl _
    · exact h.1
end Go.Proofs.YtmhigecchligcaaDoor

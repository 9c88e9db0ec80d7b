/- Plain: what stands in a log's sectors behind a list of notes; its entries in order. -/
import Derived.Test.YtpgjheckdblggaaWlV
namespace Go.Proofs.Ytpgjheckdblggaa
open Go Go.RowKit Go.Maps
set_option maxRecDepth 100000

structure LogAll (secs : List (List UInt8)) (all : List (List UInt8)) : Prop where
  here : ∀ k, 1 ≤ k → k ≤ all.length → all.length < k + secs.length → secs[k % secs.length]? = some (slotB k (all.getD (k - 1) []))
  rest : ∀ q, q < secs.length → (∀ k, 1 ≤ k → k ≤ all.length → k % secs.length ≠ q) → secs[q]? = some (List.replicate 64 0)
  short : ∀ s ∈ all, s.length ≤ 23

theorem LogAll.start (sn : Nat) : LogAll (List.replicate sn (List.replicate 64 0)) [] :=
  ⟨fun k h1 h2 => by simp at h2; omega, fun q hq _ => by simp at hq; simp [hq], fun s hs => by cases hs⟩
theorem mod_far {n k s : Nat} (h1 : k < n) (h2 : n < k + s) : k % s ≠ n % s := by
  intro e
  have h3 := Nat.div_add_mod k s
  have h4 := Nat.div_add_mod n s
  rw [← e] at h4
  rcases Nat.lt_or_ge (n / s) (k / s + 1) with h5 | h5
  · have := Nat.mul_le_mul_left s (show n / s ≤ k / s by omega)
    omega
  · have := Nat.mul_le_mul_left s h5
    rw [Nat.mul_add, Nat.mul_one] at this
    omega
theorem LogAll.put {secs all : List (List UInt8)} (h : LogAll secs all) (h2 : 2 ≤ secs.length) (t : List UInt8) (ht : t.length ≤ 23) : LogAll (secs.set ((all.length + 1) % secs.length) (slotB (all.length + 1) t)) (all ++ [t]) := by
  have hlt : (all.length + 1) % secs.length < secs.length := Nat.mod_lt _ (by omega)
  refine ⟨fun k h1 hk hn => ?_, fun q hq hk => ?_, fun s hs => ?_⟩
  · rw [List.length_append, List.length_singleton] at hk hn
    rw [List.length_set] at hn ⊢
    by_cases e : k = all.length + 1
    · subst e
      rw [List.getElem?_set_self hlt]
      simp [List.getD_eq_getElem?_getD]
    · rw [List.getElem?_set_ne (Ne.symm (mod_far (by omega) hn)), h.here k h1 (by omega) (by omega)]
      have : (all ++ [t]).getD (k - 1) [] = all.getD (k - 1) [] := by simp [List.getD_eq_getElem?_getD, List.getElem?_append_left (show k - 1 < all.length by omega)]
      rw [this]
  · rw [List.length_set] at hq hk
    rw [List.length_append, List.length_singleton] at hk
    rw [List.getElem?_set_ne (hk _ (by omega) (Nat.le_refl _))]
    exact h.rest q hq fun k h1 h3 => hk k h1 (by omega)
  · rcases List.mem_append.1 hs with hs | hs
    · exact h.short s hs
    · simp at hs; subst hs; exact ht

theorem up_to {N s q : Nat} (hs : 1 ≤ s) (k : Nat) (h1 : 1 ≤ k) (h2 : k ≤ N) (h3 : k % s = q) : ∃ k', 1 ≤ k' ∧ k' ≤ N ∧ k' % s = q ∧ N < k' + s := by
  by_cases h : N < k + s
  · exact ⟨k, h1, h2, h3, h⟩
  · exact up_to hs (k + s) (by omega) (by omega) (by rw [Nat.add_mod_right]; exact h3)
termination_by N - k
theorem all_len {all : List (List UInt8)} (h : ∀ s ∈ all, s.length ≤ 23) (k : Nat) : (all.getD k []).length ≤ 23 := by
  rw [List.getD_eq_getElem?_getD]
  cases hk : all[k]? with
  | none => simp
  | some s => exact h s (List.mem_of_getElem? hk)
theorem LogAll.at {secs all : List (List UInt8)} (h : LogAll secs all) (h1 : 1 ≤ secs.length) (hN : all.length < 1000000) {q : Nat} (hq : q < secs.length) {e : En} (he : secs[q]?.bind entOf = some e) :
    1 ≤ e.1 ∧ e.1 ≤ all.length ∧ all.length < e.1 + secs.length ∧ e.1 % secs.length = q ∧ e.2 = all.getD (e.1 - 1) [] := by
  by_cases hk : ∃ k, 1 ≤ k ∧ k ≤ all.length ∧ k % secs.length = q
  · obtain ⟨k, k1, k2, k3⟩ := hk
    obtain ⟨k', a1, a2, a3, a4⟩ := up_to h1 k k1 k2 k3
    have := h.here k' a1 a2 a4
    rw [a3] at this
    rw [this] at he
    have h5 : entOf (slotB k' (all.getD (k' - 1) [])) = some e := he
    rw [ent_slot k' _ (by omega) (by omega) (all_len h.short _)] at h5
    have := Option.some.inj h5
    subst this
    exact ⟨a1, a2, a4, a3, rfl⟩
  · rw [h.rest q hq fun k k1 k2 k3 => hk ⟨k, k1, k2, k3⟩] at he
    have h5 : entOf (List.replicate 64 0) = some e := he
    rw [ent_zero] at h5
    cases h5
theorem pair_mod {s : Nat} : ∀ (secs : List (List UInt8)) (o : Nat), (∀ q e, secs[q]?.bind entOf = some e → e.1 % s = o + q) → (secs.filterMap entOf).Pairwise fun a b => a.1 % s < b.1 % s
  | [], _, _ => List.Pairwise.nil
  | S :: r, o, h => by
    have ih := pair_mod (s := s) r (o + 1) (fun q e he => by have := h (q + 1) e (by simpa using he); omega)
    rw [List.filterMap_cons]
    cases hS : entOf S with
    | none => exact ih
    | some e =>
      refine List.Pairwise.cons (fun x hx => ?_) ih
      obtain ⟨R, hR, hx2⟩ := List.mem_filterMap.1 hx
      obtain ⟨q, hq, hR2⟩ := List.mem_iff_getElem.1 hR
      have h0 := h 0 e (by simpa using hS)
      have h1 := h (q + 1) x (by rw [List.getElem?_cons_succ, List.getElem?_eq_getElem hq, hR2]; exact hx2)
      omega
theorem eq_sorted : ∀ l1 l2 : List En, l1.Pairwise (fun a b => a.1 < b.1) → l2.Pairwise (fun a b => a.1 < b.1) → (∀ e, e ∈ l1 ↔ e ∈ l2) → l1 = l2
  | [], [], _, _, _ => rfl
  | [], y :: r, _, _, h => absurd ((h y).2 List.mem_cons_self) List.not_mem_nil
  | x :: r, [], _, _, h => absurd ((h x).1 List.mem_cons_self) List.not_mem_nil
  | x :: r1, y :: r2, h1, h2, h => by
    obtain ⟨a1, b1⟩ := List.pairwise_cons.1 h1
    obtain ⟨a2, b2⟩ := List.pairwise_cons.1 h2
    have hxy : x = y := by
      rcases List.mem_cons.1 ((h x).1 List.mem_cons_self) with e | e
      · exact e
      · rcases List.mem_cons.1 ((h y).2 List.mem_cons_self) with e' | e'
        · exact e'.symm
        · have := a2 x e; have := a1 y e'; omega
    subst hxy
    rw [eq_sorted r1 r2 b1 b2 fun e => ⟨fun he => ?_, fun he => ?_⟩]
    · rcases List.mem_cons.1 ((h e).1 (List.mem_cons_of_mem _ he)) with e' | e'
      · subst e'; have := a1 e he; omega
      · exact e'
    · rcases List.mem_cons.1 ((h e).2 (List.mem_cons_of_mem _ he)) with e' | e'
      · subst e'; have := a2 e he; omega
      · exact e'

/-- The last notes, as many as there are sectors. -/
def lastT (all : List (List UInt8)) (s : Nat) : List En := (List.range (min all.length s)).map fun i => (all.length - min all.length s + i + 1, all.getD (all.length - min all.length s + i) [])
theorem lastT_len (all : List (List UInt8)) (s : Nat) : (lastT all s).length = min all.length s := by simp [lastT]
theorem entries_are {secs all : List (List UInt8)} (h : LogAll secs all) (h1 : 1 ≤ secs.length) (hN : all.length < 1000000) {es : List En} (hP : es.Perm (secs.filterMap entOf)) (hS : SortedTo es es.length) : es = lastT all secs.length := by
  have hpm := pair_mod (s := secs.length) secs 0 (fun q e he => by
    have hq : q < secs.length := by
      rcases Nat.lt_or_ge q secs.length with hq | hq
      · exact hq
      · rw [List.getElem?_eq_none hq] at he; cases he
    rw [Nat.zero_add]; exact (h.at h1 hN hq he).2.2.2.1)
  have hnd : (es.map fun e => e.1).Nodup := by
    refine ((hP.map fun e => e.1).nodup_iff).2 ?_
    unfold List.Nodup
    rw [List.pairwise_map]
    exact hpm.imp fun hab e => by rw [e] at hab; omega
  refine eq_sorted _ _ ?_ ?_ fun e => ?_
  · rw [List.pairwise_iff_getElem]
    intro i j hi hj hij
    have h2 := hS i j hij hj
    unfold numE at h2
    rw [List.getD_eq_getElem?_getD, List.getD_eq_getElem?_getD, List.getElem?_eq_getElem hi, List.getElem?_eq_getElem hj] at h2
    have h3 := (List.pairwise_iff_getElem.1 hnd) i j (by simpa using hi) (by simpa using hj) hij
    simp at h2 h3
    omega
  · unfold lastT
    rw [List.pairwise_map]
    exact List.pairwise_lt_range.imp fun hab => by show _ < _; omega
  · rw [hP.mem_iff]
    constructor
    · intro he
      obtain ⟨S, hS1, hS2⟩ := List.mem_filterMap.1 he
      obtain ⟨q, hq, hS3⟩ := List.mem_iff_getElem.1 hS1
      obtain ⟨a1, a2, a3, a4, a5⟩ := h.at h1 hN hq (e := e) (by rw [List.getElem?_eq_getElem hq, hS3]; exact hS2)
      refine List.mem_map.2 ⟨e.1 - 1 - (all.length - min all.length secs.length), by rw [List.mem_range]; omega, ?_⟩
      have e1 : all.length - min all.length secs.length + (e.1 - 1 - (all.length - min all.length secs.length)) = e.1 - 1 := by omega
      rw [e1, show e.1 - 1 + 1 = e.1 by omega, ← a5]
    · intro he
      obtain ⟨i, hi, rfl⟩ := List.mem_map.1 he
      rw [List.mem_range] at hi
      have hh := h.here (all.length - min all.length secs.length + i + 1) (by omega) (by omega) (by omega)
      rw [show all.length - min all.length secs.length + i + 1 - 1 = all.length - min all.length secs.length + i by omega] at hh
      exact List.mem_filterMap.2 ⟨_, List.mem_of_getElem? hh, ent_slot _ _ (by omega) (by omega) (all_len h.short _)⟩

end Go.Proofs.Ytpgjheckdblggaa

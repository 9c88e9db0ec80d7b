/- Tables of numbers as slices of slices, each row in a block of its own. No program is named here. -/
import Derived.Test.YthobbdnmhldglaaArr
namespace Go.Proofs.Ythobbdnmhldglaa
open Go Go.RowKit
set_option maxRecDepth 100000

/-- A function's first values. -/
def tblV (n : Nat) (f : Nat → Value) : List Value := (List.range n).map f
theorem tblV_length (n : Nat) (f : Nat → Value) : (tblV n f).length = n := by simp [tblV]
theorem tblV_get (n : Nat) (f : Nat → Value) (k : Nat) (hk : k < n) : (tblV n f)[k]? = some (f k) := by simp [tblV, hk]
theorem tblV_set (n : Nat) (f : Nat → Value) (k : Nat) (x : Value) : (tblV n f).set k x = tblV n (fun j => if j = k then x else f j) := by
  apply List.ext_getElem?
  intro j
  rw [List.getElem?_set]
  by_cases h : k = j
  · subst h
    by_cases hk : k < n
    · simp [tblV, hk]
    · simp [tblV, hk]
  · rw [if_neg h]
    by_cases hj : j < n
    · have h' : ¬ j = k := fun e => h e.symm
      simp [tblV, hj, h']
    · simp [tblV, hj]
theorem tblV_congr (n : Nat) (f g : Nat → Value) (h : ∀ k, k < n → f k = g k) : tblV n f = tblV n g := by
  unfold tblV
  refine List.map_congr_left fun k hk => h k (by simpa using hk)
/-- Numbers as values. -/
def rowZ (n : Nat) (f : Nat → Int) : List Value := tblV n fun k => .int .i64 (f k)
def sliceG (n : Nat) (b : Nat) : Value := .slice (some ⟨b, 0, none⟩) n n

/-- The first m rows of a table. -/
structure MatB (w : World) (tO tI : TypeId) (lo g n m : Nat) (G : Nat → Nat) (T : Nat → Nat → Int) : Prop where
  outer : Row w tO (sliceG n g) (tblV n fun i => if i < m then sliceG n (G i) else .slice none 0 0)
  rows : ∀ i, i < m → Row w tI (sliceG n (G i)) (rowZ n (T i))
  low : lo ≤ g ∧ ∀ i, i < m → lo ≤ G i ∧ G i ≠ g
  apart : ∀ i j, i < m → j < m → i ≠ j → G i ≠ G j
theorem MatB.lt {w : World} {tO tI : TypeId} {lo g n m : Nat} {G : Nat → Nat} {T : Nat → Nat → Int} (h : MatB w tO tI lo g n m G T) : g < w.heap.size ∧ ∀ i, i < m → G i < w.heap.size :=
  ⟨h.outer.lt g rfl, fun i hi => (h.rows i hi).lt (G i) rfl⟩
theorem MatB.kept {S : Nat → Prop} {w w' : World} {tO tI : TypeId} {lo g n m : Nat} {G : Nat → Nat} {T : Nat → Nat → Int} (h : MatB w tO tI lo g n m G T) (ht : Touch S w w') (hg : ¬ S g) (hG : ∀ i, i < m → ¬ S (G i)) : MatB w' tO tI lo g n m G T :=
  ⟨h.outer.kept ht (fun k hk => by cases hk; exact hg), fun i hi => (h.rows i hi).kept ht (fun k hk => by cases hk; exact hG i hi), h.low, h.apart⟩
theorem MatB.still {w w' : World} {tO tI : TypeId} {lo g n m : Nat} {G : Nat → Nat} {T : Nat → Nat → Int} (h : MatB w tO tI lo g n m G T) (ht : Touch (fun _ => False) w w') : MatB w' tO tI lo g n m G T := h.kept ht id (fun _ _ => id)
/-- No row yet. -/
theorem MatB.first {w : World} {tO tI : TypeId} {lo g n : Nat} (G : Nat → Nat) (T : Nat → Nat → Int) (h : Row w tO (sliceG n g) (tblV n fun _ => .slice none 0 0)) (hlo : lo ≤ g) : MatB w tO tI lo g n 0 G T :=
  ⟨by have e : (tblV n fun i => if i < 0 then sliceG n (G i) else .slice none 0 0) = tblV n fun _ => .slice none 0 0 := tblV_congr _ _ _ (fun k _ => if_neg (by omega))
      rw [e]; exact h, fun i hi => absurd hi (Nat.not_lt_zero i), ⟨hlo, fun i hi => absurd hi (Nat.not_lt_zero i)⟩, fun i _ hi => absurd hi (Nat.not_lt_zero i)⟩
/-- One row more: its block, of any numbers. -/
theorem MatB.row {w w2 : World} {tO tI : TypeId} {lo g n m b : Nat} {G : Nat → Nat} {T : Nat → Nat → Int} {f : Nat → Int} (h : MatB w tO tI lo g n m G T) (hm : m < n) (ht : Touch (fun _ => False) w w2) (hb : w.heap.size ≤ b) (hlo : lo ≤ b) (hr : Row w2 tI (sliceG n b) (rowZ n f)) :
    MatB (w2.setCell ⟨g, m, none⟩ (sliceG n b)) tO tI lo g n (m + 1) (fun i => if i = m then b else G i) (fun i => if i = m then f else T i) := by
  have hl := h.lt
  have h2 := h.still ht
  have hbg : b ≠ g := by omega
  refine ⟨?_, fun i hi => ?_, ⟨h.low.1, fun i hi => ?_⟩, fun i j hi hj hij => ?_⟩
  · have h3 := h2.outer.set (k := m) hm (sliceG n b)
    rw [Nat.zero_add, tblV_set] at h3
    have e : (tblV n fun j => if j = m then sliceG n b else if j < m then sliceG n (G j) else .slice none 0 0) = tblV n fun i => if i < m + 1 then sliceG n (if i = m then b else G i) else .slice none 0 0 := by
      refine tblV_congr _ _ _ (fun k _ => ?_)
      by_cases h1 : k = m
      · rw [if_pos h1, if_pos (by omega), if_pos h1]
      · rw [if_neg h1, if_neg h1]
        by_cases h2 : k < m
        · rw [if_pos h2, if_pos (by omega)]
        · rw [if_neg h2, if_neg (by omega)]
    rw [e] at h3
    exact h3
  · have hset : Touch (fun k => k = g) w2 (w2.setCell ⟨g, m, none⟩ (sliceG n b)) := (Touch.refl (fun k => k = g) w2).setCell (p := ⟨g, m, none⟩) (.inl rfl) _
    by_cases h1 : i = m
    · rw [if_pos h1, if_pos h1]
      exact hr.kept hset (fun k hk => by cases hk; exact hbg)
    · rw [if_neg h1, if_neg h1]
      exact (h2.rows i (by omega)).kept hset (fun k hk => by cases hk; exact (h.low.2 i (by omega)).2)
  · by_cases h1 : i = m
    · rw [if_pos h1]; exact ⟨hlo, hbg⟩
    · rw [if_neg h1]; exact h.low.2 i (by omega)
  · by_cases h1 : i = m
    · rw [if_pos h1, if_neg (by omega)]
      have := hl.2 j (by omega)
      omega
    · rw [if_neg h1]
      by_cases h2 : j = m
      · rw [if_pos h2]
        have := hl.2 i (by omega)
        omega
      · rw [if_neg h2]
        exact h.apart i j (by omega) (by omega) hij
/-- A number stored. -/
theorem MatB.set {w : World} {tO tI : TypeId} {lo g n m : Nat} {G : Nat → Nat} {T : Nat → Nat → Int} (h : MatB w tO tI lo g n m G T) (a b : Nat) (ha : a < m) (hb : b < n) (x : Int) :
    MatB (w.setCell ⟨G a, b, none⟩ (.int .i64 x)) tO tI lo g n m G (fun i k => if i = a ∧ k = b then x else T i k) := by
  have ht : Touch (fun k => k = G a) w (w.setCell ⟨G a, b, none⟩ (.int .i64 x)) := (Touch.refl (fun k => k = G a) w).setCell (p := ⟨G a, b, none⟩) (.inl rfl) _
  refine ⟨h.outer.kept ht (fun k hk => by cases hk; exact fun e => (h.low.2 a ha).2 e.symm), fun i hi => ?_, h.low, h.apart⟩
  by_cases h1 : i = a
  · subst h1
    have h3 := (h.rows i hi).set (k := b) hb (.int .i64 x)
    rw [Nat.zero_add] at h3
    have e : (rowZ n (T i)).set b (.int .i64 x) = rowZ n (fun k => if i = i ∧ k = b then x else T i k) := by
      unfold rowZ
      rw [tblV_set]
      refine tblV_congr _ _ _ (fun k _ => ?_)
      dsimp only
      by_cases h2 : k = b
      · rw [if_pos h2, if_pos ⟨rfl, h2⟩]
      · rw [if_neg h2, if_neg (fun e => h2 e.2)]
    rw [e] at h3
    exact h3
  · have e : rowZ n (fun k => if i = a ∧ k = b then x else T i k) = rowZ n (T i) := tblV_congr _ _ _ (fun k _ => by simp only; rw [if_neg (fun e => h1 e.1)])
    rw [e]
    exact (h.rows i hi).kept ht (fun k hk => by cases hk; exact h.apart i a hi ha h1)
theorem MatB.cell {w : World} {tO tI : TypeId} {lo g n m : Nat} {G : Nat → Nat} {T : Nat → Nat → Int} (h : MatB w tO tI lo g n m G T) (i k : Nat) (hi : i < m) (hn : i < n) (hk : k < n) :
    w.cell? ⟨g, i, none⟩ = some (sliceG n (G i)) ∧ w.cell? ⟨G i, k, none⟩ = some (.int .i64 (T i k)) ∧ w.frozen? ⟨G i, k, none⟩ = false := by
  have h1 := h.outer.cells.2 i _ (tblV_get n _ i hn)
  have h2 := (h.rows i hi).cells.2 k _ (tblV_get n _ k hk)
  have h3 := (h.rows i hi).free (k := k)
  rw [Nat.zero_add] at h1 h2 h3
  rw [if_pos hi] at h1
  exact ⟨h1, h2, h3⟩
theorem MatB.congr {w : World} {tO tI : TypeId} {lo g n m : Nat} {G : Nat → Nat} {T T' : Nat → Nat → Int} (h : MatB w tO tI lo g n m G T) (he : ∀ i k, i < m → k < n → T i k = T' i k) : MatB w tO tI lo g n m G T' :=
  ⟨h.outer, fun i hi => by
    have e : rowZ n (T' i) = rowZ n (T i) := tblV_congr _ _ _ (fun k hk => by rw [he i k hi hk])
    rw [e]; exact h.rows i hi, h.low, h.apart⟩
end Go.Proofs.Ythobbdnmhldglaa

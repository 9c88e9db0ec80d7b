
/- Contracts of layer 5's plain program over the translated program: its tables of symbols, and which row a number has. -/
import Derived.Test.YtnjgalalnnldiaaLzC
import Derived.Maps.AppendAt
import Derived.Deep.DeepCutAuto
namespace Go.Proofs.Ytnjgalalnnldiaa
open Go Go.RowKit
set_option maxRecDepth 100000
set_option maxRecDepth 100000

abbrev Tr := Nat × Nat × Nat
def trV (r : Tr) : List Value := [.int .i64 (r.1 : Nat), .int .i64 (r.2.1 : Nat), .int .i64 (r.2.2 : Nat)]
def trsV (l : List Tr) : List Value := l.flatMap trV
theorem trsV_length (l : List Tr) : (trsV l).length = l.length * 3 := by
  induction l with
  | nil => rfl
  | cons x l ih =>
    have : trsV (x :: l) = trV x ++ trsV l := by simp [trsV]
    rw [this, List.length_append, ih, List.length_cons]
    simp [trV]
    omega
theorem trsV_append (a b : List Tr) : trsV (a ++ b) = trsV a ++ trsV b := by simp [trsV]
theorem trsV_get (l : List Tr) (j : Nat) (x : Tr) (h : l[j]? = some x) : (trsV l)[j * 3]? = some (.int .i64 (x.1 : Nat)) ∧ (trsV l)[j * 3 + 1]? = some (.int .i64 (x.2.1 : Nat)) ∧ (trsV l)[j * 3 + 2]? = some (.int .i64 (x.2.2 : Nat)) := by
  induction l generalizing j with
  | nil => simp at h
  | cons y l ih =>
    have e : trsV (y :: l) = .int .i64 (y.1 : Nat) :: .int .i64 (y.2.1 : Nat) :: .int .i64 (y.2.2 : Nat) :: trsV l := by simp [trsV, trV]
    rw [e]
    cases j with
    | zero => simp at h; subst h; simp
    | succ j =>
      simp at h
      have := ih j h
      rw [show (j + 1) * 3 = j * 3 + 1 + 1 + 1 by omega]
      simpa using this

/-- A slice of rows, to be read. -/
def Trs (w : World) (v : Value) (xs : List Tr) : Prop :=
  ∃ a cap, v = .slice a xs.length cap ∧ xs.length ≤ cap ∧ cap ≤ maxLen ∧ (xs = [] ∨ ∃ g off, a = some ⟨g, off, none⟩ ∧ ∀ j x, xs[j]? = some x → w.cell? ⟨g, off + j * 3, none⟩ = some (.int .i64 (x.1 : Nat)) ∧ w.cell? ⟨g, off + j * 3 + 1, none⟩ = some (.int .i64 (x.2.1 : Nat)) ∧ w.cell? ⟨g, off + j * 3 + 2, none⟩ = some (.int .i64 (x.2.2 : Nat)))
theorem Trs.kept {S : Nat → Prop} {w w' : World} {v : Value} {xs : List Tr} (h : Trs w v xs) (ht : Touch S w w') (hn : ∀ g, v.ownBlock = some g → ¬ S g) : Trs w' v xs := by
  obtain ⟨a, cap, rfl, h1, h2, h3⟩ := h
  refine ⟨a, cap, rfl, h1, h2, ?_⟩
  rcases h3 with h3 | ⟨g, off, rfl, h3⟩
  · exact .inl h3
  · exact .inr ⟨g, off, rfl, fun j x hx => ⟨ht.cell (h3 j x hx).1 (hn g rfl), ht.cell (h3 j x hx).2.1 (hn g rfl), ht.cell (h3 j x hx).2.2 (hn g rfl)⟩⟩
theorem Trs.still {w w' : World} {v : Value} {xs : List Tr} (h : Trs w v xs) (ht : Touch (fun _ => False) w w') : Trs w' v xs := h.kept ht (fun _ _ => id)
theorem Trs.of_own {w : World} {base : Nat} {e : TypeId} {v : Value} {n : Nat} {xs : List Tr} (h : w.ownsRow base e 3 v n (trsV xs)) : Trs w v xs := by
  have hl : xs.length = n := by have := h.1; rw [trsV_length] at this; omega
  subst hl
  rcases h.2 with ⟨rfl, h0⟩ | ⟨g, cap, cur, rfl, _, hh, h1, h2, h3, h4⟩
  · obtain rfl : xs = [] := List.eq_nil_of_length_eq_zero h0
    exact ⟨none, 0, rfl, Nat.le_refl _, Nat.zero_le _, .inl rfl⟩
  · refine ⟨_, cap, rfl, h1, h2, .inr ⟨g, 0, rfl, fun j x hx => ?_⟩⟩
    have hj : j < xs.length := (List.getElem?_eq_some_iff.1 hx).1
    have hg := trsV_get xs j x hx
    rw [← h4] at hg
    rw [List.getElem?_take, if_pos (by omega), List.getElem?_take, if_pos (by omega), List.getElem?_take, if_pos (by omega), Array.getElem?_toList, Array.getElem?_toList, Array.getElem?_toList] at hg
    rw [cell_of_row w g _ cur e (0, 0) hh, cell_of_row w g _ cur e (0, 0) hh, cell_of_row w g _ cur e (0, 0) hh]
    simpa using hg

theorem own_still {w w' : World} {base : Nat} {e : TypeId} {k : Nat} {v : Value} {n : Nat} {xs : List Value} {S : Nat → Prop} (h : w.ownsRow base e k v n xs) (ht : Touch S w w') (hn : ∀ g, v.ownBlock = some g → ¬ S g) : w'.ownsRow base e k v n xs := by
  refine ⟨h.1, ?_⟩
  rcases h.2 with h2 | ⟨g, cap, cur, rfl, hb, hh, r⟩
  · exact .inl h2
  · exact .inr ⟨g, cap, cur, rfl, hb, by rw [ht.block g (Array.getElem?_eq_some_iff.1 hh).1 (hn g rfl)]; exact hh, r⟩
theorem own_base {w : World} {base : Nat} {e : TypeId} {k : Nat} {v : Value} {n : Nat} {xs : List Value} (h : w.ownsRow base e k v n xs) : ∀ g, v.ownBlock = some g → base ≤ g := by
  intro g hg
  rcases h.2 with ⟨rfl, _⟩ | ⟨g', cap, cur, rfl, hb, _⟩
  · cases hg
  · have h2 : g' = g := Option.some.inj hg
    omega
theorem own_form {w : World} {base : Nat} {e : TypeId} {k : Nat} {v : Value} {n : Nat} {xs : List Value} (h : w.ownsRow base e k v n xs) : ∃ a cap, v = .slice a n cap := by
  rcases h.2 with ⟨rfl, rfl⟩ | ⟨g', cap, cur, rfl, hb, _⟩
  · exact ⟨_, _, rfl⟩
  · exact ⟨_, _, rfl⟩
theorem new_tr (w : World) (t : TypeId) (r : Tr) : ∀ j u, (trV r)[j]? = some u → (w.alloc (.cells #[.int .i64 (r.1 : Nat), .int .i64 (r.2.1 : Nat), .int .i64 (r.2.2 : Nat)] t)).cell? ((⟨w.heap.size, 0, none⟩ : Addr).add j) = some u := by
  intro j u hu
  obtain ⟨c0, c1, c2, _, _, _⟩ := box_cells (heap_alloc_new w (.cells #[.int .i64 (r.1 : Nat), .int .i64 (r.2.1 : Nat), .int .i64 (r.2.2 : Nat)] t))
  match j, hu with
  | 0, hu => simp [trV] at hu; subst hu; exact c0
  | 1, hu => simp [trV] at hu; subst hu; exact c1
  | 2, hu => simp [trV] at hu; subst hu; exact c2
  | j + 3, hu => simp [trV] at hu

def lenRow (s : Nat) : Tr := (257 + s, lenL s, lenE s)
def distRow (s : Nat) : Tr := (s, leastN 1 s + 1, extN 1 s)
def lenTab : List Tr := (List.range 29).map lenRow
def distTab : List Tr := (List.range 30).map distRow
theorem lenTab_snoc (k : Nat) : (List.range (k + 1)).map lenRow = (List.range k).map lenRow ++ [lenRow k] := by rw [List.range_succ, List.map_append]; rfl
theorem distTab_snoc (k : Nat) : (List.range (k + 1)).map distRow = (List.range k).map distRow ++ [distRow k] := by rw [List.range_succ, List.map_append]; rfl

theorem len_step (s : Nat) (h8 : 8 ≤ s) (h : s < 28) : leastN 2 (s + 1) = leastN 2 s + 2 ^ extN 2 s ∧ leastN 2 (s + 1) + 3 ≤ 300 ∧ 2 ^ extN 2 s ≤ 32 ∧ lenRow s = (257 + s, leastN 2 s + 3, extN 2 s) := by
  have : ∀ s : Fin 28, 8 ≤ s.val → leastN 2 (s.val + 1) = leastN 2 s.val + 2 ^ extN 2 s.val ∧ leastN 2 (s.val + 1) + 3 ≤ 300 ∧ 2 ^ extN 2 s.val ≤ 32 ∧ lenRow s.val = (257 + s.val, leastN 2 s.val + 3, extN 2 s.val) := by decide +kernel
  exact this ⟨s, h⟩ h8
theorem len_first (s : Nat) (h : s < 8) : lenRow s = (257 + s, 3 + s, 0) := by
  have : ∀ s : Fin 8, lenRow s.val = (257 + s.val, 3 + s.val, 0) := by decide +kernel
  exact this ⟨s, h⟩

theorem dist_step (s : Nat) (h4 : 4 ≤ s) (h : s < 30) : leastN 1 (s + 1) = leastN 1 s + 2 ^ extN 1 s ∧ leastN 1 (s + 1) + 1 ≤ 32769 ∧ 2 ^ extN 1 s ≤ 8192 := by
  have : ∀ s : Fin 30, 4 ≤ s.val → leastN 1 (s.val + 1) = leastN 1 s.val + 2 ^ extN 1 s.val ∧ leastN 1 (s.val + 1) + 1 ≤ 32769 ∧ 2 ^ extN 1 s.val ≤ 8192 := by decide +kernel
  exact this ⟨s, h⟩ h4

end Go.Proofs.Ytnjgalalnnldiaa

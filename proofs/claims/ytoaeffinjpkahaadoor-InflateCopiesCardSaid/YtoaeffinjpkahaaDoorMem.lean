
/- What a call does to memory: which blocks it may have written (Touch), slices of one-cell elements that lie in a block from any offset on (Row), and append to such a slice from any source, as one law. No program is named here. -/
import Derived.WalkKit
import Derived.Lib.Hide
import Derived.Laws.BytesArg
import Derived.Deep.AppendSrc
import Derived.Deep.Upon
import Derived.Maps.AppendAt
import Derived.Deep.Quiet
import Derived.Deep.QuietTactic
namespace Go.Proofs.YtoaeffinjpkahaaDoor
set_option linter.unusedSimpArgs false
set_option linter.unusedVariables false
open Go Go.RowKit

/-- From w to w' nothing was written but in the blocks S; new blocks may have come. -/
structure Touch (S : Nat → Prop) (w w' : World) : Prop where
  os : w'.os = w.os
  tape : w'.tape = w.tape
  output : w'.output = w.output
  size : w.heap.size ≤ w'.heap.size
  block : ∀ k, k < w.heap.size → ¬ S k → w'.heap[k]? = w.heap[k]?

theorem Touch.refl (S : Nat → Prop) (w : World) : Touch S w w := ⟨rfl, rfl, rfl, Nat.le_refl _, fun _ _ _ => rfl⟩
theorem Touch.trans {S : Nat → Prop} {a b c : World} (h : Touch S a b) (k : Touch S b c) : Touch S a c :=
  ⟨k.os.trans h.os, k.tape.trans h.tape, k.output.trans h.output, Nat.le_trans h.size k.size, fun i hi hs => (k.block i (Nat.lt_of_lt_of_le hi h.size) hs).trans (h.block i hi hs)⟩
/-- The second step may write, besides, what is new behind the first one. -/
theorem Touch.trans' {S S' : Nat → Prop} {a b c : World} (h : Touch S a b) (k : Touch S' b c) (hs : ∀ i, S' i → S i ∨ a.heap.size ≤ i) : Touch S a c :=
  ⟨k.os.trans h.os, k.tape.trans h.tape, k.output.trans h.output, Nat.le_trans h.size k.size, fun i hi hn => (k.block i (Nat.lt_of_lt_of_le hi h.size) (fun h' => (hs i h').elim hn (fun h'' => by omega))).trans (h.block i hi hn)⟩
theorem Touch.mono {S S' : Nat → Prop} {w w' : World} (h : Touch S w w') (hs : ∀ k, S k → S' k) : Touch S' w w' :=
  ⟨h.os, h.tape, h.output, h.size, fun k hk hn => h.block k hk (fun h' => hn (hs k h'))⟩
theorem Touch.drew {S : Nat → Prop} {a w : World} (h : Touch S a w) : Touch S a w.drew := ⟨h.os, h.tape, h.output, h.size, h.block⟩
theorem Touch.drewN {S : Nat → Prop} {a w : World} (n : Nat) (h : Touch S a w) : Touch S a (w.drewN n) := by
  induction n with
  | zero => exact h
  | succ n ih => exact ⟨h.os, h.tape, h.output, h.size, h.block⟩
theorem Touch.alloc {S : Nat → Prop} {a w : World} (h : Touch S a w) (o : Obj) : Touch S a (w.alloc o) :=
  h.trans ⟨rfl, rfl, rfl, by simp, fun k hk _ => Below.heap_alloc _ _ _ (by omega)⟩
theorem Touch.setCell {S : Nat → Prop} {a w : World} (h : Touch S a w) {p : Addr} (hp : S p.block ∨ a.heap.size ≤ p.block) (u : Value) : Touch S a (w.setCell p u) :=
  h.trans' (S' := fun k => k = p.block) ⟨rfl, rfl, rfl, by simp [World.setCell], fun k _ hk => Below.heap_setCell _ _ _ _ hk⟩ (fun i e => by subst e; exact hp)
theorem Touch.grown {S : Nat → Prop} {a w w' : World} {row : Option Nat} (h : Touch S a w) (hg : w.grownBy w' row) (hr : ∀ k, row = some k → S k ∨ a.heap.size ≤ k) : Touch S a w' :=
  h.trans' (S' := fun k => some k = row) ⟨hg.os, hg.tape, hg.output, hg.size, fun k hk hn => hg.block k hk hn⟩ (fun i e => hr i e.symm)
theorem Touch.below {S : Nat → Prop} {w w' : World} (h : Touch S w w') {B : Nat} (hB : B ≤ w.heap.size) (hs : ∀ k, S k → B ≤ k) : Below B w w' :=
  ⟨h.os, h.tape, h.output, h.size, fun k hk => h.block k (by omega) (fun h' => by have := hs k h'; omega)⟩
theorem Touch.cell {S : Nat → Prop} {w w' : World} (h : Touch S w w') {p : Addr} {v : Value} (hv : w.cell? p = some v) (hp : ¬ S p.block) : w'.cell? p = some v :=
  (World.cell?_of_block (w := w) (h.block p.block (World.block_lt_of_cell? w p hv) hp)).trans hv
theorem Touch.frozen {S : Nat → Prop} {w w' : World} (h : Touch S w w') {p : Addr} (hl : p.block < w.heap.size) (hp : ¬ S p.block) : w'.frozen? p = w.frozen? p :=
  World.frozen?_of_block (w := w) (h.block p.block hl hp)

/-- A slice whose elements have one cell each: nil, or in a block of that element type that nothing freezes, from some offset on. -/
def Row (w : World) (e : TypeId) (v : Value) (xs : List Value) : Prop :=
  (v = .slice none 0 0 ∧ xs = []) ∨
  ∃ g off cap cur, v = .slice (some ⟨g, off, none⟩) xs.length cap ∧ w.heap[g]? = some (.cells cur e (0, 0)) ∧ xs.length ≤ cap ∧ cap ≤ maxLen ∧ off + cap ≤ cur.size ∧ (cur.toList.drop off).take xs.length = xs

theorem Row.nil (w : World) (e : TypeId) : Row w e (.slice none 0 0) [] := .inl ⟨rfl, rfl⟩

theorem Row.lt {w : World} {e : TypeId} {v : Value} {xs : List Value} (h : Row w e v xs) : ∀ g, v.ownBlock = some g → g < w.heap.size := by
  intro g hg
  rcases h with ⟨rfl, _⟩ | ⟨g', off, cap, cur, rfl, hh, _⟩
  · simp [Value.ownBlock] at hg
  · simp [Value.ownBlock] at hg
    subst hg
    exact (Array.getElem?_eq_some_iff.1 hh).1

theorem Row.kept {S : Nat → Prop} {w w' : World} {e : TypeId} {v : Value} {xs : List Value} (h : Row w e v xs) (ht : Touch S w w') (hn : ∀ g, v.ownBlock = some g → ¬ S g) : Row w' e v xs := by
  have hlt := h.lt
  rcases h with hh | ⟨g, off, cap, cur, rfl, hh, r⟩
  · exact .inl hh
  · exact .inr ⟨g, off, cap, cur, rfl, by rw [ht.block g (hlt g rfl) (hn g rfl)]; exact hh, r⟩

theorem Row.form {w : World} {e : TypeId} {v : Value} {xs : List Value} (h : Row w e v xs) : ∃ a cap, v = .slice a xs.length cap ∧ xs.length ≤ cap ∧ cap ≤ maxLen := by
  rcases h with ⟨rfl, rfl⟩ | ⟨g, off, cap, cur, rfl, _, h1, h2, _⟩
  · exact ⟨none, 0, rfl, Nat.le_refl _, Nat.zero_le _⟩
  · exact ⟨_, cap, rfl, h1, h2⟩

theorem Row.cells {w : World} {e : TypeId} {xs : List Value} {g off cap : Nat} {n : Nat} (h : Row w e (.slice (some ⟨g, off, none⟩) n cap) xs) : n = xs.length ∧ ∀ j u, xs[j]? = some u → w.cell? ⟨g, off + j, none⟩ = some u := by
  rcases h with ⟨h, _⟩ | ⟨g', off', cap', cur, hv, hh, h1, h2, h3, h4⟩
  · cases h
  · cases hv
    refine ⟨rfl, fun j u hu => ?_⟩
    rw [cell_of_row w g (off + j) cur e (0, 0) hh]
    rw [← h4, List.getElem?_take] at hu
    split at hu
    · rw [List.getElem?_drop, Array.getElem?_toList] at hu; exact hu
    · cases hu

/-- Where there is an element there is an address. -/
theorem Row.addr {w : World} {e : TypeId} {v : Value} {xs : List Value} (h : Row w e v xs) (hn : 0 < xs.length) :
    ∃ g off cap, v = .slice (some ⟨g, off, none⟩) xs.length cap ∧ xs.length ≤ cap ∧ g < w.heap.size ∧ (∀ j u, xs[j]? = some u → w.cell? ⟨g, off + j, none⟩ = some u) := by
  rcases h with ⟨_, rfl⟩ | ⟨g, off, cap, cur, rfl, hh, h1, h2, h3, h4⟩
  · simp at hn
  · exact ⟨g, off, cap, rfl, h1, (Array.getElem?_eq_some_iff.1 hh).1, (Row.cells (.inr ⟨g, off, cap, cur, rfl, hh, h1, h2, h3, h4⟩ : Row w e _ xs)).2⟩

/-- A part from q on: at its end the address stays. -/
theorem Row.from_end {w : World} {e : TypeId} {a : Option Addr} {n q : Nat} {xs : List Value} (h : Row w e (.slice a n q) xs) (hq : q ≤ n) : Row w e (.slice a (n - q) 0) (xs.drop q) ∧ (Value.slice a (n - q) 0).ownBlock = (Value.slice a n q).ownBlock := by
  rcases h with ⟨hv, rfl⟩ | ⟨g, off, cap, cur, hv, hh, h1, h2, h3, h4⟩
  · cases hv; exact ⟨.inl ⟨rfl, by simp⟩, rfl⟩
  · cases hv
    have e1 : xs.drop q = [] := List.drop_eq_nil_of_le (by omega)
    refine ⟨.inr ⟨g, off, 0, cur, by rw [e1, show xs.length - q = 0 by omega]; rfl, hh, by rw [e1]; simp, Nat.zero_le _, by omega, by rw [e1]; simp⟩, rfl⟩
theorem Row.from {w : World} {e : TypeId} {a : Option Addr} {n cap q : Nat} {xs : List Value} (h : Row w e (.slice a n cap) xs) (hq : q ≤ n) (_hne : cap ≠ q) :
    Row w e (.slice (Option.map (fun x => x.add q) a) (n - q) (cap - q)) (xs.drop q) ∧ (Value.slice (Option.map (fun x => x.add q) a) (n - q) (cap - q)).ownBlock = (Value.slice a n cap).ownBlock := by
  rcases h with ⟨hv, rfl⟩ | ⟨g, off, cap', cur, hv, hh, h1, h2, h3, h4⟩
  · cases hv
    exact ⟨.inl ⟨by simp, by simp⟩, rfl⟩
  · cases hv
    have ea : (⟨g, off, none⟩ : Addr).add q = ⟨g, off + q, none⟩ := by
      by_cases h0 : q = 0
      · subst h0; simp [Addr.add]
      · simp [Addr.add, h0]
    simp only [Option.map_some, ea]
    refine ⟨.inr ⟨g, off + q, cap - q, cur, by rw [List.length_drop], hh, by rw [List.length_drop]; omega, by omega, by omega, ?_⟩, rfl⟩
    have h5 := congrArg (List.drop q) h4
    rw [List.drop_take, List.drop_drop] at h5
    rw [List.length_drop]
    exact h5

theorem heap_setCell_same {w : World} {g k : Nat} {cur : Array Value} {e : TypeId} {fr : Nat × Nat} (u : Value) (h : w.heap[g]? = some (.cells cur e fr)) : (w.setCell ⟨g, k, none⟩ u).heap[g]? = some (.cells (cur.setIfInBounds k u) e fr) := by
  simp only [World.setCell, Array.getElem?_modify]
  rw [if_pos trivial, h]
  rfl

/-- A store to one of them. -/
theorem Row.set {w : World} {e : TypeId} {g off n cap k : Nat} {xs : List Value} (h : Row w e (.slice (some ⟨g, off, none⟩) n cap) xs) (hk : k < n) (u : Value) :
    Row (w.setCell ⟨g, off + k, none⟩ u) e (.slice (some ⟨g, off, none⟩) n cap) (xs.set k u) := by
  rcases h with ⟨hv, _⟩ | ⟨g', off', cap', cur, hv, hh, h1, h2, h3, h4⟩
  · cases hv
  · cases hv
    refine .inr ⟨g, off, cap, cur.setIfInBounds (off + k) u, by rw [List.length_set], heap_setCell_same u hh, by rw [List.length_set]; exact h1, h2, by simpa using h3, ?_⟩
    rw [Array.toList_setIfInBounds, List.length_set, List.drop_set, if_neg (by omega), show off + k - off = k by omega, List.take_set, h4]

theorem Row.free {w : World} {e : TypeId} {g off n cap k : Nat} {xs : List Value} (h : Row w e (.slice (some ⟨g, off, none⟩) n cap) xs) : w.frozen? ⟨g, off + k, none⟩ = false := by
  rcases h with ⟨hv, _⟩ | ⟨g', off', cap', cur, hv, hh, h1, h2, h3, h4⟩
  · cases hv
  · cases hv
    simp [World.frozen?, hh]

theorem Touch.of_grown {w w' : World} {row : Option Nat} (h : w.grownBy w' row) : Touch (fun k => some k = row) w w' := ⟨h.os, h.tape, h.output, h.size, fun k hk hn => h.block k hk hn⟩

/-- The first q of them. -/
theorem Row.upto {w : World} {e : TypeId} {a : Option Addr} {n cap q : Nat} {xs : List Value} (h : Row w e (.slice a n cap) xs) (hq : q ≤ n) : Row w e (.slice a q cap) (xs.take q) := by
  rcases h with ⟨hv, rfl⟩ | ⟨g, off, cap', cur, hv, hh, h1, h2, h3, h4⟩
  · cases hv
    obtain rfl : q = 0 := by omega
    exact .inl ⟨rfl, rfl⟩
  · cases hv
    refine .inr ⟨g, off, cap, cur, by rw [List.length_take, Nat.min_eq_left hq], hh, by rw [List.length_take]; omega, h2, h3, ?_⟩
    rw [List.length_take, Nat.min_eq_left hq]
    have h5 := congrArg (List.take q) h4
    rwa [List.take_take, Nat.min_eq_left hq] at h5

theorem Row.of_own {w : World} {base : Nat} {e : TypeId} {v : Value} {n : Nat} {xs : List Value} (h : w.ownsRow base e 1 v n xs) : Row w e v xs := by
  have hl : xs.length = n := by have := h.1; omega
  rcases h.2 with ⟨rfl, h0⟩ | ⟨g, cap, cur, rfl, _, hh, h1, h2, h3, h4⟩
  · exact .inl ⟨rfl, List.eq_nil_of_length_eq_zero (by omega)⟩
  · subst hl
    exact .inr ⟨g, 0, cap, cur, rfl, hh, h1, h2, by omega, by simpa using h4⟩

theorem heap_setRow (w : World) (g : Nat) (old cs : Array Value) (e : TypeId) (hg : w.heap[g]? = some (.cells old e (0, 0))) : (w.setRow g cs).heap[g]? = some (.cells cs e (0, 0)) := setRow_heap w g old cs e (0, 0) hg

/-- Three cells side by side that nothing freezes. -/
structure Cell3 (w : World) (b o : Nat) (x0 x1 x2 : Value) : Prop where
  c0 : w.cell? ⟨b, o, none⟩ = some x0
  c1 : w.cell? ⟨b, o + 1, none⟩ = some x1
  c2 : w.cell? ⟨b, o + 2, none⟩ = some x2
  f0 : w.frozen? ⟨b, o, none⟩ = false
  f1 : w.frozen? ⟨b, o + 1, none⟩ = false
  f2 : w.frozen? ⟨b, o + 2, none⟩ = false

theorem addr_ne {b o o' : Nat} (h : o ≠ o') : (⟨b, o, none⟩ : Addr) ≠ ⟨b, o', none⟩ := by intro e; injection e with _ e _; exact h e

theorem Cell3.set0 {w : World} {b o : Nat} {x0 x1 x2 : Value} (h : Cell3 w b o x0 x1 x2) (y : Value) : Cell3 (w.setCell ⟨b, o, none⟩ y) b o y x1 x2 :=
  ⟨World.cell?_setCell_same _ _ _ h.c0, (World.cell?_setCell_other _ _ _ _ (addr_ne (by omega))).trans h.c1, (World.cell?_setCell_other _ _ _ _ (addr_ne (by omega))).trans h.c2, by rw [World.frozen?_setCell]; exact h.f0, by rw [World.frozen?_setCell]; exact h.f1, by rw [World.frozen?_setCell]; exact h.f2⟩
theorem Cell3.set1 {w : World} {b o : Nat} {x0 x1 x2 : Value} (h : Cell3 w b o x0 x1 x2) (y : Value) : Cell3 (w.setCell ⟨b, o + 1, none⟩ y) b o x0 y x2 :=
  ⟨(World.cell?_setCell_other _ _ _ _ (addr_ne (by omega))).trans h.c0, World.cell?_setCell_same _ _ _ h.c1, (World.cell?_setCell_other _ _ _ _ (addr_ne (by omega))).trans h.c2, by rw [World.frozen?_setCell]; exact h.f0, by rw [World.frozen?_setCell]; exact h.f1, by rw [World.frozen?_setCell]; exact h.f2⟩
theorem Cell3.set2 {w : World} {b o : Nat} {x0 x1 x2 : Value} (h : Cell3 w b o x0 x1 x2) (y : Value) : Cell3 (w.setCell ⟨b, o + 2, none⟩ y) b o x0 x1 y :=
  ⟨(World.cell?_setCell_other _ _ _ _ (addr_ne (by omega))).trans h.c0, (World.cell?_setCell_other _ _ _ _ (addr_ne (by omega))).trans h.c1, World.cell?_setCell_same _ _ _ h.c2, by rw [World.frozen?_setCell]; exact h.f0, by rw [World.frozen?_setCell]; exact h.f1, by rw [World.frozen?_setCell]; exact h.f2⟩
theorem Cell3.drew {w : World} {b o : Nat} {x0 x1 x2 : Value} (h : Cell3 w b o x0 x1 x2) : Cell3 w.drew b o x0 x1 x2 := ⟨h.c0, h.c1, h.c2, h.f0, h.f1, h.f2⟩
theorem Cell3.lt {w : World} {b o : Nat} {x0 x1 x2 : Value} (h : Cell3 w b o x0 x1 x2) : b < w.heap.size := World.block_lt_of_cell? w _ h.c0
theorem Cell3.of_block {w w' : World} {b o : Nat} {x0 x1 x2 : Value} (h : Cell3 w b o x0 x1 x2) (hb : w'.heap[b]? = w.heap[b]?) : Cell3 w' b o x0 x1 x2 :=
  ⟨(World.cell?_of_block (a := ⟨b, o, none⟩) hb).trans h.c0, (World.cell?_of_block (a := ⟨b, o + 1, none⟩) hb).trans h.c1, (World.cell?_of_block (a := ⟨b, o + 2, none⟩) hb).trans h.c2,
    (World.frozen?_of_block (a := ⟨b, o, none⟩) hb).trans h.f0, (World.frozen?_of_block (a := ⟨b, o + 1, none⟩) hb).trans h.f1, (World.frozen?_of_block (a := ⟨b, o + 2, none⟩) hb).trans h.f2⟩
theorem Cell3.kept {S : Nat → Prop} {w w' : World} {b o : Nat} {x0 x1 x2 : Value} (h : Cell3 w b o x0 x1 x2) (ht : Touch S w w') (hn : ¬ S b) : Cell3 w' b o x0 x1 x2 := h.of_block (ht.block b h.lt hn)

/-- Two cells side by side that nothing freezes, in a block whose other cells are known. -/
structure Cell2 (φ : TypeId × (Nat → Option Value)) (w : World) (b o : Nat) (x0 x1 : Value) : Prop where
  c0 : w.cell? ⟨b, o, none⟩ = some x0
  c1 : w.cell? ⟨b, o + 1, none⟩ = some x1
  f0 : w.frozen? ⟨b, o, none⟩ = false
  f1 : w.frozen? ⟨b, o + 1, none⟩ = false
  oth : Hid (∃ cs, w.heap[b]? = some (.cells cs φ.1 (0, 0)) ∧ ∀ i, i ≠ o → i ≠ o + 1 → cs[i]? = φ.2 i)
theorem oth_set {φ : TypeId × (Nat → Option Value)} {w : World} {b o k : Nat} (hk : k = o ∨ k = o + 1) (h : Hid (∃ cs, w.heap[b]? = some (.cells cs φ.1 (0, 0)) ∧ ∀ i, i ≠ o → i ≠ o + 1 → cs[i]? = φ.2 i)) (y : Value) :
    Hid (∃ cs, (w.setCell ⟨b, k, none⟩ y).heap[b]? = some (.cells cs φ.1 (0, 0)) ∧ ∀ i, i ≠ o → i ≠ o + 1 → cs[i]? = φ.2 i) := Lib.hid (by
  obtain ⟨cs, h1, h2⟩ := h.out
  refine ⟨_, heap_setCell_same y h1, fun i hi hi2 => ?_⟩
  rw [Array.getElem?_setIfInBounds_ne (by omega)]
  exact h2 i hi hi2)
theorem Cell2.set0 {φ : TypeId × (Nat → Option Value)} {w : World} {b o : Nat} {x0 x1 : Value} (h : Cell2 φ w b o x0 x1) (y : Value) : Cell2 φ (w.setCell ⟨b, o, none⟩ y) b o y x1 :=
  ⟨World.cell?_setCell_same _ _ _ h.c0, (World.cell?_setCell_other _ _ _ _ (addr_ne (by omega))).trans h.c1, by rw [World.frozen?_setCell]; exact h.f0, by rw [World.frozen?_setCell]; exact h.f1, oth_set (.inl rfl) h.oth y⟩
theorem Cell2.set1 {φ : TypeId × (Nat → Option Value)} {w : World} {b o : Nat} {x0 x1 : Value} (h : Cell2 φ w b o x0 x1) (y : Value) : Cell2 φ (w.setCell ⟨b, o + 1, none⟩ y) b o x0 y :=
  ⟨(World.cell?_setCell_other _ _ _ _ (addr_ne (by omega))).trans h.c0, World.cell?_setCell_same _ _ _ h.c1, by rw [World.frozen?_setCell]; exact h.f0, by rw [World.frozen?_setCell]; exact h.f1, oth_set (.inr rfl) h.oth y⟩
theorem Cell2.drew {φ : TypeId × (Nat → Option Value)} {w : World} {b o : Nat} {x0 x1 : Value} (h : Cell2 φ w b o x0 x1) : Cell2 φ w.drew b o x0 x1 := ⟨h.c0, h.c1, h.f0, h.f1, h.oth⟩
theorem Cell2.lt {φ : TypeId × (Nat → Option Value)} {w : World} {b o : Nat} {x0 x1 : Value} (h : Cell2 φ w b o x0 x1) : b < w.heap.size := World.block_lt_of_cell? w _ h.c0
theorem Cell2.of_block {φ : TypeId × (Nat → Option Value)} {w w' : World} {b o : Nat} {x0 x1 : Value} (h : Cell2 φ w b o x0 x1) (hb : w'.heap[b]? = w.heap[b]?) : Cell2 φ w' b o x0 x1 :=
  ⟨(World.cell?_of_block (a := ⟨b, o, none⟩) hb).trans h.c0, (World.cell?_of_block (a := ⟨b, o + 1, none⟩) hb).trans h.c1, (World.frozen?_of_block (a := ⟨b, o, none⟩) hb).trans h.f0, (World.frozen?_of_block (a := ⟨b, o + 1, none⟩) hb).trans h.f1, by rw [hb]; exact h.oth⟩
theorem Cell2.kept {φ : TypeId × (Nat → Option Value)} {S : Nat → Prop} {w w' : World} {b o : Nat} {x0 x1 : Value} (h : Cell2 φ w b o x0 x1) (ht : Touch S w w') (hn : ¬ S b) : Cell2 φ w' b o x0 x1 := h.of_block (ht.block b h.lt hn)

/-- One element in a block of one cell, as what is appended. -/
theorem Src.ofCell {P : Program} {W : World} {g c : Nat} {u : Value} {e e' t : TypeId} (hk : P.underlying t = some (.slice e')) (h : W.heap[g]? = some (.cells #[u] e (0, 0))) (h1 : u.oneCell' = true) : Src P 1 t (.slice (some ⟨g, 0, none⟩) 1 c) 1 [u] W := by
  refine Src.ofSlice W hk ⟨g, 0, none⟩ 1 c [u] rfl (fun j x hx => ?_) (fun x hx => ?_)
  · match j, hx with
    | 0, hx =>
      simp at hx; subst hx
      show W.cell? ⟨g, 0, none⟩ = some u
      rw [cell_of_row W g 0 _ e (0, 0) h]; rfl
  · obtain rfl : x = u := by simpa using hx
    exact h1

/-- Bytes as cells. -/
def byteVs (xs : List UInt8) : List Value := xs.map fun c => Value.int .u8 c.toNat
theorem byteVs_length (xs : List UInt8) : (byteVs xs).length = xs.length := by simp [byteVs]
theorem byteVs_append (xs ys : List UInt8) : byteVs (xs ++ ys) = byteVs xs ++ byteVs ys := by simp [byteVs]
theorem byteVs_take (xs : List UInt8) (n : Nat) : (byteVs xs).take n = byteVs (xs.take n) := by simp [byteVs, List.map_take]
theorem byteVs_drop (xs : List UInt8) (n : Nat) : (byteVs xs).drop n = byteVs (xs.drop n) := by simp [byteVs, List.map_drop]

/-- A string of a slice of bytes. -/
theorem run_bytes_row {P : Program} (w : World) (src e dst : TypeId) (hs : P.underlying src = some (.slice e)) (he : P.underlying e = some (.int .u8)) (hd : P.underlying dst = some .string)
    {v : Value} {xs : List UInt8} (h : Row w e v (byteVs xs)) : (convert src dst v).run P w = .ok (.string ⟨xs.toArray⟩) w := by
  have h0 := h
  rcases h with ⟨rfl, hx⟩ | ⟨g, off, cap, cur, rfl, _⟩
  · obtain rfl : xs = [] := by simpa [byteVs] using hx
    exact run_convert_bytes_nil w src e hs he 0 0 dst hd
  · have hc := h0.cells.2
    have h1 := run_convert_bytes_arg (P := P) w src e hs he g off (byteVs xs).length cap (xs.map fun c => (c.toNat : Int)) (by simp [byteVs]) (fun i hi => by
      have hi' : i < xs.length := by simpa [byteVs] using hi
      rw [hc i (.int .u8 (xs[i].toNat)) (by simp [byteVs, hi'])]
      simp [List.getD, hi']) dst hd
    rw [h1]
    congr 2
    simp [strOfNums, Function.comp_def]

section
variable {P : Program} (w : World)

theorem run_append_room_row (t tx ty e : TypeId) (i : TypeInfo) (ht : P.underlying t = some (.slice e)) (hi : P.info? e = some i) (h1 : i.size = 1)
    (g off sLen sCap : Nat) (cur : Array Value) (hg : w.heap[g]? = some (.cells cur e (0, 0))) (x : Value) (n : Nat) (news : List Value) (hs : Src P 1 tx x n news w)
    (hroom : sLen + n ≤ sCap) (hfit : off + sLen + news.length ≤ cur.size) :
    (Builtin.append_ #[t, tx] ty #[.slice (some ⟨g, off, none⟩) sLen sCap, x]).run P w =
      .ok (.slice (some ⟨g, off, none⟩) (sLen + n) sCap) (w.setRow g (cur.toList.take (off + sLen) ++ news ++ cur.toList.drop (off + sLen + news.length)).toArray) := by
  have hst := run_storeCells_at P g (off + sLen) e news 0 cur w hg (by simpa using hfit) hs.one
  simp only [Nat.add_zero] at hst
  have hsc := hs.cells
  rcases hs.kind with ⟨e', hk⟩ | hk <;> simp [Builtin.append_, run_underlying ht, run_underlying hk, sizeOf, typeInfo, hi, h1, hs.len, hroom, hsc, Addr.add_lit, hst]

/-- append to a slice that lies in a block from any offset on, from any source. -/
theorem run_append_row (t tx ty e : TypeId) (i : TypeInfo) (z : Value) (bytes : Nat) (ht : P.underlying t = some (.slice e)) (hi : P.info? e = some i) (hz : i.zero = some z)
    (hs1 : i.size = 1) (hby : i.bytes = bytes) (hzs : z.cells.size = 1)
    (v : Value) (xs : List Value) (hown : Row w e v xs) (x : Value) (n : Nat) (news : List Value) (hs : Src P 1 tx x n news w)
    (h63 : xs.length + n ≤ maxLen) (hbytes : (xs.length + n) * bytes ≤ 140737488355328) :
    ∃ v' w', (Builtin.append_ #[t, tx] ty #[v, x]).run P w = .ok v' w' ∧ Row w' e v' (xs ++ news) ∧ w.grownBy w' v.ownBlock ∧ (v'.ownBlock = v.ownBlock ∨ v'.ownBlock = some w.heap.size) := by
  subst hby
  have hsmall : xs.length + n ≤ 9223372036854775807 := by simp only [maxLen] at h63; omega
  have hnl : news.length = n := by have := hs.newsLen; omega
  have hs' : Src P i.size tx x n news w := by rw [hs1]; exact hs
  rcases Nat.eq_zero_or_pos n with hn0 | hn0
  · subst hn0
    obtain rfl : news = [] := List.eq_nil_of_length_eq_zero hnl
    obtain ⟨a, cap, rfl, hle, _⟩ := hown.form
    refine ⟨_, _, run_append_nothing (P := P) w t tx ty e i ht hi a xs.length cap hle x hs', by simpa using hown, ⟨rfl, rfl, rfl, Nat.le_refl _, fun _ _ _ => rfl⟩, .inl rfl⟩
  · have grown : ∀ (old : Nat), ∀ (row : Option Nat),
        Row (w.drew.alloc (.cells ((xs ++ news).toArray ++ Builtin.zeroCells z.cells (grownCap w (xs.length + n) old e - (xs.length + n))) e)) e
          (.slice (some ⟨w.heap.size, 0, none⟩) (xs.length + n) (grownCap w (xs.length + n) old e)) (xs ++ news) ∧
        w.grownBy (w.drew.alloc (.cells ((xs ++ news).toArray ++ Builtin.zeroCells z.cells (grownCap w (xs.length + n) old e - (xs.length + n))) e)) row := by
      intro old row
      have hge := grownCap_ge w (xs.length + n) old e
      have hcm : grownCap w (xs.length + n) old e ≤ maxLen := grownCap_le_maxLen w (xs.length + n) old e h63
      refine ⟨.inr ⟨w.heap.size, 0, _, _, by simp [hnl], heap_alloc_new w.drew _, by simp [hnl]; omega, hcm, ?_, ?_⟩, ⟨rfl, rfl, rfl, by simp, fun k hk _ => Below.heap_alloc w.drew _ k hk⟩⟩
      · simp only [Array.size_append, List.size_toArray, List.length_append, size_zeroCells, hzs, hnl]
        omega
      · simp only [Array.toList_append, List.drop_zero]
        exact List.take_left
    rcases hown with ⟨rfl, rfl⟩ | ⟨g, off, cap, cur, rfl, hg, hnc, hcm, hcs, htake⟩
    · have hold : (Builtin.firstCells i.size 0 (.slice none 0 0)).run P w.drew = .ok ([] : List Value).toArray w.drew := run_firstCells_none w.drew i.size 0 0 0
      have hr := run_append_grow_src (P := P) w t tx ty e i z ht hi hz none 0 0 [] hold x n news hs' (by omega) (by simp at hsmall; omega) (growslice_fits (by omega) (by simpa using hbytes))
      have hgr := grown 0 (Value.ownBlock (.slice none 0 0))
      simp only [List.length_nil, Nat.zero_add] at hgr hr ⊢
      exact ⟨_, _, hr, hgr.1, hgr.2, .inr rfl⟩
    · by_cases hroom : xs.length + n ≤ cap
      · have hr := run_append_room_row (P := P) w t tx ty e i ht hi hs1 g off xs.length cap cur hg x n news hs hroom (by omega)
        refine ⟨_, _, hr, .inr ⟨g, off, cap, _, by simp [hnl], heap_setRow w g cur _ e hg, by simp [hnl]; omega, hcm, ?_, ?_⟩, ⟨rfl, rfl, rfl, by simp, fun k _ hk => setRow_other w g k _ (fun e => hk (by simp [Value.ownBlock, e]))⟩, .inl rfl⟩
        · simp only [List.size_toArray, List.length_append, List.length_take, List.length_drop, Array.length_toList]
          omega
        · have e1 : (cur.toList.take (off + xs.length) ++ news ++ cur.toList.drop (off + xs.length + news.length)).drop off = (xs ++ news) ++ cur.toList.drop (off + xs.length + news.length) := by
            rw [List.append_assoc, List.drop_append_of_le_length (by simp; omega), List.drop_take, show off + xs.length - off = xs.length by omega, htake, List.append_assoc]
          show ((cur.toList.take (off + xs.length) ++ news ++ cur.toList.drop (off + xs.length + news.length)).drop off).take (xs ++ news).length = xs ++ news
          rw [e1]
          exact List.take_left
      · have hcells := (Row.cells (.inr ⟨g, off, cap, cur, rfl, hg, hnc, hcm, hcs, htake⟩ : Row w e (.slice (some ⟨g, off, none⟩) xs.length cap) xs)).2
        have hold : (Builtin.firstCells i.size xs.length (.slice (some ⟨g, off, none⟩) xs.length cap)).run P w.drew = .ok xs.toArray w.drew := by
          rw [hs1]
          refine run_firstCells_some w.drew 1 xs.length ⟨g, off, none⟩ xs.length cap xs (by omega) (fun j u hu => ?_)
          have := hcells j u hu
          by_cases hj : j = 0
          · subst hj; simpa [Addr.add] using this
          · simpa [Addr.add, hj] using this
        have hr := run_append_grow_src (P := P) w t tx ty e i z ht hi hz (some ⟨g, off, none⟩) xs.length cap xs hold x n news hs' (by omega) (by omega) (growslice_fits (by omega) hbytes)
        have hgr := grown cap (Value.ownBlock (.slice (some ⟨g, off, none⟩) xs.length cap))
        exact ⟨_, _, hr, hgr.1, hgr.2, .inr rfl⟩

theorem wp_append_row {o : Oper} {a : Act} {K : Act → World → Prop} {Q : Exit → Act → World → Prop} (s x : Operand) (t tx : TypeId)
    (ho : o.op = .call { callee := .builtin .append, args := #[s, x], argTypes := #[t, tx] })
    (e : TypeId) (i : TypeInfo) (z : Value) (bytes : Nat) (ht : P.underlying t = some (.slice e)) (hi : P.info? e = some i) (hz : i.zero = some z)
    (hs1 : i.size = 1) (hby : i.bytes = bytes) (hzs : z.cells.size = 1)
    (v : Value) (xs : List Value) (hsv : a.eval s = v) (hown : Row w e v xs) (xv : Value) (hxv : a.eval x = xv) (n : Nat) (news : List Value) (hs : Src P 1 tx xv n news w)
    (h63 : xs.length + n ≤ maxLen) (hbytes : (xs.length + n) * bytes ≤ 140737488355328)
    (h : ∀ v' w', Row w' e v' (xs ++ news) → w.grownBy w' v.ownBlock → (v'.ownBlock = v.ownBlock ∨ v'.ownBlock = some w.heap.size) → K (a.put o.dst v') w') : o.wp P a w K Q := by
  obtain ⟨v', w', hr, h2, h3, h4⟩ := run_append_row (P := P) w t tx o.type e i z bytes ht hi hz hs1 hby hzs v xs hown xv n news hs h63 hbytes
  unfold Oper.wp execOp
  simp only [ho, resolve, invoke, builtin, Sem.run_bind, Sem.run_pure, Result.andThen_ok, List.map_toArray, List.map_cons, List.map_nil, hsv, hxv, hr]
  exact h v' w' h2 h3 h4

theorem wpList_append_row {ops : Array Oper} {rest : List Oper} {o : Oper} {a : Act} {Q : Exit → Act → World → Prop} (hgd : o.guard = none) (s x : Operand) (t tx : TypeId)
    (ho : o.op = .call { callee := .builtin .append, args := #[s, x], argTypes := #[t, tx] })
    (e : TypeId) (i : TypeInfo) (z : Value) (bytes : Nat) (ht : P.underlying t = some (.slice e)) (hi : P.info? e = some i) (hz : i.zero = some z)
    (hs1 : i.size = 1) (hby : i.bytes = bytes) (hzs : z.cells.size = 1)
    (v : Value) (xs : List Value) (hsv : a.eval s = v) (hown : Row w e v xs) (xv : Value) (hxv : a.eval x = xv) (n : Nat) (news : List Value) (hs : Src P 1 tx xv n news w)
    (h63 : xs.length + n ≤ maxLen) (hbytes : (xs.length + n) * bytes ≤ 140737488355328)
    (h : ∀ v' w', Row w' e v' (xs ++ news) → w.grownBy w' v.ownBlock → (v'.ownBlock = v.ownBlock ∨ v'.ownBlock = some w.heap.size) → wpList P ops Q rest (a.put o.dst v') w') : wpList P ops Q (o :: rest) a w :=
  wpList_plain hgd fun _ hK => wp_append_row w s x t tx ho e i z bytes ht hi hz hs1 hby hzs v xs hsv hown xv hxv n news hs h63 hbytes fun v' w' h2 h3 h4 => hK _ _ (h v' w' h2 h3 h4)

theorem step_append_row {ops : Array Oper} {o : Oper} {a : Act} {K : Act → World → Prop} {Q : Exit → Act → World → Prop} {E : Prop} (hgd : o.guard = none) (s x : Operand) (t tx : TypeId)
    (ho : o.op = .call { callee := .builtin .append, args := #[s, x], argTypes := #[t, tx] })
    (e : TypeId) (i : TypeInfo) (z : Value) (bytes : Nat) (ht : P.underlying t = some (.slice e)) (hi : P.info? e = some i) (hz : i.zero = some z)
    (hs1 : i.size = 1) (hby : i.bytes = bytes) (hzs : z.cells.size = 1)
    (v : Value) (xs : List Value) (hsv : a.eval s = v) (hown : Row w e v xs) (xv : Value) (hxv : a.eval x = xv) (n : Nat) (news : List Value) (hs : Src P 1 tx xv n news w)
    (h63 : xs.length + n ≤ maxLen) (hbytes : (xs.length + n) * bytes ≤ 140737488355328)
    (h : ∀ v' w', Row w' e v' (xs ++ news) → w.grownBy w' v.ownBlock → (v'.ownBlock = v.ownBlock ∨ v'.ownBlock = some w.heap.size) → K (a.put o.dst v') w') :
    if Region.wanted o (yielded ops a.tmps) = true then Oper.wp P o a w K Q else E := by
  have hw : Region.wanted o (yielded ops a.tmps) = true := by simp [Region.wanted, hgd]
  rw [if_pos hw]
  exact wp_append_row w s x t tx ho e i z bytes ht hi hz hs1 hby hzs v xs hsv hown xv hxv n news hs h63 hbytes h

end
end Go.Proofs.YtoaeffinjpkahaaDoor


/- Contracts of package bits' Writer over the translated program, by the list of its bits. -/
import Derived.Test.YtmhigecchligcaaDoorBitsA
namespace Go.Proofs.YtmhigecchligcaaDoor
open Go Go.RowKit
set_option maxRecDepth 100000

/-- Where a row lies now: where it lay, or in a new block. -/
def Sep (n : Nat) (row row' : Option Nat) : Prop := row' = row ∨ ∃ g, row' = some g ∧ n ≤ g

theorem Sep.refl (n : Nat) (a : Option Nat) : Sep n a a := .inl rfl
theorem Sep.trans {n m : Nat} {a b c : Option Nat} (h : Sep n a b) (k : Sep m b c) (hm : n ≤ m) : Sep n a c := by
  rcases k with rfl | ⟨g, rfl, hg⟩
  · exact h
  · exact .inr ⟨g, rfl, by omega⟩
theorem Sep.ne {n h : Nat} {a b : Option Nat} (hs : Sep n a b) (ha : a ≠ some h) (hh : h < n) : b ≠ some h := by
  rcases hs with rfl | ⟨g, rfl, hg⟩
  · exact ha
  · intro e; injection e with e; omega
/-- What wrote in the block and in its row alone. -/
theorem Sep.touch {a b c : World} {k0 : Nat} {row row1 : Option Nat} (ht : Touch (fun k => k = k0 ∨ row = some k) a b) (hs : Sep a.heap.size row row1) (ht' : Touch (fun k => k = k0 ∨ row1 = some k) b c) : Touch (fun k => k = k0 ∨ row = some k) a c :=
  ht.trans' ht' (fun i hi => by
    rcases hi with rfl | hi
    · exact .inl (.inl rfl)
    · rcases hs with rfl | ⟨g, rfl, hg⟩
      · exact .inl (.inr hi)
      · injection hi with hi; right; omega)

end Go.Proofs.YtmhigecchligcaaDoor

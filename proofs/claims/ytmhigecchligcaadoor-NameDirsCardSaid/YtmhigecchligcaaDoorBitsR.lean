
/- Contracts of package bits' Reader over the translated program, by the list of its bits. -/
import Derived.Test.YtmhigecchligcaaDoorBitsW
namespace Go.Proofs.YtmhigecchligcaaDoor
open Go Go.RowKit
set_option maxRecDepth 100000

/-- A Reader by the list of its bits. -/
def RdAt (w : World) (b o : Nat) (l : List Nat) (row : Option Nat) : Prop :=
  ∃ (ys : List UInt8) (g : Nat) (v : Value), Cell2 w b o v (.int .i64 g) ∧ Row w 5 v (byteVs ys) ∧ v.ownBlock ≠ some b ∧ v.ownBlock = row ∧ g < 8 ∧ g ≤ 8 * ys.length ∧ l = (bitsL ys).drop g

theorem rd_length {ys : List UInt8} {g : Nat} : ((bitsL ys).drop g).length = 8 * ys.length - g := by rw [List.length_drop, bitsL_length]

theorem WrAt.kept {S : Nat → Prop} {w w' : World} {b o : Nat} {l : List Nat} {row : Option Nat} (h : WrAt w b o l row) (ht : Touch S w w') (hb : ¬ S b) (hr : ∀ g, row = some g → ¬ S g) : WrAt w' b o l row := by
  obtain ⟨xs, p, s, v, ⟨hC, hrow, hap⟩, hv, r⟩ := h
  exact ⟨xs, p, s, v, ⟨hC.kept ht hb, hrow.kept ht (fun g hg => hr g (by rw [← hv, hg])), hap⟩, hv, r⟩
theorem RdAt.kept {S : Nat → Prop} {w w' : World} {b o : Nat} {l : List Nat} {row : Option Nat} (h : RdAt w b o l row) (ht : Touch S w w') (hb : ¬ S b) (hr : ∀ g, row = some g → ¬ S g) : RdAt w' b o l row := by
  obtain ⟨ys, g, v, hC, hrow, hap, hv, r⟩ := h
  exact ⟨ys, g, v, hC.kept ht hb, hrow.kept ht (fun g hg => hr g (by rw [← hv, hg])), hap, hv, r⟩

end Go.Proofs.YtmhigecchligcaaDoor

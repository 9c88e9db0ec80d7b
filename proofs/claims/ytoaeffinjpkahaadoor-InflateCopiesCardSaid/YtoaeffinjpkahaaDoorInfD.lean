
/- A decoder of fixed blocks in memory: its cells, its reader's, its window's. -/
import Derived.Test.YtoaeffinjpkahaaDoorCanX
import Derived.Test.YtoaeffinjpkahaaDoorCanI
import Derived.Test.YtoaeffinjpkahaaDoorInfW
import Derived.Test.YtoaeffinjpkahaaDoorInfA
namespace Go.Proofs.YtoaeffinjpkahaaDoor
set_option linter.unusedSimpArgs false
set_option linter.unusedVariables false
open Go Go.RowKit
set_option maxRecDepth 100000

/-- What a decoder is, in plain words, while no dynamic block is under way. -/
structure PS where
  st : Nat
  came : Nat
  told : Nat
  bits : List Nat
  out : List UInt8
  all : List UInt8
  last : Bool
  left : Nat
  lits : Nat
  both : Nat
  trip : Nat
  fixed : Bool
  sym : Nat
  size : Nat
  dist : Nat
  extra : Nat
  cds : Option (List Nat × List Nat)
  v15 : Value
  p16 : Value
  tl : Option (List Nat)

def decL (s : PS) (v5 : Value) (g : Nat) (v7 v8 p17 p18 : Value) : List Value :=
  [.int .i64 (s.st : Nat), .int .i64 0, .int .i64 (s.came : Nat), .int .i64 (s.told : Nat), .slice none 0 0, v5, .int .i64 (g : Nat), v7, v8, .int .i64 (s.all.length : Nat), .bool s.last, .int .i64 (s.left : Nat), .int .i64 (s.lits : Nat), .int .i64 (s.both : Nat), .int .i64 (s.trip : Nat), s.v15, s.p16, p17, p18, .bool s.fixed, .int .i64 (s.sym : Nat), .int .i64 (s.size : Nat), .int .i64 (s.dist : Nat), .int .i64 (s.extra : Nat)]

/-- The bits that a reader has, by its two cells. -/
def RdV (w : World) (v : Value) (g : Nat) (l : List Nat) : Prop := ∃ ys : List UInt8, Row w 5 v (byteVs ys) ∧ g < 8 ∧ g ≤ 8 * ys.length ∧ l = (bitsL ys).drop g
/-- The bytes that went by a window, by its ring. -/
def WinV (w : World) (v : Value) (all : List UInt8) : Prop := ∃ R : List UInt8, Row w 5 v (byteVs R) ∧ RingOf R all

theorem RdV.kept {S : Nat → Prop} {w w' : World} {v : Value} {g : Nat} {l : List Nat} (h : RdV w v g l) (ht : Touch S w w') (hs : ∀ k, v.ownBlock = some k → ¬ S k) : RdV w' v g l := by
  obtain ⟨ys, h1, h2⟩ := h
  exact ⟨ys, h1.kept ht hs, h2⟩
theorem WinV.kept {S : Nat → Prop} {w w' : World} {v : Value} {all : List UInt8} (h : WinV w v all) (ht : Touch S w w') (hs : ∀ k, v.ownBlock = some k → ¬ S k) : WinV w' v all := by
  obtain ⟨R, h1, h2⟩ := h
  exact ⟨R, h1.kept ht hs, h2⟩

/-- The cells of a block of which two are known anew. -/
theorem cell2_back {T : TypeId} {xs : List Value} {w : World} {b o : Nat} {x0 x1 : Value} (h : Cell2 (T, fun i => xs[i]?) w b o x0 x1) (ho : o + 1 < xs.length) : Block w b T ((xs.set o x0).set (o + 1) x1) := by
  obtain ⟨c0, c1, _, _, hoth⟩ := h
  obtain ⟨cs, h1, h2⟩ := hoth.out
  have e0 : cs[o]? = some x0 := by simpa [World.cell?, h1] using c0
  have e1 : cs[o + 1]? = some x1 := by simpa [World.cell?, h1] using c1
  have hcs : cs.toList = (xs.set o x0).set (o + 1) x1 := by
    refine List.ext_getElem? fun i => ?_
    rw [Array.getElem?_toList]
    by_cases hi : i = o
    · subst hi
      rw [e0, List.getElem?_set_ne (by omega), List.getElem?_set_self (by omega)]
    · by_cases hi2 : i = o + 1
      · subst hi2
        rw [e1, List.getElem?_set_self (by rw [List.length_set]; omega)]
      · rw [List.getElem?_set_ne (by omega), List.getElem?_set_ne (by omega)]
        exact h2 i hi hi2
  unfold Block
  rw [h1, ← hcs]
theorem cell2_at {T : TypeId} {xs : List Value} {w : World} {b : Nat} (h : Block w b T xs) (o : Nat) {x0 x1 : Value} (h0 : xs[o]? = some x0) (h1 : xs[o + 1]? = some x1) : Cell2 (T, fun i => xs[i]?) w b o x0 x1 :=
  ⟨by rw [Block.cell h o]; exact h0, by rw [Block.cell h (o + 1)]; exact h1, Block.free h o, Block.free h (o + 1), Lib.hid ⟨xs.toArray, h, fun i _ _ => by simp⟩⟩

theorem rd_at {w : World} {b : Nat} {s : PS} {v5 : Value} {g : Nat} {v7 v8 p17 p18 : Value} (hB : Block w b 80 (decL s v5 g v7 v8 p17 p18)) (hR : RdV w v5 g s.bits) (hne : v5.ownBlock ≠ some b) :
    RdAt (80, fun i => (decL s v5 g v7 v8 p17 p18)[i]?) w b 5 s.bits v5.ownBlock := by
  obtain ⟨ys, h1, h2, h3, h4⟩ := hR
  exact ⟨ys, g, v5, cell2_at hB 5 rfl rfl, h1, hne, rfl, h2, h3, h4⟩
theorem rd_back {w : World} {b : Nat} {s : PS} {v5 : Value} {g : Nat} {v7 v8 p17 p18 : Value} {l : List Nat} {row : Option Nat} (h : RdAt (80, fun i => (decL s v5 g v7 v8 p17 p18)[i]?) w b 5 l row) :
    ∃ (v5' : Value) (g' : Nat), Block w b 80 (decL { s with bits := l } v5' g' v7 v8 p17 p18) ∧ RdV w v5' g' l ∧ v5'.ownBlock = row ∧ v5'.ownBlock ≠ some b := by
  obtain ⟨ys, g', v5', hc, h1, hne, hv, h2, h3, h4⟩ := h
  exact ⟨v5', g', cell2_back hc (by simp [decL]), ⟨ys, h1, h2, h3, h4⟩, hv, hne⟩
theorem win_at {w : World} {b : Nat} {s : PS} {v5 : Value} {g : Nat} {v7 v8 p17 p18 : Value} (hB : Block w b 80 (decL s v5 g v7 v8 p17 p18)) (hW : WinV w v8 s.all) (hne : v8.ownBlock ≠ some b) :
    WinAt (80, fun i => (decL s v5 g v7 v8 p17 p18)[i]?) w b 8 s.all v8.ownBlock := by
  obtain ⟨R, h1, h2⟩ := hW
  exact ⟨R, v8, cell2_at hB 8 rfl rfl, h1, hne, rfl, h2⟩
theorem win_back {w : World} {b : Nat} {s : PS} {v5 : Value} {g : Nat} {v7 v8 p17 p18 : Value} {all : List UInt8} {row : Option Nat} (h : WinAt (80, fun i => (decL s v5 g v7 v8 p17 p18)[i]?) w b 8 all row) :
    ∃ v8' : Value, Block w b 80 (decL { s with all := all } v5 g v7 v8' p17 p18) ∧ WinV w v8' all ∧ v8'.ownBlock = row ∧ v8'.ownBlock ≠ some b := by
  obtain ⟨R, v8', hc, h1, hne, hv, h2⟩ := h
  exact ⟨v8', cell2_back hc (by simp [decL]), ⟨R, h1, h2⟩, hv, hne⟩

/-- The blocks that a decoder writes to. -/
def Mut (b : Nat) (v5 v7 v8 : Value) (k : Nat) : Prop := k = b ∨ v5.ownBlock = some k ∨ v7.ownBlock = some k ∨ v8.ownBlock = some k
/-- No two of them are one. -/
def Ap (b : Nat) (v5 v7 v8 : Value) : Prop := v5.ownBlock ≠ some b ∧ v7.ownBlock ≠ some b ∧ v8.ownBlock ≠ some b ∧ (∀ k, v5.ownBlock = some k → v7.ownBlock ≠ some k) ∧ (∀ k, v5.ownBlock = some k → v8.ownBlock ≠ some k) ∧ (∀ k, v7.ownBlock = some k → v8.ownBlock ≠ some k)
/-- The lengths of the fixed codes. -/
def fixW : List Nat := List.replicate 144 8 ++ List.replicate 112 9 ++ List.replicate 24 7 ++ List.replicate 8 8
def fixD : List Nat := List.replicate 32 5
/-- A code at a pointer, apart from what is written to. -/
def CodeV (w : World) (b : Nat) (v5 v7 v8 : Value) (L : Option Nat) (p : Value) (ls : List Nat) : Prop := ∃ c n0 n1, p = .pointer (some ⟨c, 0, none⟩) ∧ CodeAt w c ls n0 n1 ∧ n1 ≤ w.heap.size ∧ ∀ k, n0 ≤ k → k < n1 → ¬ Mut b v5 v7 v8 k ∧ L ≠ some k

/-- Its codes, and the row of lengths, apart from what is written to. -/
structure Cods (w : World) (b : Nat) (v5 v7 v8 p17 p18 : Value) (s : PS) : Prop where
  cod : ∀ lw ld, s.cds = some (lw, ld) → CodeV w b v5 v7 v8 s.v15.ownBlock p17 lw ∧ CodeV w b v5 v7 v8 s.v15.ownBlock p18 ld
  tel : ∀ lt, s.tl = some lt → CodeV w b v5 v7 v8 s.v15.ownBlock s.p16 lt
  l15 : ∀ g, s.v15.ownBlock = some g → g < w.heap.size ∧ ¬ Mut b v5 v7 v8 g
  one : p17.oneCell' = true ∧ p18.oneCell' = true ∧ s.p16.oneCell' = true
/-- A decoder's cells. -/
structure DecM (w : World) (b : Nat) (s : PS) (v5 : Value) (g : Nat) (v7 v8 p17 p18 : Value) : Prop where
  blk : Block w b 80 (decL s v5 g v7 v8 p17 p18)
  rd : RdV w v5 g s.bits
  out : Row w 5 v7 (byteVs s.out)
  win : WinV w v8 s.all
  ap : Ap b v5 v7 v8
  cod : Cods w b v5 v7 v8 p17 p18 s
  fx : (s.fixed = true → s.cds = some (fixW, fixD)) ∧ (∀ lw ld, s.cds = some (lw, ld) → WholeN lw ∧ WholeN ld) ∧ ∀ lt, s.tl = some lt → WholeN lt
  l2 : ∀ x ∈ s.bits, x < 2
  lb : s.bits.length < 1000000000 ∧ s.out.length < 1000000000 ∧ s.all.length < 1000000000 ∧ s.came < 1000000000 ∧ s.told < 1000000000

/-- A decoder that writes nothing but what may be, since a world. -/
def DecR (U : Nat → Prop) (w0 w : World) (b : Nat) (s : PS) : Prop :=
  ∃ v5 g v7 v8 p17 p18, DecM w b s v5 g v7 v8 p17 p18 ∧ (∀ k, Mut b v5 v7 v8 k → U k ∨ w0.heap.size ≤ k) ∧ Touch U w0 w
theorem DecR.fx {U : Nat → Prop} {w0 w : World} {b : Nat} {s : PS} (h : DecR U w0 w b s) : (s.fixed = true → s.cds = some (fixW, fixD)) ∧ (∀ lw ld, s.cds = some (lw, ld) → WholeN lw ∧ WholeN ld) ∧ ∀ lt, s.tl = some lt → WholeN lt := by
  obtain ⟨_, _, _, _, _, _, h1, _⟩ := h
  exact h1.fx
end Go.Proofs.YtoaeffinjpkahaaDoor

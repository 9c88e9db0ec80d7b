
/- Contract of the statements' first lines of layer 1 over the translated program: a Writer and a Reader of a few bits. -/
import Derived.Test.YthobbdnmhldglaaBitsF
namespace Go.Proofs.Ythobbdnmhldglaa
open Go Go.RowKit
set_option maxRecDepth 100000

theorem WrAt.lt {w : World} {b o : Nat} {l : List Nat} {row : Option Nat} (h : WrAt w b o l row) : b < w.heap.size := by
  obtain ⟨_, _, _, _, h, _⟩ := h
  exact h.cells.lt
theorem RdAt.lt {w : World} {b o : Nat} {l : List Nat} {row : Option Nat} (h : RdAt w b o l row) : b < w.heap.size := by
  obtain ⟨_, _, _, h, _⟩ := h
  exact h.lt

/-- The step behind a call that may write a fresh object and its row alone. -/
theorem fresh_step {w a c : World} {k0 : Nat} {row : Option Nat} (ht : Touch (fun _ => False) w a) (h0 : w.heap.size ≤ k0) (hr : Sep w.heap.size none row) (h : Touch (fun k => k = k0 ∨ row = some k) a c) : Touch (fun _ => False) w c :=
  ht.trans' h (fun i hi => by
    rcases hi with rfl | hi
    · exact .inr h0
    · rcases hr with hr | ⟨g, hr, hg⟩
      · rw [hr] at hi; cases hi
      · rw [hr] at hi; injection hi with hi; right; omega)
theorem fresh_step1 {w a c : World} {k0 : Nat} (ht : Touch (fun _ => False) w a) (h0 : w.heap.size ≤ k0) (h : Touch (fun k => k = k0) a c) : Touch (fun _ => False) w c :=
  ht.trans' h (fun i hi => by subst hi; exact .inr h0)

/-- A Writer that came since w, its row too; nothing that was in w has been written. -/
structure FrW (w wr : World) (b : Nat) (l : List Nat) (row : Option Nat) : Prop where
  at_ : WrAt wr b 0 l row
  fresh : w.heap.size ≤ b
  sep : Sep w.heap.size none row
  touch : Touch (fun _ => False) w wr
structure FrR (w wr : World) (b : Nat) (l : List Nat) (row : Option Nat) : Prop where
  at_ : RdAt wr b 0 l row
  fresh : w.heap.size ≤ b
  sep : Sep w.heap.size none row
  touch : Touch (fun _ => False) w wr

theorem FrW.step {w wr w' : World} {b : Nat} {l l' : List Nat} {row row' : Option Nat} (h : FrW w wr b l row) (h1 : WrAt w' b 0 l' row') (h2 : Sep wr.heap.size row row') (h3 : Touch (fun k => k = b ∨ row = some k) wr w') : FrW w w' b l' row' :=
  ⟨h1, h.fresh, h.sep.trans h2 h.touch.size, fresh_step h.touch h.fresh h.sep h3⟩
theorem FrR.step {w wr w' : World} {b : Nat} {l l' : List Nat} {row row' : Option Nat} (h : FrR w wr b l row) (h1 : RdAt w' b 0 l' row') (h2 : Sep wr.heap.size row row') (h3 : Touch (fun k => k = b ∨ row = some k) wr w') : FrR w w' b l' row' :=
  ⟨h1, h.fresh, h.sep.trans h2 h.touch.size, fresh_step h.touch h.fresh h.sep h3⟩
theorem FrR.step1 {w wr w' : World} {b : Nat} {l l' : List Nat} {row : Option Nat} (h : FrR w wr b l row) (h1 : RdAt w' b 0 l' row) (h3 : Touch (fun k => k = b) wr w') : FrR w w' b l' row :=
  ⟨h1, h.fresh, h.sep, fresh_step1 h.touch h.fresh h3⟩
theorem FrW.kept {w wr w' : World} {b : Nat} {l : List Nat} {row : Option Nat} (h : FrW w wr b l row) (h3 : Touch (fun _ => False) wr w') : FrW w w' b l row :=
  ⟨h.at_.kept h3 id (fun _ _ => id), h.fresh, h.sep, h.touch.trans h3⟩
theorem FrR.kept {w wr w' : World} {b : Nat} {l : List Nat} {row : Option Nat} (h : FrR w wr b l row) (h3 : Touch (fun _ => False) wr w') : FrR w w' b l row :=
  ⟨h.at_.kept h3 id (fun _ _ => id), h.fresh, h.sep, h.touch.trans h3⟩
theorem Sep.far {n g k : Nat} {row : Option Nat} (h : Sep n none row) (hr : row = some g) (hk : k < n) : g ≠ k := by
  rcases h with h | ⟨g', h, hg⟩
  · rw [h] at hr; cases hr
  · rw [h] at hr; injection hr with hr; omega

end Go.Proofs.Ythobbdnmhldglaa

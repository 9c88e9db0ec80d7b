/- Contracts of package link, first part: a call within a walk of the machine's own steps; a link in memory; a way by its number; Put and Take. -/
import Derived.Test.YtimiiahhedpfaaaRows
import Derived.Test.YtimiiahhedpfaaaChecked
import Derived.Test.YtimiiahhedpfaaaNum
import Derived.Test.YtimiiahhedpfaaaMem
import Derived.Test.YtimiiahhedpfaaaArr
import Derived.Test.YtimiiahhedpfaaaDosQ
import Derived.Conc.LoneSelect
import Derived.KernelRfl
import Derived.WalkSpells
import Derived.OwnWalk
import Derived.WalkLawsBesides
import Derived.Lib.Hide
import Derived.Laws.Rows
import Derived.Laws.ResultCell
import Derived.RegionTactic
import Derived.BigRegion
import Derived.BigQuiet
import Derived.StillTailTactics
import Derived.Deep.QuietTactic
import Derived.Deep.RegionHeld3
import Derived.Deep.RegionLaw
namespace Go.Proofs.Ytimiiahhedpfaaa
open Go Go.RowKit Go.Conc
set_option maxRecDepth 100000

/-- A call by its contract, in a walk of the machine's own steps. -/
theorem lone_call {P : Program} {Q : Goroutine → World → Prop} {b : Frame} {a : Act} {k : List Item} {cs : List Frame} {w : World} {ops : Array Oper} {i : Nat} {rest : List Nat} {o : Oper} {f : FuncId} {args : Array Value} {R : Ending → World → Prop}
    (ho : ops[i]? = some o) (hw : Region.wanted o (yielded ops a.tmps) = true) (hk : b.kind ≠ .early) (hr : (execOp a.eval o).run P w = .ok (.enter f args) w) (hC : Calls P f args w R)
    (hR : ∀ e w', R e w' → ∃ v, e = .returned v ∧ LoneTo P Q (G ((b.at a (.inRegion ops (i :: rest) :: k)).finish v) cs) w') : LoneTo P Q (G (b.at a (.inRegion ops (i :: rest) :: k)) cs) w := by
  obtain ⟨e, w', fr, hRe, hcomes, hfn, hl⟩ := hC (b.at a (.inRegion ops (i :: rest) :: k) :: cs)
  obtain ⟨v, rfl, g₂, w₂, hs, hq⟩ := hR _ _ hRe
  have h1 := step_solo_go rfl (stepG_enter (P := P) (main := true) (k := k) (cs := cs) (rest := rest) ho hw hk hr)
  have h2 : Steps P (solo (G (Frame.enter P f args .normal) (b.at a (.inRegion ops (i :: rest) :: k) :: cs)) w) (solo (G fr (b.at a (.inRegion ops (i :: rest) :: k) :: cs)) w') := hcomes
  have h3 : step P (solo (G fr (b.at a (.inRegion ops (i :: rest) :: k) :: cs)) w') = .next (solo (G ((b.at a (.inRegion ops (i :: rest) :: k)).finish v) cs) w') := step_leave_returned hl
  exact ⟨g₂, w₂, Steps.head h1 (Steps.trans h2 (Steps.head h3 hs)), hq⟩

/-- A link: its ways' channels, and the texts on each. -/
structure LinkAt (w : World) (p : Nat) (c : Nat → Nat) (L : Nat → List ByteArray) : Prop where
  box : Block w p 91 [.chan (some (c 0)), .chan (some (c 1))]
  ch : ∀ y, y < 2 → ∃ s r, w.heap[c y]? = some (.chan 64 ((L y).map Value.string).toArray false s r false)
  le : ∀ y, y < 2 → (L y).length ≤ 64
  ne : c 0 ≠ c 1 ∧ p ≠ c 0 ∧ p ≠ c 1
def setL (L : Nat → List ByteArray) (y : Nat) (l : List ByteArray) : Nat → List ByteArray := fun i => if i = y then l else L i
theorem LinkAt.nes {w : World} {p : Nat} {c : Nat → Nat} {L : Nat → List ByteArray} (h : LinkAt w p c L) {y y' : Nat} (hy : y < 2) (hy' : y' < 2) (e : y ≠ y') : c y ≠ c y' := by
  have := h.ne.1
  rcases (show (y = 0 ∧ y' = 1) ∨ (y = 1 ∧ y' = 0) by omega) with ⟨rfl, rfl⟩ | ⟨rfl, rfl⟩
  · exact this
  · exact this.symm
theorem LinkAt.np {w : World} {p : Nat} {c : Nat → Nat} {L : Nat → List ByteArray} (h : LinkAt w p c L) {y : Nat} (hy : y < 2) : p ≠ c y := by
  rcases (show y = 0 ∨ y = 1 by omega) with rfl | rfl
  · exact h.ne.2.1
  · exact h.ne.2.2
theorem LinkAt.lt {w : World} {p : Nat} {c : Nat → Nat} {L : Nat → List ByteArray} (h : LinkAt w p c L) : p < w.heap.size ∧ ∀ y, y < 2 → c y < w.heap.size := by
  refine ⟨Block.lt h.box, fun y hy => ?_⟩
  obtain ⟨s, r, hc⟩ := h.ch y hy
  exact (Array.getElem?_eq_some_iff.1 hc).1
theorem LinkAt.kept {S : Nat → Prop} {w w' : World} {p : Nat} {c : Nat → Nat} {L : Nat → List ByteArray} (h : LinkAt w p c L) (ht : Touch S w w') (hp : ¬ S p) (h0 : ¬ S (c 0)) (h1 : ¬ S (c 1)) : LinkAt w' p c L := by
  refine { h with box := h.box.kept ht hp, ch := fun y hy => ?_ }
  obtain ⟨s, r, hc⟩ := h.ch y hy
  refine ⟨s, r, ?_⟩
  rw [ht.block _ (h.lt.2 y hy), hc]
  rcases (show y = 0 ∨ y = 1 by omega) with rfl | rfl
  · exact h0
  · exact h1
theorem LinkAt.still {w w' : World} {p : Nat} {c : Nat → Nat} {L : Nat → List ByteArray} (h : LinkAt w p c L) (ht : Touch (fun _ => False) w w') : LinkAt w' p c L := h.kept ht id id id
theorem LinkAt.congr {w : World} {p : Nat} {c : Nat → Nat} {L L' : Nat → List ByteArray} (h : LinkAt w p c L) (e : ∀ y, y < 2 → L y = L' y) : LinkAt w p c L' :=
  { h with ch := fun y hy => by rw [← e y hy]; exact h.ch y hy, le := fun y hy => by rw [← e y hy]; exact h.le y hy }
theorem touch_setChan {S : Nat → Prop} {w : World} {c : Nat} (hc : S c) (cap : Nat) (buf : Array Value) (cl : Bool) (s r : Nat) (tm : Bool) : Touch S w (w.setChan c cap buf cl s r tm) :=
  ⟨rfl, rfl, rfl, by simp [World.setChan], fun k _ hk => by
    simp only [World.setChan]
    rw [Array.getElem?_setIfInBounds_ne (fun e => hk (by rw [← e]; exact hc))]⟩
theorem LinkAt.set {w : World} {p : Nat} {c : Nat → Nat} {L : Nat → List ByteArray} (h : LinkAt w p c L) {y : Nat} (hy : y < 2) (l : List ByteArray) (hl : l.length ≤ 64) (s r : Nat) (buf : Array Value) (hbuf : buf = (l.map Value.string).toArray) : LinkAt (w.setChan (c y) 64 buf false s r false) p c (setL L y l) := by
  have ht : Touch (fun k => k = c y) w (w.setChan (c y) 64 buf false s r false) := touch_setChan (S := fun k => k = c y) rfl _ _ _ _ _ _
  refine { box := h.box.kept ht (h.np hy), ch := fun y' hy' => ?_, le := fun y' hy' => ?_, ne := h.ne }
  · unfold setL
    by_cases e : y' = y
    · subst e
      rw [if_pos rfl, ← hbuf]
      exact ⟨s, r, heap_setChan w _ 64 _ false s r false (h.lt.2 y' hy')⟩
    · rw [if_neg e]
      obtain ⟨s', r', hc⟩ := h.ch y' hy'
      exact ⟨s', r', by rw [ht.block _ (h.lt.2 y' hy') (h.nes hy' hy e)]; exact hc⟩
  · unfold setL
    split
    · exact hl
    · exact h.le y' hy'

theorem way_nil (z : Int) (w : World) : Calls Try.prog 40 #[.pointer none, .int .i64 z] w fun e w' => e = .returned (.chan none) ∧ w = w' := by
  go_enter Try.func40, Try.ntmps40
  go_wp2_with fail
  go_ret
  exact ⟨rfl, rfl⟩
theorem way_bad (p : Nat) (z : Int) (hz : z < 0 ∨ 1 < z) (w : World) : Calls Try.prog 40 #[.pointer (some ⟨p, 0, none⟩), .int .i64 z] w fun e w' => e = .returned (.chan none) ∧ w = w' := by
  have h0 : (z != 0) = true := by rw [bne_iff_ne]; omega
  have h1 : (z != 1) = true := by rw [bne_iff_ne]; omega
  clear hz
  go_enter Try.func40, Try.ntmps40
  go_wp2_with fail
  go_ret
  exact ⟨rfl, rfl⟩
theorem way_calls {w : World} {p : Nat} {c : Nat → Nat} {L : Nat → List ByteArray} (h : LinkAt w p c L) (y : Nat) (hy : y < 2) : Calls Try.prog 40 #[.pointer (some ⟨p, 0, none⟩), .int .i64 (y : Nat)] w fun e w' => e = .returned (.chan (some (c y))) ∧ w = w' := by
  have g0 : w.cell? ⟨p, 0, none⟩ = some (.chan (some (c 0))) := Block.cell h.box 0
  have g1 : w.cell? ⟨p, 1, none⟩ = some (.chan (some (c 1))) := Block.cell h.box 1
  rcases (show y = 0 ∨ y = 1 by omega) with rfl | rfl
  all_goals
    clear h hy
    go_enter Try.func40, Try.ntmps40
    go_wp2_with fail
    go_ret
    exact ⟨rfl, rfl⟩
end Go.Proofs.Ytimiiahhedpfaaa

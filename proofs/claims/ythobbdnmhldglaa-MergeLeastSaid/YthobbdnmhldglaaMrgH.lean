/- slices.Backward over a slice of slices of things: what the closure gives, one after another. -/
import Derived.Test.YthobbdnmhldglaaMrgF
import Derived.RangeFuncNested
import Derived.RangeFuncBound
import Derived.RangeFuncCalls
import Derived.RangeFuncLeaves
import Derived.Shelf.Abstract
import Derived.Shelf.RegionOpen
import Derived.OwnWalkIn
import Derived.TacticsInMore
import Derived.LoopNIn
import Derived.LoopIn
namespace Go.Proofs.Ythobbdnmhldglaa
open Go Go.RowKit Go.Shelf
set_option maxRecDepth 100000
attribute [local go_sem] Oper.semAt_some

/-- Every block below n but those of L lies as it lay. -/
structure KeepB (n : Nat) (L : Nat → Prop) (W W' : World) : Prop where
  size : W.heap.size ≤ W'.heap.size
  block : ∀ k, k < n → ¬ L k → W'.heap[k]? = W.heap[k]?

theorem KeepB.refl (n : Nat) (L : Nat → Prop) (W : World) : KeepB n L W W := ⟨Nat.le_refl _, fun _ _ _ => rfl⟩
theorem KeepB.trans {n : Nat} {L : Nat → Prop} {A B C : World} (h : KeepB n L A B) (k : KeepB n L B C) : KeepB n L A C := ⟨Nat.le_trans h.size k.size, fun i hi hn => (k.block i hi hn).trans (h.block i hi hn)⟩
theorem KeepB.cell {n : Nat} {L : Nat → Prop} {A B : World} (h : KeepB n L A B) {p : Addr} (hp : p.block < n) (hl : ¬ L p.block) : B.cell? p = A.cell? p := World.cell?_of_block (h.block p.block hp hl)

/-- What the k-th round from the back is handed. -/
def backA (N : Nat) (g : Nat → Value) (k : Nat) : Array Value := #[.int .i64 ((N - 1 - k : Nat) : Int), g (N - 1 - k)]

set_option maxHeartbeats 2000000 in
theorem back_rounds (F : Fence) (n : Nat) (h60 : F.fn 35) (hro : F.round = none) (hn : 1 ≤ n) (l Bs n₀ b off cap N : Nat) (L : Nat → Prop) (g : Nat → Value) (hlen : N ≤ 1000) (hb : b < n₀) (hbL : ¬ L b) (hB : Bs < n₀) (hBL : ¬ L Bs) (J : Nat → World → Prop)
    (hY : ∀ k W, J k W → k < N → YieldAt F (n - 1) Try.prog l (backA N g k) W fun e W' => e = .returned (.bool true) ∧ J (k + 1) W' ∧ KeepB n₀ L W W')
    (W : World) (hBs : W.cell? ⟨Bs, 0, none⟩ = some (.slice (some ⟨b, off, none⟩) N cap)) (hc : ∀ j, j < N → W.cell? ⟨b, off + j, none⟩ = some (g j)) (h0 : J 0 W) :
    CallsIn F n Try.prog 35 #[.func (.yield l) #[] #[], .pointer (some ⟨Bs, 0, none⟩)] W fun e W' => (∃ v, e = .returned v) ∧ J N W' := by
  refine callsIn_of_wp Try.func35 rfl h60 ?_ hro
  simp only [Try.ntmps35, List.size_toArray, List.length_cons, List.length_nil, Nat.reduceAdd, Nat.reduceSub, Array.replicate_succ, Array.replicate_zero, List.push_toArray, List.append_toArray, List.nil_append, List.cons_append]
  gi_wp2
  gi_loopw [3] (fun i wr => ∃ k m : Nat, k + m = N ∧ i = .int .i64 ((m : Int) - 1) ∧ J k wr ∧ KeepB n₀ L W wr)
    (fun i _ => (intOf i + 1).toNat)
  case atStart => exact ⟨0, N, by omega, by first | rfl | go_num, h0, KeepB.refl _ _ _⟩
  case round =>
    obtain ⟨k, m, hk, hi, hJs, hnx⟩ := hrel
    have hbs := (hnx.cell (p := ⟨Bs, 0, none⟩) hB hBL).trans hBs
    rcases m with _ | m
    · rw [show ((0 : Nat) : Int) - 1 = -1 by omega] at hi
      subst hi
      gi_wp2
      go_end0
      obtain rfl : k = N := by omega
      exact ⟨⟨_, rfl⟩, hJs⟩
    · rw [show ((m + 1 : Nat) : Int) - 1 = (m : Int) by omega] at hi
      subst hi
      have hm : m < N := by omega
      have hcx := (hnx.cell (p := ⟨b, off + m, none⟩) hb hbL).trans (hc m hm)
      obtain ⟨fn, tmps, assign, body, hy, hR⟩ := hY k wr hJs (by omega)
      rw [backA, show N - 1 - k = m by omega] at hy
      generalize g m = gv at hcx hy
      have hm0 : (0 : Int) ≤ (m : Int) := by omega
      have hm1 : (m : Int) < (N : Int) := by omega
      gi_wp2
      refine hR.mono ?_
      rintro e W3 ⟨rfl, hJ3, hk3⟩
      gi_wp2
      go_roundw
      case rel => exact ⟨k + 1, m, by omega, by go_num, hJ3, hnx.trans hk3⟩
      case measure => simp [intOf]

set_option maxHeartbeats 1000000 in
theorem back_in (F : Fence) (n : Nat) (h56 : F.fn 29) (hro : F.round = none) (a : Option Addr) (len cap : Nat) (w : World) :
    CallsIn F n Try.prog 29 #[.slice a len cap] w fun e w' => e = .returned (.func (.func 35) #[] #[.pointer (some ⟨w.heap.size, 0, none⟩)]) ∧ w' = w.alloc (.cells #[.slice a len cap] 37) := by
  refine callsIn_of_wp Try.func29 rfl h56 ?_ hro
  simp only [Try.ntmps29, List.size_toArray, List.length_cons, List.length_nil, Nat.reduceAdd, Nat.reduceSub, Array.replicate_succ, Array.replicate_zero, List.push_toArray, List.append_toArray, List.nil_append, List.cons_append]
  gi_wp2
  go_ret
  exact ⟨rfl, rfl⟩

theorem keepB_b {n : Nat} {L : Nat → Prop} {w : World} (hn : n ≤ w.heap.size) (W : World) (l : Nat) (o : Obj) (hl : w.heap.size ≤ l) : KeepB n L W (W.putObj l o) :=
  ⟨(grownBy_putObj' W l o).size, fun k hk _ => World.putObj_heap_other (by omega)⟩
end Go.Proofs.Ythobbdnmhldglaa

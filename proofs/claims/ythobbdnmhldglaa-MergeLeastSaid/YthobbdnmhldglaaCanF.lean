
/- Contracts of package canon's New over the translated program. -/
import Derived.Test.YthobbdnmhldglaaCanE
import Derived.KernelRfl
namespace Go.Proofs.Ythobbdnmhldglaa
open Go Go.RowKit
set_option maxRecDepth 100000
set_option maxRecDepth 100000

/-- A code that lies in blocks from n0 on, below n1. -/
structure CodeAt (w : World) (b : Nat) (ls : List Nat) (n0 n1 : Nat) : Prop where
  ex : ∃ (vl : Value) (g q : Nat) (os : List Nat), CodeRaw w b vl (.slice (some ⟨q, 0, none⟩) ls.length ls.length) (.slice (some ⟨g, 0, none⟩) (startN ls 16) (startN ls 16)) (cntN ls) (longN (cntN ls) 16) ∧
    Row w 3 vl (intVs ls) ∧ Row w 61 (.slice (some ⟨q, 0, none⟩) ls.length ls.length) (u64Vs (wordsL ls)) ∧ Row w 3 (.slice (some ⟨g, 0, none⟩) (startN ls 16) (startN ls 16)) (intVs os) ∧
    (∀ s, s < ls.length → ls.getD s 0 ≠ 0 → os[posN ls s]? = some s) ∧ (∀ k, vl.ownBlock = some k → n0 ≤ k ∧ k < n1) ∧ n0 ≤ g ∧ g < n1 ∧ n0 ≤ q ∧ q < n1
  h15 : ∀ x ∈ ls, x ≤ 15
  hn : ls.length ≤ 288
  hk : kraftN ls ≤ 32768
  b0 : n0 ≤ b
  b1 : b < n1

theorem CodeAt.kept {S : Nat → Prop} {w w' : World} {b n0 n1 : Nat} {ls : List Nat} (h : CodeAt w b ls n0 n1) (ht : Touch S w w') (hs : ∀ k, n0 ≤ k → k < n1 → ¬ S k) : CodeAt w' b ls n0 n1 := by
  obtain ⟨⟨vl, g, q, os, h1, h2, h3, h4, h5, h6, h7, h8, h9, h10⟩, h15, hn, hk, b0, b1⟩ := h
  refine ⟨⟨vl, g, q, os, h1.kept ht (hs b b0 b1), h2.kept ht (fun k hk => hs k (h6 k hk).1 (h6 k hk).2), h3.kept ht (fun k hk => ?_), h4.kept ht (fun k hk => ?_), h5, h6, h7, h8, h9, h10⟩, h15, hn, hk, b0, b1⟩
  · simp [Value.ownBlock] at hk; subst hk; exact hs _ h9 h10
  · simp [Value.ownBlock] at hk; subst hk; exact hs _ h7 h8
theorem CodeAt.still {w w' : World} {b n0 n1 : Nat} {ls : List Nat} (h : CodeAt w b ls n0 n1) (ht : Touch (fun _ => False) w w') : CodeAt w' b ls n0 n1 := h.kept ht (fun _ _ _ => id)

theorem oneCell_intVs (l : List Nat) : ∀ u ∈ intVs l, u.oneCell' = true := by
  intro u hu
  obtain ⟨_, _, rfl⟩ := List.mem_map.1 hu
  rfl

theorem built_code (a : Option Addr) (n cap : Nat) (f : Nat → Nat) (W : World) :
    (Instr.build 46 #[(0, .slice a n cap), (2, .agg #[.int .i64 (f 0 : Nat), .int .i64 (f 1 : Nat), .int .i64 (f 2 : Nat), .int .i64 (f 3 : Nat), .int .i64 (f 4 : Nat), .int .i64 (f 5 : Nat), .int .i64 (f 6 : Nat), .int .i64 (f 7 : Nat), .int .i64 (f 8 : Nat), .int .i64 (f 9 : Nat), .int .i64 (f 10 : Nat), .int .i64 (f 11 : Nat), .int .i64 (f 12 : Nat), .int .i64 (f 13 : Nat), .int .i64 (f 14 : Nat), .int .i64 (f 15 : Nat)])]).run Try.prog W = .ok (.agg #[Value.slice a n cap, .slice none 0 0, .int .i64 (f 0 : Nat), .int .i64 (f 1 : Nat), .int .i64 (f 2 : Nat), .int .i64 (f 3 : Nat), .int .i64 (f 4 : Nat), .int .i64 (f 5 : Nat), .int .i64 (f 6 : Nat), .int .i64 (f 7 : Nat), .int .i64 (f 8 : Nat), .int .i64 (f 9 : Nat), .int .i64 (f 10 : Nat), .int .i64 (f 11 : Nat), .int .i64 (f 12 : Nat), .int .i64 (f 13 : Nat), .int .i64 (f 14 : Nat), .int .i64 (f 15 : Nat), .slice none 0 0, .int .i64 0]) W :=
  run_build W _ _ _ (by kernel_rfl)

theorem Block.sixteen {w : World} {b : Nat} {t : TypeId} {f : Nat → Nat} (h : Block w b t (tabV 16 f)) :
    w.cell? ⟨b, 0, none⟩ = some (.int .i64 (f 0 : Nat)) ∧ w.cell? ⟨b, 1, none⟩ = some (.int .i64 (f 1 : Nat)) ∧ w.cell? ⟨b, 2, none⟩ = some (.int .i64 (f 2 : Nat)) ∧ w.cell? ⟨b, 3, none⟩ = some (.int .i64 (f 3 : Nat)) ∧ w.cell? ⟨b, 4, none⟩ = some (.int .i64 (f 4 : Nat)) ∧ w.cell? ⟨b, 5, none⟩ = some (.int .i64 (f 5 : Nat)) ∧ w.cell? ⟨b, 6, none⟩ = some (.int .i64 (f 6 : Nat)) ∧ w.cell? ⟨b, 7, none⟩ = some (.int .i64 (f 7 : Nat)) ∧ w.cell? ⟨b, 8, none⟩ = some (.int .i64 (f 8 : Nat)) ∧ w.cell? ⟨b, 9, none⟩ = some (.int .i64 (f 9 : Nat)) ∧ w.cell? ⟨b, 10, none⟩ = some (.int .i64 (f 10 : Nat)) ∧ w.cell? ⟨b, 11, none⟩ = some (.int .i64 (f 11 : Nat)) ∧ w.cell? ⟨b, 12, none⟩ = some (.int .i64 (f 12 : Nat)) ∧ w.cell? ⟨b, 13, none⟩ = some (.int .i64 (f 13 : Nat)) ∧ w.cell? ⟨b, 14, none⟩ = some (.int .i64 (f 14 : Nat)) ∧ w.cell? ⟨b, 15, none⟩ = some (.int .i64 (f 15 : Nat)) := by
  refine ⟨?_, ?_, ?_, ?_, ?_, ?_, ?_, ?_, ?_, ?_, ?_, ?_, ?_, ?_, ?_, ?_⟩ <;> (rw [h.cell]; rfl)
theorem code_cells (w' : World) (b : Nat) (vl : Value) (f : Nat → Nat) (t : TypeId) (h : w'.heap[b]? = some (.cells #[vl, .slice none 0 0, .int .i64 (f 0 : Nat), .int .i64 (f 1 : Nat), .int .i64 (f 2 : Nat), .int .i64 (f 3 : Nat), .int .i64 (f 4 : Nat), .int .i64 (f 5 : Nat), .int .i64 (f 6 : Nat), .int .i64 (f 7 : Nat), .int .i64 (f 8 : Nat), .int .i64 (f 9 : Nat), .int .i64 (f 10 : Nat), .int .i64 (f 11 : Nat), .int .i64 (f 12 : Nat), .int .i64 (f 13 : Nat), .int .i64 (f 14 : Nat), .int .i64 (f 15 : Nat), .slice none 0 0, .int .i64 0] t (0, 0))) :
    CodeRaw w' b vl (.slice none 0 0) (.slice none 0 0) f 0 := by
  refine ⟨?_, ?_, ?_, ?_, ?_, ?_⟩
  · rw [cell_of_row _ _ _ _ _ _ h]; rfl
  · rw [cell_of_row _ _ _ _ _ _ h]; rfl
  · intro n hn
    rw [cell_of_row _ _ _ _ _ _ h]
    match n, hn with
    | 0, _ => rfl
    | 1, _ => rfl
    | 2, _ => rfl
    | 3, _ => rfl
    | 4, _ => rfl
    | 5, _ => rfl
    | 6, _ => rfl
    | 7, _ => rfl
    | 8, _ => rfl
    | 9, _ => rfl
    | 10, _ => rfl
    | 11, _ => rfl
    | 12, _ => rfl
    | 13, _ => rfl
    | 14, _ => rfl
    | 15, _ => rfl
    | n + 16, h => exact absurd h (by omega)
  · rw [cell_of_row _ _ _ _ _ _ h]; rfl
  · rw [cell_of_row _ _ _ _ _ _ h]; rfl
  · intro o
    simp [World.frozen?, h]

end Go.Proofs.Ythobbdnmhldglaa

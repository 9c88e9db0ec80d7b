
/- A decoder: Feed. -/
import Derived.Test.YtoaeffinjpkahaaDoorInfL
namespace Go.Proofs.YtoaeffinjpkahaaDoor
set_option linter.unusedSimpArgs false
set_option linter.unusedVariables false
open Go Go.RowKit
set_option maxRecDepth 100000

theorem bits_two (ys : List UInt8) : ∀ x ∈ bitsL ys, x < 2 := bitsL_lt ys

/-- Feed up to run: so many bytes more came. -/
theorem feed_dec {U : Nat → Prop} {w0 w : World} {b : Nat} {s : PS} (h : DecR U w0 w b s) (t : ByteArray) (hz : s.bits.length + 8 * t.size < 1000000000) :
    Calls Tryd.prog 35 #[.pointer (some ⟨b, 5, none⟩), .string t] w fun e w' => e = .returned (.tuple #[]) ∧ DecR U w0 w' b { s with bits := s.bits ++ bitsL t.data.toList } := by
  obtain ⟨v5, g, v7, v8, p17, p18, hD, hown, hT⟩ := h
  refine (feed_calls b 5 t s.bits _ w (rd_at hD.blk hD.rd hD.ap.1) (by omega)).mono ?_
  rintro e w' ⟨he, row', hR, hs, ht⟩
  obtain ⟨v5', g', hD', hM⟩ := hD.feed hR hs ht (fun x hx => by
    rcases List.mem_append.1 hx with h1 | h1
    · exact hD.l2 x h1
    · exact bits_two _ x h1) (by rw [List.length_append, bitsL_length, Array.length_toList]; exact hz)
  exact ⟨he, DecR.step hown hT ht (fun k e => by
    rcases e with e | e
    · exact .inl (.inl e)
    · exact .inl (.inr (.inl e))) hM hD'⟩
theorem DecR.set2 {U : Nat → Prop} {w0 w : World} {b : Nat} {s : PS} (h : DecR U w0 w b s) (n : Nat) (hn : n < 1000000000) : DecR U w0 (w.setCell ⟨b, 2, none⟩ (.int .i64 (n : Nat))) b { s with came := n } := by
  obtain ⟨v5, g, v7, v8, p17, p18, hD, hown, hT⟩ := h
  have ht : Touch (fun k => k = b) w (w.setCell ⟨b, 2, none⟩ (.int .i64 (n : Nat))) := (Touch.refl (fun k => k = b) w).setCell (p := ⟨b, 2, none⟩) (Or.inl rfl) _
  exact DecR.step hown hT ht (fun k e => .inl (.inl e)) (fun k e => .inl e) (hD.put ht (Block.set hD.blk 2 _) rfl rfl rfl ⟨rfl, rfl, rfl, rfl, rfl⟩ ⟨hn, hD.lb.2.2.2.2⟩)
theorem DecR.set3 {U : Nat → Prop} {w0 w : World} {b : Nat} {s : PS} (h : DecR U w0 w b s) (n : Nat) (hn : n < 1000000000) : DecR U w0 (w.setCell ⟨b, 3, none⟩ (.int .i64 (n : Nat))) b { s with told := n } := by
  obtain ⟨v5, g, v7, v8, p17, p18, hD, hown, hT⟩ := h
  have ht : Touch (fun k => k = b) w (w.setCell ⟨b, 3, none⟩ (.int .i64 (n : Nat))) := (Touch.refl (fun k => k = b) w).setCell (p := ⟨b, 3, none⟩) (Or.inl rfl) _
  exact DecR.step hown hT ht (fun k e => .inl (.inl e)) (fun k e => .inl e) (hD.put ht (Block.set hD.blk 3 _) rfl rfl rfl ⟨rfl, rfl, rfl, rfl, rfl⟩ ⟨hD.lb.2.2.2.1, hn⟩)
/-- What was told is taken away. -/
theorem DecR.set7 {U : Nat → Prop} {w0 w : World} {b : Nat} {s : PS} (h : DecR U w0 w b s) : DecR U w0 (w.setCell ⟨b, 7, none⟩ (.slice none 0 0)) b { s with out := [] } := by
  obtain ⟨v5, g, v7, v8, p17, p18, hD, hown, hT⟩ := h
  have ht : Touch (fun k => k = b) w (w.setCell ⟨b, 7, none⟩ (.slice none 0 0)) := (Touch.refl (fun k => k = b) w).setCell (p := ⟨b, 7, none⟩) (Or.inl rfl) _
  obtain ⟨h1, h2⟩ := hD.told' (S := fun _ => False) (v7' := .slice none 0 0) (out := []) (w1 := w) (Row.nil _ _) (fun k e => by simp [Value.ownBlock] at e) (Touch.refl _ _) (fun k e => e.elim) (by decide)
  exact DecR.step hown hT ht (fun k e => .inl (.inl e)) h2 h1
theorem DecR.cells {U : Nat → Prop} {w0 w : World} {b : Nat} {s : PS} (h : DecR U w0 w b s) : w.cell? ⟨b, 1, none⟩ = some (.int .i64 0) ∧ w.cell? ⟨b, 2, none⟩ = some (.int .i64 (s.came : Nat)) ∧ w.cell? ⟨b, 3, none⟩ = some (.int .i64 (s.told : Nat)) ∧ (∀ j, w.frozen? ⟨b, j, none⟩ = false) ∧ ∃ v7, w.cell? ⟨b, 7, none⟩ = some v7 ∧ Row w 5 v7 (byteVs s.out) := by
  obtain ⟨v5, g, v7, v8, p17, p18, hD, hown, hT⟩ := h
  exact ⟨Block.cell hD.blk 1, Block.cell hD.blk 2, Block.cell hD.blk 3, fun j => Block.free hD.blk j, v7, Block.cell hD.blk 7, hD.out⟩
theorem DecR.bounds {U : Nat → Prop} {w0 w : World} {b : Nat} {s : PS} (h : DecR U w0 w b s) : s.out.length < 1000000000 ∧ s.came < 1000000000 ∧ s.told < 1000000000 := by
  obtain ⟨v5, g, v7, v8, p17, p18, hD, hown, hT⟩ := h
  exact ⟨hD.lb.2.1, hD.lb.2.2.2.1, hD.lb.2.2.2.2⟩
end Go.Proofs.YtoaeffinjpkahaaDoor

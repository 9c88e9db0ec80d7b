/- Arguments opened: a slice of numbers, a slice of acts on a disk. -/
import Derived.Test.YtjjpknmjkhaahaaBase
import Derived.Test.YtjjpknmjkhaahaaOpen
import Derived.Test.YtjjpknmjkhaahaaArr
import Derived.ProofKit
namespace Go.Proofs.Ytjjpknmjkhaahaa
open Go Go.RowKit Go.WideShapes Go.ChangeShapes Go.ChangeMaps
set_option maxRecDepth 100000

section
variable {H : Type} {enc : TypeId × Value → H} {P : Program} {w : World}

theorem open_cell_ints {fuel : Nat} {t e : TypeId} {c : Value} {x : DataW H × List MemPlace} (ht : P.underlying t = some (.slice e)) (he : P.underlying e = some (.int .i64)) (hC : P.cellsOf e = 1) (hf : DataW.trod enc P w 0 (fun _ => true) true fuel t [c] = some x) :
    ∃ xs : List Int, Reads w c (xs.map (Value.int .i64)) ∧ (∀ x ∈ xs, -9223372036854775808 ≤ x ∧ x ≤ 9223372036854775807) ∧ (0 < xs.length → ∀ g, c.ownBlock = some g → g < w.heap.size) := by
  rcases open_ints ht he hC hf with ⟨hcs, hx⟩ | ⟨a, len', cap', zs, hcs, _, hl, hm, hz, hx, hcell, hwz⟩
  · simp at hcs
    subst hcs
    exact ⟨[], ⟨none, 0, rfl, Nat.le_refl _, Nat.zero_le _, .inl rfl⟩, fun x hx => (by cases hx), fun _ g hg => (by cases hg)⟩
  · simp at hcs
    subst hcs
    simp only [if_true] at hz
    have hlen : ((zs.take len').map (Value.int .i64)).length = len' := by rw [List.length_map, List.length_take]; omega
    have hpl : 0 < len' → a = ⟨a.block, a.off, none⟩ := fun h0 => plain_of_cell (hcell 0 (by omega) : w.cell? (a.add 0) = _)
    refine ⟨zs.take len', ⟨some a, cap', by rw [hlen], by omega, hm, ?_⟩, fun x hx => wf_i64 (hwz x (List.mem_of_mem_take hx)), fun h0 g hg => ?_⟩
    · rcases Nat.eq_zero_or_pos len' with h0 | h0
      · left
        subst h0
        simp
      · right
        have ha := hpl h0
        refine ⟨a.block, a.off, by rw [← ha], fun j u hu => ?_⟩
        have hj : j < len' := by
          have := (List.getElem?_eq_some_iff.1 hu).1
          omega
        have h3 := hcell j (by omega)
        rw [ha, add_plain] at h3
        rw [h3]
        simp only [List.getElem?_map, List.getElem?_take, if_pos hj] at hu
        rw [List.getElem?_eq_getElem (by omega)] at hu
        simp at hu
        rw [← hu]
        simp [List.getD, List.getElem?_eq_getElem (show j < zs.length by omega)]
    · have h1 : 0 < len' := by rw [List.length_take] at h0; omega
      have h2 := World.block_lt_of_cell? w _ (hcell 0 (by omega))
      injection hg with hg
      subst hg
      exact h2
theorem open_nums {r : Reach} {b0 : Nat} {t e : TypeId} {v : Value} {d : DataW H} {p : List MemPlace} (ht : P.underlying t = some (.slice e)) (he : P.underlying e = some (.int .i64)) (hC : P.cellsOf e = 1)
    (hval : Value.okWide P w r b0 t v) (h : DataW.Trod enc P w 0 (fun _ => true) true t v d p) :
    ∃ xs : List Int, Reads w v (xs.map (Value.int .i64)) ∧ (∀ x ∈ xs, -9223372036854775808 ≤ x ∧ x ≤ 9223372036854775807) ∧ (0 < xs.length → ∀ g, v.ownBlock = some g → g < w.heap.size) := by
  obtain ⟨a0, len, cap, rfl⟩ := okWide_slice ht hval
  obtain ⟨fuel, hf⟩ := h
  have hc : (Value.slice a0 len cap).cells.toList = [Value.slice a0 len cap] := rfl
  rw [hc] at hf
  exact open_cell_ints ht he hC hf
end

/-- An act on a disk: its kind, a sector, a byte, a fuse's number, fates. -/
structure DAct where
  what : Int
  pos : Int
  byt : UInt8
  n : Int
  fv : Value
  fs : List Int

/-- A slice of acts, to be read. -/
def DActs (w : World) (v : Value) (l : List DAct) : Prop :=
  ∃ a cap, v = .slice a l.length cap ∧ l.length ≤ cap ∧ cap ≤ maxLen ∧
    (∀ x ∈ l, (-9223372036854775808 ≤ x.what ∧ x.what ≤ 9223372036854775807) ∧ (-9223372036854775808 ≤ x.pos ∧ x.pos ≤ 9223372036854775807) ∧ (-9223372036854775808 ≤ x.n ∧ x.n ≤ 9223372036854775807) ∧ Reads w x.fv (x.fs.map (Value.int .i64)) ∧ (∀ z ∈ x.fs, -9223372036854775808 ≤ z ∧ z ≤ 9223372036854775807) ∧ (0 < x.fs.length → ∀ g, x.fv.ownBlock = some g → g < w.heap.size)) ∧
    (l = [] ∨ ∃ g off, a = some ⟨g, off, none⟩ ∧ g < w.heap.size ∧ ∀ j t, l[j]? = some t →
      w.cell? ⟨g, off + j * 5, none⟩ = some (.int .i64 t.what) ∧ w.cell? ⟨g, off + j * 5 + 1, none⟩ = some (.int .i64 t.pos) ∧ w.cell? ⟨g, off + j * 5 + 2, none⟩ = some (.int .u8 (t.byt.toNat : Nat)) ∧ w.cell? ⟨g, off + j * 5 + 3, none⟩ = some (.int .i64 t.n) ∧ w.cell? ⟨g, off + j * 5 + 4, none⟩ = some t.fv)

theorem Try.cellsDAct : Try.prog.cellsOf 35 = 5 := by kernel_rfl
theorem Try.cellsI : Try.prog.cellsOf 3 = 1 := by kernel_rfl
theorem Try.cellsU : Try.prog.cellsOf 5 = 1 := by kernel_rfl
theorem Try.cellsIs : Try.prog.cellsOf 33 = 1 := by kernel_rfl

theorem open_dacts {H : Type} {enc : TypeId × Value → H} {W : World} {r : Reach} {b0 : Nat} {v : Value} {d : DataW H} {p : List MemPlace} (hval : Value.okWide Try.prog W r b0 22 v)
    (h : DataW.Trod enc Try.prog W 0 (fun _ => true) true 22 v d p) : ∃ l : List DAct, DActs W v l := by
  obtain ⟨a, n, cap, rfl, hn, hcap, hel⟩ := open_slice_any Try.underlying22 Try.cellsDAct (by decide) hval h
  rcases hel with rfl | ⟨g, off, rfl, hg, hel⟩
  · exact ⟨[], a, cap, rfl, Nat.zero_le _, hcap, fun x hx => (by cases hx), .inl rfl⟩
  · have each : ∀ i, ∃ q : DAct, ((-9223372036854775808 ≤ q.what ∧ q.what ≤ 9223372036854775807) ∧ (-9223372036854775808 ≤ q.pos ∧ q.pos ≤ 9223372036854775807) ∧ (-9223372036854775808 ≤ q.n ∧ q.n ≤ 9223372036854775807) ∧ Reads W q.fv (q.fs.map (Value.int .i64)) ∧ (∀ z ∈ q.fs, -9223372036854775808 ≤ z ∧ z ≤ 9223372036854775807) ∧ (0 < q.fs.length → ∀ g, q.fv.ownBlock = some g → g < W.heap.size)) ∧
        (i < n → W.cell? ⟨g, off + i * 5, none⟩ = some (.int .i64 q.what) ∧ W.cell? ⟨g, off + i * 5 + 1, none⟩ = some (.int .i64 q.pos) ∧ W.cell? ⟨g, off + i * 5 + 2, none⟩ = some (.int .u8 (q.byt.toNat : Nat)) ∧ W.cell? ⟨g, off + i * 5 + 3, none⟩ = some (.int .i64 q.n) ∧ W.cell? ⟨g, off + i * 5 + 4, none⟩ = some q.fv) := by
      intro i
      by_cases hi : i < n
      · obtain ⟨cs, f, y, hl, hc, ht⟩ := hel i hi
        obtain ⟨xs, m, _, _, _, hxl, hf⟩ := DataW.trod_struct Try.underlying35 ht
        match cs, hl with
        | [c0, c1, c2, c3, c4], _ =>
          have k0 := hc 0 (by decide)
          have k1 := hc 1 (by decide)
          have k2 := hc 2 (by decide)
          have k3 := hc 3 (by decide)
          have k4 := hc 4 (by decide)
          match xs, hxl with
          | [x0, x1, x2, x3, x4], _ =>
            have f0 : DataW.trod enc Try.prog W 0 (fun _ => true) true m 3 [c0] = some x0 := by simpa [Try.cellsI] using hf 0 _ rfl
            have f1 : DataW.trod enc Try.prog W 0 (fun _ => true) true m 3 [c1] = some x1 := by simpa [Try.cellsI] using hf 1 _ rfl
            have f2 : DataW.trod enc Try.prog W 0 (fun _ => true) true m 5 [c2] = some x2 := by simpa [Try.cellsU] using hf 2 _ rfl
            have f3 : DataW.trod enc Try.prog W 0 (fun _ => true) true m 3 [c3] = some x3 := by simpa [Try.cellsI] using hf 3 _ rfl
            have f4 : DataW.trod enc Try.prog W 0 (fun _ => true) true m 33 [c4] = some x4 := by simpa [Try.cellsIs] using hf 4 _ rfl
            obtain ⟨n0, e0, _, w0⟩ := DataW.trod_int Try.underlying3 f0
            obtain ⟨n1, e1, _, w1⟩ := DataW.trod_int Try.underlying3 f1
            obtain ⟨n2, e2, _, w2⟩ := DataW.trod_int Try.underlying5 f2
            obtain ⟨n3, e3, _, w3⟩ := DataW.trod_int Try.underlying3 f3
            obtain ⟨fs, hr, hw, ho⟩ := open_cell_ints Try.underlying33 Try.underlying3 Try.cellsI f4
            injection e0 with e0 _; injection e1 with e1 _; injection e2 with e2 _; injection e3 with e3 _
            subst e0; subst e1; subst e2; subst e3
            obtain ⟨b2, rfl, hb2⟩ := wf_u8 w2
            have hbb : (UInt8.ofNat b2).toNat = b2 := by simp; omega
            exact ⟨⟨n0, n1, UInt8.ofNat b2, n3, c4, fs⟩, ⟨wf_i64 w0, wf_i64 w1, wf_i64 w3, hr, hw, ho⟩, fun _ => ⟨k0, k1, by show _ = some (Value.int .u8 (((UInt8.ofNat b2).toNat : Nat) : Int)); rw [hbb]; exact k2, k3, k4⟩⟩
      · exact ⟨⟨0, 0, 0, 0, .slice none 0 0, []⟩, ⟨⟨by decide, by decide⟩, ⟨by decide, by decide⟩, ⟨by decide, by decide⟩, ⟨none, 0, rfl, Nat.le_refl _, Nat.zero_le _, .inl rfl⟩, fun z hz => (by cases hz), fun _ g hg => (by cases hg)⟩, fun h => absurd h hi⟩
    obtain ⟨f, hf⟩ := Classical.axiomOfChoice each
    refine ⟨(List.range n).map f, some ⟨g, off, none⟩, cap, by simp, by simpa using hn, hcap, fun x hx => ?_, .inr ⟨g, off, rfl, hg, fun j t ht => ?_⟩⟩
    · obtain ⟨i, _, rfl⟩ := List.mem_map.1 hx
      exact (hf i).1
    · rw [List.getElem?_map] at ht
      by_cases hj : j < n
      · rw [List.getElem?_range hj] at ht
        have := Option.some.inj ht
        subst this
        exact (hf j).2 hj
      · rw [List.getElem?_eq_none (by simp; omega)] at ht
        cases ht
end Go.Proofs.Ytjjpknmjkhaahaa

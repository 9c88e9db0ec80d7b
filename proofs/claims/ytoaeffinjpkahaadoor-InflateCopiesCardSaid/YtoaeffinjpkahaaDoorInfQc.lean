/- A decoder by plain data: Copy. -/
import Derived.Test.YtoaeffinjpkahaaDoorInfTo
import Derived.StillTailTactics
import Derived.Test.YtoaeffinjpkahaaDoorRows
import Derived.Test.YtoaeffinjpkahaaDoorBase
import Derived.Test.YtoaeffinjpkahaaDoorOpen
import Derived.Lib.LaidU8
namespace Go.Proofs.YtoaeffinjpkahaaDoor
set_option linter.unusedSimpArgs false
set_option linter.unusedVariables false
open Go Go.RowKit
set_option maxRecDepth 100000

/-- A decoder writes to nothing that isn't there. -/
theorem DecD.shrink {F : Nat → Prop} {w : World} {b : Nat} {d : DS} (h : DecD F w b d) : DecD (fun k => F k ∧ k < w.heap.size) w b d := by
  cases d with
  | run q =>
    obtain ⟨⟨v, p, ⟨⟨v5, g, v7, v8, p17, p18, hD, hown, hT⟩, hrow, h15⟩, hv⟩, h7⟩ := h
    refine ⟨⟨v, p, ⟨⟨v5, g, v7, v8, p17, p18, hD, fun k hk => .inl ?_, Touch.refl _ _⟩, hrow, fun k hk => .inl ?_⟩, hv⟩, h7⟩
    · have hl := hD.mlt k hk
      rcases hown k hk with e | e
      · exact ⟨e, hl⟩
      · omega
    · have hl := (hD.cod.l15 k hk).1
      rcases h15 k hk with e | e
      · exact ⟨e, hl⟩
      · omega
  | fin c t r =>
    obtain ⟨⟨c0, c1, c2, c3, v4, c4, hB, hap, hf, v5, g5, hbk, hrd, hap5⟩, k1, k2⟩ := h
    refine ⟨⟨c0, c1, c2, c3, v4, c4, hB, hap, hf, v5, g5, hbk, hrd, hap5⟩, ⟨k1, hbk.lt⟩, fun j v hj e k ek => ⟨k2 j v hj e k ek, ?_⟩⟩
    rcases hj with rfl | rfl
    · obtain rfl : v4 = v := Option.some.inj (c4.symm.trans e)
      exact hB.lt k ek
    · obtain rfl : v5 = v := Option.some.inj ((Block.cell hbk 5).symm.trans e)
      obtain ⟨_, q, _⟩ := hrd
      exact q.lt k ek
  | bad r t =>
    obtain ⟨⟨v5, g5, hbk, hrd, hap5⟩, k1, k2⟩ := h
    refine ⟨⟨v5, g5, hbk, hrd, hap5⟩, ⟨k1, hbk.lt⟩, fun v e k ek => ⟨k2 v e k ek, ?_⟩⟩
    obtain rfl : v5 = v := Option.some.inj ((Block.cell hbk 5).symm.trans e)
    obtain ⟨_, q, _⟩ := hrd
    exact q.lt k ek

theorem codeV_re {S : Nat → Prop} {w W : World} {b b' : Nat} {v5 v7 v8 v5' v7' v8' p : Value} {L L' : Option Nat} {ls : List Nat} (h : CodeV w b v5 v7 v8 L p ls) (ht : Touch S w W) (hS : ∀ k, S k → Mut b v5 v7 v8 k ∨ w.heap.size ≤ k)
    (hM : ∀ k, Mut b' v5' v7' v8' k → Mut b v5 v7 v8 k ∨ w.heap.size ≤ k) (hL : ∀ k, L' = some k → L = some k ∨ w.heap.size ≤ k) : CodeV W b' v5' v7' v8' L' p ls := by
  obtain ⟨c, n0, n1, rfl, h1, h2, h3⟩ := h
  refine ⟨c, n0, n1, rfl, h1.kept ht (fun k k0 k1 hk => ?_), Nat.le_trans h2 ht.size, fun k k0 k1 => ⟨fun hk => ?_, fun hk => ?_⟩⟩
  · rcases hS k hk with e | e
    · exact (h3 k k0 k1).1 e
    · omega
  · rcases hM k hk with e | e
    · exact (h3 k k0 k1).1 e
    · omega
  · rcases hL k hk with e | e
    · exact (h3 k k0 k1).2 e
    · omega
/-- A decoder's cells, told anew: in another block, or with other rows. -/
theorem decM_re {S : Nat → Prop} {w W : World} {b b' : Nat} {s : PS} {v5 v7 v8 p17 p18 : Value} {g : Nat} (h : DecM w b s v5 g v7 v8 p17 p18) (ht : Touch S w W) (hS : ∀ k, S k → Mut b v5 v7 v8 k ∨ w.heap.size ≤ k)
    {v5' v7' v8' v15' : Value} {g' : Nat} (hB : Block W b' 80 (decL { s with v15 := v15' } v5' g' v7' v8' p17 p18)) (hrd : RdV W v5' g' s.bits) (hrow : Row W 5 v7' (byteVs s.out)) (hwin : WinV W v8' s.all) (hap : Ap b' v5' v7' v8')
    (hM : ∀ k, Mut b' v5' v7' v8' k → Mut b v5 v7 v8 k ∨ w.heap.size ≤ k)
    (h15 : ∀ q, v15'.ownBlock = some q → (s.v15.ownBlock = some q ∨ w.heap.size ≤ q) ∧ q < W.heap.size ∧ ¬ Mut b' v5' v7' v8' q) : DecM W b' { s with v15 := v15' } v5' g' v7' v8' p17 p18 := by
  obtain ⟨k1, k2, k3, k4, k5, k6, k7, k8, k9⟩ := h
  refine ⟨hB, hrd, hrow, hwin, hap, ⟨fun lw ld hf => ?_, fun lt hf => ?_, fun q hq => (h15 q hq).2, k6.one⟩, k7, k8, k9⟩
  · obtain ⟨c1, c2⟩ := k6.cod lw ld hf
    exact ⟨codeV_re c1 ht hS hM (fun k e => (h15 k e).1), codeV_re c2 ht hS hM (fun k e => (h15 k e).1)⟩
  · exact codeV_re (k6.tel lt hf) ht hS hM (fun k e => (h15 k e).1)

/-- What comes of a copy: both decoders, apart from one another. -/
def CopyD (F : Nat → Prop) (w w' : World) (b c : Nat) (d : DS) : Prop := ∃ F1 F2 : Nat → Prop, DecD F2 w' c d ∧ (∀ w2, Touch F2 w' w2 → DecD F1 w2 b d) ∧ (∀ k, F1 k → k < w'.heap.size ∧ ¬ F2 k) ∧ (∀ k, F2 k → w.heap.size ≤ k) ∧ (∀ k, F1 k → F k ∨ w.heap.size ≤ k) ∧ Touch F w w'

theorem slice_one {w : World} {e : TypeId} {v : Value} {xs : List Value} (h : Row w e v xs) : v.oneCell' = true := by
  obtain ⟨a, cap, rfl, _⟩ := h.form
  rfl
set_option maxHeartbeats 1000000 in
theorem dcopy_run {F : Nat → Prop} {w : World} {b : Nat} {q : QS} (h : DecD F w b (.run q)) (hF : ∀ k, F k → k < w.heap.size) (hk : OkD (.run q)) (hl : q.bits.length < 900000000) (hls : q.ls.length ≤ 1048576) :
    Calls Tryd.prog 11 #[.pointer (some ⟨b, 0, none⟩)] w fun e w' => ∃ c, e = .returned (.pointer (some ⟨c, 0, none⟩)) ∧ CopyD F w w' b c (.run q) := by
  obtain ⟨⟨v, p, ⟨⟨v5, g, v7, v8, p17, p18, hD, hown, _⟩, hrow, h15⟩, hv⟩, h7⟩ := h
  obtain rfl : v7 = .slice none 0 0 := Option.some.inj ((Block.cell hD.blk 7).symm.trans h7)
  obtain ⟨ys, hrow5, hrdx⟩ := hD.rd
  obtain ⟨R, hrow8, hring⟩ := hD.win
  have hm := hD.mlt
  have hap := hD.ap
  have hFm : ∀ k, Mut b v5 (.slice none 0 0) v8 k → F k := fun k e => by
    rcases hown k e with q | q
    · exact q
    · have := hm k e
      omega
  have hF15 : ∀ k, v.ownBlock = some k → F k := fun k e => by
    rcases h15 k e with q | q
    · exact q
    · have := (hD.cod.l15 k e).1
      omega
  have hC : Cell24 w b (decL (q.ps v p) v5 g (.slice none 0 0) v8 p17 p18) [] q.bits q.all (intVs q.ls) (.slice none 0 0) v5 v8 v g :=
    { blk := hD.blk
      len := rfl
      one := fun u hu => by
        have o5 := slice_one hrow5
        have o8 := slice_one hrow8
        have o15 := slice_one hrow
        obtain ⟨o17, o18, o16⟩ := hD.cod.one
        simp only [decL, List.mem_cons, List.not_mem_nil, or_false] at hu
        rcases hu with rfl | rfl | rfl | rfl | rfl | rfl | rfl | rfl | rfl | rfl | rfl | rfl | rfl | rfl | rfl | rfl | rfl | rfl | rfl | rfl | rfl | rfl | rfl | rfl <;> first | rfl | assumption
      c4 := rfl
      c5 := rfl
      c6 := rfl
      c8 := rfl
      c9 := rfl
      c15 := rfl
      r4 := (Row.nil w 5).reads
      rd := hD.rd
      win := hD.win
      r15 := hrow.reads
      one4 := ⟨fun u hu => (by cases hu), by decide⟩
      one15 := ⟨fun u hu => (by
        obtain ⟨x, _, rfl⟩ := List.mem_map.1 hu
        rfl), by rw [intVs_length]; exact hls⟩
      bits := ⟨hD.l2, hl⟩
      n4 := by simp [Value.ownBlock]
      n5 := hap.1
      n8 := hap.2.2.1
      n15 := fun e => (hD.cod.l15 b e).2 (.inl rfl)
      l15 := fun k e => (hD.cod.l15 k e).1
      a4 := fun k _ => by simp [Value.ownBlock]
      a8 := hap.2.2.2.2.1
      a15 := fun k e e2 => (hD.cod.l15 k e2).2 (.inr (.inl e)) }
  refine (icopy_raw hC).mono ?_
  rintro e w' ⟨c, r4, r5, g5, r8, r15, q5, h5, rfl, hO⟩
  refine ⟨c, rfl, fun k => F k ∨ q5.ownBlock = some k, fun k => k = c ∨ r5.ownBlock = some k ∨ r8.ownBlock = some k ∨ r15.ownBlock = some k, ?_, fun w2 ht2 => ?_, fun k e => ?_, fun k e => ?_, fun k e => ?_, ?_⟩
  · obtain rfl := hO.nil4 rfl
    have hMc : ∀ k, Mut c r5 (.slice none 0 0) r8 k → Mut b v5 (.slice none 0 0) v8 k ∨ w.heap.size ≤ k := fun k e => by
      have := hO.fresh
      rcases e with e | e | e | e
      · exact .inr (by omega)
      · have := hO.f5 k e; exact .inr (by omega)
      · simp [Value.ownBlock] at e
      · have := hO.f8 k e; exact .inr (by omega)
    have hDc := decM_re hD hO.touch (fun k e => .inl (by rcases e with e | e; exact .inl e; exact .inr (.inl e))) (b' := c) (v5' := r5) (g' := g5) (v7' := .slice none 0 0) (v8' := r8) (v15' := r15) hO.cop hO.rdc (show Row _ _ _ (byteVs q.out) from by rw [hk.2.2.1]; exact Row.nil _ _) hO.winc
      ⟨fun e => by have := hO.f5 c e; omega, by simp [Value.ownBlock], fun e => by have := hO.f8 c e; omega, fun k _ => by simp [Value.ownBlock], fun k e => (hO.d58 k e).1, fun k e => by simp [Value.ownBlock] at e⟩ hMc
      (fun k e => ⟨.inr (by have := hO.f15 k e; have := hO.fresh; omega), hO.row15.lt k e, fun e2 => by
        rcases e2 with e2 | e2 | e2 | e2
        · have := hO.f15 k e; omega
        · exact (hO.d58 k e2).2.1 e
        · simp [Value.ownBlock] at e2
        · exact (hO.d8 k e2).1 e⟩)
    refine ⟨⟨r15, p, ⟨⟨r5, g5, .slice none 0 0, r8, p17, p18, hDc, fun k e => .inl ?_, Touch.refl _ _⟩, hO.row15, fun k e => .inl (.inr (.inr (.inr e)))⟩, fun e => hO.nilc (hv e)⟩, Block.cell hDc.blk 7⟩
    rcases e with e | e | e | e
    · exact .inl e
    · exact .inr (.inl e)
    · simp [Value.ownBlock] at e
    · exact .inr (.inr (.inl e))
  · have hfr := hO.fresh
    have hn2 : ∀ k, (k = c ∨ r5.ownBlock = some k ∨ r8.ownBlock = some k ∨ r15.ownBlock = some k) → w.heap.size ≤ k := fun k e => by
      rcases e with e | e | e | e
      · omega
      · have := hO.f5 k e; omega
      · have := hO.f8 k e; omega
      · have := hO.f15 k e; omega
    have hT2 : Touch (fun k => k = b ∨ v5.ownBlock = some k) w w2 := hO.touch.trans' ht2 (fun k e => .inr (hn2 k e))
    have hbw := hD.blk.lt
    have hMq : ∀ k, Mut b q5 (.slice none 0 0) v8 k → Mut b v5 (.slice none 0 0) v8 k ∨ w.heap.size ≤ k := fun k e => by
      rcases e with e | e | e | e
      · exact .inl (.inl e)
      · rcases (hO.q5f k e).2.2 with q | q
        · exact .inl (.inr (.inl q))
        · exact .inr q
      · simp [Value.ownBlock] at e
      · exact .inl (.inr (.inr (.inr e)))
    have hq5n : ∀ k, q5.ownBlock = some k → ¬ (k = c ∨ r5.ownBlock = some k ∨ r8.ownBlock = some k ∨ r15.ownBlock = some k) := fun k e e2 => by
      rcases e2 with e2 | e2 | e2 | e2
      · exact (hO.q5f k e).2.1 e2
      · exact (hO.d58 k e2).2.2 e
      · exact (hO.d8 k e2).2 e
      · exact hO.d15 k e2 e
    have hDb := decM_re hD hT2 (fun k e => .inl (by rcases e with e | e; exact .inl e; exact .inr (.inl e))) (b' := b) (v5' := q5) (g' := h5) (v7' := .slice none 0 0) (v8' := v8) (v15' := v) (hO.orig.kept ht2 (fun e => by have := hn2 b e; omega)) (hO.rdo.kept ht2 hq5n) (show Row _ _ _ (byteVs q.out) from by rw [hk.2.2.1]; exact Row.nil _ _)
      (hD.win.kept hT2 (fun k e e2 => by
        rcases e2 with e2 | e2
        · exact hap.2.2.1 (by rw [e, e2])
        · exact hap.2.2.2.2.1 k e2 e))
      ⟨fun e => (hO.q5f b e).1 rfl, by simp [Value.ownBlock], hap.2.2.1, fun k _ => by simp [Value.ownBlock], fun k e e2 => by
        rcases (hO.q5f k e).2.2 with q | q
        · exact hap.2.2.2.2.1 k q e2
        · have := hm k (.inr (.inr (.inr e2))); omega, fun k e => by simp [Value.ownBlock] at e⟩ hMq
      (fun k e => ⟨.inl e, Nat.lt_of_lt_of_le (hD.cod.l15 k e).1 hT2.size, fun e2 => by
        rcases hMq k e2 with q | q
        · exact (hD.cod.l15 k e).2 q
        · have := (hD.cod.l15 k e).1; omega⟩)
    refine ⟨⟨v, p, ⟨⟨q5, h5, .slice none 0 0, v8, p17, p18, hDb, fun k e => .inl ?_, Touch.refl _ _⟩, hrow.kept hT2 (fun k e e2 => ?_), fun k e => .inl (.inl (hF15 k e))⟩, hv⟩, Block.cell hDb.blk 7⟩
    · rcases e with e | e | e | e
      · exact .inl (hFm k (.inl e))
      · exact .inr e
      · simp [Value.ownBlock] at e
      · exact .inl (hFm k (.inr (.inr (.inr e))))
    · rcases e2 with e2 | e2
      · exact (hD.cod.l15 k e).2 (.inl e2)
      · exact (hD.cod.l15 k e).2 (.inr (.inl e2))
  · have hfr := hO.fresh
    have hsz := hO.touch.size
    rcases e with e | e
    · have := hF k e
      refine ⟨by omega, fun e2 => ?_⟩
      rcases e2 with e2 | e2 | e2 | e2
      · omega
      · have := hO.f5 k e2; omega
      · have := hO.f8 k e2; omega
      · have := hO.f15 k e2; omega
    · refine ⟨by obtain ⟨_, q, _⟩ := hO.rdo; exact q.lt k e, fun e2 => ?_⟩
      rcases e2 with e2 | e2 | e2 | e2
      · exact (hO.q5f k e).2.1 e2
      · exact (hO.d58 k e2).2.2 e
      · exact (hO.d8 k e2).2 e
      · exact hO.d15 k e2 e
  · have hfr := hO.fresh
    rcases e with e | e | e | e
    · omega
    · have := hO.f5 k e; omega
    · have := hO.f8 k e; omega
    · have := hO.f15 k e; omega
  · rcases e with e | e
    · exact .inl e
    · rcases (hO.q5f k e).2.2 with q | q
      · exact .inl (hFm k (.inr (.inl q)))
      · exact .inr q
  · exact hO.touch.mono (fun k e => by
      rcases e with e | e
      · exact hFm k (.inl e)
      · exact hFm k (.inr (.inl e)))

theorem RestAt.reads {w : World} {v : Value} {e : List UInt8} (h : RestAt w v e) : Reads w v (byteVs e) := by
  rcases h with ⟨G, cap, rfl, hG, hc, h1, h2, _⟩ | h
  · refine ⟨some ⟨G, 0, none⟩, cap, by rw [byteVs_length], by rw [byteVs_length]; exact h1, h2, .inr ⟨G, 0, rfl, fun j u hu => ?_⟩⟩
    have hj : j < e.length := by
      have := (List.getElem?_eq_some_iff.1 hu).1
      rwa [byteVs_length] at this
    have e1 := hc j hj
    rw [add_zero] at e1
    rw [Nat.zero_add, e1, ← hu]
    simp [byteVs, hj]
  · exact h.reads
theorem byteVs_one (e : List UInt8) : ∀ u ∈ byteVs e, u.oneCell' = true := fun u hu => by
  obtain ⟨x, _, rfl⟩ := List.mem_map.1 hu
  rfl

set_option maxHeartbeats 1000000 in
theorem dcopy_fin {F : Nat → Prop} {w : World} {b came told : Nat} {rest : List UInt8} (h : DecD F w b (.fin came told rest)) (hF : ∀ k, F k → k < w.heap.size) (hl : rest.length ≤ 1048576) :
    Calls Tryd.prog 11 #[.pointer (some ⟨b, 0, none⟩)] w fun e w' => ∃ c, e = .returned (.pointer (some ⟨c, 0, none⟩)) ∧ CopyD F w w' b c (.fin came told rest) := by
  obtain ⟨⟨c0, c1, c2, c3, v4, c4, hR4, hap, hf, v5, g5, hbk, hrd, hap5⟩, hFb, hF45⟩ := h
  obtain ⟨a4, cap4, hv4⟩ := hR4.form
  have hF5 : ∀ k, v5.ownBlock = some k → F k := hF45 5 v5 (.inr rfl) (Block.cell hbk 5)
  have hF4 : ∀ k, v4.ownBlock = some k → F k := hF45 4 v4 (.inl rfl) (Block.cell hbk 4)
  have hC : Cell24 w b (endB came told v4 v5 g5) (byteVs rest) [] [] [] v4 v5 (.slice none 0 0) (.slice none 0 0) g5 :=
    { blk := hbk
      len := rfl
      one := fun u hu => by
        have o5 : v5.oneCell' = true := by
          obtain ⟨_, q, _⟩ := hrd
          exact slice_one q
        have o4 : v4.oneCell' = true := by rw [hv4]; rfl
        simp only [endB, List.mem_cons, List.not_mem_nil, or_false] at hu
        rcases hu with rfl | rfl | rfl | rfl | rfl | rfl | rfl | rfl | rfl | rfl | rfl | rfl | rfl | rfl | rfl | rfl | rfl | rfl | rfl | rfl | rfl | rfl | rfl | rfl <;> first | rfl | assumption
      c4 := rfl
      c5 := rfl
      c6 := rfl
      c8 := rfl
      c9 := rfl
      c15 := rfl
      r4 := hR4.reads
      rd := hrd
      win := ⟨[], Row.nil _ _, ring_nil⟩
      r15 := (Row.nil w 3).reads
      one4 := ⟨byteVs_one rest, by rw [byteVs_length]; exact hl⟩
      one15 := ⟨fun u hu => (by cases hu), by decide⟩
      bits := ⟨fun x hx => (by cases hx), by decide⟩
      n4 := fun e => by have := hap b e; omega
      n5 := fun e => (hap5 b e).1 rfl
      n8 := by simp [Value.ownBlock]
      n15 := by simp [Value.ownBlock]
      l15 := fun k e => by simp [Value.ownBlock] at e
      a4 := fun k e => (hap5 k e).2
      a8 := fun k _ => by simp [Value.ownBlock]
      a15 := fun k _ => by simp [Value.ownBlock] }
  refine (icopy_raw hC).mono ?_
  rintro e w' ⟨c, r4, r5, g6, r8, r15, q5, h5, rfl, hO⟩
  obtain rfl := hO.nil8 rfl
  obtain rfl := hO.nilc rfl
  have hfr := hO.fresh
  have hbc : Block w' c 80 (endB came told r4 r5 g6) := hO.cop
  have hbw := hbk.lt
  refine ⟨c, rfl, fun k => F k ∨ q5.ownBlock = some k, fun k => k = c ∨ r4.ownBlock = some k ∨ r5.ownBlock = some k, ?_, fun w2 ht2 => ?_, fun k e => ?_, fun k e => ?_, fun k e => ?_, ?_⟩
  · refine ⟨⟨Block.cell hbc 0, Block.cell hbc 1, Block.cell hbc 2, Block.cell hbc 3, r4, Block.cell hbc 4, .inr hO.row4, hO.f4, fun j => Block.free hbc j, r5, g6, hbc, hO.rdc, fun k e => ⟨by have := hO.f5 k e; omega, fun e2 => (hO.d45 k e2).1 e⟩⟩, .inl rfl, fun j v hj e k ek => ?_⟩
    rcases hj with rfl | rfl
    · obtain rfl : r4 = v := Option.some.inj ((Block.cell hbc 4).symm.trans e)
      exact .inr (.inl ek)
    · obtain rfl : r5 = v := Option.some.inj ((Block.cell hbc 5).symm.trans e)
      exact .inr (.inr ek)
  · have hn2 : ∀ k, (k = c ∨ r4.ownBlock = some k ∨ r5.ownBlock = some k) → w.heap.size ≤ k := fun k e => by
      rcases e with e | e | e
      · omega
      · have := hO.f4 k e; omega
      · have := hO.f5 k e; omega
    have hT2 : Touch (fun k => k = b ∨ v5.ownBlock = some k) w w2 := hO.touch.trans' ht2 (fun k e => .inr (hn2 k e))
    have hq5n : ∀ k, q5.ownBlock = some k → ¬ (k = c ∨ r4.ownBlock = some k ∨ r5.ownBlock = some k) := fun k e e2 => by
      rcases e2 with e2 | e2 | e2
      · exact (hO.q5f k e).2.1 e2
      · exact (hO.d45 k e2).2.2.2 e
      · exact (hO.d58 k e2).2.2 e
    have hb2 : Block w2 b 80 (endB came told v4 q5 h5) := hO.orig.kept ht2 (fun e => by have := hn2 b e; omega)
    refine ⟨⟨Block.cell hb2 0, Block.cell hb2 1, Block.cell hb2 2, Block.cell hb2 3, v4, Block.cell hb2 4, hR4.kept hT2 (fun k e e2 => ?_), hap, fun j => Block.free hb2 j, q5, h5, hb2, hO.rdo.kept ht2 hq5n, fun k e => ⟨(hO.q5f k e).1, fun e2 => ?_⟩⟩, .inl hFb, fun j v hj e k ek => ?_⟩
    · rcases e2 with e2 | e2
      · have := hap k e; omega
      · exact (hap5 k e2).2 e
    · rcases (hO.q5f k e).2.2 with q | q
      · exact (hap5 k q).2 e2
      · have := hR4.lt k e2; omega
    · rcases hj with rfl | rfl
      · obtain rfl : v4 = v := Option.some.inj ((Block.cell hb2 4).symm.trans e)
        exact .inl (hF4 k ek)
      · obtain rfl : q5 = v := Option.some.inj ((Block.cell hb2 5).symm.trans e)
        exact .inr ek
  · have hsz := hO.touch.size
    rcases e with e | e
    · have := hF k e
      refine ⟨by omega, fun e2 => ?_⟩
      rcases e2 with e2 | e2 | e2
      · omega
      · have := hO.f4 k e2; omega
      · have := hO.f5 k e2; omega
    · refine ⟨by obtain ⟨_, q, _⟩ := hO.rdo; exact q.lt k e, fun e2 => ?_⟩
      rcases e2 with e2 | e2 | e2
      · exact (hO.q5f k e).2.1 e2
      · exact (hO.d45 k e2).2.2.2 e
      · exact (hO.d58 k e2).2.2 e
  · rcases e with e | e | e
    · omega
    · have := hO.f4 k e; omega
    · have := hO.f5 k e; omega
  · rcases e with e | e
    · exact .inl e
    · rcases (hO.q5f k e).2.2 with q | q
      · exact .inl (hF5 k q)
      · exact .inr q
  · exact hO.touch.mono (fun k e => by
      rcases e with e | e
      · rw [e]; exact hFb
      · exact hF5 k e)

set_option maxHeartbeats 1000000 in
theorem dcopy_bad {F : Nat → Prop} {w : World} {b r told : Nat} (h : DecD F w b (.bad r told)) (hF : ∀ k, F k → k < w.heap.size) :
    Calls Tryd.prog 11 #[.pointer (some ⟨b, 0, none⟩)] w fun e w' => ∃ c, e = .returned (.pointer (some ⟨c, 0, none⟩)) ∧ CopyD F w w' b c (.bad r told) := by
  obtain ⟨⟨v5, g5, hbk, hrd, hap5⟩, hFb, hF5'⟩ := h
  have hF5 : ∀ k, v5.ownBlock = some k → F k := hF5' v5 (Block.cell hbk 5)
  have hC : Cell24 w b (badB r told v5 g5) [] [] [] [] (.slice none 0 0) v5 (.slice none 0 0) (.slice none 0 0) g5 :=
    { blk := hbk
      len := rfl
      one := fun u hu => by
        have o5 : v5.oneCell' = true := by
          obtain ⟨_, q, _⟩ := hrd
          exact slice_one q
        simp only [badB, List.mem_cons, List.not_mem_nil, or_false] at hu
        rcases hu with rfl | rfl | rfl | rfl | rfl | rfl | rfl | rfl | rfl | rfl | rfl | rfl | rfl | rfl | rfl | rfl | rfl | rfl | rfl | rfl | rfl | rfl | rfl | rfl <;> first | rfl | assumption
      c4 := rfl
      c5 := rfl
      c6 := rfl
      c8 := rfl
      c9 := rfl
      c15 := rfl
      r4 := (Row.nil w 5).reads
      rd := hrd
      win := ⟨[], Row.nil _ _, ring_nil⟩
      r15 := (Row.nil w 3).reads
      one4 := ⟨fun u hu => (by cases hu), by decide⟩
      one15 := ⟨fun u hu => (by cases hu), by decide⟩
      bits := ⟨fun x hx => (by cases hx), by decide⟩
      n4 := by simp [Value.ownBlock]
      n5 := fun e => hap5 b e rfl
      n8 := by simp [Value.ownBlock]
      n15 := by simp [Value.ownBlock]
      l15 := fun k e => by simp [Value.ownBlock] at e
      a4 := fun k _ => by simp [Value.ownBlock]
      a8 := fun k _ => by simp [Value.ownBlock]
      a15 := fun k _ => by simp [Value.ownBlock] }
  refine (icopy_raw hC).mono ?_
  rintro e w' ⟨c, r4, r5, g6, r8, r15, q5, h5, rfl, hO⟩
  obtain rfl := hO.nil4 rfl
  obtain rfl := hO.nil8 rfl
  obtain rfl := hO.nilc rfl
  have hfr := hO.fresh
  have hbc : Block w' c 80 (badB r told r5 g6) := hO.cop
  have hbw := hbk.lt
  refine ⟨c, rfl, fun k => F k ∨ q5.ownBlock = some k, fun k => k = c ∨ r5.ownBlock = some k, ?_, fun w2 ht2 => ?_, fun k e => ?_, fun k e => ?_, fun k e => ?_, ?_⟩
  · refine ⟨⟨r5, g6, hbc, hO.rdc, fun k e => by have := hO.f5 k e; omega⟩, .inl rfl, fun v e k ek => ?_⟩
    obtain rfl : r5 = v := Option.some.inj ((Block.cell hbc 5).symm.trans e)
    exact .inr ek
  · have hn2 : ∀ k, (k = c ∨ r5.ownBlock = some k) → w.heap.size ≤ k := fun k e => by
      rcases e with e | e
      · omega
      · have := hO.f5 k e; omega
    have hq5n : ∀ k, q5.ownBlock = some k → ¬ (k = c ∨ r5.ownBlock = some k) := fun k e e2 => by
      rcases e2 with e2 | e2
      · exact (hO.q5f k e).2.1 e2
      · exact (hO.d58 k e2).2.2 e
    have hb2 : Block w2 b 80 (badB r told q5 h5) := hO.orig.kept ht2 (fun e => by have := hn2 b e; omega)
    refine ⟨⟨q5, h5, hb2, hO.rdo.kept ht2 hq5n, fun k e => (hO.q5f k e).1⟩, .inl hFb, fun v e k ek => ?_⟩
    obtain rfl : q5 = v := Option.some.inj ((Block.cell hb2 5).symm.trans e)
    exact .inr ek
  · have hsz := hO.touch.size
    rcases e with e | e
    · have := hF k e
      refine ⟨by omega, fun e2 => ?_⟩
      rcases e2 with e2 | e2
      · omega
      · have := hO.f5 k e2; omega
    · refine ⟨by obtain ⟨_, q, _⟩ := hO.rdo; exact q.lt k e, fun e2 => ?_⟩
      rcases e2 with e2 | e2
      · exact (hO.q5f k e).2.1 e2
      · exact (hO.d58 k e2).2.2 e
  · rcases e with e | e
    · omega
    · have := hO.f5 k e; omega
  · rcases e with e | e
    · exact .inl e
    · rcases (hO.q5f k e).2.2 with q | q
      · exact .inl (hF5 k q)
      · exact .inr q
  · exact hO.touch.mono (fun k e => by
      rcases e with e | e
      · rw [e]; exact hFb
      · exact hF5 k e)

/-- Copy of a decoder in any state. -/
theorem dcopy {F : Nat → Prop} {w : World} {b : Nat} {d : DS} (h : DecD F w b d) (hk : OkD d) {B : Nat} (hz : szD d B) (hB : B < 900000000) (hr : ∀ c t r, d = .fin c t r → r.length ≤ 1048576) :
    Calls Tryd.prog 11 #[.pointer (some ⟨b, 0, none⟩)] w fun e w' => ∃ c, e = .returned (.pointer (some ⟨c, 0, none⟩)) ∧ CopyD (fun k => F k ∧ k < w.heap.size) w w' b c d := by
  have hs := h.shrink
  cases d with
  | run q =>
    refine dcopy_run hs (fun k e => e.2) hk ?_ ?_
    · have := hz.1
      have hb : 2 * q.bits.length ≤ msQ q := by unfold msQ; omega
      omega
    · have hg := hk.1
      by_cases h5 : q.st = 5
      · have := hg.cnt (.inr (.inl h5)); omega
      · by_cases h6 : q.st = 6
        · have := hg.cnt (.inr (.inr h6)); omega
        · rw [hg.nil h5 h6]; decide
  | fin c t r => exact dcopy_fin hs (fun k e => e.2) (hr _ _ _ rfl)
  | bad r t => exact dcopy_bad hs (fun k e => e.2)
def cameD : DS → Nat
  | .run q => q.came
  | .fin c _ _ => c
  | .bad _ _ => 0
theorem feedQ_came {d : DS} (hk : OkD d) (t : List UInt8) : cameD (feedQ d t).2.2 ≤ cameD d + t.length := by
  cases d with
  | run q =>
    have hr := runS_facts (hk.1.fed t) (fed_two hk.2.2.2.1 t)
    have hc : (runS (fedS0 q t)).2.came = q.came + t.length := hr.came
    show cameD (stopS (runS (fedS0 q t))).2.2 ≤ q.came + t.length
    generalize runS (fedS0 q t) = x at hc
    unfold stopS
    split
    · show x.2.came ≤ _
      omega
    · split
      · show x.2.came ≤ _
        omega
      · exact Nat.zero_le _
  | fin c n r => exact Nat.le_refl _
  | bad r n => exact Nat.zero_le _
end Go.Proofs.YtoaeffinjpkahaaDoor
/- The law's own stream of numbers and bytes. -/
namespace Go.Proofs.YtoaeffinjpkahaaDoor
set_option linter.unusedSimpArgs false
set_option linter.unusedVariables false
open Go Go.RowKit
set_option maxRecDepth 100000

theorem WrAt.new (w : World) : WrAt (w.alloc (.cells #[.slice none 0 0, .int .u64 0, .int .i64 0] 60)) w.heap.size 0 [] none := by
  have h := heap_alloc_new w (.cells #[.slice none 0 0, .int .u64 0, .int .i64 0] 60)
  refine ⟨[], 0, 0, .slice none 0 0, ⟨⟨?_, ?_, ?_, ?_, ?_, ?_⟩, Row.nil _ _, by simp [Value.ownBlock]⟩, rfl, by decide, by decide, rfl⟩
  all_goals first
    | (rw [cell_of_row _ _ _ _ _ _ h]; rfl)
    | (simp only [World.frozen?, h]; rfl)

theorem WrAt.lt {w : World} {b o : Nat} {l : List Nat} {row : Option Nat} (h : WrAt w b o l row) : b < w.heap.size := by
  obtain ⟨_, _, _, _, h, _⟩ := h
  exact h.cells.lt
/-- The step behind a call that may write a fresh object and its row alone. -/
theorem fresh_step {w a c : World} {k0 : Nat} {row : Option Nat} (ht : Touch (fun _ => False) w a) (h0 : w.heap.size ≤ k0) (hr : Sep w.heap.size none row) (h : Touch (fun k => k = k0 ∨ row = some k) a c) : Touch (fun _ => False) w c :=
  ht.trans' h (fun i hi => by
    rcases hi with rfl | hi
    · exact .inr h0
    · rcases hr with hr | ⟨g, hr, hg⟩
      · rw [hr] at hi; cases hi
      · rw [hr] at hi; injection hi with hi; right; omega)
/-- A Writer that came since w, its row too; nothing that was in w has been written. -/
structure FrW (w wr : World) (b : Nat) (l : List Nat) (row : Option Nat) : Prop where
  at_ : WrAt wr b 0 l row
  fresh : w.heap.size ≤ b
  sep : Sep w.heap.size none row
  touch : Touch (fun _ => False) w wr
theorem FrW.new (w : World) : FrW w (w.alloc (.cells #[.slice none 0 0, .int .u64 0, .int .i64 0] 60)) w.heap.size [] none :=
  ⟨WrAt.new w, Nat.le_refl _, .inl rfl, (Touch.refl _ _).alloc _⟩
theorem FrW.step {w wr w' : World} {b : Nat} {l l' : List Nat} {row row' : Option Nat} (h : FrW w wr b l row) (h1 : WrAt w' b 0 l' row') (h2 : Sep wr.heap.size row row') (h3 : Touch (fun k => k = b ∨ row = some k) wr w') : FrW w w' b l' row' :=
  ⟨h1, h.fresh, h.sep.trans h2 h.touch.size, fresh_step h.touch h.fresh h.sep h3⟩
theorem FrW.kept {w wr w' : World} {b : Nat} {l : List Nat} {row : Option Nat} (h : FrW w wr b l row) (h3 : Touch (fun _ => False) wr w') : FrW w w' b l row :=
  ⟨h.at_.kept h3 id (fun _ _ => id), h.fresh, h.sep, h.touch.trans h3⟩
theorem i64_mask (k : Nat) (hk : k ≤ 62) (m : Int) (hm : m = 2 ^ k - 1) (n : Int) : bits .and .i64 n m = n % 2 ^ k := by
  have h62 : 2 ^ k ≤ 2 ^ 62 := Nat.pow_le_pow_right (by decide) hk
  have hpos : 0 < 2 ^ k := Nat.pow_pos (by decide)
  have hm' : m = ((2 ^ k - 1 : Nat) : Int) := by rw [hm]; have : ((2 : Int) ^ k) = ((2 ^ k : Nat) : Int) := by norm_cast
                                                 rw [this]; omega
  have hkk : (BitVec.ofInt 64 m).toNat = 2 ^ k - 1 := by rw [hm', BitVec.toNat_ofInt]; omega
  have key : (BitVec.ofInt 64 n &&& BitVec.ofInt 64 m).toNat = (n % ((2 ^ 64 : Nat) : Int)).toNat % 2 ^ k := by
    rw [BitVec.toNat_and, BitVec.toNat_ofInt, hkk, Nat.and_two_pow_sub_one_eq_mod]
  show IntKind.i64.wrap ((BitVec.ofInt 64 n &&& BitVec.ofInt 64 m).toNat : Nat) = n % 2 ^ k
  have hd : ((2 ^ k : Nat) : Int) ∣ ((2 ^ 64 : Nat) : Int) := Int.natCast_dvd_natCast.2 (Nat.pow_dvd_pow 2 (by omega))
  have hlt : (n % ((2 ^ 64 : Nat) : Int)).toNat % 2 ^ k < 2 ^ k := Nat.mod_lt _ hpos
  have e : (((n % ((2 ^ 64 : Nat) : Int)).toNat % 2 ^ k : Nat) : Int) = n % ((2 ^ k : Nat) : Int) := by
    rw [Int.natCast_emod, Int.toNat_of_nonneg (Int.emod_nonneg _ (by decide)), Int.emod_emod_of_dvd _ hd]
  rw [key, IntWalk.i64_in _ (by omega), e]
  norm_cast


/-- Pieces in memory: a number, and in how many bits. -/
def PiecesAt (w : World) (v : Value) (l : List (Nat × Int)) : Prop := ∃ a cap, v = .slice a l.length cap ∧ l.length ≤ cap ∧ cap ≤ maxLen ∧ (∀ p ∈ l, p.1 < 18446744073709551616) ∧ (l = [] ∨ ∃ g off, a = some ⟨g, off, none⟩ ∧ g < w.heap.size ∧ ∀ i p, l[i]? = some p → w.cell? ⟨g, off + i * 2, none⟩ = some (.int .u64 (p.1 : Nat)) ∧ w.cell? ⟨g, off + i * 2 + 1, none⟩ = some (.int .i64 p.2))

set_option maxHeartbeats 2000000 in
theorem stream_calls (l : List (Nat × Int)) (v : Value) (S : ByteArray) (w : World) (h : PiecesAt w v l) (hS : S.size ≤ 9223372036854775807) :
    Calls Tryd.prog 8 #[v, .string S] w fun e w' => ∃ T : ByteArray, e = .returned (.string T) ∧ T.size ≤ 700 ∧ Touch (fun _ => False) w w' := by
  obtain ⟨a, cap, rfl, hcap, hmax, hwf, hel⟩ := h
  unfold maxLen at hmax
  obtain ⟨n, hn⟩ : ∃ n, n = l.length := ⟨_, rfl⟩
  rw [← hn] at hcap ⊢
  have HE := Lib.hid (And.intro hn (And.intro hwf hel))
  clear hwf hel hn
  go_enter Tryd.func8, Tryd.ntmps8
  go_upto_region 3 with fail
  have hnew := FrW.new w
  generalize hBB : w.heap.size = b at hnew ⊢
  have HBB := Lib.hid hBB
  clear hBB
  go_loopw [6] (fun i wr => ∃ (k : Nat) (bs : List Nat) (row : Option Nat), i = .int .i64 k ∧ k ≤ n ∧ k ≤ 150 ∧ bs.length ≤ 32 * k ∧ FrW w wr b bs row) (fun i _ => n - (intOf i).toNat)
  case atStart => exact ⟨0, [], none, rfl, Nat.zero_le _, Nat.zero_le _, Nat.zero_le _, hnew⟩
  case round =>
    clear hnew
    obtain ⟨k, bs, row, rfl, hk, hk1, hbl, hW⟩ := hrel
    by_cases hlt : k < n ∧ k < 150
    · obtain ⟨hlt, hlt1⟩ := hlt
      obtain ⟨p, hp⟩ : ∃ p, l[k]? = some p := ⟨_, List.getElem?_eq_getElem (by have := HE.out.1; omega)⟩
      have hpw := HE.out.2.1 p (List.mem_of_getElem? hp)
      obtain ⟨g, off, ha, hg, hcell⟩ : ∃ g off, a = some ⟨g, off, none⟩ ∧ g < w.heap.size ∧ ∀ i p, l[i]? = some p → w.cell? ⟨g, off + i * 2, none⟩ = some (.int .u64 (p.1 : Nat)) ∧ w.cell? ⟨g, off + i * 2 + 1, none⟩ = some (.int .i64 p.2) := by
        rcases HE.out.2.2 with e | e
        · have := HE.out.1
          rw [e] at this
          simp at this
          omega
        · exact e
      subst ha
      obtain ⟨q0, q1⟩ := hcell k p hp
      have p0 := hW.touch.cell q0 id
      have p1 := hW.touch.cell q1 id
      obtain ⟨m, hm⟩ : ∃ m : Nat, p.2 % 32 = (m : Int) := ⟨(p.2 % 32).toNat, by omega⟩
      have h31 : bits .and .i64 p.2 31 = (m : Int) := by rw [i64_mask 5 (by decide) 31 (by decide)]; exact hm
      have hml : m < 32 := by omega
      obtain ⟨q, hq⟩ : ∃ q, q = p.1 := ⟨_, rfl⟩
      obtain ⟨z, hz⟩ : ∃ z, z = p.2 := ⟨_, rfl⟩
      rw [← hq] at p0 hpw
      rw [← hz] at p1 h31
      clear q0 q1 hcell hm hp hq hz
      have k1 : IntKind.i64.wrap (m : Int) = (m : Int) := IntWalk.i64_in _ (by omega)
      have k2 : IntKind.i64.wrap (1 + (m : Int)) = ((1 + m : Nat) : Int) := by rw [IntWalk.i64_in _ (by omega)]; omega
      go_wp2_with fail
      go_still_tail 12, (by kernel_rfl)
      clear k1 k2
      have hW1 := hW.kept (Touch.refl (fun _ => False) _).drew
      change wpList _ _ _ _ _ wr.drew
      generalize wr.drew = w2 at hW1 ⊢
      go_wp2_with fail
      refine (write_calls b 0 q (1 + m) bs row w2 hW1.at_ (by omega) (by omega) hpw (by omega)).mono ?_
      rintro e w3 ⟨rfl, row3, h3, hs3, ht3⟩
      have hW3 := hW1.step h3 hs3 ht3
      have HW := Lib.hid hW3
      have hl3 : (bs ++ bitsN (1 + m) q).length ≤ 32 * (k + 1) := by rw [List.length_append, bitsN_length]; omega
      have HL3 := Lib.hid hl3
      clear hW hW1 h3 hs3 ht3 hW3 hl3 p0 p1
      go_wp2_with fail
      go_roundw
      case rel =>
        have HREL : ∃ (k' : Nat) (bs' : List Nat) (row' : Option Nat), Value.int .i64 ((k : Int) + 1) = .int .i64 k' ∧ k' ≤ n ∧ k' ≤ 150 ∧ bs'.length ≤ 32 * k' ∧ FrW w w3 b bs' row' := ⟨k + 1, _, _, by go_num, hlt, hlt1, HL3.out, HW.out⟩
        first
          | exact HREL
          | ((repeat apply Exists.intro); exact ⟨HREL, rfl⟩)
      case measure => simp [intOf]; omega
    · have hH := Lib.hid (And.intro hW hbl)
      have hc2 : n ≤ k ∨ (k < n ∧ 150 ≤ k) := by omega
      clear hW hbl hlt
      obtain ⟨q, hq⟩ : ∃ q, q = min S.size 40 := ⟨_, rfl⟩
      have hm1 : min (S.size : Int) 40 = (q : Int) := by omega
      have hm2 : (if (40 : Int) < (S.size : Int) then (40 : Int) else (S.size : Int)) = (q : Int) := by split <;> omega
      have hqs : (q : Int) ≤ (S.size : Int) := by omega
      have hq0 : (0 : Int) ≤ (q : Int) := by omega
      obtain ⟨E, hE⟩ : ∃ E, S.extract 0 q = E := ⟨_, rfl⟩
      have hEs : E.size ≤ 40 := by rw [← hE, ByteArray.size_extract]; omega
      have HES := Lib.hid hEs
      clear hEs hq
      have hkk : bs.length ≤ 4800 := by have := hH.out.2; omega
      have HK := Lib.hid hkk
      clear hkk
      have hcond : (k : Int) < (n : Int) → (k : Int) < 150 → False := by omega
      rcases hc2 with hc | ⟨hc, hc3⟩
      all_goals
        clear hcond
        go_wp2_with fail
        have hl0 := HK.out
        refine (walign_calls b 0 bs row wr hH.out.1.at_ (by omega)).mono ?_
        rintro e w3 ⟨rfl, row3, h3, hs3, ht3⟩
        have HW3 := Lib.hid (hH.out.1.step h3 hs3 ht3)
        clear h3 hs3 ht3 hl0
        go_wp2_with fail
        have hl0 := HK.out
        have hpad : padN bs.length ≤ 7 := by unfold padN; omega
        refine (add_calls b 0 E _ row3 w3 HW3.out.at_ (by rw [List.length_append, List.length_replicate]; have := HES.out; omega)).mono ?_
        rintro e w4 ⟨rfl, row4, h4, hs4, ht4⟩
        have HW4 := Lib.hid (HW3.out.step h4 hs4 ht4)
        clear h4 hs4 ht4 hl0 hpad
        go_wp2_with fail
        refine (drain_calls b 0 _ row4 w4 HW4.out.at_).mono ?_
        rintro e w5 ⟨rfl, h5, ht5⟩
        have HT5 := Lib.hid (fresh_step HW4.out.touch HW4.out.fresh HW4.out.sep (ht5.mono (fun _ e => .inl e)))
        clear h5 ht5
        go_wp2_with fail
        go_ret
        refine ⟨_, rfl, ?_, HT5.out⟩
        have hl0 := HK.out
        have hpad : ∀ x, padN x ≤ 7 := fun x => by unfold padN; omega
        show (bytesK _ _).toArray.size ≤ 700
        rw [List.size_toArray, bytesK_length]
        simp only [List.length_append, List.length_replicate, bitsL_length, data_length]
        have h1 := hpad bs.length
        have h2 := hpad (bs.length + padN bs.length)
        have := HES.out
        omega
end Go.Proofs.YtoaeffinjpkahaaDoor
/- A new decoder by plain data; the tables of the row; pieces of an argument. -/
namespace Go.Proofs.YtoaeffinjpkahaaDoor
set_option linter.unusedSimpArgs false
set_option linter.unusedVariables false
open Go Go.ChangeShapes Go.WideShapes Go.ChangeAt Go.RowKit
set_option maxRecDepth 100000

theorem goodq0 : GoodQ qs0 := by
  constructor
  all_goals first
    | decide
    | (intro h; exact absurd h (by decide))
    | (intro _ _; rfl)
    | (intro _ h; cases h)
    | (intro h h2; exact absurd h (by decide))
theorem okd0 : OkD (.run qs0) := ⟨goodq0, by decide, rfl, (fun x hx => by cases hx), by decide⟩
theorem szd0 : szD (.run qs0) 300 := ⟨by decide, by decide, by decide⟩
theorem inew_q (w : World) : Calls Tryd.prog 9 #[] w fun e w' => ∃ b, e = .returned (.pointer (some ⟨b, 0, none⟩)) ∧ w.heap.size ≤ b ∧ DecD (fun k => w.heap.size ≤ k) w' b (.run qs0) ∧ Touch (fun _ => False) w w' := by
  go_enter Tryd.func9, Tryd.ntmps9
  go_wp2_with fail
  go_ret
  refine ⟨w.heap.size, rfl, Nat.le_refl _, ⟨⟨.slice none 0 0, .pointer none, ⟨⟨.slice none 0 0, 0, .slice none 0 0, .slice none 0 0, .pointer none, .pointer none, ⟨?_, ⟨[], Row.nil _ _, by decide, by decide, rfl⟩, Row.nil _ _, ⟨[], Row.nil _ _, ring_nil⟩, ?_, ⟨(fun _ _ h => by cases h), (fun _ h => by cases h), (fun _ h => by cases h), ⟨rfl, rfl, rfl⟩⟩, ⟨(fun h => by cases h), (fun _ _ h => by cases h), (fun _ h => by cases h)⟩, (fun x hx => by cases hx), by decide⟩, fun k hk => ?_, Touch.refl _ _⟩, Row.nil _ _, fun k e => by simp [Value.ownBlock] at e⟩, fun _ => rfl⟩, ?_⟩, (Touch.refl _ w).alloc _⟩
  · exact Block.new w _ _
  · exact ⟨by simp [Value.ownBlock], by simp [Value.ownBlock], by simp [Value.ownBlock], fun k h => by simp [Value.ownBlock] at h, fun k h => by simp [Value.ownBlock] at h, fun k h => by simp [Value.ownBlock] at h⟩
  · rcases hk with e | e | e | e
    · exact .inl (by rw [e]; exact Nat.le_refl _)
    · simp [Value.ownBlock] at e
    · simp [Value.ownBlock] at e
    · simp [Value.ownBlock] at e
  · exact Block.cell (Block.new w _ _) 7

theorem tabs_at {W : World} (hL : laidMetH Tryd.prog Rows.inflateCopiesRow.laid W) : TabsI W := by
  have n1 : Tryd.prog.globalNamed "lighter/inflate.order" = some 1 := by kernel_rfl
  have n2 : Tryd.prog.globalNamed "lighter/inflate.repeats" = some 2 := by kernel_rfl
  refine ⟨fun i x hx => ?_, fun i x hx => ?_⟩
  · obtain ⟨g, t, cs, fuel, p, hg, hty, hvar, hd⟩ := Lib.laidMet.reads hL (.head _)
    obtain rfl := Option.some.inj (n1.symm.trans hg)
    obtain rfl : 144 = t := Option.some.inj ((show (Tryd.prog.globals[1]?).map (·.type) = some 144 by kernel_rfl).symm.trans hty)
    have hcs := Lib.cells_of_tab (k := .i64) (zs := ordL.map Int.ofNat) Tryd.underlying144 Tryd.underlying3 (by kernel_rfl) (by kernel_rfl) hd
    rw [World.var?_cell hg hvar i, ← Array.getElem?_toList, hcs, List.map_map, List.getElem?_map, hx]
    rfl
  · obtain ⟨g, t, cs, fuel, p, hg, hty, hvar, hd⟩ := Lib.laidMet.reads hL (.tail _ (.head _))
    obtain rfl := Option.some.inj (n2.symm.trans hg)
    obtain rfl : 174 = t := Option.some.inj ((show (Tryd.prog.globals[2]?).map (·.type) = some 174 by kernel_rfl).symm.trans hty)
    have c2 : Tryd.prog.cellsOf 173 = 2 := by kernel_rfl
    have c1 : Tryd.prog.cellsOf 3 = 1 := by kernel_rfl
    have key : ∀ j, j < 3 → cs.toList[2 * j]? = some (.int .i64 ((repL.getD (2 * j) 0 : Nat) : Int)) ∧ cs.toList[2 * j + 1]? = some (.int .i64 ((repL.getD (2 * j + 1) 0 : Nat) : Int)) := fun j hj => by
      obtain ⟨fuel', d, q, hdi, he⟩ := Lib.array_elem Tryd.underlying174 hd j hj
      rw [c2] at he
      have hd' : d = .agg ([((repL.getD (2 * j) 0 : Nat) : Int), ((repL.getD (2 * j + 1) 0 : Nat) : Int)].map fun z => .lit (.int .i64 z)) := by
        rcases (by omega : j = 0 ∨ j = 1 ∨ j = 2) with rfl | rfl | rfl <;> exact (Option.some.inj hdi).symm
      subst hd'
      have hcs := Lib.ints_of_struct Tryd.underlying173 (fun k f hk => by
        match k, hk with
        | 0, hk => simp at hk; subst hk; exact ⟨Tryd.underlying3, rfl, c1⟩
        | 1, hk => simp at hk; subst hk; exact ⟨Tryd.underlying3, rfl, c1⟩
        | k + 2, hk => simp at hk) (by rw [c2]; rfl) he
      have e0 := congrArg (·[0]?) hcs
      have e1 := congrArg (·[1]?) hcs
      simp only [List.getElem?_take, List.getElem?_drop] at e0 e1
      exact ⟨by simpa [Nat.mul_comm] using e0, by simpa [Nat.mul_comm] using e1⟩
    rw [World.var?_cell hg hvar i, ← Array.getElem?_toList]
    have hi : i < 6 := (List.getElem?_eq_some_iff.1 hx).1
    rcases (by omega : i = 0 ∨ i = 1 ∨ i = 2 ∨ i = 3 ∨ i = 4 ∨ i = 5) with rfl | rfl | rfl | rfl | rfl | rfl
    · exact (key 0 (by decide)).1.trans (by cases hx; rfl)
    · exact (key 0 (by decide)).2.trans (by cases hx; rfl)
    · exact (key 1 (by decide)).1.trans (by cases hx; rfl)
    · exact (key 1 (by decide)).2.trans (by cases hx; rfl)
    · exact (key 2 (by decide)).1.trans (by cases hx; rfl)
    · exact (key 2 (by decide)).2.trans (by cases hx; rfl)

theorem open_pieces {H : Type} {enc : TypeId × Value → H} {W : World} {r : Reach} {b0 : Nat} {v : Value} {d : DataW H} {p : List MemPlace} (hval : Value.okWide Tryd.prog W r b0 22 v)
    (h : DataW.Trod enc Tryd.prog W 0 (fun _ => true) true 22 v d p) : ∃ l : List (Nat × Int), PiecesAt W v l := by
  have cellsU : Tryd.prog.cellsOf 45 = 1 := by kernel_rfl
  have cellsI : Tryd.prog.cellsOf 3 = 1 := by kernel_rfl
  obtain ⟨a, n, cap, rfl, hn, hcap, hel⟩ := open_slice_any Tryd.underlying22 (show Tryd.prog.cellsOf 71 = 2 by kernel_rfl) (by decide) hval h
  rcases hel with rfl | ⟨g, off, rfl, hg, hel⟩
  · exact ⟨[], a, cap, rfl, Nat.zero_le _, hcap, fun p hp => (by cases hp), .inl rfl⟩
  · have each : ∀ i, ∃ q : Nat × Int, q.1 < 18446744073709551616 ∧ (i < n → W.cell? ⟨g, off + i * 2, none⟩ = some (.int .u64 (q.1 : Nat)) ∧ W.cell? ⟨g, off + i * 2 + 1, none⟩ = some (.int .i64 q.2)) := by
      intro i
      by_cases hi : i < n
      · obtain ⟨cs, f, y, hl, hc, ht⟩ := hel i hi
        obtain ⟨xs, m, _, _, _, hxl, hf⟩ := DataW.trod_struct Tryd.underlying71 ht
        match cs, hl with
        | [c0, c1], _ =>
          have k0 := hc 0 (by decide)
          have k1 := hc 1 (by decide)
          match xs, hxl with
          | [x0, x1], _ =>
            have f0 : DataW.trod enc Tryd.prog W 0 (fun _ => true) true m 45 [c0] = some x0 := by simpa [cellsU] using hf 0 _ rfl
            have f1 : DataW.trod enc Tryd.prog W 0 (fun _ => true) true m 3 [c1] = some x1 := by simpa [cellsI] using hf 1 _ rfl
            obtain ⟨n0, e0, _, w0⟩ := DataW.trod_int Tryd.underlying45 f0
            obtain ⟨n1, e1, _, _⟩ := DataW.trod_int Tryd.underlying3 f1
            injection e0 with e0 _; injection e1 with e1 _
            subst e0; subst e1
            obtain ⟨m0, rfl, hm0⟩ := wf_u64 w0
            exact ⟨(m0, n1), hm0, fun _ => ⟨k0, k1⟩⟩
      · exact ⟨(0, 0), by decide, fun h => absurd h hi⟩
    obtain ⟨f, hf⟩ := Classical.axiomOfChoice each
    refine ⟨(List.range n).map f, some ⟨g, off, none⟩, cap, by simp, by simpa using hn, hcap, fun p hp => ?_, .inr ⟨g, off, rfl, hg, fun j t ht => ?_⟩⟩
    · obtain ⟨i, _, rfl⟩ := List.mem_map.1 hp
      exact (hf i).1
    · rw [List.getElem?_map] at ht
      by_cases hj : j < n
      · rw [List.getElem?_range hj] at ht
        have := Option.some.inj ht
        subst this
        exact (hf j).2 hj
      · rw [List.getElem?_eq_none (by simp; omega)] at ht
        cases ht
end Go.Proofs.YtoaeffinjpkahaaDoor

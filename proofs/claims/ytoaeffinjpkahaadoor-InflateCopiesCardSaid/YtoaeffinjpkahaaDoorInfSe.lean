
/- A decoder behind the stream's end: Feed. -/
import Derived.Test.YtoaeffinjpkahaaDoorInfSd
import Derived.Deep.MidRow
namespace Go.Proofs.YtoaeffinjpkahaaDoor
set_option linter.unusedSimpArgs false
set_option linter.unusedVariables false
open Go Go.RowKit
set_option maxRecDepth 100000

theorem Touch.setCells {S : Nat → Prop} {a : World} {g : Nat} (hp : S g ∨ a.heap.size ≤ g) : ∀ (vs : List Value) (o : Nat) (w : World), Touch S a w → Touch S a (w.setCells g o vs)
  | [], _, _, h => h
  | v :: r, o, _, h => Touch.setCells hp r (o + 1) _ (h.setCell (p := ⟨g, o, none⟩) hp v)
theorem add_zero (G j : Nat) : (⟨G, 0, none⟩ : Addr).add j = ⟨G, j, none⟩ := by
  by_cases h0 : j = 0
  · subst h0; simp [Addr.add]
  · simp [Addr.add, h0]
theorem byteCells_get (T : ByteArray) (j : Nat) (hj : j < T.data.toList.length) (h : j < (byteCells T).length) : (byteCells T)[j] = .int .u8 (T.data.toList[j].toNat : Int) := by
  simp [byteCells]

theorem run_append_bytes {P : Program} (w : World) (t ty e u : TypeId) (i : TypeInfo) (ht : P.underlying t = some (.slice e)) (hu : P.underlying u = some .string) (hi : P.info? e = some i) (hz : i.zero = some (.int .u8 0)) (hs1 : i.size = 1) (hby : i.bytes = 1)
    {v : Value} {rest : List UInt8} (h : BytesAt w v rest) (T : ByteArray) (hm : rest.length + T.size ≤ 1000000000) :
    ∃ v' w', (Builtin.append_ #[t, u] ty #[v, .string T]).run P w = .ok v' w' ∧ BytesAt w' v' (rest ++ T.data.toList) ∧ Touch (fun k => v.ownBlock = some k) w w' ∧ (v'.ownBlock = v.ownBlock ∨ v'.ownBlock = some w.heap.size) := by
  obtain ⟨G, cap, rfl, hG, hc, hlc, hcm, hth⟩ := h
  have hs : Src P i.size u (.string T) T.size (byteCells T) w := by rw [hs1]; exact Src.ofString w hu T
  have hbl : (byteCells T).length = T.size := byteCells_length T
  have hln : (rest ++ T.data.toList).length = rest.length + T.size := by rw [List.length_append, data_length]
  by_cases hroom : rest.length + T.size ≤ cap
  · have e1 : 0 + rest.length * i.size = rest.length := by rw [hs1]; omega
    have hth' : ∀ j, j < (byteCells T).length → (w.cell? ⟨G, rest.length + j, none⟩).isSome = true ∧ w.frozen? ⟨G, rest.length + j, none⟩ = false := fun j hj => hth _ (by omega)
    have hr := run_append_room_src (P := P) w t u ty e i ht hi G 0 rest.length cap (.string T) T.size (byteCells T) hs hroom (fun j hj => by rw [e1]; exact (hth' j hj).1) (fun j hj => by rw [e1]; exact (hth' j hj).2)
    rw [e1] at hr
    have hT : Touch (fun k => (Value.slice (some ⟨G, 0, none⟩) rest.length cap).ownBlock = some k) w (w.setCells G rest.length (byteCells T)) := Touch.setCells (S := fun k => (Value.slice (some ⟨G, 0, none⟩) rest.length cap).ownBlock = some k) (g := G) (.inl rfl) _ _ _ (Touch.refl _ w)
    refine ⟨_, _, hr, ⟨G, cap, by rw [hln], Nat.lt_of_lt_of_le hG hT.size, fun j hj => ?_, by rw [hln]; exact hroom, hcm, fun j hj => ?_⟩, hT, .inl rfl⟩
    · rw [add_zero]
      by_cases hjr : j < rest.length
      · rw [World.cell?_setCells_out G (byteCells T) rest.length w ⟨G, j, none⟩ (fun _ _ => .inl hjr), List.getElem_append_left hjr, ← add_zero]
        exact hc j hjr
      · have hj2 : j - rest.length < (byteCells T).length := by rw [hln] at hj; omega
        have key := World.cell?_setCells_in G (byteCells T) rest.length w (fun j hj => (hth' j hj).1) (j - rest.length) hj2
        rw [show rest.length + (j - rest.length) = j by omega] at key
        rw [key, byteCells_get T (j - rest.length) (by rw [data_length]; omega), List.getElem_append_right (by omega)]
    · exact ⟨World.isSome_setCells G _ _ w _ (hth j hj).1, by rw [World.frozen?_setCells]; exact (hth j hj).2⟩
  · have hold : (Builtin.firstCells i.size rest.length (.slice (some ⟨G, 0, none⟩) rest.length cap)).run P w.drew = .ok (byteVs rest).toArray w.drew := by
      rw [hs1]
      refine run_firstCells_some w.drew 1 rest.length ⟨G, 0, none⟩ rest.length cap (byteVs rest) (by rw [byteVs_length]; omega) (fun j x hx => ?_)
      have hj : j < rest.length := by
        have := (List.getElem?_eq_some_iff.1 hx).1
        rw [byteVs_length] at this; exact this
      have h1 := hc j hj
      have hx2 : x = .int .u8 (rest[j].toNat : Int) := by
        have := (List.getElem?_eq_some_iff.1 hx).2
        rw [← this]
        simp [byteVs]
      rw [hx2]
      exact h1
    have hr := run_append_grow_src (P := P) w t u ty e i (.int .u8 0) ht hi hz (some ⟨G, 0, none⟩) rest.length cap (byteVs rest) hold (.string T) T.size (byteCells T) hs (by omega) (by omega) (growslice_fits (by omega) (by rw [hby]; omega))
    have hge := grownCap_ge w (rest.length + T.size) cap e
    have hgm : grownCap w (rest.length + T.size) cap e ≤ maxLen := grownCap_le_maxLen w (rest.length + T.size) cap e (by unfold maxLen; omega)
    obtain ⟨gc, hgc⟩ : ∃ gc, gc = grownCap w (rest.length + T.size) cap e := ⟨_, rfl⟩
    rw [← hgc] at hr hge hgm
    have h9 : (w.drew.alloc (.cells ((byteVs rest ++ byteCells T).toArray ++ Builtin.zeroCells (Value.int .u8 0).cells (gc - (rest.length + T.size))) e)).heap[w.heap.size]? = some (.cells ((byteVs rest ++ byteCells T).toArray ++ Builtin.zeroCells (Value.int .u8 0).cells (gc - (rest.length + T.size))) e) := heap_alloc_new w.drew _
    have hsz : ((byteVs rest ++ byteCells T).toArray ++ Builtin.zeroCells (Value.int .u8 0).cells (gc - (rest.length + T.size))).size = gc := by
      rw [Array.size_append, List.size_toArray, List.length_append, byteVs_length, hbl, size_zeroCells]
      show rest.length + T.size + (gc - (rest.length + T.size)) * 1 = gc
      omega
    refine ⟨_, _, hr, ⟨w.heap.size, gc, by rw [hln], by rw [alloc_size]; show w.heap.size < w.heap.size + 1; omega, fun j hj => ?_, by rw [hln]; exact hge, hgm, fun j hj => ?_⟩, (Touch.refl _ w).drew.alloc _, .inr rfl⟩
    · rw [add_zero, cell_of_row _ _ _ _ _ _ h9]
      have hjn : j < (byteVs rest ++ byteCells T).length := by rw [List.length_append, byteVs_length, hbl, ← hln]; exact hj
      rw [Array.getElem?_append_left (by simpa using hjn), List.getElem?_toArray]
      have e3 : byteVs rest ++ byteCells T = byteVs (rest ++ T.data.toList) := by rw [byteVs_append]; rfl
      rw [e3]
      show (List.map _ (rest ++ T.data.toList))[j]? = _
      rw [List.getElem?_map, List.getElem?_eq_getElem hj]
      rfl
    · refine ⟨?_, box_free h9 j⟩
      rw [cell_of_row _ _ _ _ _ _ h9, Array.getElem?_eq_getElem (by rw [hsz]; exact hj)]
      rfl
section
variable {P : Program} {w : World}
theorem wpList_append_bytes {ops : Array Oper} {rest : List Oper} {o : Oper} {a : Act} {Q : Exit → Act → World → Prop} (hgd : o.guard = none) (s x : Operand) (t u : TypeId)
    (ho : o.op = .call { callee := .builtin .append, args := #[s, x], argTypes := #[t, u] }) (e : TypeId) (i : TypeInfo) (ht : P.underlying t = some (.slice e)) (hu : P.underlying u = some .string) (hi : P.info? e = some i) (hz : i.zero = some (.int .u8 0)) (hs1 : i.size = 1) (hby : i.bytes = 1)
    (v : Value) (l : List UInt8) (hsv : a.eval s = v) (h : BytesAt w v l) (T : ByteArray) (hx : a.eval x = .string T) (hm : l.length + T.size ≤ 1000000000)
    (hK : ∀ v' w', BytesAt w' v' (l ++ T.data.toList) → Touch (fun k => v.ownBlock = some k) w w' → (v'.ownBlock = v.ownBlock ∨ v'.ownBlock = some w.heap.size) → wpList P ops Q rest (a.put o.dst v') w') : wpList P ops Q (o :: rest) a w := by
  refine wpList_plain hgd fun K hK' => ?_
  obtain ⟨v', w', hr, h2, h3, h4⟩ := run_append_bytes (P := P) w t o.type e u i ht hu hi hz hs1 hby h T hm
  unfold Oper.wp execOp
  simp only [ho, resolve, invoke, builtin, Sem.run_bind, Sem.run_pure, Result.andThen_ok, List.map_toArray, List.map_cons, List.map_nil, hsv, hx, hr]
  exact hK' _ _ (hK v' w' h2 h3 h4)
end

section
variable {w : World}
/-- Bytes behind others. -/
theorem wpList_append_rest {ops : Array Oper} {rest : List Oper} {o : Oper} {a : Act} {Q : Exit → Act → World → Prop} (hgd : o.guard = none) (s x : Operand)
    (ho : o.op = .call { callee := .builtin .append, args := #[s, x], argTypes := #[58, 9] })
    (v : Value) (l : List UInt8) (hsv : a.eval s = v) (h : RestAt w v l) (T : ByteArray) (hx : a.eval x = .string T) (hm : l.length + T.size ≤ 1000000000)
    (hK : ∀ v' w', RestAt w' v' (l ++ T.data.toList) → Touch (fun k => v.ownBlock = some k) w w' → (v'.ownBlock = v.ownBlock ∨ v'.ownBlock = some w.heap.size) → wpList Tryd.prog ops Q rest (a.put o.dst v') w') : wpList Tryd.prog ops Q (o :: rest) a w := by
  obtain ⟨i0, hi, hz0, hz1, hz2⟩ := info_parts Tryd.info5
  rcases h with h | h
  · exact wpList_append_bytes hgd s x 58 9 ho 5 i0 Tryd.underlying58 Tryd.underlying9 hi hz0 hz1 hz2 v l hsv h T hx hm (fun v' w' k1 k2 k3 => hK v' w' (.inl k1) k2 k3)
  · refine wpList_append_row _ hgd s x 58 9 ho 5 i0 _ 1 Tryd.underlying58 hi hz0 hz1 hz2 rfl v (byteVs l) hsv h (.string T) hx T.size (byteCells T) (Src.ofString _ Tryd.underlying9 T) (by rw [byteVs_length]; unfold maxLen; omega) (by rw [byteVs_length]; omega) (fun v' w' k1 k2 k3 => ?_)
    exact hK v' w' (.inr (by rw [byteVs_append]; exact k1)) ((Touch.refl _ _).grown k2 (fun g hg => .inl hg)) k3
end

theorem DecE.setc {w : World} {b came told : Nat} {rest : List UInt8} (h : DecE w b came told rest) (N : Nat) : DecE (w.setCell ⟨b, 2, none⟩ (.int .i64 (N : Nat))) b N told rest := by
  obtain ⟨c0, c1, c2, c3, v4, c4, hB, hap, hf, hbk⟩ := h
  have hT1 : Touch (fun k => k = b) w (w.setCell ⟨b, 2, none⟩ (.int .i64 (N : Nat))) := (Touch.refl (fun k => k = b) w).setCell (p := ⟨b, 2, none⟩) (Or.inl rfl) _
  exact ⟨(World.cell?_setCell_other _ _ _ _ (by simp)).trans (c0), (World.cell?_setCell_other _ _ _ _ (by simp)).trans (c1), World.cell?_setCell_same _ _ _ c2, (World.cell?_setCell_other _ _ _ _ (by simp)).trans (c3), v4, (World.cell?_setCell_other _ _ _ _ (by simp)).trans (c4), hB.kept hT1 (fun k e e2 => by have := hap k e; omega), hap, (fun j => by rw [World.frozen?_setCell]; exact hf j), (by obtain ⟨v5r, g5, k1, k2, k3⟩ := hbk; exact ⟨v5r, g5, Block.set k1 2 _, k2.kept hT1 (fun k e e2 => (k3 k e).1 e2), k3⟩)⟩
theorem DecE.setr {w w2 : World} {b came told : Nat} {rest r2 : List UInt8} (h : DecE w b came told rest) {v4 v5 : Value} (c4 : w.cell? ⟨b, 4, none⟩ = some v4) (hb : b < w.heap.size) (ht : Touch (fun k => v4.ownBlock = some k) w w2) (ho : v5.ownBlock = v4.ownBlock ∨ v5.ownBlock = some w.heap.size) (hB : RestAt w2 v5 r2) : DecE (w2.setCell ⟨b, 4, none⟩ v5) b came told r2 := by
  obtain ⟨c0, c1, c2, c3, v4', c4', _, hap, hf, hbk⟩ := h
  obtain rfl : v4' = v4 := Option.some.inj (c4'.symm.trans c4)
  have hne : ¬ v4'.ownBlock = some b := fun e => by have := hap b e; omega
  have hap5 : ∀ k, v5.ownBlock = some k → b < k := fun k e => by
    rcases ho with ho | ho
    · exact hap k (by rw [← ho]; exact e)
    · rw [ho] at e
      have := Option.some.inj e
      omega
  have hblk := ht.block b hb hne
  have k : ∀ j x, w.cell? ⟨b, j, none⟩ = some x → w2.cell? ⟨b, j, none⟩ = some x := fun j x hx => (World.cell?_of_block (a := ⟨b, j, none⟩) hblk).trans hx
  have hT1 : Touch (fun k => k = b) w2 (w2.setCell ⟨b, 4, none⟩ v5) := (Touch.refl (fun k => k = b) w2).setCell (p := ⟨b, 4, none⟩) (Or.inl rfl) _
  exact ⟨(World.cell?_setCell_other _ _ _ _ (by simp)).trans (k _ _ c0), (World.cell?_setCell_other _ _ _ _ (by simp)).trans (k _ _ c1), (World.cell?_setCell_other _ _ _ _ (by simp)).trans (k _ _ c2), (World.cell?_setCell_other _ _ _ _ (by simp)).trans (k _ _ c3), v5, World.cell?_setCell_same _ _ _ (k _ _ c4), hB.kept hT1 (fun k e e2 => by have := hap5 k e; omega), hap5, (fun j => by rw [World.frozen?_setCell, World.frozen?_of_block (a := ⟨b, j, none⟩) hblk]; exact hf j), (by
    obtain ⟨v5r, g5, k1, k2, k3⟩ := hbk
    have hlt : ∀ k, v5r.ownBlock = some k → k < w.heap.size := fun k e => by obtain ⟨_, q, _⟩ := k2; exact q.lt k e
    refine ⟨v5r, g5, Block.set (k1.kept ht hne) 4 _, (k2.kept ht (fun k e => (k3 k e).2)).kept hT1 (fun k e e2 => (k3 k e).1 e2), fun k e => ⟨(k3 k e).1, fun e2 => ?_⟩⟩
    rcases ho with ho | ho
    · exact (k3 k e).2 (by rw [← ho]; exact e2)
    · have := Option.some.inj (ho.symm.trans e2)
      have := hlt k e
      omega)⟩
set_option maxHeartbeats 2000000 in
/-- Feed behind the stream's end: it tells nothing, and keeps what comes. -/
theorem ifeed_done {w : World} {b came told : Nat} {rest : List UInt8} (h : DecE w b came told rest) (t : ByteArray) (hc : came + t.size < 1000000000) (hr : rest.length + t.size ≤ 1000000000) (hbw : b < w.heap.size) :
    Calls Tryd.prog 10 #[.pointer (some ⟨b, 0, none⟩), .string t] w fun e w' => e = .returned (.tuple #[.string ⟨#[]⟩, .int .i64 0]) ∧ DecE w' b (came + t.size) told (rest ++ t.data.toList) ∧ Touch (fun k => b ≤ k) w w' := by
  have hadd : (came : Int) + (t.size : Int) = ((came + t.size : Nat) : Int) := by omega
  obtain ⟨N, hN⟩ : ∃ N, N = came + t.size := ⟨_, rfl⟩
  rw [← hN] at hadd hc ⊢
  have H1 := Lib.hid (h.setc N)
  have hT1 : Touch (fun k => b ≤ k) w (w.setCell ⟨b, 2, none⟩ (.int .i64 (N : Nat))) := (Touch.refl (fun k => b ≤ k) w).setCell (p := ⟨b, 2, none⟩) (Or.inl (Nat.le_refl b)) _
  have HT1 := Lib.hid hT1
  obtain ⟨c0, c1, c2, c3, v4, c4, hB, hap, hf, _⟩ := h
  have f2 := hf 2
  obtain ⟨i0, hi, hz0, hz1, hz2⟩ := info_parts Tryd.info5
  have HR := Lib.hid (⟨hr, hbw⟩ : _ ∧ _)
  clear hB hap hf hN hT1 hr hbw c0 c3 c4
  go_enter Tryd.func10, Tryd.ntmps10
  go_wp2_with fail
  refine (idone_end H1.out.1).mono ?_
  rintro e w1 ⟨rfl, rfl⟩
  have hbw : b < (w.setCell ⟨b, 2, none⟩ (.int .i64 (N : Nat))).heap.size := Nat.lt_of_lt_of_le HR.out.2 HT1.out.size
  generalize w.setCell ⟨b, 2, none⟩ (.int .i64 (N : Nat)) = w1 at H1 HT1 hbw ⊢
  clear c1 c2 f2
  obtain ⟨c0, c1, c2, c3, v4, c4, hB, hap, hf, _⟩ := H1.out
  have f4 := hf 4
  have HB := Lib.hid (⟨hB, hap⟩ : _ ∧ _)
  clear hB hap hf
  go_wp2_with (at_builtin; refine wpList_append_rest rfl (.tmp 34) (.tmp 35) rfl v4 rest rfl HB.out.1 t rfl HR.out.1 ?_; intro v5 w2 hB5 hT5 ho5; have H5 := Lib.hid (⟨H1.out.setr c4 hbw hT5 ho5 hB5, hT5⟩ : _ ∧ _); have hblk := hT5.block b hbw (fun e => by have := HB.out.2 b e; omega); have g4 := (World.cell?_of_block (a := ⟨b, 4, none⟩) hblk).trans c4; have e4 := (World.frozen?_of_block (a := ⟨b, 4, none⟩) hblk).trans f4; obtain ⟨G5, cap5, hv5⟩ := hB5.form; rw [List.length_append, data_length] at hv5; subst hv5; clear hT5 ho5 hblk)
  go_ret2
  refine ⟨rfl, H5.out.1, HT1.out.trans ?_⟩
  exact (H5.out.2.mono (fun k e => by have := HB.out.2 k e; omega)).setCell (p := ⟨b, 4, none⟩) (Or.inl (Nat.le_refl b)) _
end Go.Proofs.YtoaeffinjpkahaaDoor

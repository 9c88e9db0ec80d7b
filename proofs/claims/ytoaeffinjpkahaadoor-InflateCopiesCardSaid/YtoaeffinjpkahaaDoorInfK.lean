
/- A decoder: settle behind the stream's end; what is there then. -/
import Derived.Test.YtoaeffinjpkahaaDoorInfJ
import Derived.Laws.IdiomStrings
namespace Go.Proofs.YtoaeffinjpkahaaDoor
set_option linter.unusedSimpArgs false
set_option linter.unusedVariables false
open Go Go.RowKit
set_option maxRecDepth 100000

theorem step_store_row {P : Program} {ops : Array Oper} {o : Oper} {a : Act} {w : World} {K : Act → World → Prop} {Q : Exit → Act → World → Prop} {E : Prop} (hgd : o.guard = none) (ty : TypeId) (x y : Operand) (ho : o.op = .store ty x y)
    (g : Nat) (cells : Array Value) (hx : a.eval x = .pointer (some ⟨g, 0, none⟩)) (hy : a.eval y = .agg cells)
    (t : TypeId) (old : Array Value) (hg : w.heap[g]? = some (.cells old t (0, 0))) (hi : (P.info? ty).map (·.size) = some cells.size)
    (hold : old.size = cells.size) (h1 : cells.all (·.oneCell') = true)
    (h : K (a.put o.dst undef) (w.setRow g cells)) : if Region.wanted o (yielded ops a.tmps) = true then Oper.wp P o a w K Q else E := by
  have hw : Region.wanted o (yielded ops a.tmps) = true := by simp [Region.wanted, hgd]
  rw [if_pos hw]
  exact wp_store_row ty x y ho g cells hx hy t old hg hi hold h1 h
theorem zcell {w : World} {b : Nat} {t : TypeId} {xs : List Value} (h : Block w b t xs) (o : Obj) (j : Nat) (x : Value) (hx : xs[j]? = some x) : (w.alloc o).cell? ⟨b, j, none⟩ = some x := by
  rw [World.cell?_of_block (a := ⟨b, j, none⟩) (Below.heap_alloc w o b h.lt), ← hx]
  exact Block.cell h j
theorem zfree {w : World} {b : Nat} {t : TypeId} {xs : List Value} (h : Block w b t xs) (o : Obj) (j : Nat) : (w.alloc o).frozen? ⟨b, j, none⟩ = false := by
  rw [World.frozen?_of_block (a := ⟨b, j, none⟩) (Below.heap_alloc w o b h.lt)]
  exact Block.free h j
theorem RdAt.cell {φ : TypeId × (Nat → Option Value)} {w : World} {b o : Nat} {l : List Nat} {row : Option Nat} (h : RdAt φ w b o l row) : ∃ v g, Cell2 φ w b o v (.int .i64 (g : Nat)) := by
  obtain ⟨_, g, v, hc, _⟩ := h
  exact ⟨v, g, hc⟩
/-- Bytes in a block, from its beginning on; what is behind them, up to its end, may be written to. -/
def BytesAt (w : World) (v : Value) (e : List UInt8) : Prop := ∃ G cap, v = .slice (some ⟨G, 0, none⟩) e.length cap ∧ G < w.heap.size ∧ (∀ j (hj : j < e.length), w.cell? ((⟨G, 0, none⟩ : Addr).add j) = some (.int .u8 (e[j].toNat : Int))) ∧ e.length ≤ cap ∧ cap ≤ maxLen ∧ ∀ j, j < cap → (w.cell? ⟨G, j, none⟩).isSome = true ∧ w.frozen? ⟨G, j, none⟩ = false
theorem bytesRow_size (s : ByteArray) (cap : Nat) (h : s.size ≤ cap) : (bytesRow s cap).size = cap := by
  have e : s.data.size = s.size := rfl
  unfold bytesRow
  rw [Array.size_append, Array.size_map, Array.size_replicate, e]
  omega
theorem bytes_new (w : World) (s : ByteArray) (cap : Nat) (t : TypeId) (hc : s.size ≤ cap) (hm : cap ≤ maxLen) : BytesAt (w.alloc (.cells (bytesRow s cap) t ((bytesRow s cap).size, (bytesRow s cap).size + 1))) (.slice (some ⟨w.heap.size, 0, none⟩) s.size cap) s.data.toList := by
  have h9 : (w.alloc (.cells (bytesRow s cap) t ((bytesRow s cap).size, (bytesRow s cap).size + 1))).heap[w.heap.size]? = some (.cells (bytesRow s cap) t ((bytesRow s cap).size, (bytesRow s cap).size + 1)) := by
    show (w.heap.push _)[w.heap.size]? = _
    simp
  have h8 : ∀ j, (w.alloc (.cells (bytesRow s cap) t ((bytesRow s cap).size, (bytesRow s cap).size + 1))).cell? ⟨w.heap.size, j, none⟩ = (bytesRow s cap)[j]? := fun j => by
    unfold World.cell?
    simp only [h9]
    rfl
  have hsz := bytesRow_size s cap hc
  refine ⟨w.heap.size, cap, by rw [Array.length_toList]; rfl, by rw [alloc_size]; omega, fun j hj => ?_, by rw [Array.length_toList]; exact hc, hm, fun j hj => ⟨?_, ?_⟩⟩
  · have hj2 : j < s.data.size := by rw [← Array.length_toList]; exact hj
    have h2 : (bytesRow s cap)[j]? = some (.int .u8 (s.data.toList[j].toNat : Int)) := by
      unfold bytesRow
      rw [Array.getElem?_append_left (by simpa using hj2), Array.getElem?_map, Array.getElem?_eq_getElem hj2]
      simp
    have h3 : (⟨w.heap.size, 0, none⟩ : Addr).add j = ⟨w.heap.size, j, none⟩ := by
      by_cases h0 : j = 0
      · subst h0; simp [Addr.add]
      · simp [Addr.add, h0]
    rw [h3, h8, h2]
  · rw [h8, Array.getElem?_eq_getElem (by rw [hsz]; exact hj)]
    rfl
  · unfold World.frozen?
    simp only [h9]
    simp
    omega
theorem BytesAt.kept {S : Nat → Prop} {w w' : World} {v : Value} {e : List UInt8} (h : BytesAt w v e) (ht : Touch S w w') (hs : ∀ k, v.ownBlock = some k → ¬ S k) : BytesAt w' v e := by
  obtain ⟨G, cap, rfl, hG, h1, h2, h3, h4⟩ := h
  have hB := ht.block G hG (hs G rfl)
  refine ⟨G, cap, rfl, Nat.lt_of_lt_of_le hG ht.size, fun j hj => ?_, h2, h3, fun j hj => ?_⟩
  · have hb : ((⟨G, 0, none⟩ : Addr).add j).block = G := by unfold Addr.add; split <;> rfl
    have := h1 j hj
    rw [← this]
    exact World.cell?_of_block (by rw [hb]; exact hB)
  · rw [World.cell?_of_block (w := w) (a := ⟨G, j, none⟩) hB, World.frozen?_of_block (w := w) (a := ⟨G, j, none⟩) hB]
    exact h4 j hj
def endA (came told : Nat) (u : Value) : Array Value := #[.int .i64 11, .int .i64 0, .int .i64 (came : Nat), .int .i64 (told : Nat), u, .slice none 0 0, .int .i64 0, .slice none 0 0, .slice none 0 0, .int .i64 0, .bool false, .int .i64 0, .int .i64 0, .int .i64 0, .int .i64 0, .slice none 0 0, .pointer none, .pointer none, .pointer none, .bool false, .int .i64 0, .int .i64 0, .int .i64 0, .int .i64 0]
/-- Bytes that may be appended to. -/
def RestAt (w : World) (v : Value) (e : List UInt8) : Prop := BytesAt w v e ∨ Row w 5 v (byteVs e)
theorem RestAt.kept {S : Nat → Prop} {w w' : World} {v : Value} {e : List UInt8} (h : RestAt w v e) (ht : Touch S w w') (hs : ∀ k, v.ownBlock = some k → ¬ S k) : RestAt w' v e := by
  rcases h with h | h
  · exact .inl (h.kept ht hs)
  · exact .inr (h.kept ht hs)
theorem RestAt.form {w : World} {v : Value} {e : List UInt8} (h : RestAt w v e) : ∃ a cap, v = .slice a e.length cap := by
  rcases h with ⟨G, cap, rfl, _⟩ | h
  · exact ⟨_, _, rfl⟩
  · obtain ⟨a, cap, hv, _⟩ := h.form
    rw [byteVs_length] at hv
    exact ⟨a, cap, hv⟩
theorem RestAt.lt {w : World} {v : Value} {e : List UInt8} (h : RestAt w v e) : ∀ k, v.ownBlock = some k → k < w.heap.size := fun k hk => by
  rcases h with ⟨G, cap, rfl, hG, _⟩ | h
  · have : G = k := Option.some.inj hk
    omega
  · exact h.lt k hk
/-- The cells behind the stream's end; its reader may have any that have no bits. -/
def endB (came told : Nat) (v4 v5 : Value) (g : Nat) : List Value := [.int .i64 11, .int .i64 0, .int .i64 (came : Nat), .int .i64 (told : Nat), v4, v5, .int .i64 (g : Nat), .slice none 0 0, .slice none 0 0, .int .i64 0, .bool false, .int .i64 0, .int .i64 0, .int .i64 0, .int .i64 0, .slice none 0 0, .pointer none, .pointer none, .pointer none, .bool false, .int .i64 0, .int .i64 0, .int .i64 0, .int .i64 0]
def EndR (w : World) (b came told : Nat) (v4 : Value) : Prop := ∃ v5 g, Block w b 80 (endB came told v4 v5 g) ∧ RdV w v5 g [] ∧ ∀ k, v5.ownBlock = some k → k ≠ b ∧ v4.ownBlock ≠ some k
theorem EndR.kept {S : Nat → Prop} {w w' : World} {b came told : Nat} {v4 : Value} (h : EndR w b came told v4) (ht : Touch S w w') (hb : ¬ S b) (h5 : ∀ v5, w.cell? ⟨b, 5, none⟩ = some v5 → ∀ k, v5.ownBlock = some k → ¬ S k) : EndR w' b came told v4 := by
  obtain ⟨v5, g, h1, h2, h3⟩ := h
  exact ⟨v5, g, h1.kept ht hb, h2.kept ht (h5 v5 (Block.cell h1 5)), h3⟩
/-- A decoder behind the stream's end. -/
def DecE (w : World) (b came told : Nat) (rest : List UInt8) : Prop := w.cell? ⟨b, 0, none⟩ = some (.int .i64 11) ∧ w.cell? ⟨b, 1, none⟩ = some (.int .i64 0) ∧ w.cell? ⟨b, 2, none⟩ = some (.int .i64 (came : Nat)) ∧ w.cell? ⟨b, 3, none⟩ = some (.int .i64 (told : Nat)) ∧ ∃ v4, w.cell? ⟨b, 4, none⟩ = some v4 ∧ RestAt w v4 rest ∧ (∀ k, v4.ownBlock = some k → b < k) ∧ (∀ j, w.frozen? ⟨b, j, none⟩ = false) ∧ EndR w b came told v4

/-- What each operation of settle leaves. -/
def seI (b n0 came told ln : Nat) (S : ByteArray) (i : Nat) (v : Value) (W : World) : Prop := match i with
  | 0 => v = .pointer (some ⟨b, 0, none⟩)
  | 1 => v = .pointer (some ⟨b, 0, none⟩)
  | 2 => v = .pointer (some ⟨b, 0, none⟩)
  | 3 => v = .pointer (some ⟨b, 2, none⟩)
  | 4 => v = .int .i64 (came : Nat)
  | 5 => v = .pointer (some ⟨b, 0, none⟩)
  | 6 => v = .pointer (some ⟨b, 0, none⟩)
  | 7 => v = .pointer (some ⟨b, 3, none⟩)
  | 8 => v = .int .i64 (told : Nat)
  | 9 => v = .pointer (some ⟨b, 0, none⟩)
  | 10 => v = .pointer (some ⟨b, 0, none⟩)
  | 11 => v = .pointer (some ⟨b, 5, none⟩)
  | 12 => v = .pointer (some ⟨b, 0, none⟩)
  | 13 => v = .pointer (some ⟨b, 0, none⟩)
  | 14 => v = .pointer (some ⟨b, 5, none⟩)
  | 15 => v = .int .i64 (ln : Nat)
  | 16 => v = .string S
  | 17 => BytesAt W v S.data.toList ∧ ∀ k, v.ownBlock = some k → n0 ≤ k
  | 18 => ∃ u, v = .agg (endA came told u) ∧ BytesAt W u S.data.toList ∧ ∀ k, u.ownBlock = some k → n0 ≤ k
  | 19 => v = .pointer (some ⟨b, 0, none⟩)
  | 20 => True
  | _ => True
theorem seI_keep {b n0 came told ln : Nat} {S : ByteArray} {W W' : World} (hB : ∀ v, (∀ k, v.ownBlock = some k → n0 ≤ k) → BytesAt W v S.data.toList → BytesAt W' v S.data.toList) : ∀ j v, seI b n0 came told ln S j v W → seI b n0 came told ln S j v W' := by
  intro j v h
  match j, h with
  | 0, h => exact h
  | 1, h => exact h
  | 2, h => exact h
  | 3, h => exact h
  | 4, h => exact h
  | 5, h => exact h
  | 6, h => exact h
  | 7, h => exact h
  | 8, h => exact h
  | 9, h => exact h
  | 10, h => exact h
  | 11, h => exact h
  | 12, h => exact h
  | 13, h => exact h
  | 14, h => exact h
  | 15, h => exact h
  | 16, h => exact h
  | 17, h => exact ⟨hB _ h.2 h.1, h.2⟩
  | 18, h => exact (by obtain ⟨u, e, h1, h2⟩ := h; exact ⟨u, e, hB _ h2 h1, h2⟩)
  | 19, h => exact h
  | 20, h => exact trivial
  | _ + 21, _ => trivial
theorem seI_still {b n0 came told ln : Nat} {S : ByteArray} {W W' : World} (ht : Touch (fun _ => False) W W') : ∀ j v, seI b n0 came told ln S j v W → seI b n0 came told ln S j v W' :=
  seI_keep (fun _ _ h => h.kept ht (fun _ _ => id))
def seC (w : World) (b : Nat) (s : PS) (v7 v8 p17 p18 : Value) (S : ByteArray) (came told : Nat) (ls : Array Bool) (W : World) : Prop := (ls.getD 16 true = false → Touch (fun _ => False) w W) ∧ (ls.getD 16 true = true → ls.getD 20 true = false → ∃ v5 g, Block W b 80 (decL { s with bits := [] } v5 g v7 v8 p17 p18)) ∧ Touch (fun k => k = b) w W ∧ (ls.getD 20 true = true → ∃ u, Block W b 80 (endA came told u).toList ∧ BytesAt W u S.data.toList ∧ ∀ k, u.ownBlock = some k → w.heap.size ≤ k)
theorem seC_other {w : World} {b : Nat} {s : PS} {v7 v8 p17 p18 : Value} {S : ByteArray} {came told : Nat} {ls : Array Bool} {W W' : World} (h : seC w b s v7 v8 p17 p18 S came told ls W) (ht : Touch (fun _ => False) W W') {i : Nat} (hi : i ≠ 16) (hi2 : i ≠ 20) : seC w b s v7 v8 p17 p18 S came told (ls.setIfInBounds i true) W' := by
  obtain ⟨h1, h2, h3, h4⟩ := h
  refine ⟨fun e => ?_, fun e e2 => ?_, h3.trans (ht.mono (fun _ e => e.elim)), fun e2 => ?_⟩
  · rw [getD_set4] at e
    have hb : (i == 16) = false := by simpa using hi
    rw [hb, Bool.or_false] at e
    exact (h1 e).trans ht
  · rw [getD_set4] at e e2
    have hb : (i == 16) = false := by simpa using hi
    have hb2 : (i == 20) = false := by simpa using hi2
    rw [hb, Bool.or_false] at e
    rw [hb2, Bool.or_false] at e2
    obtain ⟨v5, g, h⟩ := h2 e e2
    exact ⟨v5, g, h.kept ht id⟩
  · rw [getD_set4] at e2
    have hb2 : (i == 20) = false := by simpa using hi2
    rw [hb2, Bool.or_false] at e2
    obtain ⟨u, h5, h6⟩ := h4 e2
    exact ⟨u, h5.kept ht id, h6.1.kept ht (fun _ _ => id), h6.2⟩

set_option maxHeartbeats 4000000 in
theorem settle_ok {U : Nat → Prop} {w0 w : World} {b : Nat} {s : PS} (h : DecR U w0 w b s) :
    Calls Tryd.prog 37 #[.pointer (some ⟨b, 0, none⟩), .int .i64 0] w fun e w' => e = .returned (.tuple #[]) ∧ DecE w' b s.came s.told (bytesL (s.bits.drop (s.bits.length % 8))) ∧ Touch U w0 w' ∧ ∀ j v, (j = 4 ∨ j = 5) → w'.cell? ⟨b, j, none⟩ = some v → ∀ k, v.ownBlock = some k → w.heap.size ≤ k := by
  obtain ⟨v5, g, v7, v8, p17, p18, hD, hown, hT⟩ := h
  have hlen := hD.lb.1
  obtain ⟨ln, hln⟩ : ∃ ln, ln = s.bits.length := ⟨_, rfl⟩
  have htake : bytesL ((s.bits.drop (s.bits.length % 8)).take (8 * (s.bits.length / 8))) = bytesL (s.bits.drop (s.bits.length % 8)) := by
    rw [List.take_of_length_le (by rw [List.length_drop]; omega)]
  obtain ⟨S, hS⟩ : ∃ S : ByteArray, S = ⟨(bytesL (s.bits.drop (s.bits.length % 8))).toArray⟩ := ⟨_, rfl⟩
  have HL := Lib.hid (fun W (hW : Touch (fun _ => False) w W) => left_calls b 5 s.bits _ W (rd_at (hD.still hW).blk (hD.still hW).rd (hD.still hW).ap.1) (by omega))
  have hTK := (fun W (hW : Touch (fun _ => False) w W) => take_calls b 5 (s.bits.length : Int) s.bits _ W (rd_at (hD.still hW).blk (hD.still hW).rd (hD.still hW).ap.1) (by omega) (by omega) (by omega) (s.bits.length / 8) (by omega))
  rw [htake, ← hS] at hTK
  have HTK := Lib.hid hTK
  have HD := Lib.hid hD
  have HO := Lib.hid (⟨hown, hT⟩ : _ ∧ _)
  have HS := Lib.hid hS
  have HLN := Lib.hid hln
  have HSZ : Hid (S.size ≤ maxLen) := Lib.hid (by
    rw [← data_length, hS]
    unfold bytesL maxLen
    rw [bytesK_length, List.length_drop]
    omega)
  obtain ⟨came, hcame⟩ : ∃ n, n = s.came := ⟨_, rfl⟩
  obtain ⟨told, htold⟩ : ∃ n, n = s.told := ⟨_, rfl⟩
  have c2 : ∀ W, Touch (fun _ => False) w W → W.cell? ⟨b, 2, none⟩ = some (.int .i64 (came : Nat)) := fun W hW => by rw [hcame]; exact Block.cell (hD.still hW).blk 2
  have c3 : ∀ W, Touch (fun _ => False) w W → W.cell? ⟨b, 3, none⟩ = some (.int .i64 (told : Nat)) := fun W hW => by rw [htold]; exact Block.cell (hD.still hW).blk 3
  have HC := Lib.hid (⟨c2, c3⟩ : _ ∧ _)
  have HN := Lib.hid (⟨hcame, htold⟩ : _ ∧ _)
  clear hD hown hT hTK htake hlen c2 c3 hcame htold hS hln
  go_enter Tryd.func37, Tryd.ntmps37
  go_upto_region 4 with fail
  refine wp_region_inv5 (seC w b s v7 v8 p17 p18 S came told) (seI b w.heap.size came told ln S) (by kernel_rfl) (by kernel_rfl) (by kernel_rfl) ⟨fun _ => (Touch.refl _ _).drew, (fun e => by simp at e), (Touch.refl _ _).drew, (fun e => by simp at e)⟩ ?_ ?_
  · intro i o hio ls a W hun hcl hdl hC hbase hkeep hdone
    have hlt9 := op_lt hio
    obtain ⟨hbd, hbs, hbb⟩ := hbase
    have b0 : a.tmps[0]?.getD undef = .pointer (some ⟨b, 0, none⟩) := by rw [(hbb 0 (noDst_spec (by kernel_rfl)))]; rfl
    have hown9 : Touch (fun k => k = b) w W := hC.2.2.1
    rcases (by simp at hlt9; omega : i = 0 ∨ i = 1 ∨ i = 2 ∨ i = 3 ∨ i = 4 ∨ i = 5 ∨ i = 6 ∨ i = 7 ∨ i = 8 ∨ i = 9 ∨ i = 10 ∨ i = 11 ∨ i = 12 ∨ i = 13 ∨ i = 14 ∨ i = 15 ∨ i = 16 ∨ i = 17 ∨ i = 18 ∨ i = 19 ∨ i = 20) with rfl | rfl | rfl | rfl | rfl | rfl | rfl | rfl | rfl | rfl | rfl | rfl | rfl | rfl | rfl | rfl | rfl | rfl | rfl | rfl | rfl
    · simp only [List.getElem?_toArray, List.getElem?_cons_zero, Option.some.injEq] at hio
      subst hio
      refine ⟨rfl, ?_⟩
      refine r4_val (v := .pointer (some ⟨b, 0, none⟩)) ?_ ⟨_, rfl, rfl, seC_other hC (Touch.refl _ _) (by decide) (by decide), fun _ _ h => h⟩
      simp [execOp, Act.eval, b0]
    · simp only [List.getElem?_toArray, List.getElem?_cons_zero, List.getElem?_cons_succ, Option.some.injEq] at hio
      subst hio
      refine ⟨rfl, ?_⟩
      refine r4_val (v := .pointer (some ⟨b, 0, none⟩)) ?_ ⟨_, rfl, rfl, seC_other hC (Touch.refl _ _) (by decide) (by decide), fun _ _ h => h⟩
      simp [execOp, Act.eval, b0]
    · simp only [List.getElem?_toArray, List.getElem?_cons_zero, List.getElem?_cons_succ, Option.some.injEq] at hio
      subst hio
      have t18 : a.tmps[18]?.getD undef = .pointer (some ⟨b, 0, none⟩) := by simpa [valOf, seI] using hdone 1 _ rfl (r4_edge 1 (by kernel_rfl) hdl)
      refine ⟨rfl, ?_⟩
      refine r4_val (v := .pointer (some ⟨b, 0, none⟩)) ?_ ⟨_, rfl, rfl, seC_other hC (Touch.refl _ _) (by decide) (by decide), fun _ _ h => h⟩
      simp [execOp, Act.eval, t18]
      try go_simp
    · simp only [List.getElem?_toArray, List.getElem?_cons_zero, List.getElem?_cons_succ, Option.some.injEq] at hio
      subst hio
      have t19 : a.tmps[19]?.getD undef = .pointer (some ⟨b, 0, none⟩) := by simpa [valOf, seI] using hdone 2 _ rfl (r4_edge 2 (by kernel_rfl) hdl)
      refine ⟨rfl, ?_⟩
      refine r4_val (v := .pointer (some ⟨b, 2, none⟩)) ?_ ⟨_, rfl, rfl, seC_other hC (Touch.refl _ _) (by decide) (by decide), fun _ _ h => h⟩
      simp [execOp, Act.eval, t19]
      try go_simp
    · simp only [List.getElem?_toArray, List.getElem?_cons_zero, List.getElem?_cons_succ, Option.some.injEq] at hio
      subst hio
      have t20 : a.tmps[20]?.getD undef = .pointer (some ⟨b, 2, none⟩) := by simpa [valOf, seI] using hdone 3 _ rfl (r4_edge 3 (by kernel_rfl) hdl)
      refine ⟨rfl, ?_⟩
      have hl20 : ls.getD 20 true = false := by
        cases hls : ls.getD 20 true with
        | false => rfl
        | true => exact absurd (r4_edge 4 (by kernel_rfl) (hcl 20 _ rfl hls)) (by rw [hun]; decide)
      have hcell : W.cell? ⟨b, 2, none⟩ = some (.int .i64 (came : Nat)) := by
        cases h16 : ls.getD 16 true with
        | false => exact HC.out.1 W (hC.1 h16)
        | true =>
          obtain ⟨v5', g', hB⟩ := hC.2.1 h16 hl20
          rw [HN.out.1]
          exact Block.cell hB 2
      refine r4_val (v := .int .i64 (came : Nat)) ?_ ⟨_, rfl, rfl, seC_other hC (Touch.refl _ _) (by decide) (by decide), fun _ _ h => h⟩
      simp [execOp, Act.eval, t20]
      go_simp
    · simp only [List.getElem?_toArray, List.getElem?_cons_zero, List.getElem?_cons_succ, Option.some.injEq] at hio
      subst hio
      refine ⟨rfl, ?_⟩
      refine r4_val (v := .pointer (some ⟨b, 0, none⟩)) ?_ ⟨_, rfl, rfl, seC_other hC (Touch.refl _ _) (by decide) (by decide), fun _ _ h => h⟩
      simp [execOp, Act.eval, b0]
    · simp only [List.getElem?_toArray, List.getElem?_cons_zero, List.getElem?_cons_succ, Option.some.injEq] at hio
      subst hio
      have t22 : a.tmps[22]?.getD undef = .pointer (some ⟨b, 0, none⟩) := by simpa [valOf, seI] using hdone 5 _ rfl (r4_edge 5 (by kernel_rfl) hdl)
      refine ⟨rfl, ?_⟩
      refine r4_val (v := .pointer (some ⟨b, 0, none⟩)) ?_ ⟨_, rfl, rfl, seC_other hC (Touch.refl _ _) (by decide) (by decide), fun _ _ h => h⟩
      simp [execOp, Act.eval, t22]
      try go_simp
    · simp only [List.getElem?_toArray, List.getElem?_cons_zero, List.getElem?_cons_succ, Option.some.injEq] at hio
      subst hio
      have t23 : a.tmps[23]?.getD undef = .pointer (some ⟨b, 0, none⟩) := by simpa [valOf, seI] using hdone 6 _ rfl (r4_edge 6 (by kernel_rfl) hdl)
      refine ⟨rfl, ?_⟩
      refine r4_val (v := .pointer (some ⟨b, 3, none⟩)) ?_ ⟨_, rfl, rfl, seC_other hC (Touch.refl _ _) (by decide) (by decide), fun _ _ h => h⟩
      simp [execOp, Act.eval, t23]
      try go_simp
    · simp only [List.getElem?_toArray, List.getElem?_cons_zero, List.getElem?_cons_succ, Option.some.injEq] at hio
      subst hio
      have t24 : a.tmps[24]?.getD undef = .pointer (some ⟨b, 3, none⟩) := by simpa [valOf, seI] using hdone 7 _ rfl (r4_edge 7 (by kernel_rfl) hdl)
      refine ⟨rfl, ?_⟩
      have hl20 : ls.getD 20 true = false := by
        cases hls : ls.getD 20 true with
        | false => rfl
        | true => exact absurd (r4_edge 8 (by kernel_rfl) (hcl 20 _ rfl hls)) (by rw [hun]; decide)
      have hcell : W.cell? ⟨b, 3, none⟩ = some (.int .i64 (told : Nat)) := by
        cases h16 : ls.getD 16 true with
        | false => exact HC.out.2 W (hC.1 h16)
        | true =>
          obtain ⟨v5', g', hB⟩ := hC.2.1 h16 hl20
          rw [HN.out.2]
          exact Block.cell hB 3
      refine r4_val (v := .int .i64 (told : Nat)) ?_ ⟨_, rfl, rfl, seC_other hC (Touch.refl _ _) (by decide) (by decide), fun _ _ h => h⟩
      simp [execOp, Act.eval, t24]
      go_simp
    · simp only [List.getElem?_toArray, List.getElem?_cons_zero, List.getElem?_cons_succ, Option.some.injEq] at hio
      subst hio
      refine ⟨rfl, ?_⟩
      refine r4_val (v := .pointer (some ⟨b, 0, none⟩)) ?_ ⟨_, rfl, rfl, seC_other hC (Touch.refl _ _) (by decide) (by decide), fun _ _ h => h⟩
      simp [execOp, Act.eval, b0]
    · simp only [List.getElem?_toArray, List.getElem?_cons_zero, List.getElem?_cons_succ, Option.some.injEq] at hio
      subst hio
      have t26 : a.tmps[26]?.getD undef = .pointer (some ⟨b, 0, none⟩) := by simpa [valOf, seI] using hdone 9 _ rfl (r4_edge 9 (by kernel_rfl) hdl)
      refine ⟨rfl, ?_⟩
      refine r4_val (v := .pointer (some ⟨b, 0, none⟩)) ?_ ⟨_, rfl, rfl, seC_other hC (Touch.refl _ _) (by decide) (by decide), fun _ _ h => h⟩
      simp [execOp, Act.eval, t26]
      try go_simp
    · simp only [List.getElem?_toArray, List.getElem?_cons_zero, List.getElem?_cons_succ, Option.some.injEq] at hio
      subst hio
      have t27 : a.tmps[27]?.getD undef = .pointer (some ⟨b, 0, none⟩) := by simpa [valOf, seI] using hdone 10 _ rfl (r4_edge 10 (by kernel_rfl) hdl)
      refine ⟨rfl, ?_⟩
      refine r4_val (v := .pointer (some ⟨b, 5, none⟩)) ?_ ⟨_, rfl, rfl, seC_other hC (Touch.refl _ _) (by decide) (by decide), fun _ _ h => h⟩
      simp [execOp, Act.eval, t27]
      try go_simp
    · simp only [List.getElem?_toArray, List.getElem?_cons_zero, List.getElem?_cons_succ, Option.some.injEq] at hio
      subst hio
      refine ⟨rfl, ?_⟩
      refine r4_val (v := .pointer (some ⟨b, 0, none⟩)) ?_ ⟨_, rfl, rfl, seC_other hC (Touch.refl _ _) (by decide) (by decide), fun _ _ h => h⟩
      simp [execOp, Act.eval, b0]
    · simp only [List.getElem?_toArray, List.getElem?_cons_zero, List.getElem?_cons_succ, Option.some.injEq] at hio
      subst hio
      have t29 : a.tmps[29]?.getD undef = .pointer (some ⟨b, 0, none⟩) := by simpa [valOf, seI] using hdone 12 _ rfl (r4_edge 12 (by kernel_rfl) hdl)
      refine ⟨rfl, ?_⟩
      refine r4_val (v := .pointer (some ⟨b, 0, none⟩)) ?_ ⟨_, rfl, rfl, seC_other hC (Touch.refl _ _) (by decide) (by decide), fun _ _ h => h⟩
      simp [execOp, Act.eval, t29]
      try go_simp
    · simp only [List.getElem?_toArray, List.getElem?_cons_zero, List.getElem?_cons_succ, Option.some.injEq] at hio
      subst hio
      have t30 : a.tmps[30]?.getD undef = .pointer (some ⟨b, 0, none⟩) := by simpa [valOf, seI] using hdone 13 _ rfl (r4_edge 13 (by kernel_rfl) hdl)
      refine ⟨rfl, ?_⟩
      refine r4_val (v := .pointer (some ⟨b, 5, none⟩)) ?_ ⟨_, rfl, rfl, seC_other hC (Touch.refl _ _) (by decide) (by decide), fun _ _ h => h⟩
      simp [execOp, Act.eval, t30]
      try go_simp
    · simp only [List.getElem?_toArray, List.getElem?_cons_zero, List.getElem?_cons_succ, Option.some.injEq] at hio
      subst hio
      have t31 : a.tmps[31]?.getD undef = .pointer (some ⟨b, 5, none⟩) := by simpa [valOf, seI] using hdone 14 _ rfl (r4_edge 14 (by kernel_rfl) hdl)
      refine ⟨rfl, ?_⟩
      have hl16 : ls.getD 16 true = false := by
        cases hls : ls.getD 16 true with
        | false => rfl
        | true => exact absurd (r4_edge 15 (by kernel_rfl) (hcl 16 _ rfl hls)) (by rw [hun]; decide)
      refine r4_call (R := fun r W' => r = .int .i64 (ln : Nat) ∧ Touch (fun _ => False) W W') (f := 65) (args := #[.pointer (some ⟨b, 5, none⟩)]) ?_ ((HL.out W (hC.1 hl16)).mono fun e W' h => ⟨_, h.1, (⟨by rw [HLN.out], by rw [h.2]; exact (Touch.refl _ _).drew⟩ : (_ : Value) = .int .i64 (ln : Nat) ∧ Touch (fun _ => False) W W')⟩) (fun v W' hw => ⟨_, rfl, hw.1, seC_other hC hw.2 (by decide) (by decide), seI_still hw.2⟩)
      simp [execOp, resolve, invoke, Act.eval, t31]
      try rfl
    · simp only [List.getElem?_toArray, List.getElem?_cons_zero, List.getElem?_cons_succ, Option.some.injEq] at hio
      subst hio
      have t28 : a.tmps[28]?.getD undef = .pointer (some ⟨b, 5, none⟩) := by simpa [valOf, seI] using hdone 11 _ rfl (r4_edge 11 (by kernel_rfl) hdl)
      have t32 : a.tmps[32]?.getD undef = .int .i64 (ln : Nat) := by simpa [valOf, seI] using hdone 15 _ rfl (r4_edge 15 (by kernel_rfl) hdl)
      refine ⟨rfl, ?_⟩
      have hl20 : ls.getD 20 true = false := by
        cases hls : ls.getD 20 true with
        | false => rfl
        | true => exact absurd (r4_edge 16 (by kernel_rfl) (hcl 20 _ rfl hls)) (by rw [hun]; decide)
      have hl17 : ls.getD 17 true = false := by
        cases hls : ls.getD 17 true with
        | false => rfl
        | true => exact absurd (r4_edge 16 (by kernel_rfl) (hcl 17 _ rfl hls)) (by rw [hun]; decide)
      have hTKW := HTK.out W (hC.1 hun)
      rw [← HLN.out] at hTKW
      refine r4_call (R := fun r W' => r = .string S ∧ (∃ v5 g, Block W' b 80 (decL { s with bits := [] } v5 g v7 v8 p17 p18)) ∧ Touch (fun k => k = b) W W') (f := 64) (args := #[.pointer (some ⟨b, 5, none⟩), .int .i64 (ln : Nat)]) ?_ (hTKW.mono fun e W' h => ⟨_, h.1, (⟨rfl, by obtain ⟨v5', g', hc9⟩ := h.2.1.cell; exact ⟨v5', g', cell2_back hc9 (by simp [decL])⟩, h.2.2⟩ : (_ : Value) = .string S ∧ _ ∧ Touch (fun k => k = b) W W')⟩) (fun v W' hw => ⟨_, rfl, hw.1, ⟨(fun e => by rw [getD_set4] at e; simp at e), (fun _ _ => hw.2.1), hown9.trans hw.2.2, (fun e => by rw [getD_set4, hl20] at e; simp at e)⟩, seI_keep (fun v hv hB => hB.kept hw.2.2 (fun q hq e => by have := hv q hq; have := HD.out.blk.lt; omega))⟩)
      simp [execOp, resolve, invoke, Act.eval, t28, t32]
      try rfl
    · simp only [List.getElem?_toArray, List.getElem?_cons_zero, List.getElem?_cons_succ, Option.some.injEq] at hio
      subst hio
      have t33 : a.tmps[33]?.getD undef = .string S := by simpa [valOf, seI] using hdone 16 _ rfl (r4_edge 16 (by kernel_rfl) hdl)
      refine ⟨rfl, ?_⟩
      have hl20 : ls.getD 20 true = false := by
        cases hls : ls.getD 20 true with
        | false => rfl
        | true => exact absurd (r4_edge 17 (by kernel_rfl) (hcl 20 _ rfl hls)) (by rw [hun]; decide)
      have hbl9 : b < W.heap.size := Nat.lt_of_lt_of_le HD.out.blk.lt hown9.size
      have hcv := run_bytes_of_string (P := Tryd.prog) W 9 58 5 S Tryd.underlying9 Tryd.underlying58 Tryd.underlying5
      refine ri_step (v := .slice (some ⟨W.heap.size, 0, none⟩) S.size (grownCap W S.size 0 5)) (w' := W.drew.alloc (.cells (bytesRow S (grownCap W S.size 0 5)) 5 ((bytesRow S (grownCap W S.size 0 5)).size, (bytesRow S (grownCap W S.size 0 5)).size + 1))) ?_ ⟨_, rfl, ⟨bytes_new W.drew S _ _ (grownCap_ge _ _ _ _) (grownCap_le_maxLen _ _ _ _ HSZ.out), fun k e => by have e1 : W.heap.size = k := Option.some.inj e; have := hown9.size; omega⟩, seC_other hC ((Touch.refl _ W).drew.alloc _) (by decide) (by decide), seI_still ((Touch.refl _ W).drew.alloc _)⟩
      simp [execOp, Act.eval, t33, hcv]
    · simp only [List.getElem?_toArray, List.getElem?_cons_zero, List.getElem?_cons_succ, Option.some.injEq] at hio
      subst hio
      have t21 : a.tmps[21]?.getD undef = .int .i64 (came : Nat) := by simpa [valOf, seI] using hdone 4 _ rfl (r4_edge 4 (by kernel_rfl) hdl)
      have t25 : a.tmps[25]?.getD undef = .int .i64 (told : Nat) := by simpa [valOf, seI] using hdone 8 _ rfl (r4_edge 8 (by kernel_rfl) hdl)
      have t34 : BytesAt W (a.tmps[34]?.getD undef) S.data.toList ∧ ∀ k, (a.tmps[34]?.getD undef).ownBlock = some k → w.heap.size ≤ k := by simpa [valOf, seI] using hdone 17 _ rfl (r4_edge 17 (by kernel_rfl) hdl)
      refine ⟨rfl, ?_⟩
      have ev : ((#[(0, Operand.const (.int .i64 11)), (2, Operand.tmp 21), (3, Operand.tmp 25), (4, Operand.tmp 34)] : Array (Nat × Operand)).map fun (i, x) => (i, a.eval x)).toList = [(0, .int .i64 11), (2, .int .i64 (came : Nat)), (3, .int .i64 (told : Nat)), (4, a.tmps[34]?.getD undef)] := by simp [Act.eval, t21, t25]
      generalize a.tmps[34]?.getD undef = u at t34 ev
      obtain ⟨Gu, cu, rfl, hGu, hcu⟩ := t34.1
      refine wp_build 80 #[(0, Operand.const (.int .i64 11)), (2, Operand.tmp 21), (3, Operand.tmp 25), (4, Operand.tmp 34)] rfl (by rw [ev]; kernel_rfl) ⟨_, rfl, ⟨_, ?_, t34⟩, seC_other hC (Touch.refl _ _) (by decide) (by decide), fun _ _ h => h⟩
      show Value.agg _ = Value.agg _
      rw [ev]
      kernel_rfl
    · simp only [List.getElem?_toArray, List.getElem?_cons_zero, List.getElem?_cons_succ, Option.some.injEq] at hio
      subst hio
      have t17 : a.tmps[17]?.getD undef = .pointer (some ⟨b, 0, none⟩) := by simpa [valOf, seI] using hdone 0 _ rfl (r4_edge 0 (by kernel_rfl) hdl)
      refine ⟨rfl, ?_⟩
      refine r4_val (v := .pointer (some ⟨b, 0, none⟩)) ?_ ⟨_, rfl, rfl, seC_other hC (Touch.refl _ _) (by decide) (by decide), fun _ _ h => h⟩
      simp [execOp, Act.eval, t17]
      try go_simp
    · simp only [List.getElem?_toArray, List.getElem?_cons_zero, List.getElem?_cons_succ, Option.some.injEq] at hio
      subst hio
      have t36 : a.tmps[36]?.getD undef = .pointer (some ⟨b, 0, none⟩) := by simpa [valOf, seI] using hdone 19 _ rfl (r4_edge 19 (by kernel_rfl) hdl)
      obtain ⟨u, t35, hu1, hu2⟩ : ∃ u, a.tmps[35]?.getD undef = .agg (endA came told u) ∧ BytesAt W u S.data.toList ∧ ∀ k, u.ownBlock = some k → w.heap.size ≤ k := by simpa [valOf, seI] using hdone 18 _ rfl (r4_edge 18 (by kernel_rfl) hdl)
      refine ⟨rfl, ?_⟩
      have hl16 : ls.getD 16 true = true := r4_edge 16 (by kernel_rfl) hdl
      obtain ⟨v5', g', hB⟩ := hC.2.1 hl16 hun
      have hx : a.eval (.tmp 35) = .agg (endA came told u) := by simpa [Act.eval] using t35
      have hone : (endA came told u).all (·.oneCell') = true := by
        obtain ⟨_, _, rfl, _⟩ := id hu1
        first | kernel_rfl | (unfold endA; simp [Value.oneCell'])
      have hTs : Touch (fun k => k = b) W (W.setRow b (endA came told u)) := (Touch.refl (fun k => k = b) W).setRow (Or.inl rfl) _
      refine wp_store_row 80 (.tmp 36) (.tmp 35) rfl b (endA came told u) (by simp [Act.eval, t36]) hx 80 _ hB (by kernel_rfl) (by rfl) hone ⟨undef, rfl, trivial, ⟨(fun e => by rw [getD_set4, hl16] at e; simp at e), (fun _ e => by rw [getD_set4] at e; simp at e), hown9.trans hTs, (fun _ => ⟨u, heap_setRow W b _ _ _ hB, hu1.kept hTs (fun q hq e => by have := hu2 q hq; have := HD.out.blk.lt; omega), hu2⟩)⟩, seI_keep (fun v hv hB => hB.kept hTs (fun q hq e => by have := hv q hq; have := HD.out.blk.lt; omega))⟩
  · intro ls a W hall hC hbase hdone
    obtain ⟨u, hB, hu⟩ : ∃ u, Block W b 80 (endA came told u).toList ∧ BytesAt W u S.data.toList ∧ ∀ k, u.ownBlock = some k → w.heap.size ≤ k := hC.2.2.2 (hall 20 (by decide))
    have hact := act_lit hbase [17, 18, 19, 20, 21, 22, 23, 24, 25, 26, 27, 28, 29, 30, 31, 32, 33, 34, 35, 36] (by decide) (by kernel_rfl)
    obtain ⟨v17x, h17⟩ : ∃ v, a.tmps[17]?.getD undef = v := ⟨_, rfl⟩
    obtain ⟨v18x, h18⟩ : ∃ v, a.tmps[18]?.getD undef = v := ⟨_, rfl⟩
    obtain ⟨v19x, h19⟩ : ∃ v, a.tmps[19]?.getD undef = v := ⟨_, rfl⟩
    obtain ⟨v20x, h20⟩ : ∃ v, a.tmps[20]?.getD undef = v := ⟨_, rfl⟩
    obtain ⟨v21x, h21⟩ : ∃ v, a.tmps[21]?.getD undef = v := ⟨_, rfl⟩
    obtain ⟨v22x, h22⟩ : ∃ v, a.tmps[22]?.getD undef = v := ⟨_, rfl⟩
    obtain ⟨v23x, h23⟩ : ∃ v, a.tmps[23]?.getD undef = v := ⟨_, rfl⟩
    obtain ⟨v24x, h24⟩ : ∃ v, a.tmps[24]?.getD undef = v := ⟨_, rfl⟩
    obtain ⟨v25x, h25⟩ : ∃ v, a.tmps[25]?.getD undef = v := ⟨_, rfl⟩
    obtain ⟨v26x, h26⟩ : ∃ v, a.tmps[26]?.getD undef = v := ⟨_, rfl⟩
    obtain ⟨v27x, h27⟩ : ∃ v, a.tmps[27]?.getD undef = v := ⟨_, rfl⟩
    obtain ⟨v28x, h28⟩ : ∃ v, a.tmps[28]?.getD undef = v := ⟨_, rfl⟩
    obtain ⟨v29x, h29⟩ : ∃ v, a.tmps[29]?.getD undef = v := ⟨_, rfl⟩
    obtain ⟨v30x, h30⟩ : ∃ v, a.tmps[30]?.getD undef = v := ⟨_, rfl⟩
    obtain ⟨v31x, h31⟩ : ∃ v, a.tmps[31]?.getD undef = v := ⟨_, rfl⟩
    obtain ⟨v32x, h32⟩ : ∃ v, a.tmps[32]?.getD undef = v := ⟨_, rfl⟩
    obtain ⟨v33x, h33⟩ : ∃ v, a.tmps[33]?.getD undef = v := ⟨_, rfl⟩
    obtain ⟨v34x, h34⟩ : ∃ v, a.tmps[34]?.getD undef = v := ⟨_, rfl⟩
    obtain ⟨v35x, h35⟩ : ∃ v, a.tmps[35]?.getD undef = v := ⟨_, rfl⟩
    obtain ⟨v36x, h36⟩ : ∃ v, a.tmps[36]?.getD undef = v := ⟨_, rfl⟩
    have HE := Lib.hid (⟨hB, hu, hC.2.2.1⟩ : _ ∧ _ ∧ _)
    clear hall hdone hC hbase hB hu
    dsimp only [layL, Nat.reduceAdd, Nat.reduceBEq, cond_true, cond_false] at hact
    simp only [h17, h18, h19, h20, h21, h22, h23, h24, h25, h26, h27, h28, h29, h30, h31, h32, h33, h34, h35, h36] at hact
    clear h17 h18 h19 h20 h21 h22 h23 h24 h25 h26 h27 h28 h29 h30 h31 h32 h33 h34 h35 h36
    subst hact
    dsimp only [Exit.inBlock, Exit.then]
    go_wp2_with fail
    go_end0
    refine ⟨rfl, ⟨Block.cell HE.out.1 0, Block.cell HE.out.1 1, by rw [← HN.out.1]; exact Block.cell HE.out.1 2, by rw [← HN.out.2]; exact Block.cell HE.out.1 3, u, Block.cell HE.out.1 4, ?_⟩, HO.out.2.trans' HE.out.2.2 (fun k e => HO.out.1 k (.inl e)), fun j v4 hj e4 => ?_⟩
    · have h9 := HE.out.2.1.1
      rw [HS.out] at h9
      exact ⟨.inl h9, fun k e => by have := HE.out.2.1.2 k e; have := HD.out.blk.lt; omega, fun j => Block.free HE.out.1 j, by rw [← HN.out.1, ← HN.out.2]; exact ⟨.slice none 0 0, 0, HE.out.1, ⟨[], Row.nil _ _, by decide, by decide, rfl⟩, fun k e => by simp [Value.ownBlock] at e⟩⟩
    · rcases hj with rfl | rfl
      · have e5 := (Block.cell HE.out.1 4).symm.trans e4
        obtain rfl : u = v4 := Option.some.inj e5
        exact HE.out.2.1.2
      · have e5 := (Block.cell HE.out.1 5).symm.trans e4
        obtain rfl : Value.slice none 0 0 = v4 := Option.some.inj e5
        intro k e
        simp [Value.ownBlock] at e
end Go.Proofs.YtoaeffinjpkahaaDoor

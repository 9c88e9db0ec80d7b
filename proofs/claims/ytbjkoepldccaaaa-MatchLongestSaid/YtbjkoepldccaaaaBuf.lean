
/- Bytes that a string was turned into and that are appended to: a row whose mark, if any, stands behind its end; append to it as one law. No program is named here. -/
import Derived.Test.YtbjkoepldccaaaaMem
import Derived.Laws.IdiomStrings
namespace Go.Proofs.Ytbjkoepldccaaaa
open Go Go.RowKit
set_option maxRecDepth 100000

/-- A slice from the beginning of a block of one-cell elements, of which no cell is frozen. -/
def Buf (w : World) (e : TypeId) (v : Value) (xs : List Value) : Prop :=
  ∃ g cap cur fz, v = .slice (some ⟨g, 0, none⟩) xs.length cap ∧ w.heap[g]? = some (.cells cur e fz) ∧ (fz = (0, 0) ∨ cur.size ≤ fz.1) ∧ xs.length ≤ cap ∧ cap ≤ maxLen ∧ cap ≤ cur.size ∧ cur.toList.take xs.length = xs

theorem Buf.lt {w : World} {e : TypeId} {v : Value} {xs : List Value} (h : Buf w e v xs) : ∀ g, v.ownBlock = some g → g < w.heap.size := by
  intro g hg
  obtain ⟨g', cap, cur, fz, rfl, hh, _⟩ := h
  simp [Value.ownBlock] at hg
  subst hg
  exact (Array.getElem?_eq_some_iff.1 hh).1

theorem Buf.form {w : World} {e : TypeId} {v : Value} {xs : List Value} (h : Buf w e v xs) : ∃ g cap, v = .slice (some ⟨g, 0, none⟩) xs.length cap ∧ xs.length ≤ cap ∧ cap ≤ maxLen ∧ g < w.heap.size := by
  obtain ⟨g, cap, cur, fz, rfl, hh, _, h1, h2, _⟩ := h
  exact ⟨g, cap, rfl, h1, h2, (Array.getElem?_eq_some_iff.1 hh).1⟩

theorem Buf.kept {S : Nat → Prop} {w w' : World} {e : TypeId} {v : Value} {xs : List Value} (h : Buf w e v xs) (ht : Touch S w w') (hn : ∀ g, v.ownBlock = some g → ¬ S g) : Buf w' e v xs := by
  obtain ⟨g, cap, cur, fz, rfl, hh, hr⟩ := h
  exact ⟨g, cap, cur, fz, rfl, by rw [ht.block g (Array.getElem?_eq_some_iff.1 hh).1 (hn g rfl)]; exact hh, hr⟩

theorem Buf.cells {w : World} {e : TypeId} {xs : List Value} {g n cap : Nat} (h : Buf w e (.slice (some ⟨g, 0, none⟩) n cap) xs) : n = xs.length ∧ ∀ j u, xs[j]? = some u → w.cell? ⟨g, j, none⟩ = some u := by
  obtain ⟨g', cap', cur, fz, hv, hh, _, h1, h2, h3, h4⟩ := h
  injection hv with ha hn hc
  injection ha with ha
  injection ha with ha
  subst ha
  refine ⟨hn, fun j u hu => ?_⟩
  rw [cell_of_row w g j cur e fz hh, ← Array.getElem?_toList]
  have hj : j < xs.length := (List.getElem?_eq_some_iff.1 hu).1
  rw [← h4, List.getElem?_take, if_pos hj] at hu
  exact hu

theorem Buf.new (w : World) (e : TypeId) (s : ByteArray) (cap : Nat) (h1 : s.size ≤ cap) (h2 : cap ≤ maxLen) :
    Buf (w.alloc (.cells (bytesRow s cap) e ((bytesRow s cap).size, (bytesRow s cap).size + 1))) e (.slice (some ⟨w.heap.size, 0, none⟩) s.size cap) (byteVs s.data.toList) := by
  have hl : (byteVs s.data.toList).length = s.size := by rw [byteVs_length]; rfl
  have hd : s.data.size = s.size := rfl
  refine ⟨w.heap.size, cap, _, _, by rw [hl], heap_alloc_new w _, .inr (Nat.le_refl _), by rw [hl]; exact h1, h2, ?_, ?_⟩
  · simp [bytesRow]
    omega
  · rw [hl]
    simp only [bytesRow, Array.toList_append, Array.toList_map]
    rw [List.take_left' (by simp)]
    rfl

section
variable {P : Program} (w : World)

theorem run_storeCells_buf (g o : Nat) (t : TypeId) (fz : Nat × Nat) : ∀ (vs : List Value) (i : Nat) (cur : Array Value) (w : World), w.heap[g]? = some (.cells cur t fz) → (fz = (0, 0) ∨ cur.size ≤ fz.1) → o + i + vs.length ≤ cur.size → (∀ v ∈ vs, v.oneCell' = true) →
    (storeCells ⟨g, o, none⟩ vs i).run P w = .ok () (w.setRow g (cur.toList.take (o + i) ++ vs ++ cur.toList.drop (o + i + vs.length)).toArray)
  | [], i, cur, w, hg, _, _, _ => by
    simp only [storeCells, List.append_nil, List.length_nil, Nat.add_zero, List.take_append_drop, Array.toArray_toList]
    rw [setRow_self w g cur t fz hg]
    rfl
  | v :: rest, i, cur, w, hg, hz, hl, h1 => by
    have hi : o + i < cur.size := by simp at hl; omega
    have hadd : (⟨g, o, none⟩ : Addr).add i = ⟨g, o + i, none⟩ := by unfold Addr.add; split <;> simp_all
    have hcell : w.cell? ⟨g, o + i, none⟩ = some cur[o + i] := by simp [World.cell?, hg, hi]
    have hfro : w.frozen? ⟨g, o + i, none⟩ = false := by
      rcases hz with rfl | hz
      · simp [World.frozen?, hg]
      · simp [World.frozen?, hg]; omega
    have hst : (store ((⟨g, o, none⟩ : Addr).add i) v).run P w = .ok () (w.setRow g (cur.setIfInBounds (o + i) v)) := by
      rw [hadd, run_store P w _ v _ (h1 v (by simp)), hcell]
      simp [hfro, setCell_eq_setRow w g (o + i) cur t fz v hg]
    have ih := run_storeCells_buf g o t fz rest (i + 1) (cur.setIfInBounds (o + i) v) (w.setRow g (cur.setIfInBounds (o + i) v)) (setRow_heap w g cur _ t _ hg) (by simpa using hz) (by simp at hl ⊢; omega) (fun x hx => h1 x (by simp [hx]))
    simp only [storeCells, Sem.run_bind, hst, Result.andThen_ok, ih, setRow_setRow]
    congr 3
    have e := list_seg_step cur.toList (o + i) v rest (by simp at hl ⊢; omega)
    simpa [Array.toList_setIfInBounds, Nat.add_assoc] using e

/-- append to such bytes, from any source. -/
theorem run_append_buf (t tx ty e : TypeId) (i : TypeInfo) (z : Value) (bytes : Nat) (ht : P.underlying t = some (.slice e)) (hi : P.info? e = some i) (hz : i.zero = some z)
    (hs1 : i.size = 1) (hby : i.bytes = bytes) (hzs : z.cells.size = 1)
    (v : Value) (xs : List Value) (hown : Buf w e v xs) (x : Value) (n : Nat) (news : List Value) (hs : Src P 1 tx x n news w)
    (h63 : xs.length + n ≤ maxLen) (hbytes : (xs.length + n) * bytes ≤ 140737488355328) :
    ∃ v' w', (Builtin.append_ #[t, tx] ty #[v, x]).run P w = .ok v' w' ∧ Buf w' e v' (xs ++ news) ∧ w.grownBy w' v.ownBlock ∧ (v'.ownBlock = v.ownBlock ∨ v'.ownBlock = some w.heap.size) := by
  subst hby
  have hsmall : xs.length + n ≤ 9223372036854775807 := by simp only [maxLen] at h63; omega
  have hnl : news.length = n := by have := hs.newsLen; omega
  have hs' : Src P i.size tx x n news w := by rw [hs1]; exact hs
  rcases Nat.eq_zero_or_pos n with hn0 | hn0
  · subst hn0
    obtain rfl : news = [] := List.eq_nil_of_length_eq_zero hnl
    obtain ⟨g, cap, hv, hle, _⟩ := hown.form
    subst hv
    refine ⟨_, _, run_append_nothing (P := P) w t tx ty e i ht hi _ xs.length cap hle x hs', by simpa using hown, ⟨rfl, rfl, rfl, Nat.le_refl _, fun _ _ _ => rfl⟩, .inl rfl⟩
  · have hown0 := hown
    obtain ⟨g, cap, cur, fz, rfl, hg, hfz, hnc, hcm, hcs, htake⟩ := hown
    by_cases hroom : xs.length + n ≤ cap
    · have hst := run_storeCells_buf (P := P) g xs.length e fz news 0 cur w hg hfz (by simp; omega) hs.one
      simp only [Nat.add_zero] at hst
      have hsc := hs.cells
      have hr : (Builtin.append_ #[t, tx] ty #[.slice (some ⟨g, 0, none⟩) xs.length cap, x]).run P w =
          .ok (.slice (some ⟨g, 0, none⟩) (xs.length + n) cap) (w.setRow g (cur.toList.take (xs.length) ++ news ++ cur.toList.drop (xs.length + news.length)).toArray) := by
        rcases hs.kind with ⟨e', hk⟩ | hk <;> simp [Builtin.append_, run_underlying ht, run_underlying hk, sizeOf, typeInfo, hi, hs1, hs.len, hroom, hsc, Addr.add_lit, hst]
      refine ⟨_, _, hr, ⟨g, cap, _, fz, by simp [hnl], setRow_heap w g cur _ e fz hg, ?_, by simp [hnl]; omega, hcm, ?_, ?_⟩, ⟨rfl, rfl, rfl, by simp, fun k _ hk => setRow_other w g k _ (fun e => hk (by simp [Value.ownBlock, e]))⟩, .inl rfl⟩
      · rcases hfz with h | h
        · exact .inl h
        · right
          simp only [List.size_toArray, List.length_append, List.length_take, List.length_drop, Array.length_toList]
          omega
      · simp only [List.size_toArray, List.length_append, List.length_take, List.length_drop, Array.length_toList]
        omega
      · show ((cur.toList.take xs.length ++ news ++ cur.toList.drop (xs.length + news.length))).take (xs ++ news).length = xs ++ news
        rw [htake]
        exact List.take_left
    · have hcells := (Buf.cells hown0).2
      have hold : (Builtin.firstCells i.size xs.length (.slice (some ⟨g, 0, none⟩) xs.length cap)).run P w.drew = .ok xs.toArray w.drew := by
        rw [hs1]
        refine run_firstCells_some w.drew 1 xs.length ⟨g, 0, none⟩ xs.length cap xs (by omega) (fun j u hu => ?_)
        have := hcells j u hu
        by_cases hj : j = 0
        · subst hj; simpa [Addr.add] using this
        · simpa [Addr.add, hj] using this
      have hr := run_append_grow_src (P := P) w t tx ty e i z ht hi hz (some ⟨g, 0, none⟩) xs.length cap xs hold x n news hs' (by omega) (by omega) (growslice_fits (by omega) hbytes)
      have hge := grownCap_ge w (xs.length + n) cap e
      have hcm' : grownCap w (xs.length + n) cap e ≤ maxLen := grownCap_le_maxLen w (xs.length + n) cap e h63
      refine ⟨_, _, hr, ⟨w.heap.size, _, _, (0, 0), by simp [hnl], heap_alloc_new w.drew _, .inl rfl, by simp [hnl]; omega, hcm', ?_, ?_⟩, ⟨rfl, rfl, rfl, by simp, fun k hk _ => Below.heap_alloc w.drew _ k hk⟩, .inr rfl⟩
      · simp only [Array.size_append, List.size_toArray, List.length_append, size_zeroCells, hzs, hnl]
        omega
      · simp only [Array.toList_append]
        exact List.take_left

theorem wp_append_buf {o : Oper} {a : Act} {K : Act → World → Prop} {Q : Exit → Act → World → Prop} (s x : Operand) (t tx : TypeId)
    (ho : o.op = .call { callee := .builtin .append, args := #[s, x], argTypes := #[t, tx] })
    (e : TypeId) (i : TypeInfo) (z : Value) (bytes : Nat) (ht : P.underlying t = some (.slice e)) (hi : P.info? e = some i) (hz : i.zero = some z)
    (hs1 : i.size = 1) (hby : i.bytes = bytes) (hzs : z.cells.size = 1)
    (v : Value) (xs : List Value) (hsv : a.eval s = v) (hown : Buf w e v xs) (xv : Value) (hxv : a.eval x = xv) (n : Nat) (news : List Value) (hs : Src P 1 tx xv n news w)
    (h63 : xs.length + n ≤ maxLen) (hbytes : (xs.length + n) * bytes ≤ 140737488355328)
    (h : ∀ v' w', Buf w' e v' (xs ++ news) → w.grownBy w' v.ownBlock → (v'.ownBlock = v.ownBlock ∨ v'.ownBlock = some w.heap.size) → K (a.put o.dst v') w') : o.wp P a w K Q := by
  obtain ⟨v', w', hr, h2, h3, h4⟩ := run_append_buf (P := P) w t tx o.type e i z bytes ht hi hz hs1 hby hzs v xs hown xv n news hs h63 hbytes
  unfold Oper.wp execOp
  simp only [ho, resolve, invoke, builtin, Sem.run_bind, Sem.run_pure, Result.andThen_ok, List.map_toArray, List.map_cons, List.map_nil, hsv, hxv, hr]
  exact h v' w' h2 h3 h4

theorem wpList_append_buf {ops : Array Oper} {rest : List Oper} {o : Oper} {a : Act} {Q : Exit → Act → World → Prop} (hgd : o.guard = none) (s x : Operand) (t tx : TypeId)
    (ho : o.op = .call { callee := .builtin .append, args := #[s, x], argTypes := #[t, tx] })
    (e : TypeId) (i : TypeInfo) (z : Value) (bytes : Nat) (ht : P.underlying t = some (.slice e)) (hi : P.info? e = some i) (hz : i.zero = some z)
    (hs1 : i.size = 1) (hby : i.bytes = bytes) (hzs : z.cells.size = 1)
    (v : Value) (xs : List Value) (hsv : a.eval s = v) (hown : Buf w e v xs) (xv : Value) (hxv : a.eval x = xv) (n : Nat) (news : List Value) (hs : Src P 1 tx xv n news w)
    (h63 : xs.length + n ≤ maxLen) (hbytes : (xs.length + n) * bytes ≤ 140737488355328)
    (h : ∀ v' w', Buf w' e v' (xs ++ news) → w.grownBy w' v.ownBlock → (v'.ownBlock = v.ownBlock ∨ v'.ownBlock = some w.heap.size) → wpList P ops Q rest (a.put o.dst v') w') : wpList P ops Q (o :: rest) a w :=
  wpList_plain hgd fun _ hK => wp_append_buf w s x t tx ho e i z bytes ht hi hz hs1 hby hzs v xs hsv hown xv hxv n news hs h63 hbytes fun v' w' h2 h3 h4 => hK _ _ (h v' w' h2 h3 h4)

theorem step_append_buf {ops : Array Oper} {o : Oper} {a : Act} {K : Act → World → Prop} {Q : Exit → Act → World → Prop} {E : Prop} (hgd : o.guard = none) (s x : Operand) (t tx : TypeId)
    (ho : o.op = .call { callee := .builtin .append, args := #[s, x], argTypes := #[t, tx] })
    (e : TypeId) (i : TypeInfo) (z : Value) (bytes : Nat) (ht : P.underlying t = some (.slice e)) (hi : P.info? e = some i) (hz : i.zero = some z)
    (hs1 : i.size = 1) (hby : i.bytes = bytes) (hzs : z.cells.size = 1)
    (v : Value) (xs : List Value) (hsv : a.eval s = v) (hown : Buf w e v xs) (xv : Value) (hxv : a.eval x = xv) (n : Nat) (news : List Value) (hs : Src P 1 tx xv n news w)
    (h63 : xs.length + n ≤ maxLen) (hbytes : (xs.length + n) * bytes ≤ 140737488355328)
    (h : ∀ v' w', Buf w' e v' (xs ++ news) → w.grownBy w' v.ownBlock → (v'.ownBlock = v.ownBlock ∨ v'.ownBlock = some w.heap.size) → K (a.put o.dst v') w') :
    if Region.wanted o (yielded ops a.tmps) = true then Oper.wp P o a w K Q else E := by
  have hw : Region.wanted o (yielded ops a.tmps) = true := by simp [Region.wanted, hgd]
  rw [if_pos hw]
  exact wp_append_buf w s x t tx ho e i z bytes ht hi hz hs1 hby hzs v xs hsv hown xv hxv n news hs h63 hbytes h

end
end Go.Proofs.Ytbjkoepldccaaaa

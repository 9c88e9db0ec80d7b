/- Bytes that a string was turned into and that are appended to: a row whose mark, if any, stands behind its end; append to it as one law. No program is named here. -/
import Derived.Test.YtbbhilmkipghiaaDoorMem
import Derived.Laws.IdiomStrings
import Derived.Test.YtbbhilmkipghiaaDoorLzA
import Derived.Test.YtbbhilmkipghiaaDoorWinB
import Derived.Test.YtbbhilmkipghiaaDoorBitsN
import Derived.Maps.AppendAt
import Derived.Deep.DeepCutAuto
namespace Go.Proofs.YtbbhilmkipghiaaDoor
open Go Go.RowKit
set_option maxRecDepth 100000

/-- A slice from the beginning of a block of one-cell elements, of which no cell is frozen. -/
def Buf (w : World) (e : TypeId) (v : Value) (xs : List Value) : Prop :=
  ∃ g cap cur fz, v = .slice (some ⟨g, 0, none⟩) xs.length cap ∧ w.heap[g]? = some (.cells cur e fz) ∧ (fz = (0, 0) ∨ cur.size ≤ fz.1) ∧ xs.length ≤ cap ∧ cap ≤ maxLen ∧ cap ≤ cur.size ∧ cur.toList.take xs.length = xs

theorem Buf.lt {w : World} {e : TypeId} {v : Value} {xs : List Value} (h : Buf w e v xs) : ∀ g, v.ownBlock = some g → g < w.heap.size := by
  intro g hg
  obtain ⟨g', cap, cur, fz, rfl, hh, _⟩ := h
  simp [Value.ownBlock] at hg
  subst hg
  exact (Array.getElem?_eq_some_iff.1 hh).1

theorem Buf.form {w : World} {e : TypeId} {v : Value} {xs : List Value} (h : Buf w e v xs) : ∃ g cap, v = .slice (some ⟨g, 0, none⟩) xs.length cap ∧ xs.length ≤ cap ∧ cap ≤ maxLen ∧ g < w.heap.size := by
  obtain ⟨g, cap, cur, fz, rfl, hh, _, h1, h2, _⟩ := h
  exact ⟨g, cap, rfl, h1, h2, (Array.getElem?_eq_some_iff.1 hh).1⟩

theorem Buf.kept {S : Nat → Prop} {w w' : World} {e : TypeId} {v : Value} {xs : List Value} (h : Buf w e v xs) (ht : Touch S w w') (hn : ∀ g, v.ownBlock = some g → ¬ S g) : Buf w' e v xs := by
  obtain ⟨g, cap, cur, fz, rfl, hh, hr⟩ := h
  exact ⟨g, cap, cur, fz, rfl, by rw [ht.block g (Array.getElem?_eq_some_iff.1 hh).1 (hn g rfl)]; exact hh, hr⟩

theorem Buf.cells {w : World} {e : TypeId} {xs : List Value} {g n cap : Nat} (h : Buf w e (.slice (some ⟨g, 0, none⟩) n cap) xs) : n = xs.length ∧ ∀ j u, xs[j]? = some u → w.cell? ⟨g, j, none⟩ = some u := by
  obtain ⟨g', cap', cur, fz, hv, hh, _, h1, h2, h3, h4⟩ := h
  injection hv with ha hn hc
  injection ha with ha
  injection ha with ha
  subst ha
  refine ⟨hn, fun j u hu => ?_⟩
  rw [cell_of_row w g j cur e fz hh, ← Array.getElem?_toList]
  have hj : j < xs.length := (List.getElem?_eq_some_iff.1 hu).1
  rw [← h4, List.getElem?_take, if_pos hj] at hu
  exact hu

theorem Buf.new (w : World) (e : TypeId) (s : ByteArray) (cap : Nat) (h1 : s.size ≤ cap) (h2 : cap ≤ maxLen) :
    Buf (w.alloc (.cells (bytesRow s cap) e ((bytesRow s cap).size, (bytesRow s cap).size + 1))) e (.slice (some ⟨w.heap.size, 0, none⟩) s.size cap) (byteVs s.data.toList) := by
  have hl : (byteVs s.data.toList).length = s.size := by rw [byteVs_length]; rfl
  have hd : s.data.size = s.size := rfl
  refine ⟨w.heap.size, cap, _, _, by rw [hl], heap_alloc_new w _, .inr (Nat.le_refl _), by rw [hl]; exact h1, h2, ?_, ?_⟩
  · simp [bytesRow]
    omega
  · rw [hl]
    simp only [bytesRow, Array.toList_append, Array.toList_map]
    rw [List.take_left' (by simp)]
    rfl

section
variable {P : Program} (w : World)

theorem run_storeCells_buf (g o : Nat) (t : TypeId) (fz : Nat × Nat) : ∀ (vs : List Value) (i : Nat) (cur : Array Value) (w : World), w.heap[g]? = some (.cells cur t fz) → (fz = (0, 0) ∨ cur.size ≤ fz.1) → o + i + vs.length ≤ cur.size → (∀ v ∈ vs, v.oneCell' = true) →
    (storeCells ⟨g, o, none⟩ vs i).run P w = .ok () (w.setRow g (cur.toList.take (o + i) ++ vs ++ cur.toList.drop (o + i + vs.length)).toArray)
  | [], i, cur, w, hg, _, _, _ => by
    simp only [storeCells, List.append_nil, List.length_nil, Nat.add_zero, List.take_append_drop, Array.toArray_toList]
    rw [setRow_self w g cur t fz hg]
    rfl
  | v :: rest, i, cur, w, hg, hz, hl, h1 => by
    have hi : o + i < cur.size := by simp at hl; omega
    have hadd : (⟨g, o, none⟩ : Addr).add i = ⟨g, o + i, none⟩ := by unfold Addr.add; split <;> simp_all
    have hcell : w.cell? ⟨g, o + i, none⟩ = some cur[o + i] := by simp [World.cell?, hg, hi]
    have hfro : w.frozen? ⟨g, o + i, none⟩ = false := by
      rcases hz with rfl | hz
      · simp [World.frozen?, hg]
      · simp [World.frozen?, hg]; omega
    have hst : (store ((⟨g, o, none⟩ : Addr).add i) v).run P w = .ok () (w.setRow g (cur.setIfInBounds (o + i) v)) := by
      rw [hadd, run_store P w _ v _ (h1 v (by simp)), hcell]
      simp [hfro, setCell_eq_setRow w g (o + i) cur t fz v hg]
    have ih := run_storeCells_buf g o t fz rest (i + 1) (cur.setIfInBounds (o + i) v) (w.setRow g (cur.setIfInBounds (o + i) v)) (setRow_heap w g cur _ t _ hg) (by simpa using hz) (by simp at hl ⊢; omega) (fun x hx => h1 x (by simp [hx]))
    simp only [storeCells, Sem.run_bind, hst, Result.andThen_ok, ih, setRow_setRow]
    congr 3
    have e := list_seg_step cur.toList (o + i) v rest (by simp at hl ⊢; omega)
    simpa [Array.toList_setIfInBounds, Nat.add_assoc] using e

/-- append to such bytes, from any source. -/
theorem run_append_buf (t tx ty e : TypeId) (i : TypeInfo) (z : Value) (bytes : Nat) (ht : P.underlying t = some (.slice e)) (hi : P.info? e = some i) (hz : i.zero = some z)
    (hs1 : i.size = 1) (hby : i.bytes = bytes) (hzs : z.cells.size = 1)
    (v : Value) (xs : List Value) (hown : Buf w e v xs) (x : Value) (n : Nat) (news : List Value) (hs : Src P 1 tx x n news w)
    (h63 : xs.length + n ≤ maxLen) (hbytes : (xs.length + n) * bytes ≤ 140737488355328) :
    ∃ v' w', (Builtin.append_ #[t, tx] ty #[v, x]).run P w = .ok v' w' ∧ Buf w' e v' (xs ++ news) ∧ w.grownBy w' v.ownBlock ∧ (v'.ownBlock = v.ownBlock ∨ v'.ownBlock = some w.heap.size) := by
  subst hby
  have hsmall : xs.length + n ≤ 9223372036854775807 := by simp only [maxLen] at h63; omega
  have hnl : news.length = n := by have := hs.newsLen; omega
  have hs' : Src P i.size tx x n news w := by rw [hs1]; exact hs
  rcases Nat.eq_zero_or_pos n with hn0 | hn0
  · subst hn0
    obtain rfl : news = [] := List.eq_nil_of_length_eq_zero hnl
    obtain ⟨g, cap, hv, hle, _⟩ := hown.form
    subst hv
    refine ⟨_, _, run_append_nothing (P := P) w t tx ty e i ht hi _ xs.length cap hle x hs', by simpa using hown, ⟨rfl, rfl, rfl, Nat.le_refl _, fun _ _ _ => rfl⟩, .inl rfl⟩
  · have hown0 := hown
    obtain ⟨g, cap, cur, fz, rfl, hg, hfz, hnc, hcm, hcs, htake⟩ := hown
    by_cases hroom : xs.length + n ≤ cap
    · have hst := run_storeCells_buf (P := P) g xs.length e fz news 0 cur w hg hfz (by simp; omega) hs.one
      simp only [Nat.add_zero] at hst
      have hsc := hs.cells
      have hr : (Builtin.append_ #[t, tx] ty #[.slice (some ⟨g, 0, none⟩) xs.length cap, x]).run P w =
          .ok (.slice (some ⟨g, 0, none⟩) (xs.length + n) cap) (w.setRow g (cur.toList.take (xs.length) ++ news ++ cur.toList.drop (xs.length + news.length)).toArray) := by
        rcases hs.kind with ⟨e', hk⟩ | hk <;> simp [Builtin.append_, run_underlying ht, run_underlying hk, sizeOf, typeInfo, hi, hs1, hs.len, hroom, hsc, Addr.add_lit, hst]
      refine ⟨_, _, hr, ⟨g, cap, _, fz, by simp [hnl], setRow_heap w g cur _ e fz hg, ?_, by simp [hnl]; omega, hcm, ?_, ?_⟩, ⟨rfl, rfl, rfl, by simp, fun k _ hk => setRow_other w g k _ (fun e => hk (by simp [Value.ownBlock, e]))⟩, .inl rfl⟩
      · rcases hfz with h | h
        · exact .inl h
        · right
          simp only [List.size_toArray, List.length_append, List.length_take, List.length_drop, Array.length_toList]
          omega
      · simp only [List.size_toArray, List.length_append, List.length_take, List.length_drop, Array.length_toList]
        omega
      · show ((cur.toList.take xs.length ++ news ++ cur.toList.drop (xs.length + news.length))).take (xs ++ news).length = xs ++ news
        rw [htake]
        exact List.take_left
    · have hcells := (Buf.cells hown0).2
      have hold : (Builtin.firstCells i.size xs.length (.slice (some ⟨g, 0, none⟩) xs.length cap)).run P w.drew = .ok xs.toArray w.drew := by
        rw [hs1]
        refine run_firstCells_some w.drew 1 xs.length ⟨g, 0, none⟩ xs.length cap xs (by omega) (fun j u hu => ?_)
        have := hcells j u hu
        by_cases hj : j = 0
        · subst hj; simpa [Addr.add] using this
        · simpa [Addr.add, hj] using this
      have hr := run_append_grow_src (P := P) w t tx ty e i z ht hi hz (some ⟨g, 0, none⟩) xs.length cap xs hold x n news hs' (by omega) (by omega) (growslice_fits (by omega) hbytes)
      have hge := grownCap_ge w (xs.length + n) cap e
      have hcm' : grownCap w (xs.length + n) cap e ≤ maxLen := grownCap_le_maxLen w (xs.length + n) cap e h63
      refine ⟨_, _, hr, ⟨w.heap.size, _, _, (0, 0), by simp [hnl], heap_alloc_new w.drew _, .inl rfl, by simp [hnl]; omega, hcm', ?_, ?_⟩, ⟨rfl, rfl, rfl, by simp, fun k hk _ => Below.heap_alloc w.drew _ k hk⟩, .inr rfl⟩
      · simp only [Array.size_append, List.size_toArray, List.length_append, size_zeroCells, hzs, hnl]
        omega
      · simp only [Array.toList_append]
        exact List.take_left

theorem wp_append_buf {o : Oper} {a : Act} {K : Act → World → Prop} {Q : Exit → Act → World → Prop} (s x : Operand) (t tx : TypeId)
    (ho : o.op = .call { callee := .builtin .append, args := #[s, x], argTypes := #[t, tx] })
    (e : TypeId) (i : TypeInfo) (z : Value) (bytes : Nat) (ht : P.underlying t = some (.slice e)) (hi : P.info? e = some i) (hz : i.zero = some z)
    (hs1 : i.size = 1) (hby : i.bytes = bytes) (hzs : z.cells.size = 1)
    (v : Value) (xs : List Value) (hsv : a.eval s = v) (hown : Buf w e v xs) (xv : Value) (hxv : a.eval x = xv) (n : Nat) (news : List Value) (hs : Src P 1 tx xv n news w)
    (h63 : xs.length + n ≤ maxLen) (hbytes : (xs.length + n) * bytes ≤ 140737488355328)
    (h : ∀ v' w', Buf w' e v' (xs ++ news) → w.grownBy w' v.ownBlock → (v'.ownBlock = v.ownBlock ∨ v'.ownBlock = some w.heap.size) → K (a.put o.dst v') w') : o.wp P a w K Q := by
  obtain ⟨v', w', hr, h2, h3, h4⟩ := run_append_buf (P := P) w t tx o.type e i z bytes ht hi hz hs1 hby hzs v xs hown xv n news hs h63 hbytes
  unfold Oper.wp execOp
  simp only [ho, resolve, invoke, builtin, Sem.run_bind, Sem.run_pure, Result.andThen_ok, List.map_toArray, List.map_cons, List.map_nil, hsv, hxv, hr]
  exact h v' w' h2 h3 h4

theorem wpList_append_buf {ops : Array Oper} {rest : List Oper} {o : Oper} {a : Act} {Q : Exit → Act → World → Prop} (hgd : o.guard = none) (s x : Operand) (t tx : TypeId)
    (ho : o.op = .call { callee := .builtin .append, args := #[s, x], argTypes := #[t, tx] })
    (e : TypeId) (i : TypeInfo) (z : Value) (bytes : Nat) (ht : P.underlying t = some (.slice e)) (hi : P.info? e = some i) (hz : i.zero = some z)
    (hs1 : i.size = 1) (hby : i.bytes = bytes) (hzs : z.cells.size = 1)
    (v : Value) (xs : List Value) (hsv : a.eval s = v) (hown : Buf w e v xs) (xv : Value) (hxv : a.eval x = xv) (n : Nat) (news : List Value) (hs : Src P 1 tx xv n news w)
    (h63 : xs.length + n ≤ maxLen) (hbytes : (xs.length + n) * bytes ≤ 140737488355328)
    (h : ∀ v' w', Buf w' e v' (xs ++ news) → w.grownBy w' v.ownBlock → (v'.ownBlock = v.ownBlock ∨ v'.ownBlock = some w.heap.size) → wpList P ops Q rest (a.put o.dst v') w') : wpList P ops Q (o :: rest) a w :=
  wpList_plain hgd fun _ hK => wp_append_buf w s x t tx ho e i z bytes ht hi hz hs1 hby hzs v xs hsv hown xv hxv n news hs h63 hbytes fun v' w' h2 h3 h4 => hK _ _ (h v' w' h2 h3 h4)

theorem step_append_buf {ops : Array Oper} {o : Oper} {a : Act} {K : Act → World → Prop} {Q : Exit → Act → World → Prop} {E : Prop} (hgd : o.guard = none) (s x : Operand) (t tx : TypeId)
    (ho : o.op = .call { callee := .builtin .append, args := #[s, x], argTypes := #[t, tx] })
    (e : TypeId) (i : TypeInfo) (z : Value) (bytes : Nat) (ht : P.underlying t = some (.slice e)) (hi : P.info? e = some i) (hz : i.zero = some z)
    (hs1 : i.size = 1) (hby : i.bytes = bytes) (hzs : z.cells.size = 1)
    (v : Value) (xs : List Value) (hsv : a.eval s = v) (hown : Buf w e v xs) (xv : Value) (hxv : a.eval x = xv) (n : Nat) (news : List Value) (hs : Src P 1 tx xv n news w)
    (h63 : xs.length + n ≤ maxLen) (hbytes : (xs.length + n) * bytes ≤ 140737488355328)
    (h : ∀ v' w', Buf w' e v' (xs ++ news) → w.grownBy w' v.ownBlock → (v'.ownBlock = v.ownBlock ∨ v'.ownBlock = some w.heap.size) → K (a.put o.dst v') w') :
    if Region.wanted o (yielded ops a.tmps) = true then Oper.wp P o a w K Q else E := by
  have hw : Region.wanted o (yielded ops a.tmps) = true := by simp [Region.wanted, hgd]
  rw [if_pos hw]
  exact wp_append_buf w s x t tx ho e i z bytes ht hi hz hs1 hby hzs v xs hsv hown xv hxv n news hs h63 hbytes h

end
end Go.Proofs.YtbbhilmkipghiaaDoor
/- Contracts of package lz's tokens over the translated program: Good and Expand, by lists. -/
namespace Go.Proofs.YtbbhilmkipghiaaDoor
open Go Go.RowKit
set_option maxRecDepth 100000

/-- A token: its byte, its length, how far back. -/
structure Tok where
  b : UInt8
  n : Int
  d : Int
def tokA (t : Tok) : Array Value := #[.int .u8 (t.b.toNat : Nat), .int .i64 t.n, .int .i64 t.d]

/-- May it be? -/
def goodB (t : Tok) : Bool := if t.n = 0 then decide (t.d = 0) else decide (t.b.toNat = 0 ∧ 3 ≤ t.n ∧ t.n ≤ 258 ∧ 1 ≤ t.d ∧ t.d ≤ 32768)

/-- A slice of tokens, to be read. -/
def Toks (w : World) (v : Value) (l : List Tok) : Prop :=
  ∃ a cap, v = .slice a l.length cap ∧ l.length ≤ cap ∧ cap ≤ maxLen ∧ (l = [] ∨ ∃ g off, a = some ⟨g, off, none⟩ ∧ ∀ j t, l[j]? = some t →
    w.cell? ⟨g, off + j * 3, none⟩ = some (.int .u8 (t.b.toNat : Nat)) ∧ w.cell? ⟨g, off + j * 3 + 1, none⟩ = some (.int .i64 t.n) ∧ w.cell? ⟨g, off + j * 3 + 2, none⟩ = some (.int .i64 t.d))

theorem Toks.kept {S : Nat → Prop} {w w' : World} {v : Value} {l : List Tok} (h : Toks w v l) (ht : Touch S w w') (hn : ∀ g, v.ownBlock = some g → ¬ S g) : Toks w' v l := by
  obtain ⟨a, cap, rfl, h1, h2, h3⟩ := h
  refine ⟨a, cap, rfl, h1, h2, ?_⟩
  rcases h3 with h3 | ⟨g, off, rfl, h3⟩
  · exact .inl h3
  · exact .inr ⟨g, off, rfl, fun j t ht' => ⟨ht.cell (h3 j t ht').1 (hn g rfl), ht.cell (h3 j t ht').2.1 (hn g rfl), ht.cell (h3 j t ht').2.2 (hn g rfl)⟩⟩
theorem Toks.still {w w' : World} {v : Value} {l : List Tok} (h : Toks w v l) (ht : Touch (fun _ => False) w w') : Toks w' v l := h.kept ht (fun _ _ => id)

def tellL (t : Tok) (b : List UInt8) : List UInt8 := if t.n = 0 then b ++ [t.b] else copyL t.n.toNat t.d.toNat b
/-- What tokens make of the bytes ahead of them. -/
def expandL (b : List UInt8) : List Tok → Option (List UInt8)
  | [] => some b
  | t :: r => if goodB t = true ∧ t.d ≤ b.length then expandL (tellL t b) r else none

/-- What Expand answers. -/
def expV (n : Nat) (o : Option (List UInt8)) : Value :=
  match o with
  | some r => .tuple #[.string ⟨(r.drop n).toArray⟩, .bool true]
  | none => .tuple #[.string ⟨#[]⟩, .bool false]

theorem Tryd.infoU8 : (Tryd.prog.info? 5).map (fun i => (i.zero, i.size, i.bytes)) = some (some (.int .u8 0), 1, 1) := by kernel_rfl
/-- The bytes from some place on, as a string. -/
theorem run_convert_buf {P : Program} (w : World) (src e dst : TypeId) (hs : P.underlying src = some (.slice e)) (he : P.underlying e = some (.int .u8)) (hd : P.underlying dst = some .string)
    {g n cap q : Nat} {e0 : TypeId} {X : List UInt8} (h : Buf w e0 (.slice (some ⟨g, 0, none⟩) n cap) (byteVs X)) (hq : q ≤ X.length) :
    (convert src dst (.slice (some ⟨g, q, none⟩) (n - q) (cap - q))).run P w = .ok (.string ⟨(X.drop q).toArray⟩) w := by
  obtain ⟨h1, h2⟩ := h.cells
  rw [byteVs_length] at h1
  subst h1
  have := run_convert_bytes_back (P := P) w src dst e ⟨g, q, none⟩ (cap - q) (X.drop q) hs he hd (fun j hj => by
    have hj' : j < X.length - q := by simpa using hj
    have h3 := h2 (q + j) (.int .u8 ((X[q + j]).toNat : Nat)) (by simp [byteVs, show q + j < X.length by omega])
    have h4 : (⟨g, q, none⟩ : Addr).add j = ⟨g, q + j, none⟩ := by
      by_cases h0 : j = 0
      · subst h0; simp [Addr.add]
      · simp [Addr.add, h0]
    rw [h4, h3]
    simp)
  rwa [List.length_drop] at this
theorem run_convert_buf2 {P : Program} (w : World) (src e dst : TypeId) (hs : P.underlying src = some (.slice e)) (he : P.underlying e = some (.int .u8)) (hd : P.underlying dst = some .string)
    {g n cap q : Nat} {e0 : TypeId} {X : List UInt8} (h : Buf w e0 (.slice (some ⟨g, 0, none⟩) n cap) (byteVs X)) (hq : X.length ≤ q) (c : Nat) (o : Nat) :
    (convert src dst (.slice (some ⟨g, o, none⟩) (n - q) c)).run P w = .ok (.string ⟨(X.drop q).toArray⟩) w := by
  obtain ⟨h1, h2⟩ := h.cells
  rw [byteVs_length] at h1
  subst h1
  have := run_convert_bytes_back (P := P) w src dst e ⟨g, o, none⟩ c (X.drop q) hs he hd (fun j hj => by
    have hj' : j < X.length - q := by simpa using hj
    omega)
  rwa [List.length_drop] at this

end Go.Proofs.YtbbhilmkipghiaaDoor
/- Plain mathematics of symbols: a number is told by its symbol's least one and its extra bits. -/
namespace Go.Proofs.YtbbhilmkipghiaaDoor
open Go Go.RowKit
set_option maxRecDepth 100000

theorem blen_bounds : ∀ (m : Nat), m < 2 ^ 64 → m < 2 ^ blen m ∧ (0 < m → 2 ^ (blen m - 1) ≤ m) := by
  intro m
  induction m using Nat.strongRecOn with
  | _ m ih =>
    intro h
    by_cases h0 : m = 0
    · subst h0
      exact ⟨by decide, fun h => absurd h (by decide)⟩
    · have hh : blen m = 1 + blen (m / 2) := Lib.bitLen_half m h0 h
      obtain ⟨h1, h2⟩ := ih (m / 2) (by omega) (by omega)
      rw [hh]
      constructor
      · rw [Nat.add_comm, Nat.pow_succ]
        omega
      · intro _
        by_cases h3 : m / 2 = 0
        · rw [h3]
          have : blen 0 = 0 := by decide
          rw [this]
          simp
          omega
        · have h4 := h2 (by omega)
          have h5 : 0 < blen (m / 2) := by
            rcases Nat.eq_zero_or_pos (blen (m / 2)) with h | h
            · rw [h] at h1
              simp at h1
              omega
            · exact h
          rw [show 1 + blen (m / 2) - 1 = blen (m / 2) - 1 + 1 by omega, Nat.pow_succ]
          omega

theorem split_facts (f m : Nat) (hm : m < 32768) : (bitN f m = 0 → m < 2 ^ (f + 1)) ∧ (0 < bitN f m → 2 ^ f ≤ m / 2 ^ bitN f m ∧ m / 2 ^ bitN f m < 2 ^ (f + 1)) := by
  obtain ⟨h1, h2⟩ := blen_bounds m (Nat.lt_trans hm (by decide))
  unfold bitN
  constructor
  · intro h
    exact Nat.lt_of_lt_of_le h1 (Nat.pow_le_pow_right (by decide) (by omega))
  · intro h
    have hp : 0 < m := by
      rcases Nat.eq_zero_or_pos m with h0 | h0
      · subst h0
        have : blen 0 = 0 := by decide
        omega
      · exact h0
    have h3 := h2 hp
    obtain ⟨e, he⟩ : ∃ e, e = blen m - 1 - f := ⟨_, rfl⟩
    rw [← he]
    have e1 : blen m = f + 1 + e := by omega
    rw [e1] at h1 h3
    constructor
    · rw [Nat.le_div_iff_mul_le (Nat.two_pow_pos _), ← Nat.pow_add]
      exact Nat.le_trans (Nat.pow_le_pow_right (by decide) (by omega)) h3
    · rw [Nat.div_lt_iff_lt_mul (Nat.two_pow_pos _), ← Nat.pow_add]
      exact h1

/-- A number below 2^15, told by a symbol and extra bits. -/
theorem told_facts (f m : Nat) (hf : f = 1 ∨ f = 2) (hm : m < 32768) :
    extN f (symN f m) = bitN f m ∧ leastN f (symN f m) + valN f m = m ∧ valN f m < 2 ^ bitN f m ∧ symN f m < (bitN f m + 2) * 2 ^ f := by
  obtain ⟨h1, h2⟩ := split_facts f m hm
  have h3 : symN f m = bitN f m * 2 ^ f + m / 2 ^ bitN f m := rfl
  have h4 : valN f m = m % 2 ^ bitN f m := rfl
  have h5 := Nat.div_add_mod m (2 ^ bitN f m)
  have h6 := Nat.mod_lt m (Nat.two_pow_pos (bitN f m))
  rw [← h4] at h5 h6
  generalize valN f m = V at h4 h5 h6 ⊢
  generalize symN f m = S at h3 ⊢
  generalize bitN f m = e at h1 h2 h3 h4 h5 h6 ⊢
  have hext : extN f S = e := by
    unfold extN
    rcases Nat.eq_zero_or_pos e with h0 | h0
    · rw [h0] at h3
      have := h1 h0
      simp at h3
      rcases hf with rfl | rfl <;> omega
    · have := h2 h0
      generalize m / 2 ^ e = q at this h3
      rcases hf with rfl | rfl <;> omega
  refine ⟨hext, ?_, h6, ?_⟩
  · have h7 : leastN f S = (S - extN f S * 2 ^ f) * 2 ^ extN f S := rfl
    rw [h7, hext, h3, Nat.add_sub_cancel_left, Nat.mul_comm]
    exact h5
  · rcases Nat.eq_zero_or_pos e with h0 | h0
    · rw [h0] at h3
      have := h1 h0
      simp at h3
      rcases hf with rfl | rfl <;> omega
    · have := h2 h0
      generalize m / 2 ^ e = q at this h3
      rcases hf with rfl | rfl <;> omega

theorem i64_and255 (n : Int) : bits .and .i64 n 255 = n % 256 := by
  have hk : (BitVec.ofInt 64 255).toNat = 2 ^ 8 - 1 := by decide
  have key : (BitVec.ofInt 64 n &&& BitVec.ofInt 64 255).toNat = (n % ((2 ^ 64 : Nat) : Int)).toNat % 2 ^ 8 := by
    rw [BitVec.toNat_and, BitVec.toNat_ofInt, hk, Nat.and_two_pow_sub_one_eq_mod]
  show IntKind.i64.wrap ((BitVec.ofInt 64 n &&& BitVec.ofInt 64 255).toNat : Nat) = n % 256
  rw [key, IntKind.wrap_i64]
  omega
theorem i64_and32767 (n : Int) : bits .and .i64 n 32767 = n % 32768 := by
  have hk : (BitVec.ofInt 64 32767).toNat = 2 ^ 15 - 1 := by decide
  have key : (BitVec.ofInt 64 n &&& BitVec.ofInt 64 32767).toNat = (n % ((2 ^ 64 : Nat) : Int)).toNat % 2 ^ 15 := by
    rw [BitVec.toNat_and, BitVec.toNat_ofInt, hk, Nat.and_two_pow_sub_one_eq_mod]
  show IntKind.i64.wrap ((BitVec.ofInt 64 n &&& BitVec.ofInt 64 32767).toNat : Nat) = n % 32768
  rw [key, IntKind.wrap_i64]
  omega
end Go.Proofs.YtbbhilmkipghiaaDoor
/- The walk of layer 5's statement that each length and distance is told by its symbol and as many bits as that has. -/
namespace Go.Proofs.YtbbhilmkipghiaaDoor
open Go Go.RowKit
set_option maxRecDepth 100000

theorem exp_ab : expV (⟨#[97, 98]⟩ : ByteArray).size (expandL (⟨#[97, 98]⟩ : ByteArray).data.toList [⟨0, 3, 2⟩]) = .tuple #[.string ⟨#[97, 98, 97]⟩, .bool true] := by rfl
theorem toks_new (w : World) (t : TypeId) (b n d : Value) (T : Tok) (hb : b = .int .u8 (T.b.toNat : Nat)) (hn : n = .int .i64 T.n) (hd : d = .int .i64 T.d) : Toks (w.alloc (.cells #[b, n, d] t)) (.slice (some ⟨w.heap.size, 0, none⟩) 1 1) [T] := by
  subst hb hn hd
  refine ⟨_, 1, rfl, Nat.le_refl _, by unfold maxLen; omega, .inr ⟨w.heap.size, 0, rfl, fun j u hu => ?_⟩⟩
  have hj : j = 0 := by
    have := (List.getElem?_eq_some_iff.1 hu).1
    simp at this
    exact this
  subst hj
  obtain rfl : T = u := by simpa using hu
  obtain ⟨c0, c1, c2, _, _, _⟩ := box_cells (heap_alloc_new w (.cells #[.int .u8 (T.b.toNat : Nat), .int .i64 T.n, .int .i64 T.d] t))
  exact ⟨c0, c1, c2⟩

theorem len_facts (k : Nat) (h3 : 3 ≤ k) (h : k ≤ 258) : ∃ s, s < 29 ∧ lenS k = s + 257 ∧ lenL s + lenV k = k ∧ lenE s = lenB k ∧ lenV k < 2 ^ lenB k ∧ lenB k ≤ 5 ∧ lenL s ≤ 258 := by
  by_cases h8 : k = 258
  · subst h8
    exact ⟨28, by decide, by decide, by decide, by decide, by decide, by decide, by decide⟩
  · obtain ⟨h4, h5, h6, h7⟩ := told_facts 2 (k - 3) (.inr rfl) (by omega)
    have hb : blen (k - 3) ≤ 8 := Lib.bitLen_le _ 8 (by decide) (by omega)
    have hb2 : bitN 2 (k - 3) ≤ 5 := by unfold bitN; omega
    have e1 : lenS k = 257 + symN 2 (k - 3) := if_neg h8
    have e2 : lenB k = bitN 2 (k - 3) := if_neg h8
    have e3 : lenV k = valN 2 (k - 3) := if_neg h8
    have hs : symN 2 (k - 3) < 28 := by omega
    have e4 : lenL (symN 2 (k - 3)) = leastN 2 (symN 2 (k - 3)) + 3 := if_neg (by omega)
    have e5 : lenE (symN 2 (k - 3)) = extN 2 (symN 2 (k - 3)) := if_neg (by omega)
    exact ⟨symN 2 (k - 3), by omega, by omega, by omega, by omega, by rw [e3, e2]; exact h6, by omega, by omega⟩

theorem dist_facts (k : Nat) (h1 : 1 ≤ k) (h : k ≤ 32768) : ∃ s, s < 30 ∧ symN 1 (k - 1) = s ∧ leastN 1 s + 1 + valN 1 (k - 1) = k ∧ extN 1 s = bitN 1 (k - 1) ∧ valN 1 (k - 1) < 2 ^ bitN 1 (k - 1) ∧ bitN 1 (k - 1) ≤ 13 := by
  obtain ⟨h4, h5, h6, h7⟩ := told_facts 1 (k - 1) (.inl rfl) (by omega)
  have hb := blen_le (k - 1) (by omega)
  have hb2 : bitN 1 (k - 1) ≤ 13 := by unfold bitN; omega
  exact ⟨_, by omega, rfl, by omega, h4, h6, hb2⟩

theorem shr_zero (v e : Nat) (h : v < 2 ^ e) : (v : Int) / 2 ^ e = 0 := by
  rw [show (2 : Int) ^ e = ((2 ^ e : Nat) : Int) by simp, show (v : Int) / ((2 ^ e : Nat) : Int) = ((v / 2 ^ e : Nat) : Int) by simp, Nat.div_eq_of_lt h]
  rfl

end Go.Proofs.YtbbhilmkipghiaaDoor
/- Contracts of layer 5's plain program over the translated program: its tables of symbols, and which row a number has. -/
namespace Go.Proofs.YtbbhilmkipghiaaDoor
open Go Go.RowKit
set_option maxRecDepth 100000

abbrev Tr := Nat × Nat × Nat
def trV (r : Tr) : List Value := [.int .i64 (r.1 : Nat), .int .i64 (r.2.1 : Nat), .int .i64 (r.2.2 : Nat)]
def trsV (l : List Tr) : List Value := l.flatMap trV
theorem trsV_length (l : List Tr) : (trsV l).length = l.length * 3 := by
  induction l with
  | nil => rfl
  | cons x l ih =>
    have : trsV (x :: l) = trV x ++ trsV l := by simp [trsV]
    rw [this, List.length_append, ih, List.length_cons]
    simp [trV]
    omega
theorem trsV_append (a b : List Tr) : trsV (a ++ b) = trsV a ++ trsV b := by simp [trsV]
theorem trsV_get (l : List Tr) (j : Nat) (x : Tr) (h : l[j]? = some x) : (trsV l)[j * 3]? = some (.int .i64 (x.1 : Nat)) ∧ (trsV l)[j * 3 + 1]? = some (.int .i64 (x.2.1 : Nat)) ∧ (trsV l)[j * 3 + 2]? = some (.int .i64 (x.2.2 : Nat)) := by
  induction l generalizing j with
  | nil => simp at h
  | cons y l ih =>
    have e : trsV (y :: l) = .int .i64 (y.1 : Nat) :: .int .i64 (y.2.1 : Nat) :: .int .i64 (y.2.2 : Nat) :: trsV l := by simp [trsV, trV]
    rw [e]
    cases j with
    | zero => simp at h; subst h; simp
    | succ j =>
      simp at h
      have := ih j h
      rw [show (j + 1) * 3 = j * 3 + 1 + 1 + 1 by omega]
      simpa using this

/-- A slice of rows, to be read. -/
def Trs (w : World) (v : Value) (xs : List Tr) : Prop :=
  ∃ a cap, v = .slice a xs.length cap ∧ xs.length ≤ cap ∧ cap ≤ maxLen ∧ (xs = [] ∨ ∃ g off, a = some ⟨g, off, none⟩ ∧ ∀ j x, xs[j]? = some x → w.cell? ⟨g, off + j * 3, none⟩ = some (.int .i64 (x.1 : Nat)) ∧ w.cell? ⟨g, off + j * 3 + 1, none⟩ = some (.int .i64 (x.2.1 : Nat)) ∧ w.cell? ⟨g, off + j * 3 + 2, none⟩ = some (.int .i64 (x.2.2 : Nat)))
theorem Trs.kept {S : Nat → Prop} {w w' : World} {v : Value} {xs : List Tr} (h : Trs w v xs) (ht : Touch S w w') (hn : ∀ g, v.ownBlock = some g → ¬ S g) : Trs w' v xs := by
  obtain ⟨a, cap, rfl, h1, h2, h3⟩ := h
  refine ⟨a, cap, rfl, h1, h2, ?_⟩
  rcases h3 with h3 | ⟨g, off, rfl, h3⟩
  · exact .inl h3
  · exact .inr ⟨g, off, rfl, fun j x hx => ⟨ht.cell (h3 j x hx).1 (hn g rfl), ht.cell (h3 j x hx).2.1 (hn g rfl), ht.cell (h3 j x hx).2.2 (hn g rfl)⟩⟩
theorem Trs.still {w w' : World} {v : Value} {xs : List Tr} (h : Trs w v xs) (ht : Touch (fun _ => False) w w') : Trs w' v xs := h.kept ht (fun _ _ => id)
theorem Trs.of_own {w : World} {base : Nat} {e : TypeId} {v : Value} {n : Nat} {xs : List Tr} (h : w.ownsRow base e 3 v n (trsV xs)) : Trs w v xs := by
  have hl : xs.length = n := by have := h.1; rw [trsV_length] at this; omega
  subst hl
  rcases h.2 with ⟨rfl, h0⟩ | ⟨g, cap, cur, rfl, _, hh, h1, h2, h3, h4⟩
  · obtain rfl : xs = [] := List.eq_nil_of_length_eq_zero h0
    exact ⟨none, 0, rfl, Nat.le_refl _, Nat.zero_le _, .inl rfl⟩
  · refine ⟨_, cap, rfl, h1, h2, .inr ⟨g, 0, rfl, fun j x hx => ?_⟩⟩
    have hj : j < xs.length := (List.getElem?_eq_some_iff.1 hx).1
    have hg := trsV_get xs j x hx
    rw [← h4] at hg
    rw [List.getElem?_take, if_pos (by omega), List.getElem?_take, if_pos (by omega), List.getElem?_take, if_pos (by omega), Array.getElem?_toList, Array.getElem?_toList, Array.getElem?_toList] at hg
    rw [cell_of_row w g _ cur e (0, 0) hh, cell_of_row w g _ cur e (0, 0) hh, cell_of_row w g _ cur e (0, 0) hh]
    simpa using hg

theorem own_still {w w' : World} {base : Nat} {e : TypeId} {k : Nat} {v : Value} {n : Nat} {xs : List Value} {S : Nat → Prop} (h : w.ownsRow base e k v n xs) (ht : Touch S w w') (hn : ∀ g, v.ownBlock = some g → ¬ S g) : w'.ownsRow base e k v n xs := by
  refine ⟨h.1, ?_⟩
  rcases h.2 with h2 | ⟨g, cap, cur, rfl, hb, hh, r⟩
  · exact .inl h2
  · exact .inr ⟨g, cap, cur, rfl, hb, by rw [ht.block g (Array.getElem?_eq_some_iff.1 hh).1 (hn g rfl)]; exact hh, r⟩
theorem own_base {w : World} {base : Nat} {e : TypeId} {k : Nat} {v : Value} {n : Nat} {xs : List Value} (h : w.ownsRow base e k v n xs) : ∀ g, v.ownBlock = some g → base ≤ g := by
  intro g hg
  rcases h.2 with ⟨rfl, _⟩ | ⟨g', cap, cur, rfl, hb, _⟩
  · cases hg
  · have h2 : g' = g := Option.some.inj hg
    omega
theorem own_form {w : World} {base : Nat} {e : TypeId} {k : Nat} {v : Value} {n : Nat} {xs : List Value} (h : w.ownsRow base e k v n xs) : ∃ a cap, v = .slice a n cap := by
  rcases h.2 with ⟨rfl, rfl⟩ | ⟨g', cap, cur, rfl, hb, _⟩
  · exact ⟨_, _, rfl⟩
  · exact ⟨_, _, rfl⟩
theorem new_tr (w : World) (t : TypeId) (r : Tr) : ∀ j u, (trV r)[j]? = some u → (w.alloc (.cells #[.int .i64 (r.1 : Nat), .int .i64 (r.2.1 : Nat), .int .i64 (r.2.2 : Nat)] t)).cell? ((⟨w.heap.size, 0, none⟩ : Addr).add j) = some u := by
  intro j u hu
  obtain ⟨c0, c1, c2, _, _, _⟩ := box_cells (heap_alloc_new w (.cells #[.int .i64 (r.1 : Nat), .int .i64 (r.2.1 : Nat), .int .i64 (r.2.2 : Nat)] t))
  match j, hu with
  | 0, hu => simp [trV] at hu; subst hu; exact c0
  | 1, hu => simp [trV] at hu; subst hu; exact c1
  | 2, hu => simp [trV] at hu; subst hu; exact c2
  | j + 3, hu => simp [trV] at hu

theorem Tryd.infoR : (Tryd.prog.info? 37).map (fun i => (i.zero, i.size, i.bytes)) = some (some (.agg #[.int .i64 0, .int .i64 0, .int .i64 0]), 3, 24) := by kernel_rfl

def lenRow (s : Nat) : Tr := (257 + s, lenL s, lenE s)
def distRow (s : Nat) : Tr := (s, leastN 1 s + 1, extN 1 s)
def lenTab : List Tr := (List.range 29).map lenRow
def distTab : List Tr := (List.range 30).map distRow
theorem lenTab_snoc (k : Nat) : (List.range (k + 1)).map lenRow = (List.range k).map lenRow ++ [lenRow k] := by rw [List.range_succ, List.map_append]; rfl
theorem distTab_snoc (k : Nat) : (List.range (k + 1)).map distRow = (List.range k).map distRow ++ [distRow k] := by rw [List.range_succ, List.map_append]; rfl

theorem len_step (s : Nat) (h8 : 8 ≤ s) (h : s < 28) : leastN 2 (s + 1) = leastN 2 s + 2 ^ extN 2 s ∧ leastN 2 (s + 1) + 3 ≤ 300 ∧ 2 ^ extN 2 s ≤ 32 ∧ lenRow s = (257 + s, leastN 2 s + 3, extN 2 s) := by
  have : ∀ s : Fin 28, 8 ≤ s.val → leastN 2 (s.val + 1) = leastN 2 s.val + 2 ^ extN 2 s.val ∧ leastN 2 (s.val + 1) + 3 ≤ 300 ∧ 2 ^ extN 2 s.val ≤ 32 ∧ lenRow s.val = (257 + s.val, leastN 2 s.val + 3, extN 2 s.val) := by decide +kernel
  exact this ⟨s, h⟩ h8
theorem len_first (s : Nat) (h : s < 8) : lenRow s = (257 + s, 3 + s, 0) := by
  have : ∀ s : Fin 8, lenRow s.val = (257 + s.val, 3 + s.val, 0) := by decide +kernel
  exact this ⟨s, h⟩

set_option maxHeartbeats 1000000 in
theorem lengths_calls (w : World) : Calls Tryd.prog 12 #[] w fun e w' => ∃ v, e = .returned v ∧ Trs w' v lenTab ∧ Touch (fun _ => False) w w' := by
  obtain ⟨i0, hi, hz0, hz1, hz2⟩ := info_parts Tryd.infoR
  go_enter Tryd.func12, Tryd.ntmps12
  go_wp2_with fail
  go_loopw [1, 2] (fun vo iv wr => ∃ (k : Nat), k ≤ 8 ∧ iv = .int .i64 (k : Nat) ∧ wr.ownsRow w.heap.size 37 3 vo k (trsV ((List.range k).map lenRow)) ∧ Touch (fun _ => False) w wr) (fun _ iv _ => 8 - (intOf iv).toNat)
  case atStart => exact ⟨0, by decide, rfl, World.ownsRow_nil w _ _ _, Touch.refl _ _⟩
  case round =>
    obtain ⟨k, hk, rfl, hown, hT⟩ := hrel
    by_cases hlt : k < 8
    · have HROW := Lib.hid (len_first k hlt)
      have HOWN := Lib.hid hown
      have HB := Lib.hid (own_base hown)
      obtain ⟨a, cap, hvo⟩ := own_form hown
      subst hvo
      have HT := Lib.hid hT
      clear hown hT
      go_wp2_with (at_builtin; refine wpList_append_own_at _ rfl (.tmp 11) (.tmp 17) 39 rfl w.heap.size 37 i0 _ 3 24 Tryd.underlying39 hi hz0 hz1 hz2 rfl (by decide) (.slice a k cap) k (trsV ((List.range k).map lenRow)) rfl (own_still HOWN.out (S := fun _ => False) ((Touch.refl _ _).alloc _) (fun _ _ => id)) ⟨_, 0, none⟩ 1 1 (trV (257 + k, 3 + k, 0)) rfl rfl (new_tr _ _ (257 + k, 3 + k, 0)) (by simp [trV, Value.oneCell']) (by unfold maxLen; omega) (by omega) (by have := HT.out.size; simp; omega) ?_; intro v2 w2 hrow2 hgrow hnil hown2)
      have hT2 := (HT.out.alloc (.cells #[.int .i64 ((257 + k : Nat) : Int), .int .i64 ((3 + k : Nat) : Int), .int .i64 ((0 : Nat) : Int)] 37)).grown hgrow (fun g hg => .inr (HB.out g hg))
      have hr3 : w2.ownsRow w.heap.size 37 3 v2 (k + 1) (trsV ((List.range (k + 1)).map lenRow)) := by
        rw [lenTab_snoc, trsV_append, show trsV [lenRow k] = trV (lenRow k) by simp [trsV], HROW.out]
        exact hrow2
      clear hrow2 hgrow hnil hown2
      go_roundw
      case rel => exact ⟨k + 1, by omega, by go_num, hr3, hT2⟩
      case measure => simp [intOf]; omega
    · have hk8 : k = 8 := by omega
      rw [hk8] at hown
      clear hk8
      go_wp2_with fail
      go_loopw [1, 3, 4, 5, 6] (fun vo av zv ev _ wr => ∃ (E A Z : Nat), 1 ≤ E ∧ E ≤ 6 ∧ ev = .int .i64 (E : Nat) ∧ av = .int .i64 (A : Nat) ∧ zv = .int .i64 (Z : Nat) ∧ RowKit.Hid (A = leastN 2 (4 * E + 4) + 3 ∧ Z = 2 ^ E) ∧ A ≤ 300 ∧ Z ≤ 64 ∧ wr.ownsRow w.heap.size 37 3 vo (4 * E + 4) (trsV ((List.range (4 * E + 4)).map lenRow)) ∧ Touch (fun _ => False) w wr) (fun _ _ _ ev _ _ => 6 - (intOf ev).toNat)
      case atStart => exact ⟨1, 11, 2, Nat.le_refl _, by decide, rfl, rfl, rfl, Lib.hid (by decide), by decide, by decide, hown, hT⟩
      case round =>
        clear hown hT
        obtain ⟨E, A, Z, hE1, hE2, rfl, rfl, rfl, HAZ, hA, hZ, hown, hT⟩ := hrel
        by_cases hlt : E ≤ 5
        · have eE : decide ((E : Int) ≤ 5) = true := decide_eq_true (by omega)
          go_wp2_with fail
          go_loopw [1, 3, 6] (fun vo av iv wr => ∃ (i A s : Nat), i ≤ 4 ∧ iv = .int .i64 (i : Nat) ∧ av = .int .i64 (A : Nat) ∧ s = 4 * E + 4 + i ∧ RowKit.Hid (A = leastN 2 s + 3) ∧ A ≤ 300 ∧ wr.ownsRow w.heap.size 37 3 vo s (trsV ((List.range s).map lenRow)) ∧ Touch (fun _ => False) w wr) (fun _ _ iv _ => 4 - (intOf iv).toNat)
          case atStart => exact ⟨0, A, 4 * E + 4, by decide, rfl, rfl, rfl, Lib.hid HAZ.out.1, hA, hown, hT⟩
          case round =>
            clear hown hT
            obtain ⟨i, A, s, hi2, rfl, rfl, hs, HA, hA, hown, hT⟩ := hrel
            by_cases hlt2 : i < 4
            · obtain ⟨d1, d2, d3, d4⟩ := len_step s (by omega) (by omega)
              have hext : extN 2 s = E := by unfold extN; omega
              rw [hext, ← HAZ.out.2] at d1
              have hA2 : A + Z = leastN 2 (s + 1) + 3 := by have := HA.out; omega
              have hrow : lenRow s = (257 + s, A, E) := by rw [d4, hext, HA.out]
              have HROW := Lib.hid hrow
              have HA2 := Lib.hid hA2
              have HOWN := Lib.hid hown
              have HB := Lib.hid (own_base hown)
              have hsb : s ≤ 40 := by omega
              have HS := Lib.hid hs
              obtain ⟨a, cap, hvo⟩ := own_form hown
              subst hvo
              have HT := Lib.hid hT
              have hA3 : A + Z ≤ 300 := by omega
              clear hown hT d1 d2 d3 d4 hext hA2 hrow hs
              go_wp2_with (at_builtin; refine wpList_append_own_at _ rfl (.tmp 27) (.tmp 34) 39 rfl w.heap.size 37 i0 _ 3 24 Tryd.underlying39 hi hz0 hz1 hz2 rfl (by decide) (.slice a s cap) s (trsV ((List.range s).map lenRow)) rfl (own_still HOWN.out (S := fun _ => False) ((Touch.refl _ _).alloc _) (fun _ _ => id)) ⟨_, 0, none⟩ 1 1 (trV (257 + s, A, E)) rfl rfl (new_tr _ _ (257 + s, A, E)) (by simp [trV, Value.oneCell']) (by unfold maxLen; omega) (by omega) (by have := HT.out.size; simp; omega) ?_; intro v2 w2 hrow2 hgrow hnil hown2)
              have hT2 := (HT.out.alloc (.cells #[.int .i64 ((257 + s : Nat) : Int), .int .i64 (A : Nat), .int .i64 (E : Nat)] 37)).grown hgrow (fun g hg => .inr (HB.out g hg))
              have hr3 : w2.ownsRow w.heap.size 37 3 v2 (s + 1) (trsV ((List.range (s + 1)).map lenRow)) := by
                rw [lenTab_snoc, trsV_append, show trsV [lenRow s] = trV (lenRow s) by simp [trsV], HROW.out]
                exact hrow2
              clear hrow2 hgrow hnil hown2
              go_roundw
              case rel => exact ⟨i + 1, A + Z, s + 1, by omega, by go_num, by simp, by have := HS.out; omega, Lib.hid HA2.out, hA3, hr3, hT2⟩
              case measure => simp [intOf]; omega
            · obtain rfl : i = 4 := by omega
              go_wp2_with fail
              go_roundw
              case rel => exact ⟨E + 1, A, Z * 2, by omega, by omega, by go_num, rfl, by simp, Lib.hid ⟨by rw [HA.out, show 4 * (E + 1) + 4 = s by omega], by rw [HAZ.out.2, Nat.pow_succ]⟩, hA, by have h1 := HAZ.out.2; have h2 : 2 ^ E ≤ 2 ^ 5 := Nat.pow_le_pow_right (by decide) hlt; omega, by rw [show 4 * (E + 1) + 4 = s by omega]; exact hown, hT⟩
              case measure => simp [intOf]; omega
        · obtain rfl : E = 6 := by omega
          have HOWN := Lib.hid hown
          have HB := Lib.hid (own_base hown)
          obtain ⟨a, cap, hvo⟩ := own_form hown
          subst hvo
          have HT := Lib.hid hT
          clear hown hT
          go_wp2_with (at_builtin; refine wpList_append_own_at _ rfl (.tmp 41) (.tmp 43) 39 rfl w.heap.size 37 i0 _ 3 24 Tryd.underlying39 hi hz0 hz1 hz2 rfl (by decide) (.slice a 28 cap) 28 (trsV ((List.range 28).map lenRow)) rfl (own_still HOWN.out (S := fun _ => False) ((Touch.refl _ _).alloc _) (fun _ _ => id)) ⟨_, 0, none⟩ 1 1 (trV (285, 258, 0)) rfl rfl (new_tr _ _ (285, 258, 0)) (by simp [trV, Value.oneCell']) (by unfold maxLen; omega) (by omega) (by have := HT.out.size; simp; omega) ?_; intro v2 w2 hrow2 hgrow hnil hown2)
          have hT2 := (HT.out.alloc (.cells #[.int .i64 ((285 : Nat) : Int), .int .i64 ((258 : Nat) : Int), .int .i64 ((0 : Nat) : Int)] 37)).grown hgrow (fun g hg => .inr (HB.out g hg))
          have hr3 : w2.ownsRow w.heap.size 37 3 v2 29 (trsV lenTab) := hrow2
          have HR3 := Lib.hid hr3
          clear hrow2 hgrow hnil hown2 hr3
          go_wp2_with fail
          go_ret
          exact ⟨_, rfl, Trs.of_own HR3.out, hT2⟩

theorem dist_step (s : Nat) (h4 : 4 ≤ s) (h : s < 30) : leastN 1 (s + 1) = leastN 1 s + 2 ^ extN 1 s ∧ leastN 1 (s + 1) + 1 ≤ 32769 ∧ 2 ^ extN 1 s ≤ 8192 := by
  have : ∀ s : Fin 30, 4 ≤ s.val → leastN 1 (s.val + 1) = leastN 1 s.val + 2 ^ extN 1 s.val ∧ leastN 1 (s.val + 1) + 1 ≤ 32769 ∧ 2 ^ extN 1 s.val ≤ 8192 := by decide +kernel
  exact this ⟨s, h⟩ h4

set_option maxHeartbeats 1000000 in
theorem dists_calls (w : World) : Calls Tryd.prog 13 #[] w fun e w' => ∃ v, e = .returned v ∧ Trs w' v distTab ∧ Touch (fun _ => False) w w' := by
  obtain ⟨i0, hi, hz0, hz1, hz2⟩ := info_parts Tryd.infoR
  go_enter Tryd.func13, Tryd.ntmps13
  go_wp2_with fail
  go_loopw [1, 2, 3, 4, 5] (fun vo av zv ev _ wr => ∃ (E A Z : Nat), 1 ≤ E ∧ E ≤ 14 ∧ ev = .int .i64 (E : Nat) ∧ av = .int .i64 (A : Nat) ∧ zv = .int .i64 (Z : Nat) ∧ RowKit.Hid (A = leastN 1 (2 * E + 2) + 1 ∧ Z = 2 ^ E) ∧ A ≤ 32769 ∧ Z ≤ 16384 ∧ wr.ownsRow w.heap.size 37 3 vo (2 * E + 2) (trsV ((List.range (2 * E + 2)).map distRow)) ∧ Touch (fun _ => False) w wr) (fun _ _ _ ev _ _ => 14 - (intOf ev).toNat)
  case atStart =>
    refine ⟨1, 5, 2, Nat.le_refl _, by decide, rfl, rfl, rfl, Lib.hid (by decide), by decide, by decide, ⟨rfl, .inr ⟨w.heap.size, 4, _, rfl, Nat.le_refl _, heap_alloc_new w _, Nat.le_refl _, by unfold maxLen; decide, rfl, rfl⟩⟩, (Touch.refl _ _).alloc _⟩
  case round =>
    obtain ⟨E, A, Z, hE1, hE2, rfl, rfl, rfl, HAZ, hA, hZ, hown, hT⟩ := hrel
    by_cases hlt : E ≤ 13
    · have eE : decide ((E : Int) ≤ 13) = true := decide_eq_true (by omega)
      go_wp2_with fail
      go_loopw [1, 2, 5] (fun vo av iv wr => ∃ (i A s : Nat), i ≤ 2 ∧ iv = .int .i64 (i : Nat) ∧ av = .int .i64 (A : Nat) ∧ s = 2 * E + 2 + i ∧ RowKit.Hid (A = leastN 1 s + 1) ∧ A ≤ 32769 ∧ wr.ownsRow w.heap.size 37 3 vo s (trsV ((List.range s).map distRow)) ∧ Touch (fun _ => False) w wr) (fun _ _ iv _ => 2 - (intOf iv).toNat)
      case atStart => exact ⟨0, A, 2 * E + 2, by decide, rfl, rfl, rfl, Lib.hid HAZ.out.1, hA, hown, hT⟩
      case round =>
        clear hown hT
        obtain ⟨i, A, s, hi2, rfl, rfl, hs, HA, hA, hown, hT⟩ := hrel
        by_cases hlt2 : i < 2
        · obtain ⟨d1, d2, d3⟩ := dist_step s (by omega) (by omega)
          have hext : extN 1 s = E := by unfold extN; omega
          rw [hext, ← HAZ.out.2] at d1
          have hA2 : A + Z = leastN 1 (s + 1) + 1 := by have := HA.out; omega
          have hrow : distRow s = (s, A, E) := by unfold distRow; rw [hext, HA.out]
          have HROW := Lib.hid hrow
          have HA2 := Lib.hid hA2
          have HOWN := Lib.hid hown
          have HB := Lib.hid (own_base hown)
          have hsb : s ≤ 40 := by omega
          have HS := Lib.hid hs
          obtain ⟨a, cap, hvo⟩ := own_form hown
          subst hvo
          have HT := Lib.hid hT
          have hA3 : A + Z ≤ 32769 := by omega
          clear hown hT d1 d2 d3 hext hA2 hrow hs
          go_wp2_with (at_builtin; refine wpList_append_own_at _ rfl (.tmp 19) (.tmp 25) 39 rfl w.heap.size 37 i0 _ 3 24 Tryd.underlying39 hi hz0 hz1 hz2 rfl (by decide) (.slice a s cap) s (trsV ((List.range s).map distRow)) rfl (own_still HOWN.out (S := fun _ => False) ((Touch.refl _ _).alloc _) (fun _ _ => id)) ⟨_, 0, none⟩ 1 1 (trV (s, A, E)) rfl rfl (new_tr _ _ (s, A, E)) (by simp [trV, Value.oneCell']) (by unfold maxLen; omega) (by omega) (by have := HT.out.size; simp; omega) ?_; intro v2 w2 hrow2 hgrow hnil hown2)
          have hT2 := (HT.out.alloc (.cells #[.int .i64 (s : Nat), .int .i64 (A : Nat), .int .i64 (E : Nat)] 37)).grown hgrow (fun g hg => .inr (HB.out g hg))
          have hr3 : w2.ownsRow w.heap.size 37 3 v2 (s + 1) (trsV ((List.range (s + 1)).map distRow)) := by
            rw [distTab_snoc, trsV_append, show trsV [distRow s] = trV (distRow s) by simp [trsV], HROW.out]
            exact hrow2
          clear hrow2 hgrow hnil hown2
          go_roundw
          case rel => exact ⟨i + 1, A + Z, s + 1, by omega, by go_num, by simp, by have := HS.out; omega, Lib.hid HA2.out, hA3, hr3, hT2⟩
          case measure => simp [intOf]; omega
        · obtain rfl : i = 2 := by omega
          go_wp2_with fail
          go_roundw
          case rel => exact ⟨E + 1, A, Z * 2, by omega, by omega, by go_num, rfl, by simp, Lib.hid ⟨by rw [HA.out, show 2 * (E + 1) + 2 = s by omega], by rw [HAZ.out.2, Nat.pow_succ]⟩, hA, by have h1 := HAZ.out.2; have h2 : 2 ^ E ≤ 2 ^ 13 := Nat.pow_le_pow_right (by decide) hlt; omega, by rw [show 2 * (E + 1) + 2 = s by omega]; exact hown, hT⟩
          case measure => simp [intOf]; omega
    · obtain rfl : E = 14 := by omega
      have HO := Lib.hid hown
      clear hown
      go_wp2_with fail
      go_ret
      exact ⟨_, rfl, Trs.of_own HO.out, hT⟩
end Go.Proofs.YtbbhilmkipghiaaDoor
/- Contracts of layer 5's plain program over the translated program: the row of a number. -/
namespace Go.Proofs.YtbbhilmkipghiaaDoor
open Go Go.RowKit
set_option maxRecDepth 100000

/-- The last row whose least number isn't above one. -/
def findF (n : Int) (out r : Tr) : Tr := if (r.2.1 : Int) ≤ n then r else out
def findT (T : List Tr) (n : Int) : Tr := T.foldl (findF n) (T.headD (0, 0, 0))

theorem fold_stay (n : Int) (r : Tr) : ∀ (B : List Tr), (∀ x ∈ B, n < (x.2.1 : Int)) → B.foldl (findF n) r = r
  | [], _ => rfl
  | x :: B, h => by
    have h1 := h x List.mem_cons_self
    rw [List.foldl_cons, findF, if_neg (by omega)]
    exact fold_stay n r B (fun y hy => h y (List.mem_cons_of_mem _ hy))
theorem findT_get (T : List Tr) (n : Int) (s : Nat) (r : Tr) (h : T[s]? = some r) (h1 : (r.2.1 : Int) ≤ n) (h2 : ∀ j x, s < j → T[j]? = some x → n < (x.2.1 : Int)) : findT T n = r := by
  have hs : s < T.length := (List.getElem?_eq_some_iff.1 h).1
  have hr : T[s] = r := (List.getElem?_eq_some_iff.1 h).2
  have e : T = T.take s ++ r :: T.drop (s + 1) := by
    rw [← hr, ← List.drop_eq_getElem_cons hs, List.take_append_drop]
  unfold findT
  generalize T.headD (0, 0, 0) = o
  rw [e, List.foldl_append, List.foldl_cons, findF, if_pos h1]
  refine fold_stay n r _ (fun x hx => ?_)
  obtain ⟨j, hj⟩ := List.getElem?_of_mem hx
  rw [List.getElem?_drop] at hj
  exact h2 _ x (by omega) hj

theorem find_len (n : Nat) (h3 : 3 ≤ n) (h : n ≤ 258) : findT lenTab n = (lenS n, n - lenV n, lenB n) ∧ lenV n ≤ n := by
  have : ∀ n : Fin 259, 3 ≤ n.val → findT lenTab n.val = (lenS n.val, n.val - lenV n.val, lenB n.val) ∧ lenV n.val ≤ n.val := by decide +kernel
  exact this ⟨n, by omega⟩ h3
theorem find_dist (n : Nat) (h1 : 1 ≤ n) (h : n ≤ 32768) : findT distTab n = (symN 1 (n - 1), n - valN 1 (n - 1), bitN 1 (n - 1)) ∧ valN 1 (n - 1) ≤ n := by
  obtain ⟨s, hs, e1, e2, e3, e4, _⟩ := dist_facts n h1 h
  have hm : ∀ a b : Fin 30, a.val < b.val → leastN 1 a.val + 2 ^ extN 1 a.val ≤ leastN 1 b.val := by decide +kernel
  have hT : ∀ j, distTab[j]? = if j < 30 then some (distRow j) else none := by
    intro j
    unfold distTab
    rw [List.getElem?_map]
    by_cases hj : j < 30
    · rw [List.getElem?_range hj, if_pos hj]; rfl
    · rw [List.getElem?_eq_none (by simp; omega), if_neg hj]; rfl
  rw [e1]
  refine ⟨?_, by omega⟩
  have hr : distRow s = (s, n - valN 1 (n - 1), bitN 1 (n - 1)) := by
    unfold distRow
    rw [e3, show n - valN 1 (n - 1) = leastN 1 s + 1 by omega]
  rw [← hr]
  refine findT_get distTab n s _ (by rw [hT, if_pos hs]) (by rw [hr]; show ((n - valN 1 (n - 1) : Nat) : Int) ≤ (n : Int); omega) (fun j x hj hx => ?_)
  rw [hT] at hx
  by_cases hj3 : j < 30
  · rw [if_pos hj3] at hx
    have := Option.some.inj hx
    subst this
    have h5 := hm ⟨s, hs⟩ ⟨j, hj3⟩ hj
    simp only [distRow]
    simp only at h5
    rw [e3] at h5
    omega
  · rw [if_neg hj3] at hx; cases hx

theorem Tryd.sizeR : (Tryd.prog.info? 37).map (·.size) = some 3 := by kernel_rfl

set_option maxHeartbeats 1000000 in
theorem find_calls (T : List Tr) (n : Int) (v : Value) (w : World) (hv : Trs w v T) (h0 : 0 < T.length) (hl : T.length ≤ 100) :
    Calls Tryd.prog 11 #[v, .int .i64 n] w fun e w' => e = .returned (.agg (trV (findT T n)).toArray) ∧ Touch (fun _ => False) w w' := by
  obtain ⟨a, cap, rfl, hlc, hcm, hcell⟩ := hv
  rcases hcell with rfl | ⟨g, off, rfl, hcell⟩
  · simp at h0
  have hh : T[0]? = some (T.headD (0, 0, 0)) := by
    cases T with
    | nil => simp at h0
    | cons x l => rfl
  obtain ⟨c0, c1, c2⟩ := hcell 0 _ hh
  rw [Nat.zero_mul, Nat.add_zero] at c0 c1 c2
  have hc0 : (0 : Int) < (T.length : Int) := by omega
  have hgl := World.block_lt_of_cell? w _ c0
  simp only at hgl
  obtain ⟨r0, hr0⟩ : ∃ r0, r0 = T.headD (0, 0, 0) := ⟨_, rfl⟩
  rw [← hr0] at c0 c1 c2
  have HR0 := Lib.hid hr0
  have HC := Lib.hid hcell
  clear hh hcell hr0
  go_enter Tryd.func11, Tryd.ntmps11
  go_wp2_with fail
  have hT0 : Touch (fun _ => False) w ((w.alloc (.cells #[.int .i64 0, .int .i64 0, .int .i64 0] 37)).alloc (.cells (trV r0).toArray 37)) := ((Touch.refl _ w).alloc _).alloc _
  have hB0 : ((w.alloc (.cells #[.int .i64 0, .int .i64 0, .int .i64 0] 37)).alloc (.cells (trV r0).toArray 37)).heap[w.heap.size]? = some (.cells #[.int .i64 0, .int .i64 0, .int .i64 0] 37) := (heap_alloc_old _ _ (by simp)).trans (heap_alloc_new w _)
  have hB1 : ((w.alloc (.cells #[.int .i64 0, .int .i64 0, .int .i64 0] 37)).alloc (.cells (trV r0).toArray 37)).heap[w.heap.size + 1]? = some (.cells (trV r0).toArray 37) := by
    have := heap_alloc_new (w.alloc (.cells #[.int .i64 0, .int .i64 0, .int .i64 0] 37)) (.cells (trV r0).toArray 37)
    simpa using this
  clear c0 c1 c2
  go_loopw [6] (fun iv wr => ∃ (k : Nat) (o : Tr), k ≤ T.length ∧ iv = .int .i64 (k : Nat) ∧ RowKit.Hid (o = (T.take k).foldl (findF n) r0) ∧ wr.heap[w.heap.size]? = some (.cells #[.int .i64 0, .int .i64 0, .int .i64 0] 37) ∧ wr.heap[w.heap.size + 1]? = some (.cells (trV o).toArray 37) ∧ Touch (fun _ => False) w wr) (fun iv _ => T.length - (intOf iv).toNat)
  case atStart => exact ⟨0, r0, Nat.zero_le _, rfl, Lib.hid rfl, hB0, hB1, hT0⟩
  case round =>
    clear hB0 hB1 hT0
    obtain ⟨k, o, hk, rfl, HO, hB0, hB1, hT⟩ := hrel
    obtain ⟨p0, p1, p2, q0, q1, q2⟩ := box_cells (show wr.heap[w.heap.size + 1]? = some (.cells #[.int .i64 (o.1 : Nat), .int .i64 (o.2.1 : Nat), .int .i64 (o.2.2 : Nat)] 37) from hB1)
    obtain ⟨m0, m1, m2, n0, n1, n2⟩ := box_cells hB0
    rw [Nat.zero_add] at p1 p2 q1 q2 m1 m2 n1 n2
    by_cases hlt : k < T.length
    · have hk0 : (0 : Int) ≤ (k : Int) := by omega
      have hk1 : (k : Int) < (T.length : Int) := by omega
      obtain ⟨x, hx⟩ : ∃ x, T[k]? = some x := ⟨_, List.getElem?_eq_getElem hlt⟩
      obtain ⟨c0, c1, c2⟩ := HC.out k x hx
      have b0 := hT.cell c0 id
      have b1 := hT.cell c1 id
      have b2 := hT.cell c2 id
      have hg1 : g ≠ w.heap.size := by omega
      have hg2 : g ≠ w.heap.size + 1 := by omega
      have hstep : (T.take (k + 1)).foldl (findF n) r0 = findF n o x := by
        have hxk : T[k] = x := (List.getElem?_eq_some_iff.1 hx).2
        rw [List.take_succ_eq_append_getElem hlt, List.foldl_append, ← HO.out, hxk]
        rfl
      have HST := Lib.hid hstep
      have HB0 := Lib.hid hB0
      have HB1 := Lib.hid hB1
      clear hx c0 c1 c2 hstep hB0 hB1
      by_cases hle : (x.2.1 : Int) ≤ n
      · have hf : findF n o x = x := if_pos hle
        have HF := Lib.hid hf
        clear hf
        go_wp2_with fail
        go_roundw
        case rel =>
          refine ⟨k + 1, x, by omega, by go_num, Lib.hid (by rw [HST.out, HF.out]), ?_, ?_, ?_⟩
          · have hS := (((Touch.refl (fun k => k = w.heap.size + 1) wr).setCell (p := ⟨w.heap.size + 1, 0, none⟩) (Or.inl rfl) (.int .i64 (x.1 : Nat))).setCell (p := ⟨w.heap.size + 1, 1, none⟩) (Or.inl rfl) (.int .i64 (x.2.1 : Nat))).setCell (p := ⟨w.heap.size + 1, 2, none⟩) (Or.inl rfl) (.int .i64 (x.2.2 : Nat))
            exact (hS.block _ (Array.getElem?_eq_some_iff.1 HB0.out).1 (by omega)).trans HB0.out
          · exact box_set3 HB1.out
          · exact ((hT.setCell (.inr (Nat.le_succ _)) _).setCell (.inr (Nat.le_succ _)) _).setCell (.inr (Nat.le_succ _)) _
        case measure => simp [intOf]; omega
      · have hf : findF n o x = o := if_neg hle
        have HF := Lib.hid hf
        clear hf
        go_wp2_with fail
        go_roundw
        case rel => exact ⟨k + 1, o, by omega, by go_num, Lib.hid (by rw [HST.out, HF.out]), HB0.out, HB1.out, hT⟩
        case measure => simp [intOf]; omega
    · obtain rfl : k = T.length := by omega
      have HB0 := Lib.hid hB0
      have HB1 := Lib.hid hB1
      clear hB0 hB1
      go_wp2_with fail
      ((try simp only [Exit.inBlock, Exit.then]); refine bodyPost_ret (results_cell_row rfl _ _ w.heap.size _ _ _ _ rfl (box_set3 HB0.out) Tryd.underlying37 rfl Tryd.sizeR) rfl ?_)
      refine ⟨?_, ((hT.setCell (.inr (Nat.le_refl _)) _).setCell (.inr (Nat.le_refl _)) _).setCell (.inr (Nat.le_refl _)) _⟩
      have ho := HO.out
      rw [List.take_length] at ho
      unfold findT
      rw [← HR0.out, ← ho]
      rfl
end Go.Proofs.YtbbhilmkipghiaaDoor
/- Contracts of layer 5's plain program over the translated program: its Good and its Expand answer as package lz's do. -/
namespace Go.Proofs.YtbbhilmkipghiaaDoor
open Go Go.RowKit
set_option maxRecDepth 100000

theorem refgood_calls (t : Tok) (w : World) : Calls Tryd.prog 9 #[.agg (tokA t)] w fun e w' => e = .returned (.bool (goodB t)) ∧ Touch (fun _ => False) w w' := by
  obtain ⟨b, n, d⟩ := t
  unfold tokA goodB
  have hb := b.toNat_lt
  simp only
  generalize b.toNat = c at hb ⊢
  by_cases hn : n = 0
  · subst hn
    go_enter Tryd.func9, Tryd.ntmps9
    go_wp2_with fail
    go_ret
    exact ⟨ret1 (congrArg Value.bool (by by_cases hd : d = 0 <;> simp [hd])), (Touch.refl _ _).alloc _⟩
  · by_cases hc : c = 0
    · subst hc
      have hne : ¬ (n = 0) := hn
      by_cases h3 : 3 ≤ n
      · by_cases h4 : n ≤ 258
        · by_cases h5 : 1 ≤ d
          · go_enter Tryd.func9, Tryd.ntmps9
            go_wp2_with fail
            go_ret
            exact ⟨ret1 (congrArg Value.bool (by first | rfl | (simp; omega) | simp)), (Touch.refl _ _).alloc _⟩
          · go_enter Tryd.func9, Tryd.ntmps9
            go_wp2_with fail
            go_ret
            exact ⟨ret1 (congrArg Value.bool (by first | rfl | (simp; omega) | simp)), (Touch.refl _ _).alloc _⟩
        · go_enter Tryd.func9, Tryd.ntmps9
          go_wp2_with fail
          go_ret
          exact ⟨ret1 (congrArg Value.bool (by first | rfl | (simp; omega) | simp)), (Touch.refl _ _).alloc _⟩
      · go_enter Tryd.func9, Tryd.ntmps9
        go_wp2_with fail
        go_ret
        exact ⟨ret1 (congrArg Value.bool (by first | rfl | (simp; omega) | simp)), (Touch.refl _ _).alloc _⟩
    · have hc0 : (c : Int) ≠ 0 := by omega
      go_enter Tryd.func9, Tryd.ntmps9
      go_wp2_with fail
      go_ret
      exact ⟨ret1 (congrArg Value.bool (by simp [hn, hc])), (Touch.refl _ _).alloc _⟩

theorem ext_size (q : ByteArray) (p : Nat) (hp : p < q.size) : (q.extract p (p + 1)).size = 1 := by
  simp
  omega
theorem ext_list (q : ByteArray) (p : Nat) (hp : p < q.size) : (q ++ q.extract p (p + 1)).data.toList = q.data.toList ++ [q.data.toList.getD p 0] := by
  have hp' : p < q.data.toList.length := by rw [data_length]; exact hp
  rw [ByteArray.data_append, ByteArray.data_extract, Array.toList_append, Array.toList_extract]
  congr 1
  rw [List.extract_eq_take_drop, show p + 1 - p = 1 by omega, List.drop_eq_getElem_cons hp']
  simp [List.getD, List.getElem?_eq_getElem hp']
theorem ext_end (q : ByteArray) (n : Nat) : q.extract n q.size = ⟨(q.data.toList.drop n).toArray⟩ := by
  apply ByteArray.ext
  apply Array.ext'
  rw [ByteArray.data_extract, Array.toList_extract, List.extract_eq_take_drop]
  simp only [List.toList_toArray]
  apply List.take_of_length_le
  rw [List.length_drop, data_length]
  exact Nat.le_refl _

set_option maxHeartbeats 1000000 in
theorem refexpand_calls (s : ByteArray) (l : List Tok) (v : Value) (w : World) (hv : Toks w v l) (hs : s.size ≤ 10000) (hl : l.length ≤ 100) :
    Calls Tryd.prog 17 #[.string s, v] w fun e w' => e = .returned (expV s.size (expandL s.data.toList l)) ∧ Touch (fun _ => False) w w' := by
  obtain ⟨a, cap, rfl, hlc, hcm, hcell⟩ := hv
  go_enter Tryd.func17, Tryd.ntmps17
  go_wp2_with fail
  go_loopw [4, 5, 6, 7, 8] (fun rs ro vs i _ wr => rs = .string ⟨#[]⟩ ∧ ro = .bool false ∧ ∃ (k : Nat) (q : ByteArray), k ≤ l.length ∧ i = .int .i64 (k : Nat) ∧ vs = .string q ∧ RowKit.Hid (expandL s.data.toList l = expandL q.data.toList (l.drop k)) ∧ q.size ≤ s.size + 258 * k ∧ s.size ≤ q.size ∧ Touch (fun _ => False) w wr) (fun _ _ _ i _ _ => l.length - (intOf i).toNat)
  case atStart => exact ⟨rfl, rfl, 0, s, Nat.zero_le _, rfl, rfl, Lib.hid rfl, Nat.le_refl _, Nat.le_refl _, Touch.refl _ _⟩
  case round =>
    obtain ⟨rfl, rfl, k, q, hk, rfl, rfl, HEX0, hX1, hX2, hT⟩ := hrel
    have hlq := data_length q
    have HLQ := Lib.hid hlq
    by_cases hlt : k < l.length
    · rcases hcell with rfl | ⟨g, off, rfl, hcell⟩
      · simp at hlt
      obtain ⟨t, ht⟩ : ∃ t, t = l[k] := ⟨_, rfl⟩
      have hlk : l[k]? = some t := by rw [ht]; exact List.getElem?_eq_getElem hlt
      have hdr : l.drop k = t :: l.drop (k + 1) := by rw [ht]; exact List.drop_eq_getElem_cons hlt
      have hex := HEX0.out
      rw [hdr] at hex
      obtain ⟨a0, a1, a2⟩ := hcell k t hlk
      have b0 := hT.cell a0 id
      have b1 := hT.cell a1 id
      have b2 := hT.cell a2 id
      have HG := Lib.hid (fun W => refgood_calls t W)
      unfold tokA at HG
      have hk0 : (0 : Int) ≤ (k : Int) := by omega
      have hk1 : (k : Int) < (l.length : Int) := by omega
      have HX := Lib.hid hex
      clear hcell a0 a1 a2 hdr ht hex hlq
      go_wp2_with fail
      refine (HG.out _).mono ?_
      rintro e w3 ⟨rfl, ht3⟩
      obtain ⟨hlt3, hb3⟩ := box_kept ht3
      have hT3 := ((hT.alloc _).trans ht3)
      clear b0 b1 b2 HG ht3 hT
      have hBw : w.heap.size ≤ wr.heap.size ∨ True := .inr trivial
      generalize wr.heap.size = B at hlt3 hb3 ⊢
      obtain ⟨c0, c1, c2, f0, f1, f2⟩ := box_cells hb3
      by_cases hg : goodB t = true
      · rw [hg]
        by_cases hd : t.d ≤ q.size
        · have hex2 : expandL s.data.toList l = expandL (tellL t q.data.toList) (l.drop (k + 1)) := by rw [HX.out, expandL, if_pos ⟨hg, by rw [HLQ.out]; exact hd⟩]
          have HEX := Lib.hid hex2
          clear hex2
          by_cases hn : t.n = 0
          · have htl : tellL t q.data.toList = q.data.toList ++ [t.b] := if_pos hn
            rw [htl] at HEX
            have hcv := run_bytes_row (P := Tryd.prog) (w3.alloc (.cells #[.int .u8 (t.b.toNat : Nat)] 5)) 24 5 9 Tryd.underlying24 Tryd.underlying5 Tryd.underlying9 (v := .slice (some ⟨w3.heap.size, 0, none⟩) 1 1) (xs := [t.b]) (.inr ⟨w3.heap.size, 0, 1, _, rfl, heap_alloc_new w3 _, Nat.le_refl _, by unfold maxLen; omega, Nat.le_refl _, rfl⟩)
            have hT4 := hT3.alloc (.cells #[.int .u8 (t.b.toNat : Nat)] 5)
            have d0 := (World.cell?_of_block (a := ⟨B, 0 + 1, none⟩) (heap_alloc_old _ (.cells #[.int .u8 (t.b.toNat : Nat)] 5) hlt3)).trans c1
            rw [hn] at d0
            have hq1 : q.size ≤ 40000 := by omega
            obtain ⟨sb, hsb⟩ : ∃ sb : ByteArray, sb = ⟨[t.b].toArray⟩ := ⟨_, rfl⟩
            have hsz1 : sb.size = 1 := by rw [hsb]; rfl
            rw [← hsb] at hcv
            have HSB := Lib.hid hsb
            have HSZ := Lib.hid hsz1
            have hsz2 : sb.size ≤ 1 := by omega
            clear hsb hsz1
            go_wp2_with fail
            generalize w3.alloc (.cells #[.int .u8 (t.b.toNat : Nat)] 5) = w4 at *
            clear hcv c0 c1 c2 f0 f1 f2 hb3 hT3
            go_loopw [6, 9] (fun vs j wr => vs = .string (q ++ sb) ∧ j = .int .i64 0 ∧ wr = w4) (fun _ _ _ => 0)
            case atStart => exact ⟨rfl, rfl, rfl⟩
            case round =>
              obtain ⟨rfl, rfl, rfl⟩ := hrel
              go_wp2_with fail
              have hql : (q ++ sb).size = q.size + 1 := by rw [ByteArray.size_append, HSZ.out]
              have hqd : (q ++ sb).data.toList = q.data.toList ++ [t.b] := by rw [ByteArray.data_append, Array.toList_append, HSB.out]
              go_roundw
              case rel => exact ⟨rfl, rfl, k + 1, q ++ sb, by omega, by go_num, rfl, Lib.hid (by rw [hqd]; exact HEX.out), by rw [hql]; omega, by rw [hql]; omega, hT4⟩
              case measure => simp [intOf]; omega
          · have hgn : 3 ≤ t.n ∧ t.n ≤ 258 ∧ 1 ≤ t.d := by
              unfold goodB at hg
              rw [if_neg hn] at hg
              have := of_decide_eq_true hg
              omega
            obtain ⟨m, hm⟩ : ∃ m : Nat, t.n = m := ⟨t.n.toNat, by omega⟩
            obtain ⟨d, hdd⟩ : ∃ d : Nat, t.d = d := ⟨t.d.toNat, by omega⟩
            have htl : tellL t q.data.toList = copyL m d q.data.toList := by
              unfold tellL
              rw [if_neg hn, hm, hdd]
              rfl
            rw [htl] at HEX
            rw [hm] at c1
            rw [hdd] at c2
            rw [hm, hdd] at hgn
            rw [hdd] at hd
            rw [hm] at hn
            rw [hm, hdd]
            clear htl hm hdd hg hb3
            have em : ((m : Int) == 0) = false := beq_eq_false_iff_ne.2 hn
            have ed : decide (q.size < d) = false := decide_eq_false (by omega)
            have ed2 : decide ((q.size : Int) < (d : Int)) = false := decide_eq_false (by omega)
            rw [Nat.zero_add] at c1 c2 f1 f2
            go_wp2_with fail
            go_loopw [6, 9] (fun vs j wr => wr = w3 ∧ ∃ (p : Nat) (y : ByteArray), p ≤ m ∧ j = .int .i64 (p : Nat) ∧ vs = .string y ∧ RowKit.Hid (y.data.toList = copyL p d q.data.toList) ∧ y.size = q.size + p) (fun _ j _ => m - (intOf j).toNat)
            case atStart => exact ⟨rfl, 0, q, Nat.zero_le _, rfl, rfl, Lib.hid rfl, rfl⟩
            case round =>
              obtain ⟨rfl, p, y, hp, rfl, rfl, HY, hy⟩ := hrel
              have HYZ := Lib.hid hy
              have hyb : y.size ≤ 40000 := by omega
              by_cases hpm : p < m
              · obtain ⟨x, hx⟩ : ∃ x : Nat, y.size - d = x := ⟨_, rfl⟩
                have hx1 : (y.size : Int) - (d : Int) = (x : Nat) := by omega
                have hx2 : (x : Int) < (y.size : Int) := by omega
                have hx3 : (0 : Int) ≤ (x : Int) := by omega
                have hxl : x < y.size := by omega
                have hez := ext_size y x hxl
                have hel := ext_list y x hxl
                have HX2 := Lib.hid hx
                have HEL := Lib.hid hel
                have HEZ := Lib.hid hez
                have hez2 : (y.extract x (x + 1)).size ≤ 1 := by omega
                clear hy hx hel hez
                go_wp2_with fail
                have hyl := data_length y
                go_roundw
                case rel =>
                  refine ⟨trivial, p + 1, y ++ y.extract x (x + 1), by omega, by go_num, rfl, Lib.hid ?_, by rw [ByteArray.size_append, HEZ.out, HYZ.out]; omega⟩
                  rw [HEL.out, copyL_snoc, ← HY.out, hyl, HX2.out]
                case measure => simp [intOf]; omega
              · obtain rfl : p = m := by omega
                clear hy
                go_wp2_with fail
                go_roundw
                case rel => exact ⟨rfl, rfl, k + 1, y, by omega, by go_num, rfl, Lib.hid (by rw [HY.out]; exact HEX.out), by have := HYZ.out; omega, by have := HYZ.out; omega, hT3⟩
                case measure => simp [intOf]; omega
        · have hex2 : expandL s.data.toList l = none := by rw [HX.out, expandL, if_neg (fun h => hd (by have := h.2; rw [HLQ.out] at this; exact this))]
          have HEX := Lib.hid hex2
          have hd' : (q.size : Int) < t.d := by omega
          clear hex2 hd
          go_wp2_with fail
          go_ret2
          rw [HEX.out]
          exact ⟨rfl, hT3⟩
      · have hex2 : expandL s.data.toList l = none := by rw [HX.out, expandL, if_neg (fun h => hg h.1)]
        have hg' : goodB t = false := by simpa using hg
        have HEX := Lib.hid hex2
        rw [hg']
        clear hex2 hg hg'
        go_wp2_with fail
        go_ret2
        rw [HEX.out]
        exact ⟨rfl, hT3⟩
    · obtain rfl : k = l.length := by omega
      have hex := HEX0.out
      rw [List.drop_length] at hex
      have hex2 : expandL s.data.toList l = some q.data.toList := hex
      have HEX := Lib.hid hex2
      clear hex hex2 hlq
      go_wp2_with fail
      go_ret2
      rw [HEX.out, ext_end]
      exact ⟨rfl, hT⟩
end Go.Proofs.YtbbhilmkipghiaaDoor
/- The walk of layer 5's statement on any tokens behind any bytes. -/
namespace Go.Proofs.YtbbhilmkipghiaaDoor
open Go Go.RowKit
set_option maxRecDepth 100000

def tokV (t : Tok) : List Value := [.int .u8 (t.b.toNat : Nat), .int .i64 t.n, .int .i64 t.d]
def toksV (l : List Tok) : List Value := l.flatMap tokV
theorem toksV_length (l : List Tok) : (toksV l).length = l.length * 3 := by
  induction l with
  | nil => rfl
  | cons x l ih =>
    have : toksV (x :: l) = tokV x ++ toksV l := by simp [toksV]
    rw [this, List.length_append, ih, List.length_cons]
    simp [tokV]
    omega
theorem toksV_append (a b : List Tok) : toksV (a ++ b) = toksV a ++ toksV b := by simp [toksV]
theorem toksV_get (l : List Tok) (j : Nat) (x : Tok) (h : l[j]? = some x) : (toksV l)[j * 3]? = some (.int .u8 (x.b.toNat : Nat)) ∧ (toksV l)[j * 3 + 1]? = some (.int .i64 x.n) ∧ (toksV l)[j * 3 + 2]? = some (.int .i64 x.d) := by
  induction l generalizing j with
  | nil => simp at h
  | cons y l ih =>
    have e : toksV (y :: l) = .int .u8 (y.b.toNat : Nat) :: .int .i64 y.n :: .int .i64 y.d :: toksV l := by simp [toksV, tokV]
    rw [e]
    cases j with
    | zero => simp at h; subst h; simp
    | succ j =>
      simp at h
      have := ih j h
      rw [show (j + 1) * 3 = j * 3 + 1 + 1 + 1 by omega]
      simpa using this
theorem Toks.of_own {w : World} {base : Nat} {e : TypeId} {v : Value} {n : Nat} {xs : List Tok} (h : w.ownsRow base e 3 v n (toksV xs)) : Toks w v xs := by
  have hl : xs.length = n := by have := h.1; rw [toksV_length] at this; omega
  subst hl
  rcases h.2 with ⟨rfl, h0⟩ | ⟨g, cap, cur, rfl, _, hh, h1, h2, h3, h4⟩
  · obtain rfl : xs = [] := List.eq_nil_of_length_eq_zero h0
    exact ⟨none, 0, rfl, Nat.le_refl _, Nat.zero_le _, .inl rfl⟩
  · refine ⟨_, cap, rfl, h1, h2, .inr ⟨g, 0, rfl, fun j x hx => ?_⟩⟩
    have hj : j < xs.length := (List.getElem?_eq_some_iff.1 hx).1
    have hg := toksV_get xs j x hx
    rw [← h4] at hg
    rw [List.getElem?_take, if_pos (by omega), List.getElem?_take, if_pos (by omega), List.getElem?_take, if_pos (by omega), Array.getElem?_toList, Array.getElem?_toList, Array.getElem?_toList] at hg
    rw [cell_of_row w g _ cur e (0, 0) hh, cell_of_row w g _ cur e (0, 0) hh, cell_of_row w g _ cur e (0, 0) hh]
    simpa using hg
theorem own_lt {w : World} {base : Nat} {e : TypeId} {k : Nat} {v : Value} {n : Nat} {xs : List Value} (h : w.ownsRow base e k v n xs) : ∀ g, v.ownBlock = some g → g < w.heap.size := by
  intro g hg
  rcases h.2 with ⟨rfl, _⟩ | ⟨g', cap, cur, rfl, _, hh, _⟩
  · cases hg
  · have h2 : g' = g := Option.some.inj hg
    rw [← h2]
    exact (Array.getElem?_eq_some_iff.1 hh).1
theorem new_at {w : World} {b : Nat} {t : TypeId} {x : Tok} (h : w.heap[b]? = some (.cells (tokA x) t)) : ∀ j u, (tokV x)[j]? = some u → w.cell? ((⟨b, 0, none⟩ : Addr).add j) = some u := by
  intro j u hu
  obtain ⟨c0, c1, c2, _, _, _⟩ := box_cells h
  match j, hu with
  | 0, hu => simp [tokV] at hu; subst hu; exact c0
  | 1, hu => simp [tokV] at hu; subst hu; exact c1
  | 2, hu => simp [tokV] at hu; subst hu; exact c2
  | j + 3, hu => simp [tokV] at hu

section
variable {P : Program} {w : World}
theorem wp_append_own {o : Oper} {a : Act} {K : Act → World → Prop} {Q : Exit → Act → World → Prop} (s x : Operand) (t : TypeId)
    (ho : o.op = .call { callee := .builtin .append, args := #[s, x], argTypes := #[t, t] })
    (base : Nat) (e : TypeId) (i : TypeInfo) (z : Value) (size bytes : Nat) (ht : P.underlying t = some (.slice e)) (hi : P.info? e = some i) (hz : i.zero = some z)
    (hsize : i.size = size) (hby : i.bytes = bytes) (hzs : z.cells.size = size) (hsz : 0 < size)
    (v : Value) (n : Nat) (xs : List Value) (hs : a.eval s = v) (hown : w.ownsRow base e size v n xs)
    (ad : Addr) (m c : Nat) (news : List Value) (hx : a.eval x = .slice (some ad) m c) (hl : news.length = m * size) (hnews : ∀ j u, news[j]? = some u → w.cell? (ad.add j) = some u) (h1 : ∀ u ∈ news, u.oneCell' = true)
    (h63 : n + m ≤ maxLen) (hbytes : (n + m) * bytes ≤ 140737488355328) (hbase : base ≤ w.heap.size)
    (h : ∀ v' w', w'.ownsRow base e size v' (n + m) (xs ++ news) → w.grownBy w' v.ownBlock → (v'.ownBlock = v.ownBlock ∨ v'.ownBlock = some w.heap.size) → K (a.put o.dst v') w') : o.wp P a w K Q := by
  obtain ⟨v', w', hr, h2, h3, h4, h5⟩ := run_append_own_at (P := P) w base t o.type e i z size bytes ht hi hz hsize hby hzs hsz v n xs hown ad m c news hl hnews h1 h63 hbytes hbase
  unfold Oper.wp execOp
  simp only [ho, resolve, invoke, builtin, Sem.run_bind, Sem.run_pure, Result.andThen_ok, List.map_toArray, List.map_cons, List.map_nil, hs, hx, hr]
  exact h v' w' h2 h3 h5
theorem step_append_own {ops : Array Oper} {o : Oper} {a : Act} {K : Act → World → Prop} {Q : Exit → Act → World → Prop} {E : Prop} (hgd : o.guard = none) (s x : Operand) (t : TypeId)
    (ho : o.op = .call { callee := .builtin .append, args := #[s, x], argTypes := #[t, t] })
    (base : Nat) (e : TypeId) (i : TypeInfo) (z : Value) (size bytes : Nat) (ht : P.underlying t = some (.slice e)) (hi : P.info? e = some i) (hz : i.zero = some z)
    (hsize : i.size = size) (hby : i.bytes = bytes) (hzs : z.cells.size = size) (hsz : 0 < size)
    (v : Value) (n : Nat) (xs : List Value) (hs : a.eval s = v) (hown : w.ownsRow base e size v n xs)
    (ad : Addr) (m c : Nat) (news : List Value) (hx : a.eval x = .slice (some ad) m c) (hl : news.length = m * size) (hnews : ∀ j u, news[j]? = some u → w.cell? (ad.add j) = some u) (h1 : ∀ u ∈ news, u.oneCell' = true)
    (h63 : n + m ≤ maxLen) (hbytes : (n + m) * bytes ≤ 140737488355328) (hbase : base ≤ w.heap.size)
    (h : ∀ v' w', w'.ownsRow base e size v' (n + m) (xs ++ news) → w.grownBy w' v.ownBlock → (v'.ownBlock = v.ownBlock ∨ v'.ownBlock = some w.heap.size) → K (a.put o.dst v') w') :
    if Region.wanted o (yielded ops a.tmps) = true then Oper.wp P o a w K Q else E := by
  have hw : Region.wanted o (yielded ops a.tmps) = true := by simp [Region.wanted, hgd]
  rw [if_pos hw]
  exact wp_append_own s x t ho base e i z size bytes ht hi hz hsize hby hzs hsz v n xs hs hown ad m c news hx hl hnews h1 h63 hbytes hbase h
end

theorem Tryd.infoS : (Tryd.prog.info? 31).map (fun i => (i.zero, i.size, i.bytes)) = some (some (.agg #[.int .u8 0, .int .i64 0, .int .i64 0]), 3, 24) := by kernel_rfl

end Go.Proofs.YtbbhilmkipghiaaDoor

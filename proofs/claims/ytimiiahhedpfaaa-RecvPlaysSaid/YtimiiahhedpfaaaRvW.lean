/- The reference of layer 25, sixth part: Step where there is a next text. -/
import Derived.Test.YtimiiahhedpfaaaRvV
import Derived.Test.YtimiiahhedpfaaaRegInv4
import Derived.Test.YtimiiahhedpfaaaAppI
namespace Go.Proofs.Ytimiiahhedpfaaa
open Go Go.RowKit Go.Maps Go.MapKept Go.ChangeMaps
set_option maxRecDepth 100000

/-- What each operation of the region leaves. -/
def stI (x rb N : Nat) (nx nx2 : Int) (tv bv tv1 bv1 : Value) (T U : List Value) (t : ByteArray) (i : Nat) (v : Value) (W : World) : Prop := match i with
  | 0 => v = .pointer (some ⟨x, 0, none⟩)
  | 1 => v = .int .u32 nx
  | 2 => v = .int .u32 nx2
  | 3 => Pin W N 9 [] v
  | 4 => v = .pointer (some ⟨x, 1, none⟩)
  | 5 => v = tv
  | 6 => v = tv1
  | 7 => Pin W N 9 T v
  | 8 => One W N 9 (.string ⟨#[]⟩) v
  | 9 => Pin W N 9 (T ++ [.string ⟨#[]⟩]) v
  | 10 => Pin W N 4 [] v
  | 11 => v = .pointer (some ⟨x, 2, none⟩)
  | 12 => v = bv
  | 13 => v = bv1
  | 14 => Pin W N 4 U v
  | 15 => One W N 4 (.bool false) v
  | 16 => Pin W N 4 (U ++ [.bool false]) v
  | 17 => ∃ v3 v4, v = .agg #[.int .u32 nx2, v3, v4] ∧ Pin W N 9 (T ++ [.string ⟨#[]⟩]) v3 ∧ Pin W N 4 (U ++ [.bool false]) v4
  | 18 => v = .string t
  | 19 => ∃ v3 v4, MBox W rb nx2 v3 v4 ∧ Pin W N 9 (T ++ [.string ⟨#[]⟩]) v3 ∧ Pin W N 4 (U ++ [.bool false]) v4
  | 20 => v = .string t
  | _ => v = .bool true
theorem r4_step {P : Program} {o : Oper} {a : Act} {w w' : World} {K : Act → World → Prop} {Q : Exit → Act → World → Prop} {v : Value} (h : (execOp a.eval o).run P w = .ok (.value v) w') (hk : K (a.put o.dst v) w') : o.wp P a w K Q := by
  unfold Oper.wp
  rw [h]
  exact hk
/-- A class of worlds. -/
def stC (w1 : World) (N rb : Nat) (W : World) : Prop := Touch (fun k => N ≤ k ∨ k = rb) w1 W ∧ ∃ (u0 : Int) (u1 u2 : Value), MBox W rb u0 u1 u2

theorem stI_keep {x rb N : Nat} {nx nx2 : Int} {tv bv tv1 bv1 : Value} {T U : List Value} {t : ByteArray} {W W' : World} (p1 : ∀ v, Pin W N 9 [] v → Pin W' N 9 [] v) (p2 : ∀ v, Pin W N 9 T v → Pin W' N 9 T v) (p3 : ∀ v, Pin W N 9 (T ++ [.string ⟨#[]⟩]) v → Pin W' N 9 (T ++ [.string ⟨#[]⟩]) v) (p4 : ∀ v, One W N 9 (.string ⟨#[]⟩) v → One W' N 9 (.string ⟨#[]⟩) v)
    (q1 : ∀ v, Pin W N 4 [] v → Pin W' N 4 [] v) (q2 : ∀ v, Pin W N 4 U v → Pin W' N 4 U v) (q3 : ∀ v, Pin W N 4 (U ++ [.bool false]) v → Pin W' N 4 (U ++ [.bool false]) v) (q4 : ∀ v, One W N 4 (.bool false) v → One W' N 4 (.bool false) v)
    (r : (∃ v3 v4, MBox W rb nx2 v3 v4 ∧ Pin W N 9 (T ++ [.string ⟨#[]⟩]) v3 ∧ Pin W N 4 (U ++ [.bool false]) v4) → ∃ v3 v4, MBox W' rb nx2 v3 v4 ∧ Pin W' N 9 (T ++ [.string ⟨#[]⟩]) v3 ∧ Pin W' N 4 (U ++ [.bool false]) v4) :
    ∀ j u, stI x rb N nx nx2 tv bv tv1 bv1 T U t j u W → stI x rb N nx nx2 tv bv tv1 bv1 T U t j u W' := by
  intro j u h
  match j, h with
  | 0, h => exact h
  | 1, h => exact h
  | 2, h => exact h
  | 3, h => exact p1 u h
  | 4, h => exact h
  | 5, h => exact h
  | 6, h => exact h
  | 7, h => exact p2 u h
  | 8, h => exact p4 u h
  | 9, h => exact p3 u h
  | 10, h => exact q1 u h
  | 11, h => exact h
  | 12, h => exact h
  | 13, h => exact h
  | 14, h => exact q2 u h
  | 15, h => exact q4 u h
  | 16, h => exact q3 u h
  | 17, h => obtain ⟨v3, v4, e, h1, h2⟩ := h; exact ⟨v3, v4, e, p3 _ h1, q3 _ h2⟩
  | 18, h => exact h
  | 19, h => exact r h
  | 20, h => exact h
  | n + 21, h => exact h
theorem stI_still {x rb N : Nat} {nx nx2 : Int} {tv bv tv1 bv1 : Value} {T U : List Value} {t : ByteArray} {W W' : World} (ht : Touch (fun _ => False) W W') :
    ∀ j u, stI x rb N nx nx2 tv bv tv1 bv1 T U t j u W → stI x rb N nx nx2 tv bv tv1 bv1 T U t j u W' :=
  stI_keep (fun _ h => h.kept ht (fun _ e => e.elim)) (fun _ h => h.kept ht (fun _ e => e.elim)) (fun _ h => h.kept ht (fun _ e => e.elim)) (fun _ h => h.kept ht (fun _ e => e.elim)) (fun _ h => h.kept ht (fun _ e => e.elim)) (fun _ h => h.kept ht (fun _ e => e.elim)) (fun _ h => h.kept ht (fun _ e => e.elim)) (fun _ h => h.kept ht (fun _ e => e.elim))
    (fun ⟨v3, v4, h1, h2, h3⟩ => ⟨v3, v4, h1.kept ht id, h2.kept ht (fun _ e => e.elim), h3.kept ht (fun _ e => e.elim)⟩)
theorem stC.still {w1 W W' : World} {N rb : Nat} (h : stC w1 N rb W) (ht : Touch (fun _ => False) W W') : stC w1 N rb W' := by
  obtain ⟨h1, u0, u1, u2, h2⟩ := h
  exact ⟨h1.trans (ht.mono (fun _ e => e.elim)), u0, u1, u2, h2.kept ht id⟩
theorem pin_other {W W' : World} {N : Nat} {T' : TypeId} {l : List Value} {v : Value} (h : Pin W N T' l v) (hk : ∀ (k : Nat) (cs : Array Value), W.heap[k]? = some (.cells cs T' (0, 0)) → W'.heap[k]? = some (.cells cs T' (0, 0))) : Pin W' N T' l v := by
  obtain ⟨g, c, cur, h1, h2, h3⟩ := h
  exact ⟨g, c, cur, h1, hk _ _ h2, h3⟩
theorem one_other {W W' : World} {N : Nat} {T' : TypeId} {u v : Value} (h : One W N T' u v) (hk : ∀ (k : Nat) (cs : Array Value), W.heap[k]? = some (.cells cs T' (0, 0)) → W'.heap[k]? = some (.cells cs T' (0, 0))) : One W' N T' u v := by
  obtain ⟨g, h1, h2, h3⟩ := h
  exact ⟨g, h1, hk _ _ h2, h3⟩

theorem tR_next (A : Nat → Option ByteArray) (b sz : Nat) (h1 : 1 ≤ sz) (hA : A (b + sz) = none) : (tR A b sz).drop 1 ++ [.string ⟨#[]⟩] = tR (offT A b) (b + 1) sz := by
  apply List.ext_getElem?
  intro i
  by_cases hi : i < sz - 1
  · rw [List.getElem?_append_left (by rw [List.length_drop, tR_len]; omega), List.getElem?_drop, tR_get (by omega), tR_get (by omega)]
    unfold offT
    rw [if_neg (by omega), show b + (1 + i) = b + 1 + i by omega]
  · by_cases he : i = sz - 1
    · subst he
      rw [List.getElem?_append_right (by rw [List.length_drop, tR_len]; omega), List.length_drop, tR_len, Nat.sub_self, tR_get (by omega)]
      unfold offT
      rw [if_neg (by omega), show b + 1 + (sz - 1) = b + sz by omega, hA]
      rfl
    · rw [List.getElem?_eq_none (by simp [tR_len]; omega), List.getElem?_eq_none (by rw [tR_len]; omega)]
theorem bR_next (A : Nat → Option ByteArray) (b sz : Nat) (h1 : 1 ≤ sz) (hA : A (b + sz) = none) : (bR A b sz).drop 1 ++ [.bool false] = bR (offT A b) (b + 1) sz := by
  apply List.ext_getElem?
  intro i
  by_cases hi : i < sz - 1
  · rw [List.getElem?_append_left (by rw [List.length_drop, bR_len]; omega), List.getElem?_drop, bR_get (by omega), bR_get (by omega)]
    unfold offT
    rw [if_neg (by omega), show b + (1 + i) = b + 1 + i by omega]
  · by_cases he : i = sz - 1
    · subst he
      rw [List.getElem?_append_right (by rw [List.length_drop, bR_len]; omega), List.length_drop, bR_len, Nat.sub_self, bR_get (by omega)]
      unfold offT
      rw [if_neg (by omega), show b + 1 + (sz - 1) = b + sz by omega, hA]
      rfl
    · rw [List.getElem?_eq_none (by simp [bR_len]; omega), List.getElem?_eq_none (by rw [bR_len]; omega)]
theorem drop_reads {W : World} {g off n k : Nat} {xs T : List Value} (hl : xs.length = n) (h1 : 1 ≤ n) (hk : n ≤ k) (hk2 : k ≤ maxLen) (hT : T = xs.drop 1) (hc : ∀ j u, xs[j]? = some u → W.cell? ⟨g, off + j, none⟩ = some u) :
    Reads W (.slice (if k = 1 then some ⟨g, off, none⟩ else some ⟨g, off + 1, none⟩) (n - 1) (k - 1)) T := by
  have hTl : T.length = n - 1 := by rw [hT, List.length_drop, hl]
  refine ⟨_, k - 1, by rw [hTl], by omega, by omega, ?_⟩
  by_cases e : k = 1
  · exact .inl (List.eq_nil_of_length_eq_zero (by omega))
  · refine .inr ⟨g, off + 1, by rw [if_neg e], fun j u hu => ?_⟩
    have := hc (1 + j) u (by rw [hT, List.getElem?_drop] at hu; exact hu)
    rw [show off + 1 + j = off + (1 + j) by omega]
    exact this
theorem r4_app {P : Program} {o : Oper} {a : Act} {w w' : World} {v : Value} (s x : Operand) (t tx : TypeId) (ho : o.op = .call { callee := .builtin .append, args := #[s, x], argTypes := #[t, tx] })
    (h : (Builtin.append_ #[t, tx] o.type #[a.eval s, a.eval x]).run P w = .ok v w') : (execOp a.eval o).run P w = .ok (.value v) w' := by
  have heq : execOp a.eval o = (Builtin.append_ #[t, tx] o.type #[a.eval s, a.eval x]).bind (fun v => Sem.pure (Next.value v)) := by
    unfold execOp
    simp only [ho, resolve, invoke, builtin, List.map_toArray, List.map_cons, List.map_nil]
    rfl
  rw [heq, Sem.run_bind' P _ _ w, h]
  rfl
theorem r4_skip {P : Program} {o : Oper} {a : Act} {w w' : World} {K : Act → World → Prop} {Q : Exit → Act → World → Prop} (h : (execOp a.eval o).run P w = .ok .skip w') (hk : K (a.put o.dst undef) w') : o.wp P a w K Q := by
  unfold Oper.wp
  rw [h]
  exact hk
set_option maxHeartbeats 8000000 in
theorem rrstep_some (nx nx2 : Int) (b sz : Nat) (tv bv : Value) (A : Nat → Option ByteArray) (t : ByteArray) (w : World) (ht : Reads w tv (tR A b sz)) (ha : Reads w bv (bR A b sz)) (hz1 : 1 ≤ sz) (hz2 : sz ≤ 32) (hno : A b = some t) (hnx : (nx + 1) % 4294967296 = nx2)
    (hA : A (b + sz) = none) :
    Calls Try.prog 15 #[.agg #[.int .u32 nx, tv, bv]] w fun e w' =>
      ∃ v3 v4, e = .returned (.tuple #[.agg #[.int .u32 nx2, v3, v4], .string t, .bool true]) ∧ Reads w' v3 (tR (offT A b) (b + 1) sz) ∧ Reads w' v4 (bR (offT A b) (b + 1) sz) ∧ NewR w v3 ∧ NewR w v4 ∧ Touch (fun _ => False) w w' := by
  obtain ⟨a2, k2, rfl, hk1, hk2⟩ := ha.form
  obtain ⟨a1, k1, rfl, hj1, hj2⟩ := ht.form
  unfold maxLen at hk2 hj2
  rw [bR_len] at hk1 ha ⊢
  rw [tR_len] at hj1 ht ⊢
  have HA := Lib.hid ha
  have HTX := Lib.hid ht
  have HNO := Lib.hid hno
  have HAE := Lib.hid hA
  have HNX := Lib.hid hnx
  clear ha ht hno hA hnx
  go_enter Try.func15, Try.ntmps15
  go_upto_region 1 with fail
  obtain ⟨x, hx⟩ : ∃ x, x = w.heap.size := ⟨_, rfl⟩
  obtain ⟨rb, hrb⟩ : ∃ x, x = w.heap.size + 1 := ⟨_, rfl⟩
  rw [← hrb, ← hx]
  generalize hw1 : World.alloc (w.alloc _) _ = w1
  have hM1 : MBox w1 x nx (.slice a1 sz k1) (.slice a2 sz k2) := by
    rw [← hw1, hx]
    exact MBox.kept (S := fun _ => False) (Block.new w _ _) ((Touch.refl _ _).alloc _) id
  have hR1 : MBox w1 rb 0 (.slice none 0 0) (.slice none 0 0) := by
    rw [← hw1, hrb, ← alloc_size w]
    exact Block.new _ _ _
  have hT1 : Touch (fun _ => False) w w1 := by rw [← hw1]; exact ((Touch.refl _ w).alloc _).alloc _
  have hlt1 : x < w1.heap.size ∧ rb < w1.heap.size ∧ x ≠ rb ∧ w.heap.size ≤ x ∧ w.heap.size ≤ rb := ⟨Block.lt hM1, Block.lt hR1, by omega, by omega, by omega⟩
  obtain ⟨gb, off, k9, hv, _, _, hg, hcell⟩ := (HA.out.still hT1).addr (by rw [bR_len]; omega)
  have hgb0 : gb < w.heap.size := by
    obtain ⟨g', o', k', hv', _, _, _, hc'⟩ := HA.out.addr (by rw [bR_len]; omega)
    rw [hv] at hv'
    injection hv' with e1 _ _
    injection e1 with e1
    injection e1 with e1 _
    subst e1
    exact cell_lt5 (hc' 0 _ (bR_get (by omega)))
  rw [bR_len] at hv
  injection hv with e1 _ e3
  subst e1
  subst e3
  have hx0 := hcell 0 _ (bR_get (by omega))
  simp only [Nat.add_zero] at hx0
  rw [HNO.out] at hx0
  replace hx0 : w1.cell? ⟨gb, off, none⟩ = some (.bool true) := hx0
  obtain ⟨gt, oft, k8, hv, _, _, hg2, hcell2⟩ := (HTX.out.still hT1).addr (by rw [tR_len]; omega)
  have hgt0 : gt < w.heap.size := by
    obtain ⟨g', o', k', hv', _, _, _, hc'⟩ := HTX.out.addr (by rw [tR_len]; omega)
    rw [hv] at hv'
    injection hv' with e1 _ _
    injection e1 with e1
    injection e1 with e1 _
    subst e1
    exact cell_lt5 (hc' 0 _ (tR_get (by omega)))
  rw [tR_len] at hv
  injection hv with e1 _ e3
  subst e1
  subst e3
  have hx1 := hcell2 0 _ (tR_get (by omega))
  simp only [Nat.add_zero] at hx1
  rw [HNO.out] at hx1
  replace hx1 : w1.cell? ⟨gt, oft, none⟩ = some (.string t) := hx1
  obtain ⟨c0, c1, c2⟩ := hM1.cells
  have hold : x < w1.heap.size ∧ rb < w1.heap.size ∧ x ≠ rb ∧ w.heap.size ≤ x ∧ w.heap.size ≤ rb := hlt1
  have HM1 := Lib.hid hM1
  have HR1 := Lib.hid hR1
  have HT1 := Lib.hid hT1
  have HLT := Lib.hid hold
  have HCB := Lib.hid (⟨hg, hcell⟩ : _ ∧ _)
  have HCT := Lib.hid (⟨hg2, hcell2⟩ : _ ∧ _)
  have HNE : Hid (gb < w.heap.size ∧ gt < w.heap.size) := Lib.hid ⟨hgb0, hgt0⟩
  clear hgb0 hgt0
  clear hw1 hx hrb hM1 hR1 hT1 hlt1 hold hcell hcell2 hg hg2
  go_upto_region 4 with fail
  obtain ⟨T, hT⟩ : ∃ T, T = (tR A b sz).drop 1 := ⟨_, rfl⟩
  obtain ⟨U, hU⟩ : ∃ U, U = (bR A b sz).drop 1 := ⟨_, rfl⟩
  have HTU := Lib.hid (⟨hT, hU⟩ : _ ∧ _)
  clear hT hU hx0 hx1 c0 c1 c2
  have hz1I : (1 : Int) ≤ (sz : Int) := by omega
  have HRT : Hid (∀ W, Touch (fun k => w1.heap.size ≤ k ∨ k = rb) w1 W → Reads W (.slice (if k1 = 1 then some ⟨gt, oft, none⟩ else some ⟨gt, oft + 1, none⟩) (sz - 1) (k1 - 1)) T) := Lib.hid (fun W hW => drop_reads (tR_len A b sz) (by omega) (by omega) (by unfold maxLen; omega) HTU.out.1 (fun j u hu => hW.cell (HCT.out.2 j u hu) (by show ¬ (w1.heap.size ≤ gt ∨ gt = rb); have := HCT.out.1; have := HLT.out; have := HNE.out; omega)))
  have HRB : Hid (∀ W, Touch (fun k => w1.heap.size ≤ k ∨ k = rb) w1 W → Reads W (.slice (if k2 = 1 then some ⟨gb, off, none⟩ else some ⟨gb, off + 1, none⟩) (sz - 1) (k2 - 1)) U) := Lib.hid (fun W hW => drop_reads (bR_len A b sz) (by omega) (by omega) (by unfold maxLen; omega) HTU.out.2 (fun j u hu => hW.cell (HCB.out.2 j u hu) (by show ¬ (w1.heap.size ≤ gb ∨ gb = rb); have := HCB.out.1; have := HLT.out; have := HNE.out; omega)))
  have HT1T : Hid (∀ u ∈ T, u.oneCell' = true) := Lib.hid (fun u hu => tR_one A b sz u (by rw [HTU.out.1] at hu; exact List.mem_of_mem_drop hu))
  have HT1U : Hid (∀ u ∈ U, u.oneCell' = true) := Lib.hid (fun u hu => bR_one A b sz u (by rw [HTU.out.2] at hu; exact List.mem_of_mem_drop hu))
  have HTL : Hid (T.length = sz - 1) := Lib.hid (by rw [HTU.out.1, List.length_drop, tR_len])
  have HUL : Hid (U.length = sz - 1) := Lib.hid (by rw [HTU.out.2, List.length_drop, bR_len])
  obtain ⟨i0, hi0, hz0, hz1', hz2'⟩ := info_parts Try.infoR5s
  obtain ⟨j0, hj0, hy0, hy1, hy2⟩ := info_parts Try.infoR5b
  refine wp_region_inv4 (fun _ W => stC w1 w1.heap.size rb W) (stI x rb w1.heap.size nx nx2 (.slice (some ⟨gt, oft, none⟩) sz k1) (.slice (some ⟨gb, off, none⟩) sz k2) (.slice (if k1 = 1 then some ⟨gt, oft, none⟩ else some ⟨gt, oft + 1, none⟩) (sz - 1) (k1 - 1)) (.slice (if k2 = 1 then some ⟨gb, off, none⟩ else some ⟨gb, off + 1, none⟩) (sz - 1) (k2 - 1)) T U t) (by kernel_rfl) (by kernel_rfl) (by kernel_rfl) ⟨(Touch.refl _ _).drew, _, _, _, HR1.out.kept (Touch.refl (fun _ => False) _).drew id⟩ ?_ ?_
  · intro i o hi ls a W hun hcl hdl hC hbase hdone
    have hlt := op_lt hi
    obtain ⟨hbd, hbs, hbb⟩ := hbase
    have b1 : a.tmps[1]?.getD undef = .pointer (some ⟨x, 0, none⟩) := by rw [(hbb 1 (noDst_spec (by kernel_rfl)))]; rfl
    have b2 : a.tmps[2]?.getD undef = .pointer (some ⟨rb, 0, none⟩) := by rw [(hbb 2 (noDst_spec (by kernel_rfl)))]; rfl
    have b5 : a.tmps[5]?.getD undef = .string t := by rw [(hbb 5 (noDst_spec (by kernel_rfl)))]; rfl
    obtain ⟨m0, m1, m2⟩ := (HM1.out.kept hC.1 (fun e => by have := HLT.out; omega)).cells
    have hNW : w1.heap.size ≤ W.heap.size := hC.1.size
    rcases (by simp at hlt; omega : i = 0 ∨ i = 1 ∨ i = 2 ∨ i = 3 ∨ i = 4 ∨ i = 5 ∨ i = 6 ∨ i = 7 ∨ i = 8 ∨ i = 9 ∨ i = 10 ∨ i = 11 ∨ i = 12 ∨ i = 13 ∨ i = 14 ∨ i = 15 ∨ i = 16 ∨ i = 17 ∨ i = 18 ∨ i = 19 ∨ i = 20 ∨ i = 21) with rfl | rfl | rfl | rfl | rfl | rfl | rfl | rfl | rfl | rfl | rfl | rfl | rfl | rfl | rfl | rfl | rfl | rfl | rfl | rfl | rfl | rfl
    · simp only [List.getElem?_toArray, List.getElem?_cons_zero, List.getElem?_cons_succ, Option.some.injEq] at hi
      subst hi
      refine ⟨rfl, ?_⟩
      refine r4_val (v := .pointer (some ⟨x, 0, none⟩)) ?_ ⟨_, rfl, rfl, hC, fun _ _ h => h⟩
      simp [execOp, Act.eval, b1]
      try go_simp
    · simp only [List.getElem?_toArray, List.getElem?_cons_zero, List.getElem?_cons_succ, Option.some.injEq] at hi
      subst hi
      have t16 : a.tmps[16]?.getD undef = .pointer (some ⟨x, 0, none⟩) := by simpa [valOf, stI] using hdone 0 _ rfl (r4_edge 0 (by kernel_rfl) hdl)
      refine ⟨rfl, ?_⟩
      refine r4_val (v := .int .u32 nx) ?_ ⟨_, rfl, rfl, hC, fun _ _ h => h⟩
      simp [execOp, Act.eval, t16]
      try go_simp
    · simp only [List.getElem?_toArray, List.getElem?_cons_zero, List.getElem?_cons_succ, Option.some.injEq] at hi
      subst hi
      have t17 : a.tmps[17]?.getD undef = .int .u32 nx := by simpa [valOf, stI] using hdone 1 _ rfl (r4_edge 1 (by kernel_rfl) hdl)
      refine ⟨rfl, ?_⟩
      refine r4_val (v := .int .u32 nx2) ?_ ⟨_, rfl, rfl, hC, fun _ _ h => h⟩
      simp [execOp, Act.eval, t17]
      try go_simp
      try exact HNX.out
    · simp only [List.getElem?_toArray, List.getElem?_cons_zero, List.getElem?_cons_succ, Option.some.injEq] at hi
      subst hi
      refine ⟨rfl, ?_⟩
      refine r4_step (v := .slice (some ⟨W.heap.size, 0, none⟩) 0 0) (w' := W.alloc (.cells #[] 9)) ?_ ⟨_, rfl, Pin.made W 9 hNW, hC.still ((Touch.refl _ W).alloc _), stI_still ((Touch.refl _ W).alloc _)⟩
      simp [execOp, Act.eval]
      try go_simp
    · simp only [List.getElem?_toArray, List.getElem?_cons_zero, List.getElem?_cons_succ, Option.some.injEq] at hi
      subst hi
      refine ⟨rfl, ?_⟩
      refine r4_val (v := .pointer (some ⟨x, 1, none⟩)) ?_ ⟨_, rfl, rfl, hC, fun _ _ h => h⟩
      simp [execOp, Act.eval, b1]
      try go_simp
    · simp only [List.getElem?_toArray, List.getElem?_cons_zero, List.getElem?_cons_succ, Option.some.injEq] at hi
      subst hi
      have t20 : a.tmps[20]?.getD undef = .pointer (some ⟨x, 1, none⟩) := by simpa [valOf, stI] using hdone 4 _ rfl (r4_edge 4 (by kernel_rfl) hdl)
      refine ⟨rfl, ?_⟩
      refine r4_val (v := .slice (some ⟨gt, oft, none⟩) sz k1) ?_ ⟨_, rfl, rfl, hC, fun _ _ h => h⟩
      simp [execOp, Act.eval, t20]
      try go_simp
    · simp only [List.getElem?_toArray, List.getElem?_cons_zero, List.getElem?_cons_succ, Option.some.injEq] at hi
      subst hi
      have t21 : a.tmps[21]?.getD undef = .slice (some ⟨gt, oft, none⟩) sz k1 := by simpa [valOf, stI] using hdone 5 _ rfl (r4_edge 5 (by kernel_rfl) hdl)
      refine ⟨rfl, ?_⟩
      refine r4_val (v := .slice (if k1 = 1 then some ⟨gt, oft, none⟩ else some ⟨gt, oft + 1, none⟩) (sz - 1) (k1 - 1)) ?_ ⟨_, rfl, rfl, hC, fun _ _ h => h⟩
      simp [execOp, Act.eval, t21, hz1I]
      try go_simp
    · simp only [List.getElem?_toArray, List.getElem?_cons_zero, List.getElem?_cons_succ, Option.some.injEq] at hi
      subst hi
      have t19 : Pin W w1.heap.size 9 [] (a.tmps[19]?.getD undef) := by simpa [valOf, stI] using hdone 3 _ rfl (r4_edge 3 (by kernel_rfl) hdl)
      have t22 : a.tmps[22]?.getD undef = .slice (if k1 = 1 then some ⟨gt, oft, none⟩ else some ⟨gt, oft + 1, none⟩) (sz - 1) (k1 - 1) := by simpa [valOf, stI] using hdone 6 _ rfl (r4_edge 6 (by kernel_rfl) hdl)
      obtain ⟨v', W', hr, hp, hT⟩ := app_empty (P := Try.prog) 29 Try.underlying29 hi0 hz0 hz1' (by omega) (by rfl) t19 (Reads.src (HRT.out W hC.1) Try.underlying29 HT1T.out) (by rw [HTL.out]; omega) hNW
      refine ⟨rfl, ?_⟩
      refine r4_step (v := v') (w' := W') (r4_app (.tmp 19) (.tmp 22) _ _ rfl ?_) ⟨_, rfl, hp, hC.still hT, stI_still hT⟩
      simpa [Act.eval, t22] using hr
    · simp only [List.getElem?_toArray, List.getElem?_cons_zero, List.getElem?_cons_succ, Option.some.injEq] at hi
      subst hi
      refine ⟨rfl, ?_⟩
      refine r4_step (v := .slice (some ⟨W.heap.size, 0, none⟩) 1 1) (w' := W.alloc (.cells #[.string ⟨#[]⟩] 9)) ?_ ⟨_, rfl, One.made W 9 _ hNW, hC.still ((Touch.refl _ W).alloc _), stI_still ((Touch.refl _ W).alloc _)⟩
      simp [execOp, Act.eval]
      try go_simp
    · simp only [List.getElem?_toArray, List.getElem?_cons_zero, List.getElem?_cons_succ, Option.some.injEq] at hi
      subst hi
      have t23 : Pin W w1.heap.size 9 T (a.tmps[23]?.getD undef) := by simpa [valOf, stI] using hdone 7 _ rfl (r4_edge 7 (by kernel_rfl) hdl)
      have t24 : One W w1.heap.size 9 (.string ⟨#[]⟩) (a.tmps[24]?.getD undef) := by simpa [valOf, stI] using hdone 8 _ rfl (r4_edge 8 (by kernel_rfl) hdl)
      obtain ⟨v', W', hr, hp, hk⟩ := app_one (P := Try.prog) 29 Try.underlying29 hi0 hz0 hz1' (by omega) (by rfl) t23 t24 rfl (by rw [HTL.out]; omega) hNW
      refine ⟨rfl, ?_⟩
      refine r4_step (v := v') (w' := W') (r4_app (.tmp 23) (.tmp 24) _ _ rfl (by simpa [Act.eval] using hr)) ⟨_, rfl, hp, ⟨hC.1.trans (hk.touch.mono (fun _ e => .inl e)), ?_⟩, ?_⟩
      · obtain ⟨_, u0, u1, u2, h2⟩ := hC
        exact ⟨u0, u1, u2, hk.other 32 (by decide) rb _ h2⟩
      · refine stI_keep hk.emp hk.pin hk.pin1 (hk.one _) (fun _ h => pin_other h (hk.other 4 (by decide))) (fun _ h => pin_other h (hk.other 4 (by decide))) (fun _ h => pin_other h (hk.other 4 (by decide))) (fun _ h => one_other h (hk.other 4 (by decide))) ?_
        rintro ⟨v3, v4, h1, h2, h3⟩
        exact ⟨v3, v4, hk.other 32 (by decide) rb _ h1, hk.pin1 _ h2, pin_other h3 (hk.other 4 (by decide))⟩
    · simp only [List.getElem?_toArray, List.getElem?_cons_zero, List.getElem?_cons_succ, Option.some.injEq] at hi
      subst hi
      refine ⟨rfl, ?_⟩
      refine r4_step (v := .slice (some ⟨W.heap.size, 0, none⟩) 0 0) (w' := W.alloc (.cells #[] 4)) ?_ ⟨_, rfl, Pin.made W 4 hNW, hC.still ((Touch.refl _ W).alloc _), stI_still ((Touch.refl _ W).alloc _)⟩
      simp [execOp, Act.eval]
      try go_simp
    · simp only [List.getElem?_toArray, List.getElem?_cons_zero, List.getElem?_cons_succ, Option.some.injEq] at hi
      subst hi
      refine ⟨rfl, ?_⟩
      refine r4_val (v := .pointer (some ⟨x, 2, none⟩)) ?_ ⟨_, rfl, rfl, hC, fun _ _ h => h⟩
      simp [execOp, Act.eval, b1]
      try go_simp
    · simp only [List.getElem?_toArray, List.getElem?_cons_zero, List.getElem?_cons_succ, Option.some.injEq] at hi
      subst hi
      have t27 : a.tmps[27]?.getD undef = .pointer (some ⟨x, 2, none⟩) := by simpa [valOf, stI] using hdone 11 _ rfl (r4_edge 11 (by kernel_rfl) hdl)
      refine ⟨rfl, ?_⟩
      refine r4_val (v := .slice (some ⟨gb, off, none⟩) sz k2) ?_ ⟨_, rfl, rfl, hC, fun _ _ h => h⟩
      simp [execOp, Act.eval, t27]
      try go_simp
    · simp only [List.getElem?_toArray, List.getElem?_cons_zero, List.getElem?_cons_succ, Option.some.injEq] at hi
      subst hi
      have t28 : a.tmps[28]?.getD undef = .slice (some ⟨gb, off, none⟩) sz k2 := by simpa [valOf, stI] using hdone 12 _ rfl (r4_edge 12 (by kernel_rfl) hdl)
      refine ⟨rfl, ?_⟩
      refine r4_val (v := .slice (if k2 = 1 then some ⟨gb, off, none⟩ else some ⟨gb, off + 1, none⟩) (sz - 1) (k2 - 1)) ?_ ⟨_, rfl, rfl, hC, fun _ _ h => h⟩
      simp [execOp, Act.eval, t28, hz1I]
      try go_simp
    · simp only [List.getElem?_toArray, List.getElem?_cons_zero, List.getElem?_cons_succ, Option.some.injEq] at hi
      subst hi
      have t26 : Pin W w1.heap.size 4 [] (a.tmps[26]?.getD undef) := by simpa [valOf, stI] using hdone 10 _ rfl (r4_edge 10 (by kernel_rfl) hdl)
      have t29 : a.tmps[29]?.getD undef = .slice (if k2 = 1 then some ⟨gb, off, none⟩ else some ⟨gb, off + 1, none⟩) (sz - 1) (k2 - 1) := by simpa [valOf, stI] using hdone 13 _ rfl (r4_edge 13 (by kernel_rfl) hdl)
      obtain ⟨v', W', hr, hp, hT⟩ := app_empty (P := Try.prog) 30 Try.underlying30 hj0 hy0 hy1 (by omega) (by rfl) t26 (Reads.src (HRB.out W hC.1) Try.underlying30 HT1U.out) (by rw [HUL.out]; omega) hNW
      refine ⟨rfl, ?_⟩
      refine r4_step (v := v') (w' := W') (r4_app (.tmp 26) (.tmp 29) _ _ rfl ?_) ⟨_, rfl, hp, hC.still hT, stI_still hT⟩
      simpa [Act.eval, t29] using hr
    · simp only [List.getElem?_toArray, List.getElem?_cons_zero, List.getElem?_cons_succ, Option.some.injEq] at hi
      subst hi
      refine ⟨rfl, ?_⟩
      refine r4_step (v := .slice (some ⟨W.heap.size, 0, none⟩) 1 1) (w' := W.alloc (.cells #[.bool false] 4)) ?_ ⟨_, rfl, One.made W 4 _ hNW, hC.still ((Touch.refl _ W).alloc _), stI_still ((Touch.refl _ W).alloc _)⟩
      simp [execOp, Act.eval]
      try go_simp
    · simp only [List.getElem?_toArray, List.getElem?_cons_zero, List.getElem?_cons_succ, Option.some.injEq] at hi
      subst hi
      have t30 : Pin W w1.heap.size 4 U (a.tmps[30]?.getD undef) := by simpa [valOf, stI] using hdone 14 _ rfl (r4_edge 14 (by kernel_rfl) hdl)
      have t31 : One W w1.heap.size 4 (.bool false) (a.tmps[31]?.getD undef) := by simpa [valOf, stI] using hdone 15 _ rfl (r4_edge 15 (by kernel_rfl) hdl)
      obtain ⟨v', W', hr, hp, hk⟩ := app_one (P := Try.prog) 30 Try.underlying30 hj0 hy0 hy1 (by omega) (by rfl) t30 t31 rfl (by rw [HUL.out]; omega) hNW
      refine ⟨rfl, ?_⟩
      refine r4_step (v := v') (w' := W') (r4_app (.tmp 30) (.tmp 31) _ _ rfl (by simpa [Act.eval] using hr)) ⟨_, rfl, hp, ⟨hC.1.trans (hk.touch.mono (fun _ e => .inl e)), ?_⟩, ?_⟩
      · obtain ⟨_, u0, u1, u2, h2⟩ := hC
        exact ⟨u0, u1, u2, hk.other 32 (by decide) rb _ h2⟩
      · refine stI_keep (fun _ h => pin_other h (hk.other 9 (by decide))) (fun _ h => pin_other h (hk.other 9 (by decide))) (fun _ h => pin_other h (hk.other 9 (by decide))) (fun _ h => one_other h (hk.other 9 (by decide))) hk.emp hk.pin hk.pin1 (hk.one _) ?_
        rintro ⟨v3, v4, h1, h2, h3⟩
        exact ⟨v3, v4, hk.other 32 (by decide) rb _ h1, pin_other h2 (hk.other 9 (by decide)), hk.pin1 _ h3⟩
    · simp only [List.getElem?_toArray, List.getElem?_cons_zero, List.getElem?_cons_succ, Option.some.injEq] at hi
      subst hi
      have t18 : a.tmps[18]?.getD undef = .int .u32 nx2 := by simpa [valOf, stI] using hdone 2 _ rfl (r4_edge 2 (by kernel_rfl) hdl)
      have t25 : Pin W w1.heap.size 9 (T ++ [.string ⟨#[]⟩]) (a.tmps[25]?.getD undef) := by simpa [valOf, stI] using hdone 9 _ rfl (r4_edge 9 (by kernel_rfl) hdl)
      have t32 : Pin W w1.heap.size 4 (U ++ [.bool false]) (a.tmps[32]?.getD undef) := by simpa [valOf, stI] using hdone 16 _ rfl (r4_edge 16 (by kernel_rfl) hdl)
      refine ⟨rfl, ?_⟩
      obtain ⟨g5, c5, _, e5, _⟩ := id t25
      obtain ⟨g6, c6, _, e6, _⟩ := id t32
      refine r4_val (v := .agg #[.int .u32 nx2, a.tmps[25]?.getD undef, a.tmps[32]?.getD undef]) ?_ ⟨_, rfl, ⟨_, _, rfl, t25, t32⟩, hC, fun _ _ h => h⟩
      rw [e5, e6]
      simp [execOp, Act.eval, t18, e5, e6]
      try go_simp
    · simp only [List.getElem?_toArray, List.getElem?_cons_zero, List.getElem?_cons_succ, Option.some.injEq] at hi
      subst hi
      refine ⟨rfl, ?_⟩
      refine r4_val (v := .string t) ?_ ⟨_, rfl, rfl, hC, fun _ _ h => h⟩
      simp [execOp, Act.eval, b5]
      try go_simp
    · simp only [List.getElem?_toArray, List.getElem?_cons_zero, List.getElem?_cons_succ, Option.some.injEq] at hi
      subst hi
      obtain ⟨v3, v4, t33, p3, p4⟩ : ∃ v3 v4, a.tmps[33]?.getD undef = .agg #[.int .u32 nx2, v3, v4] ∧ Pin W w1.heap.size 9 (T ++ [.string ⟨#[]⟩]) v3 ∧ Pin W w1.heap.size 4 (U ++ [.bool false]) v4 := by simpa [valOf, stI] using hdone 17 _ rfl (r4_edge 17 (by kernel_rfl) hdl)
      obtain ⟨g5, n5, c5, e5⟩ : ∃ g n c, v3 = .slice (some ⟨g, 0, none⟩) n c := by obtain ⟨g5, c5, _, e5, _⟩ := p3; exact ⟨_, _, _, e5⟩
      obtain ⟨g6, n6, c6, e6⟩ : ∃ g n c, v4 = .slice (some ⟨g, 0, none⟩) n c := by obtain ⟨g6, c6, _, e6, _⟩ := p4; exact ⟨_, _, _, e6⟩
      subst e5
      subst e6
      obtain ⟨hC1, u0, u1, u2, hR⟩ := hC
      have hT8 := m_touch3 (w := W) rb (.int .u32 nx2) (.slice (some ⟨g5, 0, none⟩) n5 c5) (.slice (some ⟨g6, 0, none⟩) n6 c6)
      have hR8 := m_set3 (nx' := nx2) (tv' := .slice (some ⟨g5, 0, none⟩) n5 c5) (bv' := .slice (some ⟨g6, 0, none⟩) n6 c6) hR
      obtain ⟨q0, q1, q2⟩ := hR.cells
      have f0 := Block.free hR 0
      have f1 := Block.free hR 1
      have f2 := Block.free hR 2
      have hrbN : ∀ k, k = rb → k < w1.heap.size := fun k e => by have := HLT.out; omega
      refine ⟨rfl, ?_⟩
      refine r4_skip (w' := ((W.setCell ⟨rb, 0, none⟩ (.int .u32 nx2)).setCell ⟨rb, 1, none⟩ (.slice (some ⟨g5, 0, none⟩) n5 c5)).setCell ⟨rb, 2, none⟩ (.slice (some ⟨g6, 0, none⟩) n6 c6)) ?_ ⟨undef, rfl, ⟨_, _, hR8, p3.kept hT8 hrbN, p4.kept hT8 hrbN⟩, ⟨hC1.trans (hT8.mono (fun _ e => .inr e)), _, _, _, hR8⟩, stI_keep (fun _ h => h.kept hT8 hrbN) (fun _ h => h.kept hT8 hrbN) (fun _ h => h.kept hT8 hrbN) (fun _ h => h.kept hT8 hrbN) (fun _ h => h.kept hT8 hrbN) (fun _ h => h.kept hT8 hrbN) (fun _ h => h.kept hT8 hrbN) (fun _ h => h.kept hT8 hrbN) (fun _ => ⟨_, _, hR8, p3.kept hT8 hrbN, p4.kept hT8 hrbN⟩)⟩
      simp [execOp, Act.eval, b2, t33]
      try go_simp
    · simp only [List.getElem?_toArray, List.getElem?_cons_zero, List.getElem?_cons_succ, Option.some.injEq] at hi
      subst hi
      have t34 : a.tmps[34]?.getD undef = .string t := by simpa [valOf, stI] using hdone 18 _ rfl (r4_edge 18 (by kernel_rfl) hdl)
      refine ⟨rfl, ?_⟩
      refine r4_val (v := .string t) ?_ ⟨_, rfl, rfl, hC, fun _ _ h => h⟩
      simp [execOp, Act.eval, t34]
      try go_simp
    · simp only [List.getElem?_toArray, List.getElem?_cons_zero, List.getElem?_cons_succ, Option.some.injEq] at hi
      subst hi
      refine ⟨rfl, ?_⟩
      refine r4_val (v := .bool true) ?_ ⟨_, rfl, rfl, hC, fun _ _ h => h⟩
      simp [execOp, Act.eval]
      try go_simp
  · intro ls a W hls hC hbase hall
    rename_i K9 hJ
    obtain ⟨v3, v4, h19, p3, p4⟩ : ∃ v3 v4, MBox W rb nx2 v3 v4 ∧ Pin W w1.heap.size 9 (T ++ [.string ⟨#[]⟩]) v3 ∧ Pin W w1.heap.size 4 (U ++ [.bool false]) v4 := by simpa [stI] using hall 19 _ rfl
    have h20 : a.tmps[3]?.getD undef = .string t := by simpa [valOf, stI] using hall 20 _ rfl
    have h21 : a.tmps[4]?.getD undef = .bool true := by simpa [valOf, stI] using hall 21 _ rfl
    obtain ⟨hbd, hbs, hbb⟩ := hbase
    have b2 : a.tmps[2]?.getD undef = .pointer (some ⟨rb, 0, none⟩) := by rw [(hbb 2 (noDst_spec (by kernel_rfl)))]; rfl
    have e2 : a.tmps.getD 2 undef = .pointer (some ⟨rb, 0, none⟩) := by simpa using b2
    have e3 : a.tmps.getD 3 undef = .string t := by simpa using h20
    have e4 : a.tmps.getD 4 undef = .bool true := by simpa using h21
    have hTW := new_touch (((HT1.out.mono (fun j e => e.elim)) : Touch (fun k => w.heap.size ≤ k) w w1).trans (hC.1.mono (fun j e => by have := HLT.out; have := HT1.out.size; omega)))
    have hr3 := p3.row.reads
    have hr4 := p4.row.reads
    rw [HTU.out.1, tR_next A b sz hz1 HAE.out] at hr3
    rw [HTU.out.2, bR_next A b sz hz1 HAE.out] at hr4
    have hn3 : NewR w v3 := fun g hg => Nat.le_trans HT1.out.size (p3.own g hg)
    have hn4 : NewR w v4 := fun g hg => Nat.le_trans HT1.out.size (p4.own g hg)
    refine hJ a W ?_
    clear hall hbb hls hC p3 p4 h20 h21 b2
    go_wp2_with fail
    refine bodyPost_ret (results_cell_slots rfl _ _ rb _ _ _ _ e2 h19 Try.underlying32 rfl Try.sizeR5) hbd ⟨v3, v4, ?_, hr3, hr4, hn3, hn4, hTW⟩
    rw [e3, e4]
    try rfl
end Go.Proofs.Ytimiiahhedpfaaa

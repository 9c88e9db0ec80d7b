/- The walk of layer 5's statement on any tokens behind any bytes. -/
import Derived.Test.YtdbpjkpbmfjcnaaLzD
import Derived.Test.YtdbpjkpbmfjcnaaLzT
namespace Go.Proofs.Ytdbpjkpbmfjcnaa
open Go Go.RowKit
set_option maxRecDepth 100000

def tokV (t : Tok) : List Value := [.int .u8 (t.b.toNat : Nat), .int .i64 t.n, .int .i64 t.d]
def toksV (l : List Tok) : List Value := l.flatMap tokV
theorem toksV_length (l : List Tok) : (toksV l).length = l.length * 3 := by
  induction l with
  | nil => rfl
  | cons x l ih =>
    have : toksV (x :: l) = tokV x ++ toksV l := by simp [toksV]
    rw [this, List.length_append, ih, List.length_cons]
    simp [tokV]
    omega
theorem toksV_append (a b : List Tok) : toksV (a ++ b) = toksV a ++ toksV b := by simp [toksV]
theorem toksV_get (l : List Tok) (j : Nat) (x : Tok) (h : l[j]? = some x) : (toksV l)[j * 3]? = some (.int .u8 (x.b.toNat : Nat)) ∧ (toksV l)[j * 3 + 1]? = some (.int .i64 x.n) ∧ (toksV l)[j * 3 + 2]? = some (.int .i64 x.d) := by
  induction l generalizing j with
  | nil => simp at h
  | cons y l ih =>
    have e : toksV (y :: l) = .int .u8 (y.b.toNat : Nat) :: .int .i64 y.n :: .int .i64 y.d :: toksV l := by simp [toksV, tokV]
    rw [e]
    cases j with
    | zero => simp at h; subst h; simp
    | succ j =>
      simp at h
      have := ih j h
      rw [show (j + 1) * 3 = j * 3 + 1 + 1 + 1 by omega]
      simpa using this
theorem Toks.of_own {w : World} {base : Nat} {e : TypeId} {v : Value} {n : Nat} {xs : List Tok} (h : w.ownsRow base e 3 v n (toksV xs)) : Toks w v xs := by
  have hl : xs.length = n := by have := h.1; rw [toksV_length] at this; omega
  subst hl
  rcases h.2 with ⟨rfl, h0⟩ | ⟨g, cap, cur, rfl, _, hh, h1, h2, h3, h4⟩
  · obtain rfl : xs = [] := List.eq_nil_of_length_eq_zero h0
    exact ⟨none, 0, rfl, Nat.le_refl _, Nat.zero_le _, .inl rfl⟩
  · refine ⟨_, cap, rfl, h1, h2, .inr ⟨g, 0, rfl, fun j x hx => ?_⟩⟩
    have hj : j < xs.length := (List.getElem?_eq_some_iff.1 hx).1
    have hg := toksV_get xs j x hx
    rw [← h4] at hg
    rw [List.getElem?_take, if_pos (by omega), List.getElem?_take, if_pos (by omega), List.getElem?_take, if_pos (by omega), Array.getElem?_toList, Array.getElem?_toList, Array.getElem?_toList] at hg
    rw [cell_of_row w g _ cur e (0, 0) hh, cell_of_row w g _ cur e (0, 0) hh, cell_of_row w g _ cur e (0, 0) hh]
    simpa using hg
theorem own_lt {w : World} {base : Nat} {e : TypeId} {k : Nat} {v : Value} {n : Nat} {xs : List Value} (h : w.ownsRow base e k v n xs) : ∀ g, v.ownBlock = some g → g < w.heap.size := by
  intro g hg
  rcases h.2 with ⟨rfl, _⟩ | ⟨g', cap, cur, rfl, _, hh, _⟩
  · cases hg
  · have h2 : g' = g := Option.some.inj hg
    rw [← h2]
    exact (Array.getElem?_eq_some_iff.1 hh).1
theorem new_at {w : World} {b : Nat} {t : TypeId} {x : Tok} (h : w.heap[b]? = some (.cells (tokA x) t)) : ∀ j u, (tokV x)[j]? = some u → w.cell? ((⟨b, 0, none⟩ : Addr).add j) = some u := by
  intro j u hu
  obtain ⟨c0, c1, c2, _, _, _⟩ := box_cells h
  match j, hu with
  | 0, hu => simp [tokV] at hu; subst hu; exact c0
  | 1, hu => simp [tokV] at hu; subst hu; exact c1
  | 2, hu => simp [tokV] at hu; subst hu; exact c2
  | j + 3, hu => simp [tokV] at hu

section
variable {P : Program} {w : World}
theorem wp_append_own {o : Oper} {a : Act} {K : Act → World → Prop} {Q : Exit → Act → World → Prop} (s x : Operand) (t : TypeId)
    (ho : o.op = .call { callee := .builtin .append, args := #[s, x], argTypes := #[t, t] })
    (base : Nat) (e : TypeId) (i : TypeInfo) (z : Value) (size bytes : Nat) (ht : P.underlying t = some (.slice e)) (hi : P.info? e = some i) (hz : i.zero = some z)
    (hsize : i.size = size) (hby : i.bytes = bytes) (hzs : z.cells.size = size) (hsz : 0 < size)
    (v : Value) (n : Nat) (xs : List Value) (hs : a.eval s = v) (hown : w.ownsRow base e size v n xs)
    (ad : Addr) (m c : Nat) (news : List Value) (hx : a.eval x = .slice (some ad) m c) (hl : news.length = m * size) (hnews : ∀ j u, news[j]? = some u → w.cell? (ad.add j) = some u) (h1 : ∀ u ∈ news, u.oneCell' = true)
    (h63 : n + m ≤ maxLen) (hbytes : (n + m) * bytes ≤ 140737488355328) (hbase : base ≤ w.heap.size)
    (h : ∀ v' w', w'.ownsRow base e size v' (n + m) (xs ++ news) → w.grownBy w' v.ownBlock → (v'.ownBlock = v.ownBlock ∨ v'.ownBlock = some w.heap.size) → K (a.put o.dst v') w') : o.wp P a w K Q := by
  obtain ⟨v', w', hr, h2, h3, h4, h5⟩ := run_append_own_at (P := P) w base t o.type e i z size bytes ht hi hz hsize hby hzs hsz v n xs hown ad m c news hl hnews h1 h63 hbytes hbase
  unfold Oper.wp execOp
  simp only [ho, resolve, invoke, builtin, Sem.run_bind, Sem.run_pure, Result.andThen_ok, List.map_toArray, List.map_cons, List.map_nil, hs, hx, hr]
  exact h v' w' h2 h3 h5
theorem step_append_own {ops : Array Oper} {o : Oper} {a : Act} {K : Act → World → Prop} {Q : Exit → Act → World → Prop} {E : Prop} (hgd : o.guard = none) (s x : Operand) (t : TypeId)
    (ho : o.op = .call { callee := .builtin .append, args := #[s, x], argTypes := #[t, t] })
    (base : Nat) (e : TypeId) (i : TypeInfo) (z : Value) (size bytes : Nat) (ht : P.underlying t = some (.slice e)) (hi : P.info? e = some i) (hz : i.zero = some z)
    (hsize : i.size = size) (hby : i.bytes = bytes) (hzs : z.cells.size = size) (hsz : 0 < size)
    (v : Value) (n : Nat) (xs : List Value) (hs : a.eval s = v) (hown : w.ownsRow base e size v n xs)
    (ad : Addr) (m c : Nat) (news : List Value) (hx : a.eval x = .slice (some ad) m c) (hl : news.length = m * size) (hnews : ∀ j u, news[j]? = some u → w.cell? (ad.add j) = some u) (h1 : ∀ u ∈ news, u.oneCell' = true)
    (h63 : n + m ≤ maxLen) (hbytes : (n + m) * bytes ≤ 140737488355328) (hbase : base ≤ w.heap.size)
    (h : ∀ v' w', w'.ownsRow base e size v' (n + m) (xs ++ news) → w.grownBy w' v.ownBlock → (v'.ownBlock = v.ownBlock ∨ v'.ownBlock = some w.heap.size) → K (a.put o.dst v') w') :
    if Region.wanted o (yielded ops a.tmps) = true then Oper.wp P o a w K Q else E := by
  have hw : Region.wanted o (yielded ops a.tmps) = true := by simp [Region.wanted, hgd]
  rw [if_pos hw]
  exact wp_append_own s x t ho base e i z size bytes ht hi hz hsize hby hzs hsz v n xs hs hown ad m c news hx hl hnews h1 h63 hbytes hbase h
end

theorem Try.infoT : (Try.prog.info? 50).map (fun i => (i.zero, i.size, i.bytes)) = some (some (.agg #[.int .u8 0, .int .i64 0, .int .i64 0]), 3, 24) := by kernel_rfl
theorem Try.infoS : (Try.prog.info? 52).map (fun i => (i.zero, i.size, i.bytes)) = some (some (.agg #[.int .u8 0, .int .i64 0, .int .i64 0]), 3, 24) := by kernel_rfl

set_option maxHeartbeats 2000000 in
theorem expands_s (s : ByteArray) (l : List Tok) (v : Value) (w : World) (hv : Toks w v l) (hs : s.size ≤ 500) :
    Calls Try.prog 7 #[.string s, v] w fun e w' => e = .returned (.bool true) ∧ Touch (fun _ => False) w w' := by
  obtain ⟨i0, hi, hz0, hz1, hz2⟩ := info_parts Try.infoT
  obtain ⟨j0, hj, hy0, hy1, hy2⟩ := info_parts Try.infoS
  obtain ⟨a, cap, rfl, hlc, hcm, hcell⟩ := hv
  go_enter Try.func7, Try.ntmps7
  go_wp2_with (go_at_call 20; refine (speaks5_calls _).mono ?_; rintro e w1 ⟨rfl, ht1⟩)
  go_loopw [5, 6, 7] (fun va vb iv wr => ∃ (k : Nat), k ≤ l.length ∧ k ≤ 30 ∧ iv = .int .i64 (k : Nat) ∧ wr.ownsRow w.heap.size 50 3 va k (toksV (l.take k)) ∧ wr.ownsRow w.heap.size 52 3 vb k (toksV (l.take k)) ∧ (∀ g, va.ownBlock = some g → vb.ownBlock ≠ some g) ∧ Touch (fun _ => False) w wr) (fun _ _ iv _ => 30 - (intOf iv).toNat)
  case atStart => exact ⟨0, Nat.zero_le _, Nat.zero_le _, rfl, World.ownsRow_nil _ _ _ _, World.ownsRow_nil _ _ _ _, fun g hg => (by cases hg), ht1⟩
  case round =>
    obtain ⟨k, hk, hk30, rfl, hA, hB, hne, hT⟩ := hrel
    by_cases hlt : k < l.length ∧ k < 30
    · obtain ⟨hlt, hlt30⟩ := hlt
      rcases hcell with rfl | ⟨g, off, rfl, hcell⟩
      · simp at hlt
      obtain ⟨t, ht⟩ : ∃ t, t = l[k] := ⟨_, rfl⟩
      have hlk : l[k]? = some t := by rw [ht]; exact List.getElem?_eq_getElem hlt
      have htk : l.take (k + 1) = l.take k ++ [t] := by rw [ht]; exact List.take_succ_eq_append_getElem hlt
      obtain ⟨a0, a1, a2⟩ := hcell k t hlk
      have b0 := hT.cell a0 id
      have b1 := hT.cell a1 id
      have b2 := hT.cell a2 id
      have hgw : g < w.heap.size := World.block_lt_of_cell? w _ a0
      have hna : ¬ some g = u5.ownBlock := fun e => by have := own_base hA g e.symm; omega
      have hnb : ¬ some g = u6.ownBlock := fun e => by have := own_base hB g e.symm; omega
      have HLA := Lib.hid (own_lt hA)
      have HLB := Lib.hid (own_lt hB)
      have HNA := Lib.hid hna
      have HNB := Lib.hid hnb
      have KA := Lib.hid (fun W (hW : Touch (fun i => some i = u6.ownBlock) wr W) => own_still hA hW (fun g hg e => hne g hg e.symm))
      have KB := Lib.hid (fun W (hW : Touch (fun i => some i = u5.ownBlock) wr W) => own_still hB hW (fun g hg e => hne g e.symm hg))
      have HTK := Lib.hid htk
      have HLK := Lib.hid hlk
      have HNE := Lib.hid hne
      have HBA := Lib.hid (own_base hA)
      have HBB := Lib.hid (own_base hB)
      have HC := Lib.hid hcell
      have hk0 : (0 : Int) ≤ (k : Int) := by omega
      have hk1 : (k : Int) < (l.length : Int) := by omega
      have hTs := hT.size
      have hgl : g < wr.heap.size := Nat.lt_of_lt_of_le hgw hTs
      have HT := Lib.hid hT
      clear hcell a0 a1 a2 ht hlk htk hne hA hB hT hna hnb
      go_upto_region 9 with fail
      go_cut [5, 6] (fun va vb wx => wx.ownsRow w.heap.size 50 3 va (k + 1) (toksV (l.take (k + 1))) ∧ wx.ownsRow w.heap.size 52 3 vb (k + 1) (toksV (l.take (k + 1))) ∧ (∀ g, va.ownBlock = some g → vb.ownBlock ≠ some g) ∧ Touch (fun _ => False) w wx)
      case first =>
        go_region_law
          (first
            | (refine step_append_own (by rfl) _ _ _ (by rfl) w.heap.size 50 i0 _ 3 24 Try.underlying47 hi hz0 hz1 hz2 rfl (by decide) u5 k (toksV (l.take k)) (by rfl) (by exact KA.out _ (by ((repeat (first | with_reducible apply Touch.drew | with_reducible apply Touch.alloc)); first | exact hTb | exact Touch.refl _ _))) ⟨_, 0, none⟩ 1 1 (tokV t) (by rfl) rfl (by exact new_at (by first | exact heap_alloc_new _ _ | exact heap_alloc2_new _ _ _ | exact (heap_alloc_old _ _ (by simp)).trans (heap_alloc_new _ _) | exact (hgb.block _ (by first | (simp; done) | (simp; omega)) (fun e => by have := HLB.out _ e.symm; omega)).trans (heap_alloc2_new _ _ _) | exact (hgb.block _ (by first | (simp; done) | (simp; omega)) (fun e => by have := HLB.out _ e.symm; omega)).trans (heap_alloc_new _ _) | exact (hgb.block _ (by first | (simp; done) | (simp; omega)) (fun e => by have := HLB.out _ e.symm; omega)).trans ((heap_alloc_old _ _ (by simp)).trans (heap_alloc_new _ _)))) (by simp [tokV, Value.oneCell']) (by unfold maxLen; omega) (by omega) (by first | omega | (simp; omega)) ?_; intro va2 wa hra hga hoa; (first | (have hTa : Touch (fun i => some i = u5.ownBlock) wr wa := Touch.grown (by ((repeat (first | with_reducible apply Touch.drew | with_reducible apply Touch.alloc)); exact Touch.refl _ _)) hga (fun g hg => Or.inl hg.symm)) | skip); have hUa : Touch (fun i => some i = u5.ownBlock ∨ some i = u6.ownBlock) wr wa := Touch.grown (by ((repeat (first | with_reducible apply Touch.drew | with_reducible apply Touch.alloc)); first | exact hUb | exact Touch.refl _ _)) hga (fun g hg => Or.inl (Or.inl hg.symm)); have q0 := hUa.cell b0 (fun e => e.elim HNA.out HNB.out); have q1 := hUa.cell b1 (fun e => e.elim HNA.out HNB.out); have q2 := hUa.cell b2 (fun e => e.elim HNA.out HNB.out); have hsa := hUa.size; have hgla : g < wa.heap.size := Nat.lt_of_lt_of_le hgl hsa; (first | (have hFA := hra; have hFB := own_still hrb (Touch.grown (by ((repeat (first | with_reducible apply Touch.drew | with_reducible apply Touch.alloc)); exact Touch.refl _ _)) hga (S := fun i => some i = u5.ownBlock) (fun g hg => Or.inl hg.symm)) (fun g hg e => by rcases hob with h | h; exact HNE.out g e.symm (by rw [← h, hg]); have h2 := HLA.out g e.symm; rw [h] at hg; have h3 := Option.some.inj hg; simp at h3; omega); have hFU := hUa) | skip))
            | (refine step_append_own (by rfl) _ _ _ (by rfl) w.heap.size 52 j0 _ 3 24 Try.underlying48 hj hy0 hy1 hy2 rfl (by decide) u6 k (toksV (l.take k)) (by rfl) (by exact KB.out _ (by ((repeat (first | with_reducible apply Touch.drew | with_reducible apply Touch.alloc)); first | exact hTa | exact Touch.refl _ _))) ⟨_, 0, none⟩ 1 1 (tokV t) (by rfl) rfl (by exact new_at (by first | exact heap_alloc_new _ _ | exact heap_alloc2_new _ _ _ | exact (heap_alloc_old _ _ (by simp)).trans (heap_alloc_new _ _) | exact (hga.block _ (by first | (simp; done) | (simp; omega)) (fun e => by have := HLA.out _ e.symm; omega)).trans (heap_alloc2_new _ _ _) | exact (hga.block _ (by first | (simp; done) | (simp; omega)) (fun e => by have := HLA.out _ e.symm; omega)).trans (heap_alloc_new _ _) | exact (hga.block _ (by first | (simp; done) | (simp; omega)) (fun e => by have := HLA.out _ e.symm; omega)).trans ((heap_alloc_old _ _ (by simp)).trans (heap_alloc_new _ _)))) (by simp [tokV, Value.oneCell']) (by unfold maxLen; omega) (by omega) (by first | omega | (simp; omega)) ?_; intro vb2 wb hrb hgb hob; (first | (have hTb : Touch (fun i => some i = u6.ownBlock) wr wb := Touch.grown (by ((repeat (first | with_reducible apply Touch.drew | with_reducible apply Touch.alloc)); exact Touch.refl _ _)) hgb (fun g hg => Or.inl hg.symm)) | skip); have hUb : Touch (fun i => some i = u5.ownBlock ∨ some i = u6.ownBlock) wr wb := Touch.grown (by ((repeat (first | with_reducible apply Touch.drew | with_reducible apply Touch.alloc)); first | exact hUa | exact Touch.refl _ _)) hgb (fun g hg => Or.inl (Or.inr hg.symm)); have q0 := hUb.cell b0 (fun e => e.elim HNA.out HNB.out); have q1 := hUb.cell b1 (fun e => e.elim HNA.out HNB.out); have q2 := hUb.cell b2 (fun e => e.elim HNA.out HNB.out); have hsb := hUb.size; have hglb : g < wb.heap.size := Nat.lt_of_lt_of_le hgl hsb; (first | (have hFB := hrb; have hFA := own_still hra (Touch.grown (by ((repeat (first | with_reducible apply Touch.drew | with_reducible apply Touch.alloc)); exact Touch.refl _ _)) hgb (S := fun i => some i = u6.ownBlock) (fun g hg => Or.inl hg.symm)) (fun g hg e => by rcases hoa with h | h; exact HNE.out g (by rw [← h, hg]) e.symm; have h2 := HLB.out g e.symm; rw [h] at hg; have h3 := Option.some.inj hg; simp at h3; omega); have hFU := hUb) | skip)))
        all_goals go_wp2_with fail
        all_goals
          go_meet
          have hFN : ∀ g, va2.ownBlock = some g → vb2.ownBlock ≠ some g := by
            intro g hg e
            have l1 := own_lt hra g hg
            have l2 := own_lt hrb g e
            rcases hoa with h | h
            · rcases hob with h' | h'
              · exact HNE.out g (by rw [← h, hg]) (by rw [← h', e])
              · have l3 := HLA.out g (by rw [← h, hg])
                rw [h'] at e
                have h3 := Option.some.inj e
                try simp at h3
                omega
            · rcases hob with h' | h'
              · have l3 := HLB.out g (by rw [← h', e])
                rw [h] at hg
                have h3 := Option.some.inj hg
                try simp at h3
                omega
              · rw [h] at hg
                rw [h'] at e
                have h3 := Option.some.inj hg
                have h4 := Option.some.inj e
                try simp at h3
                try simp at h4
                omega
          exact ⟨by rw [HTK.out, toksV_append, show toksV [t] = tokV t by simp [toksV]]; exact hFA, by rw [HTK.out, toksV_append, show toksV [t] = tokV t by simp [toksV]]; exact hFB, hFN, HT.out.trans' hFU (fun i hi => .inr (by rcases hi with h | h; exact HBA.out i h.symm; exact HBB.out i h.symm))⟩
      case rest =>
        clear b0 b1 b2 KA KB HNE HBA HBB HLA HLB HT hTs hgl
        obtain ⟨hA, hB, hne, hT⟩ := hcut
        obtain ⟨c0, c1, c2⟩ := HC.out k t HLK.out
        have b0 := hT.cell c0 id
        have b1 := hT.cell c1 id
        have b2 := hT.cell c2 id
        have HA := Lib.hid hA
        have HB := Lib.hid hB
        have HNE := Lib.hid hne
        have HT := Lib.hid hT
        have HG1 := Lib.hid (fun W => good_calls t W)
        have HG2 := Lib.hid (fun W => refgood_calls t W)
        unfold tokA at HG1 HG2
        have hgc : g < wc.heap.size := Nat.lt_of_lt_of_le hgw hT.size
        clear hA hB hne hT c0 c1 c2
        generalize goodB t = gd at HG1 HG2
        go_upto_region 10 with fail
        go_region_held3 (fun W => W.cell? ⟨g, off + k * 3, none⟩ = some (.int .u8 (t.b.toNat : Nat)) ∧ W.cell? ⟨g, off + k * 3 + 1, none⟩ = some (.int .i64 t.n) ∧ W.cell? ⟨g, off + k * 3 + 2, none⟩ = some (.int .i64 t.d))
          (first | exact ⟨ht9.cell b0 id, ht9.cell b1 id, ht9.cell b2 id⟩ | exact ⟨ht8.cell b0 id, ht8.cell b1 id, ht8.cell b2 id⟩ | go_keep)
          (first
            | (go_at_call 28; refine (HG1.out _).mono ?_; rintro e w8 ⟨rfl, h8⟩; have ht8 : Touch (fun _ => False) wc w8 := (by first | exact h8 | exact ((Touch.refl _ _).drew).trans h8 | exact ht9.trans h8 | exact (ht9.drew).trans h8))
            | (go_at_call 29; refine (HG2.out _).mono ?_; rintro e w9 ⟨rfl, h9⟩; have ht9 : Touch (fun _ => False) wc w9 := (by first | exact h9 | exact ((Touch.refl _ _).drew).trans h9 | exact ht8.trans h9 | exact (ht8.drew).trans h9)))
        go_wp2_with fail
        go_roundw
        case rel => exact ⟨k + 1, by omega, by omega, by go_num, own_still HA.out ht9 (fun _ _ => id), own_still HB.out ht9 (fun _ _ => id), HNE.out, HT.out.trans ht9⟩
        case measure => simp [intOf]; omega
    · have hA2 := Toks.of_own hA
      have hB2 := Toks.of_own hB
      have hlk : (l.take k).length = k := by rw [List.length_take]; omega
      obtain ⟨aa, ca, hae⟩ := own_form hA
      obtain ⟨ab, cb, hbe⟩ := own_form hB
      subst hae
      subst hbe
      have hE := expand_calls s (l.take k) _ wr hA2 (by omega) (by omega)
      have hR := fun W (hW : Touch (fun _ => False) wr W) => refexpand_calls s (l.take k) _ W (hB2.still hW) (by omega) (by omega)
      generalize expandL s.data.toList (l.take k) = o at hE hR
      have HE := Lib.hid hE
      have HR := Lib.hid hR
      have HB2 := Lib.hid hB2
      have HLK := Lib.hid hlk
      have HT := Lib.hid hT
      have hcond : ¬ ((k : Int) < (l.length : Int)) ∨ ¬ ((k : Int) < 30) := by omega
      have hkb : (decide ((k : Int) < (l.length : Int)) && decide ((k : Int) < 30)) = false := by
        rcases hcond with h | h <;> simp [h]
      clear hA hB hne hA2 hB2 hE hR hlk hT hcell hlt
      by_cases hkl : (k : Int) < (l.length : Int)
      · have hk3 : ¬ ((k : Int) < 30) := by rcases hcond with h | h; exact absurd hkl h; exact h
        clear hcond hkb
        go_wp2_with fail
        refine HE.out.mono ?_
        rintro e w5 ⟨rfl, h5⟩
        have H5 := Lib.hid (HT.out.trans h5)
        have HR2 := Lib.hid (HR.out w5 h5)
        clear h5
        cases hst : o with
        | none =>
          rw [hst] at HR2
          unfold expV at HR2 ⊢
          clear hst
          go_wp2_with fail
          refine HR2.out.mono ?_
          rintro e w6 ⟨rfl, h6⟩
          have H6 := Lib.hid (H5.out.trans h6)
          clear h6
          go_wp2_with fail
          go_ret
          exact ⟨rfl, H6.out⟩
        | some r =>
          rw [hst] at HR2
          unfold expV at HR2 ⊢
          clear hst
          generalize (⟨(r.drop s.size).toArray⟩ : ByteArray) = st at HR2 ⊢
          go_wp2_with fail
          refine HR2.out.mono ?_
          rintro e w6 ⟨rfl, h6⟩
          have H6 := Lib.hid (H5.out.trans h6)
          clear h6
          go_wp2_with fail
          go_ret
          exact ⟨rfl, H6.out⟩
      · clear hcond hkb
        go_wp2_with fail
        refine HE.out.mono ?_
        rintro e w5 ⟨rfl, h5⟩
        have H5 := Lib.hid (HT.out.trans h5)
        have HR2 := Lib.hid (HR.out w5 h5)
        clear h5
        cases hst : o with
        | none =>
          rw [hst] at HR2
          unfold expV at HR2 ⊢
          clear hst
          go_wp2_with fail
          refine HR2.out.mono ?_
          rintro e w6 ⟨rfl, h6⟩
          have H6 := Lib.hid (H5.out.trans h6)
          clear h6
          go_wp2_with fail
          go_ret
          exact ⟨rfl, H6.out⟩
        | some r =>
          rw [hst] at HR2
          unfold expV at HR2 ⊢
          clear hst
          generalize (⟨(r.drop s.size).toArray⟩ : ByteArray) = st at HR2 ⊢
          go_wp2_with fail
          refine HR2.out.mono ?_
          rintro e w6 ⟨rfl, h6⟩
          have H6 := Lib.hid (H5.out.trans h6)
          clear h6
          go_wp2_with fail
          go_ret
          exact ⟨rfl, H6.out⟩

set_option maxHeartbeats 2000000 in
theorem expands_l (s : ByteArray) (l : List Tok) (v : Value) (w : World) (hv : Toks w v l) (hsl : 500 < s.size) (hsm : s.size ≤ 9223372036854775807) :
    Calls Try.prog 7 #[.string s, v] w fun e w' => e = .returned (.bool true) ∧ Touch (fun _ => False) w w' := by
  obtain ⟨i0, hi, hz0, hz1, hz2⟩ := info_parts Try.infoT
  obtain ⟨j0, hj, hy0, hy1, hy2⟩ := info_parts Try.infoS
  obtain ⟨a, cap, rfl, hlc, hcm, hcell⟩ := hv
  go_enter Try.func7, Try.ntmps7
  go_wp2_with (go_at_call 20; refine (speaks5_calls _).mono ?_; rintro e w1 ⟨rfl, ht1⟩)
  have hs : (s.extract 0 500).size ≤ 500 := by simp; omega
  generalize s.extract 0 500 = s at hs ⊢
  go_loopw [5, 6, 7] (fun va vb iv wr => ∃ (k : Nat), k ≤ l.length ∧ k ≤ 30 ∧ iv = .int .i64 (k : Nat) ∧ wr.ownsRow w.heap.size 50 3 va k (toksV (l.take k)) ∧ wr.ownsRow w.heap.size 52 3 vb k (toksV (l.take k)) ∧ (∀ g, va.ownBlock = some g → vb.ownBlock ≠ some g) ∧ Touch (fun _ => False) w wr) (fun _ _ iv _ => 30 - (intOf iv).toNat)
  case atStart => exact ⟨0, Nat.zero_le _, Nat.zero_le _, rfl, World.ownsRow_nil _ _ _ _, World.ownsRow_nil _ _ _ _, fun g hg => (by cases hg), ht1⟩
  case round =>
    obtain ⟨k, hk, hk30, rfl, hA, hB, hne, hT⟩ := hrel
    by_cases hlt : k < l.length ∧ k < 30
    · obtain ⟨hlt, hlt30⟩ := hlt
      rcases hcell with rfl | ⟨g, off, rfl, hcell⟩
      · simp at hlt
      obtain ⟨t, ht⟩ : ∃ t, t = l[k] := ⟨_, rfl⟩
      have hlk : l[k]? = some t := by rw [ht]; exact List.getElem?_eq_getElem hlt
      have htk : l.take (k + 1) = l.take k ++ [t] := by rw [ht]; exact List.take_succ_eq_append_getElem hlt
      obtain ⟨a0, a1, a2⟩ := hcell k t hlk
      have b0 := hT.cell a0 id
      have b1 := hT.cell a1 id
      have b2 := hT.cell a2 id
      have hgw : g < w.heap.size := World.block_lt_of_cell? w _ a0
      have hna : ¬ some g = u5.ownBlock := fun e => by have := own_base hA g e.symm; omega
      have hnb : ¬ some g = u6.ownBlock := fun e => by have := own_base hB g e.symm; omega
      have HLA := Lib.hid (own_lt hA)
      have HLB := Lib.hid (own_lt hB)
      have HNA := Lib.hid hna
      have HNB := Lib.hid hnb
      have KA := Lib.hid (fun W (hW : Touch (fun i => some i = u6.ownBlock) wr W) => own_still hA hW (fun g hg e => hne g hg e.symm))
      have KB := Lib.hid (fun W (hW : Touch (fun i => some i = u5.ownBlock) wr W) => own_still hB hW (fun g hg e => hne g e.symm hg))
      have HTK := Lib.hid htk
      have HLK := Lib.hid hlk
      have HNE := Lib.hid hne
      have HBA := Lib.hid (own_base hA)
      have HBB := Lib.hid (own_base hB)
      have HC := Lib.hid hcell
      have hk0 : (0 : Int) ≤ (k : Int) := by omega
      have hk1 : (k : Int) < (l.length : Int) := by omega
      have hTs := hT.size
      have hgl : g < wr.heap.size := Nat.lt_of_lt_of_le hgw hTs
      have HT := Lib.hid hT
      clear hcell a0 a1 a2 ht hlk htk hne hA hB hT hna hnb
      go_upto_region 9 with fail
      go_cut [5, 6] (fun va vb wx => wx.ownsRow w.heap.size 50 3 va (k + 1) (toksV (l.take (k + 1))) ∧ wx.ownsRow w.heap.size 52 3 vb (k + 1) (toksV (l.take (k + 1))) ∧ (∀ g, va.ownBlock = some g → vb.ownBlock ≠ some g) ∧ Touch (fun _ => False) w wx)
      case first =>
        go_region_law
          (first
            | (refine step_append_own (by rfl) _ _ _ (by rfl) w.heap.size 50 i0 _ 3 24 Try.underlying47 hi hz0 hz1 hz2 rfl (by decide) u5 k (toksV (l.take k)) (by rfl) (by exact KA.out _ (by ((repeat (first | with_reducible apply Touch.drew | with_reducible apply Touch.alloc)); first | exact hTb | exact Touch.refl _ _))) ⟨_, 0, none⟩ 1 1 (tokV t) (by rfl) rfl (by exact new_at (by first | exact heap_alloc_new _ _ | exact heap_alloc2_new _ _ _ | exact (heap_alloc_old _ _ (by simp)).trans (heap_alloc_new _ _) | exact (hgb.block _ (by first | (simp; done) | (simp; omega)) (fun e => by have := HLB.out _ e.symm; omega)).trans (heap_alloc2_new _ _ _) | exact (hgb.block _ (by first | (simp; done) | (simp; omega)) (fun e => by have := HLB.out _ e.symm; omega)).trans (heap_alloc_new _ _) | exact (hgb.block _ (by first | (simp; done) | (simp; omega)) (fun e => by have := HLB.out _ e.symm; omega)).trans ((heap_alloc_old _ _ (by simp)).trans (heap_alloc_new _ _)))) (by simp [tokV, Value.oneCell']) (by unfold maxLen; omega) (by omega) (by first | omega | (simp; omega)) ?_; intro va2 wa hra hga hoa; (first | (have hTa : Touch (fun i => some i = u5.ownBlock) wr wa := Touch.grown (by ((repeat (first | with_reducible apply Touch.drew | with_reducible apply Touch.alloc)); exact Touch.refl _ _)) hga (fun g hg => Or.inl hg.symm)) | skip); have hUa : Touch (fun i => some i = u5.ownBlock ∨ some i = u6.ownBlock) wr wa := Touch.grown (by ((repeat (first | with_reducible apply Touch.drew | with_reducible apply Touch.alloc)); first | exact hUb | exact Touch.refl _ _)) hga (fun g hg => Or.inl (Or.inl hg.symm)); have q0 := hUa.cell b0 (fun e => e.elim HNA.out HNB.out); have q1 := hUa.cell b1 (fun e => e.elim HNA.out HNB.out); have q2 := hUa.cell b2 (fun e => e.elim HNA.out HNB.out); have hsa := hUa.size; have hgla : g < wa.heap.size := Nat.lt_of_lt_of_le hgl hsa; (first | (have hFA := hra; have hFB := own_still hrb (Touch.grown (by ((repeat (first | with_reducible apply Touch.drew | with_reducible apply Touch.alloc)); exact Touch.refl _ _)) hga (S := fun i => some i = u5.ownBlock) (fun g hg => Or.inl hg.symm)) (fun g hg e => by rcases hob with h | h; exact HNE.out g e.symm (by rw [← h, hg]); have h2 := HLA.out g e.symm; rw [h] at hg; have h3 := Option.some.inj hg; simp at h3; omega); have hFU := hUa) | skip))
            | (refine step_append_own (by rfl) _ _ _ (by rfl) w.heap.size 52 j0 _ 3 24 Try.underlying48 hj hy0 hy1 hy2 rfl (by decide) u6 k (toksV (l.take k)) (by rfl) (by exact KB.out _ (by ((repeat (first | with_reducible apply Touch.drew | with_reducible apply Touch.alloc)); first | exact hTa | exact Touch.refl _ _))) ⟨_, 0, none⟩ 1 1 (tokV t) (by rfl) rfl (by exact new_at (by first | exact heap_alloc_new _ _ | exact heap_alloc2_new _ _ _ | exact (heap_alloc_old _ _ (by simp)).trans (heap_alloc_new _ _) | exact (hga.block _ (by first | (simp; done) | (simp; omega)) (fun e => by have := HLA.out _ e.symm; omega)).trans (heap_alloc2_new _ _ _) | exact (hga.block _ (by first | (simp; done) | (simp; omega)) (fun e => by have := HLA.out _ e.symm; omega)).trans (heap_alloc_new _ _) | exact (hga.block _ (by first | (simp; done) | (simp; omega)) (fun e => by have := HLA.out _ e.symm; omega)).trans ((heap_alloc_old _ _ (by simp)).trans (heap_alloc_new _ _)))) (by simp [tokV, Value.oneCell']) (by unfold maxLen; omega) (by omega) (by first | omega | (simp; omega)) ?_; intro vb2 wb hrb hgb hob; (first | (have hTb : Touch (fun i => some i = u6.ownBlock) wr wb := Touch.grown (by ((repeat (first | with_reducible apply Touch.drew | with_reducible apply Touch.alloc)); exact Touch.refl _ _)) hgb (fun g hg => Or.inl hg.symm)) | skip); have hUb : Touch (fun i => some i = u5.ownBlock ∨ some i = u6.ownBlock) wr wb := Touch.grown (by ((repeat (first | with_reducible apply Touch.drew | with_reducible apply Touch.alloc)); first | exact hUa | exact Touch.refl _ _)) hgb (fun g hg => Or.inl (Or.inr hg.symm)); have q0 := hUb.cell b0 (fun e => e.elim HNA.out HNB.out); have q1 := hUb.cell b1 (fun e => e.elim HNA.out HNB.out); have q2 := hUb.cell b2 (fun e => e.elim HNA.out HNB.out); have hsb := hUb.size; have hglb : g < wb.heap.size := Nat.lt_of_lt_of_le hgl hsb; (first | (have hFB := hrb; have hFA := own_still hra (Touch.grown (by ((repeat (first | with_reducible apply Touch.drew | with_reducible apply Touch.alloc)); exact Touch.refl _ _)) hgb (S := fun i => some i = u6.ownBlock) (fun g hg => Or.inl hg.symm)) (fun g hg e => by rcases hoa with h | h; exact HNE.out g (by rw [← h, hg]) e.symm; have h2 := HLB.out g e.symm; rw [h] at hg; have h3 := Option.some.inj hg; simp at h3; omega); have hFU := hUb) | skip)))
        all_goals go_wp2_with fail
        all_goals
          go_meet
          have hFN : ∀ g, va2.ownBlock = some g → vb2.ownBlock ≠ some g := by
            intro g hg e
            have l1 := own_lt hra g hg
            have l2 := own_lt hrb g e
            rcases hoa with h | h
            · rcases hob with h' | h'
              · exact HNE.out g (by rw [← h, hg]) (by rw [← h', e])
              · have l3 := HLA.out g (by rw [← h, hg])
                rw [h'] at e
                have h3 := Option.some.inj e
                try simp at h3
                omega
            · rcases hob with h' | h'
              · have l3 := HLB.out g (by rw [← h', e])
                rw [h] at hg
                have h3 := Option.some.inj hg
                try simp at h3
                omega
              · rw [h] at hg
                rw [h'] at e
                have h3 := Option.some.inj hg
                have h4 := Option.some.inj e
                try simp at h3
                try simp at h4
                omega
          exact ⟨by rw [HTK.out, toksV_append, show toksV [t] = tokV t by simp [toksV]]; exact hFA, by rw [HTK.out, toksV_append, show toksV [t] = tokV t by simp [toksV]]; exact hFB, hFN, HT.out.trans' hFU (fun i hi => .inr (by rcases hi with h | h; exact HBA.out i h.symm; exact HBB.out i h.symm))⟩
      case rest =>
        clear b0 b1 b2 KA KB HNE HBA HBB HLA HLB HT hTs hgl
        obtain ⟨hA, hB, hne, hT⟩ := hcut
        obtain ⟨c0, c1, c2⟩ := HC.out k t HLK.out
        have b0 := hT.cell c0 id
        have b1 := hT.cell c1 id
        have b2 := hT.cell c2 id
        have HA := Lib.hid hA
        have HB := Lib.hid hB
        have HNE := Lib.hid hne
        have HT := Lib.hid hT
        have HG1 := Lib.hid (fun W => good_calls t W)
        have HG2 := Lib.hid (fun W => refgood_calls t W)
        unfold tokA at HG1 HG2
        have hgc : g < wc.heap.size := Nat.lt_of_lt_of_le hgw hT.size
        clear hA hB hne hT c0 c1 c2
        generalize goodB t = gd at HG1 HG2
        go_upto_region 10 with fail
        go_region_held3 (fun W => W.cell? ⟨g, off + k * 3, none⟩ = some (.int .u8 (t.b.toNat : Nat)) ∧ W.cell? ⟨g, off + k * 3 + 1, none⟩ = some (.int .i64 t.n) ∧ W.cell? ⟨g, off + k * 3 + 2, none⟩ = some (.int .i64 t.d))
          (first | exact ⟨ht9.cell b0 id, ht9.cell b1 id, ht9.cell b2 id⟩ | exact ⟨ht8.cell b0 id, ht8.cell b1 id, ht8.cell b2 id⟩ | go_keep)
          (first
            | (go_at_call 28; refine (HG1.out _).mono ?_; rintro e w8 ⟨rfl, h8⟩; have ht8 : Touch (fun _ => False) wc w8 := (by first | exact h8 | exact ((Touch.refl _ _).drew).trans h8 | exact ht9.trans h8 | exact (ht9.drew).trans h8))
            | (go_at_call 29; refine (HG2.out _).mono ?_; rintro e w9 ⟨rfl, h9⟩; have ht9 : Touch (fun _ => False) wc w9 := (by first | exact h9 | exact ((Touch.refl _ _).drew).trans h9 | exact ht8.trans h9 | exact (ht8.drew).trans h9)))
        go_wp2_with fail
        go_roundw
        case rel => exact ⟨k + 1, by omega, by omega, by go_num, own_still HA.out ht9 (fun _ _ => id), own_still HB.out ht9 (fun _ _ => id), HNE.out, HT.out.trans ht9⟩
        case measure => simp [intOf]; omega
    · have hA2 := Toks.of_own hA
      have hB2 := Toks.of_own hB
      have hlk : (l.take k).length = k := by rw [List.length_take]; omega
      obtain ⟨aa, ca, hae⟩ := own_form hA
      obtain ⟨ab, cb, hbe⟩ := own_form hB
      subst hae
      subst hbe
      have hE := expand_calls s (l.take k) _ wr hA2 (by omega) (by omega)
      have hR := fun W (hW : Touch (fun _ => False) wr W) => refexpand_calls s (l.take k) _ W (hB2.still hW) (by omega) (by omega)
      generalize expandL s.data.toList (l.take k) = o at hE hR
      have HE := Lib.hid hE
      have HR := Lib.hid hR
      have HB2 := Lib.hid hB2
      have HLK := Lib.hid hlk
      have HT := Lib.hid hT
      have hcond : ¬ ((k : Int) < (l.length : Int)) ∨ ¬ ((k : Int) < 30) := by omega
      have hkb : (decide ((k : Int) < (l.length : Int)) && decide ((k : Int) < 30)) = false := by
        rcases hcond with h | h <;> simp [h]
      clear hA hB hne hA2 hB2 hE hR hlk hT hcell hlt
      by_cases hkl : (k : Int) < (l.length : Int)
      · have hk3 : ¬ ((k : Int) < 30) := by rcases hcond with h | h; exact absurd hkl h; exact h
        clear hcond hkb
        go_wp2_with fail
        refine HE.out.mono ?_
        rintro e w5 ⟨rfl, h5⟩
        have H5 := Lib.hid (HT.out.trans h5)
        have HR2 := Lib.hid (HR.out w5 h5)
        clear h5
        cases hst : o with
        | none =>
          rw [hst] at HR2
          unfold expV at HR2 ⊢
          clear hst
          go_wp2_with fail
          refine HR2.out.mono ?_
          rintro e w6 ⟨rfl, h6⟩
          have H6 := Lib.hid (H5.out.trans h6)
          clear h6
          go_wp2_with fail
          go_ret
          exact ⟨rfl, H6.out⟩
        | some r =>
          rw [hst] at HR2
          unfold expV at HR2 ⊢
          clear hst
          generalize (⟨(r.drop s.size).toArray⟩ : ByteArray) = st at HR2 ⊢
          go_wp2_with fail
          refine HR2.out.mono ?_
          rintro e w6 ⟨rfl, h6⟩
          have H6 := Lib.hid (H5.out.trans h6)
          clear h6
          go_wp2_with fail
          go_ret
          exact ⟨rfl, H6.out⟩
      · clear hcond hkb
        go_wp2_with fail
        refine HE.out.mono ?_
        rintro e w5 ⟨rfl, h5⟩
        have H5 := Lib.hid (HT.out.trans h5)
        have HR2 := Lib.hid (HR.out w5 h5)
        clear h5
        cases hst : o with
        | none =>
          rw [hst] at HR2
          unfold expV at HR2 ⊢
          clear hst
          go_wp2_with fail
          refine HR2.out.mono ?_
          rintro e w6 ⟨rfl, h6⟩
          have H6 := Lib.hid (H5.out.trans h6)
          clear h6
          go_wp2_with fail
          go_ret
          exact ⟨rfl, H6.out⟩
        | some r =>
          rw [hst] at HR2
          unfold expV at HR2 ⊢
          clear hst
          generalize (⟨(r.drop s.size).toArray⟩ : ByteArray) = st at HR2 ⊢
          go_wp2_with fail
          refine HR2.out.mono ?_
          rintro e w6 ⟨rfl, h6⟩
          have H6 := Lib.hid (H5.out.trans h6)
          clear h6
          go_wp2_with fail
          go_ret
          exact ⟨rfl, H6.out⟩

theorem expands_calls (s : ByteArray) (l : List Tok) (v : Value) (w : World) (hv : Toks w v l) (hs : s.size ≤ maxLen) :
    Calls Try.prog 7 #[.string s, v] w fun e w' => e = .returned (.bool true) ∧ Touch (fun _ => False) w w' := by
  by_cases h : s.size ≤ 500
  · exact expands_s s l v w hv h
  · exact expands_l s l v w hv (by omega) (by unfold maxLen at hs; omega)
end Go.Proofs.Ytdbpjkpbmfjcnaa

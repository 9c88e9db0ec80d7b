/- Contracts of layer 5's plain program over the translated program: the row of a number. -/
import Derived.Test.YtdbpjkpbmfjcnaaLzT
namespace Go.Proofs.Ytdbpjkpbmfjcnaa
open Go Go.RowKit
set_option maxRecDepth 100000

/-- The last row whose least number isn't above one. -/
def findF (n : Int) (out r : Tr) : Tr := if (r.2.1 : Int) ≤ n then r else out
def findT (T : List Tr) (n : Int) : Tr := T.foldl (findF n) (T.headD (0, 0, 0))

theorem fold_stay (n : Int) (r : Tr) : ∀ (B : List Tr), (∀ x ∈ B, n < (x.2.1 : Int)) → B.foldl (findF n) r = r
  | [], _ => rfl
  | x :: B, h => by
    have h1 := h x List.mem_cons_self
    rw [List.foldl_cons, findF, if_neg (by omega)]
    exact fold_stay n r B (fun y hy => h y (List.mem_cons_of_mem _ hy))
theorem findT_get (T : List Tr) (n : Int) (s : Nat) (r : Tr) (h : T[s]? = some r) (h1 : (r.2.1 : Int) ≤ n) (h2 : ∀ j x, s < j → T[j]? = some x → n < (x.2.1 : Int)) : findT T n = r := by
  have hs : s < T.length := (List.getElem?_eq_some_iff.1 h).1
  have hr : T[s] = r := (List.getElem?_eq_some_iff.1 h).2
  have e : T = T.take s ++ r :: T.drop (s + 1) := by
    rw [← hr, ← List.drop_eq_getElem_cons hs, List.take_append_drop]
  unfold findT
  generalize T.headD (0, 0, 0) = o
  rw [e, List.foldl_append, List.foldl_cons, findF, if_pos h1]
  refine fold_stay n r _ (fun x hx => ?_)
  obtain ⟨j, hj⟩ := List.getElem?_of_mem hx
  rw [List.getElem?_drop] at hj
  exact h2 _ x (by omega) hj

theorem find_len (n : Nat) (h3 : 3 ≤ n) (h : n ≤ 258) : findT lenTab n = (lenS n, n - lenV n, lenB n) ∧ lenV n ≤ n := by
  have : ∀ n : Fin 259, 3 ≤ n.val → findT lenTab n.val = (lenS n.val, n.val - lenV n.val, lenB n.val) ∧ lenV n.val ≤ n.val := by decide +kernel
  exact this ⟨n, by omega⟩ h3
theorem find_dist (n : Nat) (h1 : 1 ≤ n) (h : n ≤ 32768) : findT distTab n = (symN 1 (n - 1), n - valN 1 (n - 1), bitN 1 (n - 1)) ∧ valN 1 (n - 1) ≤ n := by
  obtain ⟨s, hs, e1, e2, e3, e4, _⟩ := dist_facts n h1 h
  have hm : ∀ a b : Fin 30, a.val < b.val → leastN 1 a.val + 2 ^ extN 1 a.val ≤ leastN 1 b.val := by decide +kernel
  have hT : ∀ j, distTab[j]? = if j < 30 then some (distRow j) else none := by
    intro j
    unfold distTab
    rw [List.getElem?_map]
    by_cases hj : j < 30
    · rw [List.getElem?_range hj, if_pos hj]; rfl
    · rw [List.getElem?_eq_none (by simp; omega), if_neg hj]; rfl
  rw [e1]
  refine ⟨?_, by omega⟩
  have hr : distRow s = (s, n - valN 1 (n - 1), bitN 1 (n - 1)) := by
    unfold distRow
    rw [e3, show n - valN 1 (n - 1) = leastN 1 s + 1 by omega]
  rw [← hr]
  refine findT_get distTab n s _ (by rw [hT, if_pos hs]) (by rw [hr]; show ((n - valN 1 (n - 1) : Nat) : Int) ≤ (n : Int); omega) (fun j x hj hx => ?_)
  rw [hT] at hx
  by_cases hj3 : j < 30
  · rw [if_pos hj3] at hx
    have := Option.some.inj hx
    subst this
    have h5 := hm ⟨s, hs⟩ ⟨j, hj3⟩ hj
    simp only [distRow]
    simp only at h5
    rw [e3] at h5
    omega
  · rw [if_neg hj3] at hx; cases hx

theorem Try.sizeR : (Try.prog.info? 41).map (·.size) = some 3 := by kernel_rfl

set_option maxHeartbeats 1000000 in
theorem find_calls (T : List Tr) (n : Int) (v : Value) (w : World) (hv : Trs w v T) (h0 : 0 < T.length) (hl : T.length ≤ 100) :
    Calls Try.prog 25 #[v, .int .i64 n] w fun e w' => e = .returned (.agg (trV (findT T n)).toArray) ∧ Touch (fun _ => False) w w' := by
  obtain ⟨a, cap, rfl, hlc, hcm, hcell⟩ := hv
  rcases hcell with rfl | ⟨g, off, rfl, hcell⟩
  · simp at h0
  have hh : T[0]? = some (T.headD (0, 0, 0)) := by
    cases T with
    | nil => simp at h0
    | cons x l => rfl
  obtain ⟨c0, c1, c2⟩ := hcell 0 _ hh
  rw [Nat.zero_mul, Nat.add_zero] at c0 c1 c2
  have hc0 : (0 : Int) < (T.length : Int) := by omega
  have hgl := World.block_lt_of_cell? w _ c0
  simp only at hgl
  obtain ⟨r0, hr0⟩ : ∃ r0, r0 = T.headD (0, 0, 0) := ⟨_, rfl⟩
  rw [← hr0] at c0 c1 c2
  have HR0 := Lib.hid hr0
  have HC := Lib.hid hcell
  clear hh hcell hr0
  go_enter Try.func25, Try.ntmps25
  go_wp2_with fail
  have hT0 : Touch (fun _ => False) w ((w.alloc (.cells #[.int .i64 0, .int .i64 0, .int .i64 0] 41)).alloc (.cells (trV r0).toArray 41)) := ((Touch.refl _ w).alloc _).alloc _
  have hB0 : ((w.alloc (.cells #[.int .i64 0, .int .i64 0, .int .i64 0] 41)).alloc (.cells (trV r0).toArray 41)).heap[w.heap.size]? = some (.cells #[.int .i64 0, .int .i64 0, .int .i64 0] 41) := (heap_alloc_old _ _ (by simp)).trans (heap_alloc_new w _)
  have hB1 : ((w.alloc (.cells #[.int .i64 0, .int .i64 0, .int .i64 0] 41)).alloc (.cells (trV r0).toArray 41)).heap[w.heap.size + 1]? = some (.cells (trV r0).toArray 41) := by
    have := heap_alloc_new (w.alloc (.cells #[.int .i64 0, .int .i64 0, .int .i64 0] 41)) (.cells (trV r0).toArray 41)
    simpa using this
  clear c0 c1 c2
  go_loopw [6] (fun iv wr => ∃ (k : Nat) (o : Tr), k ≤ T.length ∧ iv = .int .i64 (k : Nat) ∧ RowKit.Hid (o = (T.take k).foldl (findF n) r0) ∧ wr.heap[w.heap.size]? = some (.cells #[.int .i64 0, .int .i64 0, .int .i64 0] 41) ∧ wr.heap[w.heap.size + 1]? = some (.cells (trV o).toArray 41) ∧ Touch (fun _ => False) w wr) (fun iv _ => T.length - (intOf iv).toNat)
  case atStart => exact ⟨0, r0, Nat.zero_le _, rfl, Lib.hid rfl, hB0, hB1, hT0⟩
  case round =>
    clear hB0 hB1 hT0
    obtain ⟨k, o, hk, rfl, HO, hB0, hB1, hT⟩ := hrel
    obtain ⟨p0, p1, p2, q0, q1, q2⟩ := box_cells (show wr.heap[w.heap.size + 1]? = some (.cells #[.int .i64 (o.1 : Nat), .int .i64 (o.2.1 : Nat), .int .i64 (o.2.2 : Nat)] 41) from hB1)
    obtain ⟨m0, m1, m2, n0, n1, n2⟩ := box_cells hB0
    rw [Nat.zero_add] at p1 p2 q1 q2 m1 m2 n1 n2
    by_cases hlt : k < T.length
    · have hk0 : (0 : Int) ≤ (k : Int) := by omega
      have hk1 : (k : Int) < (T.length : Int) := by omega
      obtain ⟨x, hx⟩ : ∃ x, T[k]? = some x := ⟨_, List.getElem?_eq_getElem hlt⟩
      obtain ⟨c0, c1, c2⟩ := HC.out k x hx
      have b0 := hT.cell c0 id
      have b1 := hT.cell c1 id
      have b2 := hT.cell c2 id
      have hg1 : g ≠ w.heap.size := by omega
      have hg2 : g ≠ w.heap.size + 1 := by omega
      have hstep : (T.take (k + 1)).foldl (findF n) r0 = findF n o x := by
        have hxk : T[k] = x := (List.getElem?_eq_some_iff.1 hx).2
        rw [List.take_succ_eq_append_getElem hlt, List.foldl_append, ← HO.out, hxk]
        rfl
      have HST := Lib.hid hstep
      have HB0 := Lib.hid hB0
      have HB1 := Lib.hid hB1
      clear hx c0 c1 c2 hstep hB0 hB1
      by_cases hle : (x.2.1 : Int) ≤ n
      · have hf : findF n o x = x := if_pos hle
        have HF := Lib.hid hf
        clear hf
        go_wp2_with fail
        go_roundw
        case rel =>
          refine ⟨k + 1, x, by omega, by go_num, Lib.hid (by rw [HST.out, HF.out]), ?_, ?_, ?_⟩
          · have hS := (((Touch.refl (fun k => k = w.heap.size + 1) wr).setCell (p := ⟨w.heap.size + 1, 0, none⟩) (Or.inl rfl) (.int .i64 (x.1 : Nat))).setCell (p := ⟨w.heap.size + 1, 1, none⟩) (Or.inl rfl) (.int .i64 (x.2.1 : Nat))).setCell (p := ⟨w.heap.size + 1, 2, none⟩) (Or.inl rfl) (.int .i64 (x.2.2 : Nat))
            exact (hS.block _ (Array.getElem?_eq_some_iff.1 HB0.out).1 (by omega)).trans HB0.out
          · exact box_set3 HB1.out
          · exact ((hT.setCell (.inr (Nat.le_succ _)) _).setCell (.inr (Nat.le_succ _)) _).setCell (.inr (Nat.le_succ _)) _
        case measure => simp [intOf]; omega
      · have hf : findF n o x = o := if_neg hle
        have HF := Lib.hid hf
        clear hf
        go_wp2_with fail
        go_roundw
        case rel => exact ⟨k + 1, o, by omega, by go_num, Lib.hid (by rw [HST.out, HF.out]), HB0.out, HB1.out, hT⟩
        case measure => simp [intOf]; omega
    · obtain rfl : k = T.length := by omega
      have HB0 := Lib.hid hB0
      have HB1 := Lib.hid hB1
      clear hB0 hB1
      go_wp2_with fail
      ((try simp only [Exit.inBlock, Exit.then]); refine bodyPost_ret (results_cell_row rfl _ _ w.heap.size _ _ _ _ rfl (box_set3 HB0.out) Try.underlying41 rfl Try.sizeR) rfl ?_)
      refine ⟨?_, ((hT.setCell (.inr (Nat.le_refl _)) _).setCell (.inr (Nat.le_refl _)) _).setCell (.inr (Nat.le_refl _)) _⟩
      have ho := HO.out
      rw [List.take_length] at ho
      unfold findT
      rw [← HR0.out, ← ho]
      rfl
end Go.Proofs.Ytdbpjkpbmfjcnaa


/- slices.Repeat of one number: so many of the same. -/
import Derived.Test.YtoaeffinjpkahaaDoorBitsN
import Derived.Test.YtoaeffinjpkahaaDoorArr
import Derived.Laws.CopyOwn
import Derived.Test.YtoaeffinjpkahaaDoorActLit
import Derived.Deep.OwnRows
import Derived.Deep.Cut
import Derived.Deep.CutBlock
import Derived.Deep.DeepCutAuto
import Derived.BigQuiet
import Derived.StillTailTactics
namespace Go.Proofs.YtoaeffinjpkahaaDoor
set_option linter.unusedSimpArgs false
set_option linter.unusedVariables false
open Go Go.RowKit
set_option maxRecDepth 100000

theorem mul64_calls (y : Int) (hy : y = 288 ∨ y = 32) (w : World) : Calls Tryd.prog 154 #[.int .u64 1, .int .u64 y] w fun e w' => e = .returned (.tuple #[.int .u64 0, .int .u64 y]) ∧ w = w' := by
  have a1 : bits .and .u64 1 4294967295 = 1 := by decide
  have a0 : bits .and .u64 0 4294967295 = 0 := by decide
  have a2 : bits .and .u64 288 4294967295 = 288 := by decide
  have a3 : bits .and .u64 32 4294967295 = 32 := by decide
  rcases hy with rfl | rfl
  · go_enter Tryd.func154, Tryd.ntmps154
    go_wp2_with fail
    go_ret2
    exact ⟨rfl, rfl⟩
  · go_enter Tryd.func154, Tryd.ntmps154
    go_wp2_with fail
    go_ret2
    exact ⟨rfl, rfl⟩
theorem mul_calls (y : Int) (hy : y = 288 ∨ y = 32) (w : World) : Calls Tryd.prog 139 #[.int .u64 1, .int .u64 y] w fun e w' => e = .returned (.tuple #[.int .u64 0, .int .u64 y]) ∧ w = w' := by
  go_enter Tryd.func139, Tryd.ntmps139
  go_wp2_with fail
  refine (mul64_calls y hy _).mono ?_
  rintro e w' ⟨rfl, rfl⟩
  go_wp2_with fail
  go_ret2
  exact ⟨rfl, rfl⟩
theorem rep_splice (v z : Value) (c n m : Nat) (h : n + m ≤ c) : splice (List.replicate n v ++ List.replicate (c - n) z) n (List.replicate m v) = List.replicate (n + m) v ++ List.replicate (c - (n + m)) z := by
  unfold splice
  rw [List.take_append_of_le_length (by simp), List.take_of_length_le (by simp), List.length_replicate, List.drop_append, List.drop_of_length_le (by simp), List.nil_append, List.length_replicate, List.drop_replicate, ← List.append_assoc, List.replicate_append_replicate]
  congr 2
  omega
/-- What each operation of the loop of Repeat leaves. -/
def repI (G c n m N : Nat) (L3 : List Value) (w : World) (i : Nat) (v : Value) (W : World) : Prop := match i with
  | 0 => v = .int .i64 (n : Nat)
  | 1 => v = .slice (some ⟨G, 0, none⟩) c c
  | 2 => v = .int .i64 (n : Nat)
  | 3 => v = .slice (some ⟨G, n, none⟩) (c - n) (c - n)
  | 4 => v = .slice (some ⟨G, 0, none⟩) c c
  | 5 => v = .int .i64 (n : Nat)
  | 6 => v = .slice (some ⟨G, 0, none⟩) n c
  | 7 => v = .int .i64 (m : Nat) ∧ W.heap[G]? = some (.cells L3.toArray 3 (0, 0)) ∧ Below G w W
  | 8 => v = .int .i64 (N : Nat)
  | 9 => v = .int .i64 (N : Nat)
  | _ => True
theorem ri_copy {P : Program} {o : Oper} {a : Act} {w w' : World} {v : Value} (s x : Operand) (t tx : TypeId) (ho : o.op = .call { callee := .builtin .copy, args := #[s, x], argTypes := #[t, tx] })
    (h : (Builtin.copy_ #[t, tx] o.type #[a.eval s, a.eval x]).run P w = .ok v w') : (execOp a.eval o).run P w = .ok (.value v) w' := by
  have heq : execOp a.eval o = (Builtin.copy_ #[t, tx] o.type #[a.eval s, a.eval x]).bind (fun v => Sem.pure (Next.value v)) := by
    unfold execOp
    simp only [ho, resolve, invoke, builtin, List.map_toArray, List.map_cons, List.map_nil]
    rfl
  rw [heq, Sem.run_bind' P _ _ w, h]
  rfl
theorem Tryd.infoIntR : (Tryd.prog.info? 3).map (fun i => (i.zero, i.size, i.bytes)) = some (some (.int .i64 0), 1, 8) := by kernel_rfl

set_option maxHeartbeats 2000000 in
theorem repeat_calls (x : Int) (c : Nat) (hc : c = 288 ∨ c = 32) (g0 k0 : Nat) (w : World) (h : w.cell? ⟨g0, 0, none⟩ = some (.int .i64 x)) :
    Calls Tryd.prog 111 #[.slice (some ⟨g0, 0, none⟩) 1 k0, .int .i64 (c : Nat)] w fun e w' =>
      ∃ g, e = .returned (.slice (some ⟨g, 0, none⟩) c c) ∧ w'.heap[g]? = some (.cells (List.replicate c (.int .i64 x)).toArray 3 (0, 0)) ∧ w.heap.size ≤ g ∧ Touch (fun _ => False) w w' := by
  have HM := Lib.hid (fun W => mul_calls (c : Int) (by rcases hc with rfl | rfl <;> simp) W)
  have hc1 : 1 < c := by omega
  have hc2 : c ≤ 288 := by omega
  have hcc : ((c : Nat) : Int) % 18446744073709551616 = (c : Int) := by omega
  clear hc
  obtain ⟨i0, hi, hz0, hz1, hz2⟩ := info_parts Tryd.infoIntR
  go_enter Tryd.func111, Tryd.ntmps111
  go_wp2_with fail
  refine (HM.out _).mono ?_
  rintro e w1 ⟨rfl, rfl⟩
  have hmk : ∀ W, (Instr.makeSlice 41 (.int .i64 (c : Int)) (.int .i64 (c : Int))).run Tryd.prog W = .ok (.slice (some ⟨W.heap.size, 0, none⟩) c c) (W.alloc (.cells (madeCells #[.int .i64 0] c) 3)) :=
    fun W => run_make_row' _ _ _ 8 Tryd.underlying41 Tryd.infoIntR rfl .i64 .i64 c (by omega) (by omega) W
  go_upto_region 7 with fail
  have hmd : madeCells #[Value.int .i64 0] c = (List.replicate c (Value.int .i64 0)).toArray := by
    rw [← Array.toList_inj, toList_madeCells_one]
  have hG2 : (w.alloc (.cells (madeCells #[.int .i64 0] c) 3)).heap[w.heap.size]? = some (.cells (List.replicate c (Value.int .i64 0)).toArray 3 (0, 0)) := by rw [← hmd]; exact heap_alloc_new w _
  have hB2 : Below w.heap.size w (w.alloc (.cells (madeCells #[.int .i64 0] c) 3)) := (Below.refl _ _).alloc (Nat.le_refl _) _
  have hx2 : (w.alloc (.cells (madeCells #[.int .i64 0] c) 3)).cell? ⟨g0, 0, none⟩ = some (.int .i64 x) := by
    rw [World.cell?_of_block (a := ⟨g0, 0, none⟩) (Below.heap_alloc w _ g0 (World.block_lt_of_cell? w _ h))]; exact h
  obtain ⟨G, hG⟩ : ∃ G, G = w.heap.size := ⟨_, rfl⟩
  rw [← hG] at hG2 hB2 ⊢
  generalize w.alloc (.cells (madeCells #[.int .i64 0] c) 3) = w2 at hG2 hB2 hx2 ⊢
  have HGE := Lib.hid hG
  clear hG
  have hsz : (Tryd.prog.info? 3).map (·.size) = some 1 := by rw [hi]; simp [hz1]
  have HX := Lib.hid hx2
  have HH := Lib.hid (⟨hG2, hB2⟩ : _ ∧ _)
  clear hmk hmd hG2 hB2 hx2 h HM hi hz0 hz1 hz2
  obtain ⟨X1, hX1⟩ : ∃ X1, X1 = [Value.int .i64 x] := ⟨_, rfl⟩
  have HX1 := Lib.hid hX1
  clear hX1
  have hn1 : X1.length = Nat.min 1 c := by
    rw [HX1.out]
    show 1 = min 1 c
    omega
  have hsrc1 : ∀ j v, X1[j]? = some v → w2.cell? ((⟨g0, 0, none⟩ : Addr).add j) = some v := by
    intro j u hu
    rw [HX1.out] at hu
    cases j with
    | zero =>
      have e := Option.some.inj hu
      rw [← e]
      simpa [Addr.add] using HX.out
    | succ j => simp at hu
  have hfit1 : 0 + X1.length ≤ (List.replicate c (Value.int .i64 0)).length := by
    rw [HX1.out]
    simp
    omega
  have hone1 : ∀ v ∈ X1, v.oneCell' = true := by
    rw [HX1.out]
    intro u hu
    rw [List.mem_singleton.1 hu]
    rfl
  have HY := Lib.hid (⟨hn1, hsrc1, hfit1, hone1⟩ : _ ∧ _ ∧ _ ∧ _)
  clear hn1 hsrc1 hfit1 hone1
  go_wp2_with (refine wpList_copy_splice rfl (.tmp 31) (.tmp 32) 41 41 rfl 3 Tryd.underlying41 hsz (some ⟨G, 0, none⟩) (some ⟨g0, 0, none⟩) c c 1 k0 rfl rfl G 0 (List.replicate c (.int .i64 0)) 3 HH.out.1 X1 HY.out.1 (fun _ => ⟨rfl, _, rfl, HY.out.2.1⟩) HY.out.2.2.1 HY.out.2.2.2 G w HH.out.2 (Nat.le_refl _) ?_; intro w3 H3 hB3)
  have hl1 : X1.length = 1 := by rw [HX1.out]; rfl
  have H4 : Hid (w3.heap[G]? = some (.cells (List.replicate 1 (Value.int .i64 x) ++ List.replicate (c - 1) (Value.int .i64 0)).toArray 3 (0, 0)) ∧ Below G w w3) := Lib.hid ⟨by
    have h1 := H3.out
    rw [HX1.out] at h1
    have h2 := rep_splice (Value.int .i64 x) (Value.int .i64 0) c 0 1 (by omega)
    simp only [List.replicate_zero, List.nil_append, Nat.sub_zero, Nat.zero_add, List.replicate_one] at h2
    rw [h2] at h1
    exact h1, hB3⟩
  rw [hl1]
  clear H3 hB3 HY HX HX1 hl1 HH
  clear X1
  go_loopw [8] (fun nv wr => ∃ n : Nat, 1 ≤ n ∧ n ≤ c ∧ nv = .int .i64 (n : Nat) ∧ RowKit.Hid (wr.heap[G]? = some (.cells (List.replicate n (Value.int .i64 x) ++ List.replicate (c - n) (Value.int .i64 0)).toArray 3 (0, 0)) ∧ Below G w wr)) (fun nv _ => c - (intOf nv).toNat)
  case atStart => exact ⟨1, Nat.le_refl _, by omega, rfl, H4⟩
  case round =>
    clear H4
    obtain ⟨n, hn1, hnc, rfl, H5⟩ := hrel
    by_cases hlt : n < c
    · have hltI : (n : Int) < (c : Int) := by omega
      have hne : ¬ c = n := by omega
      have hneI : ¬ (c : Int) = (n : Int) := by omega
      obtain ⟨m, hm⟩ : ∃ m, m = min n (c - n) := ⟨_, rfl⟩
      obtain ⟨X2, hX2⟩ : ∃ X2, X2 = List.replicate m (Value.int .i64 x) := ⟨_, rfl⟩
      have hl2 : X2.length = m := by rw [hX2, List.length_replicate]
      have hnm : ((n : Int) + (m : Int)) = ((n + m : Nat) : Int) := by omega
      have hmm : 1 ≤ m ∧ n + m ≤ c := by omega
      obtain ⟨N, hN⟩ : ∃ N, N = n + m := ⟨_, rfl⟩
      have hNI : (n : Int) + (m : Int) = (N : Int) := by omega
      have HNC : Hid (N ≤ c ∧ n < N ∧ 1 ≤ N) := Lib.hid (by omega)
      have HN := Lib.hid hN
      clear hN hnm
      obtain ⟨L2, hL2⟩ : ∃ L2, L2 = List.replicate n (Value.int .i64 x) ++ List.replicate (c - n) (Value.int .i64 0) := ⟨_, rfl⟩
      rw [← hL2] at H5
      have HL2 := Lib.hid hL2
      have HX2 := Lib.hid hX2
      have HM2 := Lib.hid hm
      have hL2l : L2.length = c := by rw [hL2]; simp; omega
      have HL2l := Lib.hid hL2l
      have HY2 : Hid (∀ W : World, W.heap[G]? = some (.cells L2.toArray 3 (0, 0)) → ∀ j v, X2[j]? = some v → W.cell? ((⟨G, 0, none⟩ : Addr).add j) = some v) := Lib.hid (fun W hW j u hu => by
        have hj : j < m := by
          have := (List.getElem?_eq_some_iff.1 hu).1
          rw [← hl2]; exact this
        rw [HX2.out, List.getElem?_replicate, if_pos hj] at hu
        have e := Option.some.inj hu
        rw [← e]
        have h1 : W.cell? ⟨G, j, none⟩ = some (.int .i64 x) := by
          simp only [World.cell?, hW]
          have h2 : j < n := by rw [HM2.out] at hj; omega
          simp [HL2.out, List.getElem?_append_left, h2]
        by_cases hj0 : j = 0
        · subst hj0; simpa [Addr.add] using h1
        · simpa [Addr.add, hj0] using h1)
      clear hm hX2 hL2 hL2l
      go_upto_region 9 with fail
      refine wp_region_inv5 (fun ls W => ls.getD 7 true = false → W.heap[G]? = some (.cells L2.toArray 3 (0, 0)) ∧ Below G w W) (repI G c n m N (splice L2 n X2) w) (by kernel_rfl) (by kernel_rfl) (by kernel_rfl) (fun _ => ⟨H5.out.1, ⟨H5.out.2.os, H5.out.2.tape, H5.out.2.output, H5.out.2.size, H5.out.2.block⟩⟩) ?_ ?_
      · intro i o hio ls a W hun hcl hdl hC hbase hkeep hdone
        have hlt9 := op_lt hio
        obtain ⟨hbd, hbs, hbb⟩ := hbase
        have b7 : a.tmps[7]?.getD undef = .slice (some ⟨G, 0, none⟩) c c := by rw [(hbb 7 (noDst_spec (by kernel_rfl)))]; rfl
        rcases (by simp at hlt9; omega : i = 0 ∨ i = 1 ∨ i = 2 ∨ i = 3 ∨ i = 4 ∨ i = 5 ∨ i = 6 ∨ i = 7 ∨ i = 8 ∨ i = 9) with rfl | rfl | rfl | rfl | rfl | rfl | rfl | rfl | rfl | rfl
        · simp only [List.getElem?_toArray, List.getElem?_cons_zero, List.getElem?_cons_succ, Option.some.injEq] at hio
          subst hio
          refine ⟨rfl, ?_⟩
          have hl9 : ls.getD 9 true = false := by
            cases hls : ls.getD 9 true with
            | false => rfl
            | true => exact absurd (r4_edge 0 (by kernel_rfl) (hcl 9 _ rfl hls)) (by rw [hun]; decide)
          have b8 : a.tmps[8]?.getD undef = .int .i64 (n : Nat) := by rw [hkeep 9 _ 8 rfl hl9 rfl]; rfl
          refine r4_val (v := .int .i64 (n : Nat)) ?_ ⟨_, rfl, rfl, (fun h => hC (by rw [getD_set4] at h; simpa using h)), fun _ _ h => h⟩
          simp [execOp, Act.eval, b8]
        · simp only [List.getElem?_toArray, List.getElem?_cons_zero, List.getElem?_cons_succ, Option.some.injEq] at hio
          subst hio
          refine ⟨rfl, ?_⟩
          refine r4_val (v := .slice (some ⟨G, 0, none⟩) c c) ?_ ⟨_, rfl, rfl, (fun h => hC (by rw [getD_set4] at h; simpa using h)), fun _ _ h => h⟩
          simp [execOp, Act.eval, b7]
        · simp only [List.getElem?_toArray, List.getElem?_cons_zero, List.getElem?_cons_succ, Option.some.injEq] at hio
          subst hio
          refine ⟨rfl, ?_⟩
          have hl9 : ls.getD 9 true = false := by
            cases hls : ls.getD 9 true with
            | false => rfl
            | true => exact absurd (r4_edge 2 (by kernel_rfl) (hcl 9 _ rfl hls)) (by rw [hun]; decide)
          have b8 : a.tmps[8]?.getD undef = .int .i64 (n : Nat) := by rw [hkeep 9 _ 8 rfl hl9 rfl]; rfl
          refine r4_val (v := .int .i64 (n : Nat)) ?_ ⟨_, rfl, rfl, (fun h => hC (by rw [getD_set4] at h; simpa using h)), fun _ _ h => h⟩
          simp [execOp, Act.eval, b8]
        · simp only [List.getElem?_toArray, List.getElem?_cons_zero, List.getElem?_cons_succ, Option.some.injEq] at hio
          subst hio
          have t39 : a.tmps[39]?.getD undef = .slice (some ⟨G, 0, none⟩) c c := by simpa [valOf, repI] using hdone 1 _ rfl (r4_edge 1 (by kernel_rfl) hdl)
          have t40 : a.tmps[40]?.getD undef = .int .i64 (n : Nat) := by simpa [valOf, repI] using hdone 2 _ rfl (r4_edge 2 (by kernel_rfl) hdl)
          refine ⟨rfl, ?_⟩
          refine r4_val (v := .slice (some ⟨G, n, none⟩) (c - n) (c - n)) ?_ ⟨_, rfl, rfl, (fun h => hC (by rw [getD_set4] at h; simpa using h)), fun _ _ h => h⟩
          simp [execOp, Act.eval, t39, t40]
          try go_simp
        · simp only [List.getElem?_toArray, List.getElem?_cons_zero, List.getElem?_cons_succ, Option.some.injEq] at hio
          subst hio
          refine ⟨rfl, ?_⟩
          refine r4_val (v := .slice (some ⟨G, 0, none⟩) c c) ?_ ⟨_, rfl, rfl, (fun h => hC (by rw [getD_set4] at h; simpa using h)), fun _ _ h => h⟩
          simp [execOp, Act.eval, b7]
        · simp only [List.getElem?_toArray, List.getElem?_cons_zero, List.getElem?_cons_succ, Option.some.injEq] at hio
          subst hio
          refine ⟨rfl, ?_⟩
          have hl9 : ls.getD 9 true = false := by
            cases hls : ls.getD 9 true with
            | false => rfl
            | true => exact absurd (r4_edge 5 (by kernel_rfl) (hcl 9 _ rfl hls)) (by rw [hun]; decide)
          have b8 : a.tmps[8]?.getD undef = .int .i64 (n : Nat) := by rw [hkeep 9 _ 8 rfl hl9 rfl]; rfl
          refine r4_val (v := .int .i64 (n : Nat)) ?_ ⟨_, rfl, rfl, (fun h => hC (by rw [getD_set4] at h; simpa using h)), fun _ _ h => h⟩
          simp [execOp, Act.eval, b8]
        · simp only [List.getElem?_toArray, List.getElem?_cons_zero, List.getElem?_cons_succ, Option.some.injEq] at hio
          subst hio
          have t42 : a.tmps[42]?.getD undef = .slice (some ⟨G, 0, none⟩) c c := by simpa [valOf, repI] using hdone 4 _ rfl (r4_edge 4 (by kernel_rfl) hdl)
          have t43 : a.tmps[43]?.getD undef = .int .i64 (n : Nat) := by simpa [valOf, repI] using hdone 5 _ rfl (r4_edge 5 (by kernel_rfl) hdl)
          refine ⟨rfl, ?_⟩
          refine r4_val (v := .slice (some ⟨G, 0, none⟩) n c) ?_ ⟨_, rfl, rfl, (fun h => hC (by rw [getD_set4] at h; simpa using h)), fun _ _ h => h⟩
          simp [execOp, Act.eval, t42, t43]
          try go_simp
        · simp only [List.getElem?_toArray, List.getElem?_cons_zero, List.getElem?_cons_succ, Option.some.injEq] at hio
          subst hio
          have t41 : a.tmps[41]?.getD undef = .slice (some ⟨G, n, none⟩) (c - n) (c - n) := by simpa [valOf, repI] using hdone 3 _ rfl (r4_edge 3 (by kernel_rfl) hdl)
          have t44 : a.tmps[44]?.getD undef = .slice (some ⟨G, 0, none⟩) n c := by simpa [valOf, repI] using hdone 6 _ rfl (r4_edge 6 (by kernel_rfl) hdl)
          refine ⟨rfl, ?_⟩
          obtain ⟨hg7, hb7⟩ := hC hun
          have hrun := run_copy_row (P := Tryd.prog) W 41 41 3 3 G n (c - n) (c - n) ⟨G, 0, none⟩ n c L2.toArray 3 X2 Tryd.underlying41 hsz hg7 (by rw [hl2]; exact HM2.out) (HY2.out _ hg7) (by rw [hl2]; simp [HL2l.out]; omega) (by rw [HX2.out]; intro u hu; rw [(List.mem_replicate.1 hu).2]; rfl)
          refine ri_step (v := .int .i64 (m : Nat)) (w' := W.setRow G (splice L2 n X2).toArray) ?_ ⟨_, rfl, ⟨rfl, setRow_heap W G L2.toArray _ 3 _ hg7, below_setRow hb7 (Nat.le_refl _) _⟩, (fun h => by rw [getD_set4] at h; simp at h), ?_⟩
          · refine ri_copy (.tmp 41) (.tmp 44) 41 41 rfl ?_
            have e1 : a.eval (.tmp 41) = .slice (some ⟨G, n, none⟩) (c - n) (c - n) := by simpa [Act.eval] using t41
            have e2 : a.eval (.tmp 44) = .slice (some ⟨G, 0, none⟩) n c := by simpa [Act.eval] using t44
            rw [e1, e2, hrun]
            simp only [splice, hl2, List.append_assoc]
            rfl
          · intro j u h
            match j, h with
            | 0, h => exact h
            | 1, h => exact h
            | 2, h => exact h
            | 3, h => exact h
            | 4, h => exact h
            | 5, h => exact h
            | 6, h => exact h
            | 7, h => exact ⟨h.1, setRow_heap W G L2.toArray _ 3 _ hg7, below_setRow hb7 (Nat.le_refl _) _⟩
            | 8, h => exact h
            | 9, h => exact h
            | _ + 10, _ => trivial
        · simp only [List.getElem?_toArray, List.getElem?_cons_zero, List.getElem?_cons_succ, Option.some.injEq] at hio
          subst hio
          have t38 : a.tmps[38]?.getD undef = .int .i64 (n : Nat) := by simpa [valOf, repI] using hdone 0 _ rfl (r4_edge 0 (by kernel_rfl) hdl)
          have t45 : a.tmps[45]?.getD undef = .int .i64 (m : Nat) := by have h := (hdone 7 _ rfl (r4_edge 7 (by kernel_rfl) hdl)).1; simpa [valOf] using h
          refine ⟨rfl, ?_⟩
          refine r4_val (v := .int .i64 (N : Nat)) ?_ ⟨_, rfl, rfl, (fun h => hC (by rw [getD_set4] at h; simpa using h)), fun _ _ h => h⟩
          simp [execOp, Act.eval, t38, t45, hNI]
          go_simp
          exact IntWalk.i64_in ((N : Nat) : Int) ⟨by omega, by have := HNC.out; omega⟩
        · simp only [List.getElem?_toArray, List.getElem?_cons_zero, List.getElem?_cons_succ, Option.some.injEq] at hio
          subst hio
          have t46 : a.tmps[46]?.getD undef = .int .i64 (N : Nat) := by simpa [valOf, repI] using hdone 8 _ rfl (r4_edge 8 (by kernel_rfl) hdl)
          refine ⟨rfl, ?_⟩
          refine r4_val (v := .int .i64 (N : Nat)) ?_ ⟨_, rfl, rfl, (fun h => hC (by rw [getD_set4] at h; simpa using h)), fun _ _ h => h⟩
          simp [execOp, Act.eval, t46]
      · intro ls a W hall hC hbase hdone
        have hact := act_lit hbase [8, 38, 39, 40, 41, 42, 43, 44, 45, 46] (by decide) (by kernel_rfl)
        obtain ⟨v8, h8⟩ : ∃ v, a.tmps[8]?.getD undef = v := ⟨_, rfl⟩
        obtain ⟨v38, h38⟩ : ∃ v, a.tmps[38]?.getD undef = v := ⟨_, rfl⟩
        obtain ⟨v39, h39⟩ : ∃ v, a.tmps[39]?.getD undef = v := ⟨_, rfl⟩
        obtain ⟨v40, h40⟩ : ∃ v, a.tmps[40]?.getD undef = v := ⟨_, rfl⟩
        obtain ⟨v41, h41⟩ : ∃ v, a.tmps[41]?.getD undef = v := ⟨_, rfl⟩
        obtain ⟨v42, h42⟩ : ∃ v, a.tmps[42]?.getD undef = v := ⟨_, rfl⟩
        obtain ⟨v43, h43⟩ : ∃ v, a.tmps[43]?.getD undef = v := ⟨_, rfl⟩
        obtain ⟨v44, h44⟩ : ∃ v, a.tmps[44]?.getD undef = v := ⟨_, rfl⟩
        obtain ⟨v45, h45⟩ : ∃ v, a.tmps[45]?.getD undef = v := ⟨_, rfl⟩
        obtain ⟨v46, h46⟩ : ∃ v, a.tmps[46]?.getD undef = v := ⟨_, rfl⟩
        obtain rfl : v8 = .int .i64 (N : Nat) := by rw [← h8]; simpa [valOf, repI] using hdone 9 _ rfl
        obtain ⟨_, q1, q2⟩ : (a.tmps[45]?.getD undef = .int .i64 (m : Nat)) ∧ W.heap[G]? = some (.cells (splice L2 n X2).toArray 3 (0, 0)) ∧ Below G w W := by simpa [valOf, repI] using hdone 7 _ rfl
        have HQ := Lib.hid (⟨q1, q2⟩ : _ ∧ _)
        clear hall hdone hC hbase q1 q2
        dsimp only [layL, Nat.reduceAdd, Nat.reduceBEq, cond_true, cond_false] at hact
        simp only [h8, h38, h39, h40, h41, h42, h43, h44, h45, h46] at hact
        clear h8 h38 h39 h40 h41 h42 h43 h44 h45 h46
        subst hact
        dsimp only [Exit.inBlock]
        have hrel9 : Hid (W.heap[G]? = some (.cells (List.replicate N (Value.int .i64 x) ++ List.replicate (c - N) (Value.int .i64 0)).toArray 3 (0, 0)) ∧ Below G w W) := Lib.hid ⟨by
          have h1 := HQ.out.1
          rw [HL2.out, HX2.out, rep_splice (Value.int .i64 x) (Value.int .i64 0) c n m (by omega), ← HN.out] at h1
          exact h1, HQ.out.2⟩
        go_roundw
        case rel =>
          repeat apply Exists.intro
          exact ⟨⟨N, by have := HNC.out; omega, by have := HNC.out; omega, rfl, hrel9⟩, rfl⟩
        case measure => have := HNC.out; simp [intOf]; omega
    · obtain rfl : n = c := by omega
      have hltI : ¬ (n : Int) < (n : Int) := by omega
      go_wp2_with fail
      go_ret
      refine ⟨G, rfl, ?_, by rw [HGE.out]; exact Nat.le_refl _, ?_⟩
      · have h1 := H5.out.1
        rw [Nat.sub_self, List.replicate_zero, List.append_nil] at h1
        exact h1
      · have h1 := H5.out.2
        rw [HGE.out] at h1
        exact ⟨h1.os, h1.tape, h1.output, h1.size, fun k hk _ => h1.block k hk⟩
end Go.Proofs.YtoaeffinjpkahaaDoor

/- Contracts of package dgram: a body. -/
import Derived.Test.YtmjahbdengnoeaaDgB
namespace Go.Proofs.Ytmjahbdengnoeaa
open Go Go.RowKit
set_option maxRecDepth 100000
set_option linter.unusedSimpArgs false

theorem kp_val {P : Program} {o : Oper} {a : Act} {w : World} {K : Act → World → Prop} {Q : Exit → Act → World → Prop} {v : Value} (h : (execOp a.eval o).run P w = .ok (.value v) w) (hk : K (a.put o.dst v) w) : o.wp P a w K Q := by
  unfold Oper.wp
  rw [h]
  exact hk
theorem kp_call {P : Program} {o : Oper} {a : Act} {w : World} {K : Act → World → Prop} {Q : Exit → Act → World → Prop} {f : FuncId} {args : Array Value} {v : Value} (h : (execOp a.eval o).run P w = .ok (.enter f args) w)
    (hc : Calls P f args w fun e w' => e = .returned v ∧ Touch (fun _ => False) w w') (hk : ∀ w', Touch (fun _ => False) w w' → K (a.put o.dst v) w') : o.wp P a w K Q := by
  unfold Oper.wp
  rw [h]
  exact hc.mono fun e w' ⟨he, ht⟩ => by subst he; exact hk w' ht
theorem dg_cons {l : List Value} {n : Nat} (h : l.length = n + 1) : ∃ x l', l = x :: l' ∧ l'.length = n := by
  cases l with
  | nil => simp at h
  | cons x l => exact ⟨x, l, rfl, by simpa using h⟩
theorem Try.infoU32 : (Try.prog.info? 22).map (fun i => (i.zero, i.size, i.bytes)) = some (some (.int .u32 0), 1, 4) := by kernel_rfl

/-- A datagram's bytes ahead of their sum. -/
def bodyB (d : Dg) : ByteArray := (((((((⟨#[76, 71]⟩ : ByteArray) ++ lB 1 d.kind.toNat) ++ lB 1 (if d.last then 1 else 0)) ++ wordsB [d.se, d.ep, d.sq]) ++ lB 8 d.pos) ++ wordsB [d.sm, d.mp]) ++ lB 2 d.text.size) ++ d.text
def bodyL (d : Dg) : List UInt8 := 76 :: 71 :: (leB 1 d.kind.toNat ++ (leB 1 (if d.last then 1 else 0) ++ (leB 4 d.se ++ (leB 4 d.ep ++ (leB 4 d.sq ++ (leB 8 d.pos ++ (leB 4 d.sm ++ (leB 4 d.mp ++ (leB 2 d.text.size ++ d.text.data.toList)))))))))
theorem bodyB_list (d : Dg) : (bodyB d).data.toList = bodyL d := by
  unfold bodyB
  simp only [ByteArray.data_append, Array.toList_append, List.append_assoc]
  unfold bodyL wordsB wordsL lB
  simp
theorem bodyB_size (d : Dg) : (bodyB d).size = 34 + d.text.size := by
  unfold bodyB
  simp only [ByteArray.size_append, lB_size, wordsB_size]
  show 2 + 1 + 1 + 4 * 3 + 8 + 4 * 2 + 2 + d.text.size = _
  omega

/-- Those that leave a value. -/
def bdIP (G k l se ep sq pos sm mp : Nat) (text x0 x1 x2 x3 x4 x5 : ByteArray) (i : Nat) (v : Value) : Prop := match i with
  | 0 => v = .pointer (some ⟨G, 0, none⟩)
  | 1 => v = .int .i64 (k : Nat)
  | 2 => v = .int .u64 (k : Nat)
  | 3 => v = .string x0
  | 4 => v = .string ((⟨#[76, 71]⟩ : ByteArray) ++ x0)
  | 5 => v = .int .u64 (l : Nat)
  | 6 => v = .string x1
  | 7 => v = .string (((⟨#[76, 71]⟩ : ByteArray) ++ x0) ++ x1)
  | 8 => v = .pointer (some ⟨G, 1, none⟩)
  | 9 => v = .int .u32 (se : Nat)
  | 10 => v = .pointer (some ⟨G, 2, none⟩)
  | 11 => v = .int .u32 (ep : Nat)
  | 12 => v = .pointer (some ⟨G, 3, none⟩)
  | 13 => v = .int .u32 (sq : Nat)
  | 15 => v = .string x2
  | 16 => v = .string ((((⟨#[76, 71]⟩ : ByteArray) ++ x0) ++ x1) ++ x2)
  | 17 => v = .pointer (some ⟨G, 4, none⟩)
  | 18 => v = .int .u64 (pos : Nat)
  | 19 => v = .string x3
  | 20 => v = .string (((((⟨#[76, 71]⟩ : ByteArray) ++ x0) ++ x1) ++ x2) ++ x3)
  | 21 => v = .pointer (some ⟨G, 5, none⟩)
  | 22 => v = .int .u32 (sm : Nat)
  | 23 => v = .pointer (some ⟨G, 6, none⟩)
  | 24 => v = .int .u32 (mp : Nat)
  | 26 => v = .string x4
  | 27 => v = .string ((((((⟨#[76, 71]⟩ : ByteArray) ++ x0) ++ x1) ++ x2) ++ x3) ++ x4)
  | 28 => v = .pointer (some ⟨G, 8, none⟩)
  | 29 => v = .string text
  | 30 => v = .int .i64 (text.size : Nat)
  | 31 => v = .int .u64 (text.size : Nat)
  | 32 => v = .string x5
  | 33 => v = .string (((((((⟨#[76, 71]⟩ : ByteArray) ++ x0) ++ x1) ++ x2) ++ x3) ++ x4) ++ x5)
  | 34 => v = .pointer (some ⟨G, 8, none⟩)
  | 35 => v = .string text
  | 36 => v = .string ((((((((⟨#[76, 71]⟩ : ByteArray) ++ x0) ++ x1) ++ x2) ++ x3) ++ x4) ++ x5) ++ text)
  | 37 => v = .string ((((((((⟨#[76, 71]⟩ : ByteArray) ++ x0) ++ x1) ++ x2) ++ x3) ++ x4) ++ x5) ++ text)
  | _ => True

/-- What each operation leaves. -/
def bdI (G k l se ep sq pos sm mp : Nat) (text x0 x1 x2 x3 x4 x5 : ByteArray) (i : Nat) (v : Value) (W : World) : Prop := match i with
  | 14 => Reads W v (u32V [se, ep, sq])
  | 25 => Reads W v (u32V [sm, mp])
  | n => bdIP G k l se ep sq pos sm mp text x0 x1 x2 x3 x4 x5 n v

theorem bdI_touch {G k l se ep sq pos sm mp : Nat} {text x0 x1 x2 x3 x4 x5 : ByteArray} {i : Nat} {v : Value} {W W' : World} (ht : Touch (fun _ => False) W W') (h : bdI G k l se ep sq pos sm mp text x0 x1 x2 x3 x4 x5 i v W) : bdI G k l se ep sq pos sm mp text x0 x1 x2 x3 x4 x5 i v W' := by
  unfold bdI at h ⊢
  split
  · exact Reads.still h ht
  · exact Reads.still h ht
  · split at h
    · contradiction
    · contradiction
    · exact h

set_option maxHeartbeats 8000000 in
theorem body_k (k se ep sq pos sm mp : Nat) (last : Bool) (text : ByteArray) (hk5 : k < 256) (h0 : se < 4294967296) (h1 : ep < 4294967296) (h2 : sq < 4294967296) (_h3 : pos < 18446744073709551616) (h4 : sm < 4294967296) (h5 : mp < 4294967296) (ht : text.size ≤ 1000000) (w : World) :
    Calls Try.prog 33 #[(Dg.mk (k : Nat) se ep sq pos sm mp last text).v] w fun e w' => e = .returned (.string (bodyB ⟨(k : Nat), se, ep, sq, pos, sm, mp, last, text⟩)) ∧ Touch (fun _ => False) w w' := by
  have hw0 : IntKind.u64.wrap (k : Int) = (k : Int) := by rw [IntKind.wrap_u64]; omega
  have hw1 : IntKind.u64.wrap (text.size : Int) = (text.size : Int) := by rw [IntKind.wrap_u64]; omega
  obtain ⟨l, hl⟩ : ∃ l : Nat, (if last then 1 else 0) = l := ⟨_, rfl⟩
  obtain ⟨u0, hu0, hu1, hu2, hu3⟩ := info_parts Try.infoU32
  unfold bodyB Dg.v Dg.cells
  simp only
  rw [hl, show ((k : Nat) : Int).toNat = k by simp]
  have sM : (⟨#[76, 71]⟩ : ByteArray).size = 2 := rfl
  have H0 := Lib.hid (fun W => wput_calls k 1 W (by omega) (by omega))
  have H1 := Lib.hid (fun W => wput_calls l 1 W (by omega) (by omega))
  have H2 := Lib.hid (fun W v h => words_calls [se, ep, sq] v W (by simp; omega) (by simp) (by simp) h)
  have H3 := Lib.hid (fun W => wput_calls pos 8 W (by omega) (by omega))
  have H4 := Lib.hid (fun W v h => words_calls [sm, mp] v W (by simp; omega) (by simp) (by simp) h)
  have H5 := Lib.hid (fun W => wput_calls text.size 2 W (by omega) (by omega))
  have s0 := lB_size 1 k
  have s1 := lB_size 1 l
  have s2 : (wordsB [se, ep, sq]).size = 12 := wordsB_size _
  have s3 := lB_size 8 pos
  have s4 : (wordsB [sm, mp]).size = 8 := wordsB_size _
  have s5 := lB_size 2 text.size
  generalize lB 1 k = x0 at *
  generalize lB 1 l = x1 at *
  generalize wordsB [se, ep, sq] = x2 at *
  generalize lB 8 pos = x3 at *
  generalize wordsB [sm, mp] = x4 at *
  generalize lB 2 text.size = x5 at *
  have HD := Lib.hid hl
  clear hl
  cases last
  · obtain rfl : l = 0 := HD.out.symm
    go_enter Try.func33, Try.ntmps33
    go_upto_region 4 with fail
    have hTa := (Touch.refl (fun _ => False) w).alloc (.cells #[.int .i64 (k : Nat), .int .u32 se, .int .u32 ep, .int .u32 sq, .int .u64 pos, .int .u32 sm, .int .u32 mp, .bool false, .string text] 42)
    have hbx := Block.new w 42 [.int .i64 (k : Nat), .int .u32 se, .int .u32 ep, .int .u32 sq, .int .u64 pos, .int .u32 sm, .int .u32 mp, .bool false, .string text]
    generalize (w.alloc (.cells #[.int .i64 (k : Nat), .int .u32 se, .int .u32 ep, .int .u32 sq, .int .u64 pos, .int .u32 sm, .int .u32 mp, .bool false, .string text] 42)) = w1 at hTa hbx ⊢
    generalize w.heap.size = G at hbx ⊢
    have z0 : w1.cell? ⟨G, 0, none⟩ = some (.int .i64 (k : Nat)) := hbx.cell 0
    have z1 : w1.cell? ⟨G, 1, none⟩ = some (.int .u32 se) := hbx.cell 1
    have z2 : w1.cell? ⟨G, 2, none⟩ = some (.int .u32 ep) := hbx.cell 2
    have z3 : w1.cell? ⟨G, 3, none⟩ = some (.int .u32 sq) := hbx.cell 3
    have z4 : w1.cell? ⟨G, 4, none⟩ = some (.int .u64 pos) := hbx.cell 4
    have z5 : w1.cell? ⟨G, 5, none⟩ = some (.int .u32 sm) := hbx.cell 5
    have z6 : w1.cell? ⟨G, 6, none⟩ = some (.int .u32 mp) := hbx.cell 6
    have z8 : w1.cell? ⟨G, 8, none⟩ = some (.string text) := hbx.cell 8
    clear hbx
    refine wp_region_inv (fun W => Touch (fun _ => False) w1 W) (fun i v W => bdI G k 0 se ep sq pos sm mp text x0 x1 x2 x3 x4 x5 i v W) (by kernel_rfl) (by kernel_rfl) (by kernel_rfl) (Touch.refl _ _).drew ?_ ?_
    · intro i o hi a W hC hbase hdep
      have hlt := op_lt hi
      obtain ⟨hbd, hbs, hbb⟩ := hbase
      have b1 : a.tmps[1]? = some (.pointer (some ⟨G, 0, none⟩)) := (hbb 1 (noDst_spec (by kernel_rfl))).trans rfl
      have b3 : a.tmps[3]? = some (.int .u64 (0 : Nat)) := (hbb 3 (noDst_spec (by kernel_rfl))).trans rfl
      have y0 := hC.cell z0 id
      have y1 := hC.cell z1 id
      have y2 := hC.cell z2 id
      have y3 := hC.cell z3 id
      have y4 := hC.cell z4 id
      have y5 := hC.cell z5 id
      have y6 := hC.cell z6 id
      have y8 := hC.cell z8 id
      rcases (by simp at hlt; omega : i = 0 ∨ i = 1 ∨ i = 2 ∨ i = 3 ∨ i = 4 ∨ i = 5 ∨ i = 6 ∨ i = 7 ∨ i = 8 ∨ i = 9 ∨ i = 10 ∨ i = 11 ∨ i = 12 ∨ i = 13 ∨ i = 14 ∨ i = 15 ∨ i = 16 ∨ i = 17 ∨ i = 18 ∨ i = 19 ∨ i = 20 ∨ i = 21 ∨ i = 22 ∨ i = 23 ∨ i = 24 ∨ i = 25 ∨ i = 26 ∨ i = 27 ∨ i = 28 ∨ i = 29 ∨ i = 30 ∨ i = 31 ∨ i = 32 ∨ i = 33 ∨ i = 34 ∨ i = 35 ∨ i = 36 ∨ i = 37) with rfl | rfl | rfl | rfl | rfl | rfl | rfl | rfl | rfl | rfl | rfl | rfl | rfl | rfl | rfl | rfl | rfl | rfl | rfl | rfl | rfl | rfl | rfl | rfl | rfl | rfl | rfl | rfl | rfl | rfl | rfl | rfl | rfl | rfl | rfl | rfl | rfl | rfl
      · simp only [List.getElem?_toArray, List.getElem?_cons_zero, List.getElem?_cons_succ, Option.some.injEq] at hi
        subst hi
        clear hdep
        refine kp_val (v := .pointer (some ⟨G, 0, none⟩)) ?_ ⟨_, rfl, rfl, hC, fun _ _ h => h⟩
        simp [execOp, Act.eval, b1]
        go_simp
      · simp only [List.getElem?_toArray, List.getElem?_cons_zero, List.getElem?_cons_succ, Option.some.injEq] at hi
        subst hi
        simp [Region.binds, valOf, bdI, bdIP] at hdep
        refine kp_val (v := .int .i64 (k : Nat)) ?_ ⟨_, rfl, rfl, hC, fun _ _ h => h⟩
        simp [execOp, Act.eval, hdep]
        go_simp
      · simp only [List.getElem?_toArray, List.getElem?_cons_zero, List.getElem?_cons_succ, Option.some.injEq] at hi
        subst hi
        simp [Region.binds, valOf, bdI, bdIP] at hdep
        refine kp_val (v := .int .u64 (k : Nat)) ?_ ⟨_, rfl, rfl, hC, fun _ _ h => h⟩
        simp [execOp, Act.eval, hdep]
        go_simp
      · simp only [List.getElem?_toArray, List.getElem?_cons_zero, List.getElem?_cons_succ, Option.some.injEq] at hi
        subst hi
        simp [Region.binds, valOf, bdI, bdIP] at hdep
        refine kp_call (f := 39) (args := #[.int .u64 (k : Nat), .int .i64 1]) (v := .string x0) ?_ (H0.out W) (fun w' ht => ⟨_, rfl, rfl, hC.trans ht, fun _ _ h => bdI_touch ht h⟩)
        simp [execOp, resolve, invoke, Act.eval, hdep]
        try rfl
      · simp only [List.getElem?_toArray, List.getElem?_cons_zero, List.getElem?_cons_succ, Option.some.injEq] at hi
        subst hi
        simp [Region.binds, valOf, bdI, bdIP] at hdep
        refine kp_val (v := .string ((⟨#[76, 71]⟩ : ByteArray) ++ x0)) ?_ ⟨_, rfl, rfl, hC, fun _ _ h => h⟩
        have hadd := run_string_add_sum (P := Try.prog) W ((⟨#[76, 71]⟩ : ByteArray)) x0 (by simp only [ByteArray.size_append, sM, s0, s1, s2, s3, s4, s5]; omega)
        simp [execOp, Act.eval, hdep, eqGuard, binOp_string_add, hadd]
      · simp only [List.getElem?_toArray, List.getElem?_cons_zero, List.getElem?_cons_succ, Option.some.injEq] at hi
        subst hi
        clear hdep
        refine kp_val (v := .int .u64 (0 : Nat)) ?_ ⟨_, rfl, rfl, hC, fun _ _ h => h⟩
        simp [execOp, Act.eval, b3]
      · simp only [List.getElem?_toArray, List.getElem?_cons_zero, List.getElem?_cons_succ, Option.some.injEq] at hi
        subst hi
        simp [Region.binds, valOf, bdI, bdIP] at hdep
        refine kp_call (f := 39) (args := #[.int .u64 (0 : Nat), .int .i64 1]) (v := .string x1) ?_ (H1.out W) (fun w' ht => ⟨_, rfl, rfl, hC.trans ht, fun _ _ h => bdI_touch ht h⟩)
        simp [execOp, resolve, invoke, Act.eval, hdep]
        try rfl
      · simp only [List.getElem?_toArray, List.getElem?_cons_zero, List.getElem?_cons_succ, Option.some.injEq] at hi
        subst hi
        simp [Region.binds, valOf, bdI, bdIP] at hdep
        refine kp_val (v := .string (((⟨#[76, 71]⟩ : ByteArray) ++ x0) ++ x1)) ?_ ⟨_, rfl, rfl, hC, fun _ _ h => h⟩
        have hadd := run_string_add_sum (P := Try.prog) W ((⟨#[76, 71]⟩ : ByteArray) ++ x0) x1 (by simp only [ByteArray.size_append, sM, s0, s1, s2, s3, s4, s5]; omega)
        simp [execOp, Act.eval, hdep, eqGuard, binOp_string_add, hadd]
      · simp only [List.getElem?_toArray, List.getElem?_cons_zero, List.getElem?_cons_succ, Option.some.injEq] at hi
        subst hi
        clear hdep
        refine kp_val (v := .pointer (some ⟨G, 1, none⟩)) ?_ ⟨_, rfl, rfl, hC, fun _ _ h => h⟩
        simp [execOp, Act.eval, b1]
        go_simp
      · simp only [List.getElem?_toArray, List.getElem?_cons_zero, List.getElem?_cons_succ, Option.some.injEq] at hi
        subst hi
        simp [Region.binds, valOf, bdI, bdIP] at hdep
        refine kp_val (v := .int .u32 (se : Nat)) ?_ ⟨_, rfl, rfl, hC, fun _ _ h => h⟩
        simp [execOp, Act.eval, hdep]
        go_simp
      · simp only [List.getElem?_toArray, List.getElem?_cons_zero, List.getElem?_cons_succ, Option.some.injEq] at hi
        subst hi
        clear hdep
        refine kp_val (v := .pointer (some ⟨G, 2, none⟩)) ?_ ⟨_, rfl, rfl, hC, fun _ _ h => h⟩
        simp [execOp, Act.eval, b1]
        go_simp
      · simp only [List.getElem?_toArray, List.getElem?_cons_zero, List.getElem?_cons_succ, Option.some.injEq] at hi
        subst hi
        simp [Region.binds, valOf, bdI, bdIP] at hdep
        refine kp_val (v := .int .u32 (ep : Nat)) ?_ ⟨_, rfl, rfl, hC, fun _ _ h => h⟩
        simp [execOp, Act.eval, hdep]
        go_simp
      · simp only [List.getElem?_toArray, List.getElem?_cons_zero, List.getElem?_cons_succ, Option.some.injEq] at hi
        subst hi
        clear hdep
        refine kp_val (v := .pointer (some ⟨G, 3, none⟩)) ?_ ⟨_, rfl, rfl, hC, fun _ _ h => h⟩
        simp [execOp, Act.eval, b1]
        go_simp
      · simp only [List.getElem?_toArray, List.getElem?_cons_zero, List.getElem?_cons_succ, Option.some.injEq] at hi
        subst hi
        simp [Region.binds, valOf, bdI, bdIP] at hdep
        refine kp_val (v := .int .u32 (sq : Nat)) ?_ ⟨_, rfl, rfl, hC, fun _ _ h => h⟩
        simp [execOp, Act.eval, hdep]
        go_simp
      · simp only [List.getElem?_toArray, List.getElem?_cons_zero, List.getElem?_cons_succ, Option.some.injEq] at hi
        subst hi
        simp [Region.binds, valOf, bdI, bdIP] at hdep
        have ev : ((#[(0, Operand.tmp 15), (1, Operand.tmp 17), (2, Operand.tmp 19)] : Array (Nat × Operand)).map fun (i, x) => (i, a.eval x)).toList = [(0, Value.int .u32 (se : Nat)), (1, Value.int .u32 (ep : Nat)), (2, Value.int .u32 (sq : Nat))] := by simp [Act.eval, hdep]
        refine wp_buildSlice 29 22 3 #[(0, Operand.tmp 15), (1, Operand.tmp 17), (2, Operand.tmp 19)] rfl (u32V [se, ep, sq]).toArray u0 _ Try.underlying29 hu0 hu1 (by rw [hu2]; decide) (by rw [hu2]; decide) (by rw [ev]; simp only [hu2]; kernel_rfl) ⟨_, rfl, reads_new W [se, ep, sq] (by simp), hC.alloc _, fun _ _ h => bdI_touch ((Touch.refl _ _).alloc _) h⟩
      · simp only [List.getElem?_toArray, List.getElem?_cons_zero, List.getElem?_cons_succ, Option.some.injEq] at hi
        subst hi
        simp [Region.binds, valOf, bdI, bdIP] at hdep
        have hr : Reads W (a.tmps[20]?.getD undef) (u32V [se, ep, sq]) := by first | exact hdep | exact hdep.1 | exact hdep.2 | exact hdep.1.1 | exact hdep.2.1
        refine kp_call (f := 45) (args := #[a.tmps[20]?.getD undef]) (v := .string x2) ?_ (H2.out W _ hr) (fun w' ht => ⟨_, rfl, rfl, hC.trans ht, fun _ _ h => bdI_touch ht h⟩)
        simp [execOp, resolve, invoke, Act.eval]
        try rfl
      · simp only [List.getElem?_toArray, List.getElem?_cons_zero, List.getElem?_cons_succ, Option.some.injEq] at hi
        subst hi
        simp [Region.binds, valOf, bdI, bdIP] at hdep
        refine kp_val (v := .string ((((⟨#[76, 71]⟩ : ByteArray) ++ x0) ++ x1) ++ x2)) ?_ ⟨_, rfl, rfl, hC, fun _ _ h => h⟩
        have hadd := run_string_add_sum (P := Try.prog) W (((⟨#[76, 71]⟩ : ByteArray) ++ x0) ++ x1) x2 (by simp only [ByteArray.size_append, sM, s0, s1, s2, s3, s4, s5]; omega)
        simp [execOp, Act.eval, hdep, eqGuard, binOp_string_add, hadd]
      · simp only [List.getElem?_toArray, List.getElem?_cons_zero, List.getElem?_cons_succ, Option.some.injEq] at hi
        subst hi
        clear hdep
        refine kp_val (v := .pointer (some ⟨G, 4, none⟩)) ?_ ⟨_, rfl, rfl, hC, fun _ _ h => h⟩
        simp [execOp, Act.eval, b1]
        go_simp
      · simp only [List.getElem?_toArray, List.getElem?_cons_zero, List.getElem?_cons_succ, Option.some.injEq] at hi
        subst hi
        simp [Region.binds, valOf, bdI, bdIP] at hdep
        refine kp_val (v := .int .u64 (pos : Nat)) ?_ ⟨_, rfl, rfl, hC, fun _ _ h => h⟩
        simp [execOp, Act.eval, hdep]
        go_simp
      · simp only [List.getElem?_toArray, List.getElem?_cons_zero, List.getElem?_cons_succ, Option.some.injEq] at hi
        subst hi
        simp [Region.binds, valOf, bdI, bdIP] at hdep
        refine kp_call (f := 39) (args := #[.int .u64 (pos : Nat), .int .i64 8]) (v := .string x3) ?_ (H3.out W) (fun w' ht => ⟨_, rfl, rfl, hC.trans ht, fun _ _ h => bdI_touch ht h⟩)
        simp [execOp, resolve, invoke, Act.eval, hdep]
        try rfl
      · simp only [List.getElem?_toArray, List.getElem?_cons_zero, List.getElem?_cons_succ, Option.some.injEq] at hi
        subst hi
        simp [Region.binds, valOf, bdI, bdIP] at hdep
        refine kp_val (v := .string (((((⟨#[76, 71]⟩ : ByteArray) ++ x0) ++ x1) ++ x2) ++ x3)) ?_ ⟨_, rfl, rfl, hC, fun _ _ h => h⟩
        have hadd := run_string_add_sum (P := Try.prog) W ((((⟨#[76, 71]⟩ : ByteArray) ++ x0) ++ x1) ++ x2) x3 (by simp only [ByteArray.size_append, sM, s0, s1, s2, s3, s4, s5]; omega)
        simp [execOp, Act.eval, hdep, eqGuard, binOp_string_add, hadd]
      · simp only [List.getElem?_toArray, List.getElem?_cons_zero, List.getElem?_cons_succ, Option.some.injEq] at hi
        subst hi
        clear hdep
        refine kp_val (v := .pointer (some ⟨G, 5, none⟩)) ?_ ⟨_, rfl, rfl, hC, fun _ _ h => h⟩
        simp [execOp, Act.eval, b1]
        go_simp
      · simp only [List.getElem?_toArray, List.getElem?_cons_zero, List.getElem?_cons_succ, Option.some.injEq] at hi
        subst hi
        simp [Region.binds, valOf, bdI, bdIP] at hdep
        refine kp_val (v := .int .u32 (sm : Nat)) ?_ ⟨_, rfl, rfl, hC, fun _ _ h => h⟩
        simp [execOp, Act.eval, hdep]
        go_simp
      · simp only [List.getElem?_toArray, List.getElem?_cons_zero, List.getElem?_cons_succ, Option.some.injEq] at hi
        subst hi
        clear hdep
        refine kp_val (v := .pointer (some ⟨G, 6, none⟩)) ?_ ⟨_, rfl, rfl, hC, fun _ _ h => h⟩
        simp [execOp, Act.eval, b1]
        go_simp
      · simp only [List.getElem?_toArray, List.getElem?_cons_zero, List.getElem?_cons_succ, Option.some.injEq] at hi
        subst hi
        simp [Region.binds, valOf, bdI, bdIP] at hdep
        refine kp_val (v := .int .u32 (mp : Nat)) ?_ ⟨_, rfl, rfl, hC, fun _ _ h => h⟩
        simp [execOp, Act.eval, hdep]
        go_simp
      · simp only [List.getElem?_toArray, List.getElem?_cons_zero, List.getElem?_cons_succ, Option.some.injEq] at hi
        subst hi
        simp [Region.binds, valOf, bdI, bdIP] at hdep
        have ev : ((#[(0, Operand.tmp 28), (1, Operand.tmp 30)] : Array (Nat × Operand)).map fun (i, x) => (i, a.eval x)).toList = [(0, Value.int .u32 (sm : Nat)), (1, Value.int .u32 (mp : Nat))] := by simp [Act.eval, hdep]
        refine wp_buildSlice 29 22 2 #[(0, Operand.tmp 28), (1, Operand.tmp 30)] rfl (u32V [sm, mp]).toArray u0 _ Try.underlying29 hu0 hu1 (by rw [hu2]; decide) (by rw [hu2]; decide) (by rw [ev]; simp only [hu2]; kernel_rfl) ⟨_, rfl, reads_new W [sm, mp] (by simp), hC.alloc _, fun _ _ h => bdI_touch ((Touch.refl _ _).alloc _) h⟩
      · simp only [List.getElem?_toArray, List.getElem?_cons_zero, List.getElem?_cons_succ, Option.some.injEq] at hi
        subst hi
        simp [Region.binds, valOf, bdI, bdIP] at hdep
        have hr : Reads W (a.tmps[31]?.getD undef) (u32V [sm, mp]) := by first | exact hdep | exact hdep.1 | exact hdep.2 | exact hdep.1.1 | exact hdep.2.1
        refine kp_call (f := 45) (args := #[a.tmps[31]?.getD undef]) (v := .string x4) ?_ (H4.out W _ hr) (fun w' ht => ⟨_, rfl, rfl, hC.trans ht, fun _ _ h => bdI_touch ht h⟩)
        simp [execOp, resolve, invoke, Act.eval]
        try rfl
      · simp only [List.getElem?_toArray, List.getElem?_cons_zero, List.getElem?_cons_succ, Option.some.injEq] at hi
        subst hi
        simp [Region.binds, valOf, bdI, bdIP] at hdep
        refine kp_val (v := .string ((((((⟨#[76, 71]⟩ : ByteArray) ++ x0) ++ x1) ++ x2) ++ x3) ++ x4)) ?_ ⟨_, rfl, rfl, hC, fun _ _ h => h⟩
        have hadd := run_string_add_sum (P := Try.prog) W (((((⟨#[76, 71]⟩ : ByteArray) ++ x0) ++ x1) ++ x2) ++ x3) x4 (by simp only [ByteArray.size_append, sM, s0, s1, s2, s3, s4, s5]; omega)
        simp [execOp, Act.eval, hdep, eqGuard, binOp_string_add, hadd]
      · simp only [List.getElem?_toArray, List.getElem?_cons_zero, List.getElem?_cons_succ, Option.some.injEq] at hi
        subst hi
        clear hdep
        refine kp_val (v := .pointer (some ⟨G, 8, none⟩)) ?_ ⟨_, rfl, rfl, hC, fun _ _ h => h⟩
        simp [execOp, Act.eval, b1]
        go_simp
      · simp only [List.getElem?_toArray, List.getElem?_cons_zero, List.getElem?_cons_succ, Option.some.injEq] at hi
        subst hi
        simp [Region.binds, valOf, bdI, bdIP] at hdep
        refine kp_val (v := .string text) ?_ ⟨_, rfl, rfl, hC, fun _ _ h => h⟩
        simp [execOp, Act.eval, hdep]
        go_simp
      · simp only [List.getElem?_toArray, List.getElem?_cons_zero, List.getElem?_cons_succ, Option.some.injEq] at hi
        subst hi
        simp [Region.binds, valOf, bdI, bdIP] at hdep
        refine kp_val (v := .int .i64 (text.size : Nat)) ?_ ⟨_, rfl, rfl, hC, fun _ _ h => h⟩
        simp [execOp, resolve, invoke, Act.eval, hdep]
        go_simp
      · simp only [List.getElem?_toArray, List.getElem?_cons_zero, List.getElem?_cons_succ, Option.some.injEq] at hi
        subst hi
        simp [Region.binds, valOf, bdI, bdIP] at hdep
        refine kp_val (v := .int .u64 (text.size : Nat)) ?_ ⟨_, rfl, rfl, hC, fun _ _ h => h⟩
        simp [execOp, Act.eval, hdep]
        go_simp
      · simp only [List.getElem?_toArray, List.getElem?_cons_zero, List.getElem?_cons_succ, Option.some.injEq] at hi
        subst hi
        simp [Region.binds, valOf, bdI, bdIP] at hdep
        refine kp_call (f := 39) (args := #[.int .u64 (text.size : Nat), .int .i64 2]) (v := .string x5) ?_ (H5.out W) (fun w' ht => ⟨_, rfl, rfl, hC.trans ht, fun _ _ h => bdI_touch ht h⟩)
        simp [execOp, resolve, invoke, Act.eval, hdep]
        try rfl
      · simp only [List.getElem?_toArray, List.getElem?_cons_zero, List.getElem?_cons_succ, Option.some.injEq] at hi
        subst hi
        simp [Region.binds, valOf, bdI, bdIP] at hdep
        refine kp_val (v := .string (((((((⟨#[76, 71]⟩ : ByteArray) ++ x0) ++ x1) ++ x2) ++ x3) ++ x4) ++ x5)) ?_ ⟨_, rfl, rfl, hC, fun _ _ h => h⟩
        have hadd := run_string_add_sum (P := Try.prog) W ((((((⟨#[76, 71]⟩ : ByteArray) ++ x0) ++ x1) ++ x2) ++ x3) ++ x4) x5 (by simp only [ByteArray.size_append, sM, s0, s1, s2, s3, s4, s5]; omega)
        simp [execOp, Act.eval, hdep, eqGuard, binOp_string_add, hadd]
      · simp only [List.getElem?_toArray, List.getElem?_cons_zero, List.getElem?_cons_succ, Option.some.injEq] at hi
        subst hi
        clear hdep
        refine kp_val (v := .pointer (some ⟨G, 8, none⟩)) ?_ ⟨_, rfl, rfl, hC, fun _ _ h => h⟩
        simp [execOp, Act.eval, b1]
        go_simp
      · simp only [List.getElem?_toArray, List.getElem?_cons_zero, List.getElem?_cons_succ, Option.some.injEq] at hi
        subst hi
        simp [Region.binds, valOf, bdI, bdIP] at hdep
        refine kp_val (v := .string text) ?_ ⟨_, rfl, rfl, hC, fun _ _ h => h⟩
        simp [execOp, Act.eval, hdep]
        go_simp
      · simp only [List.getElem?_toArray, List.getElem?_cons_zero, List.getElem?_cons_succ, Option.some.injEq] at hi
        subst hi
        simp [Region.binds, valOf, bdI, bdIP] at hdep
        refine kp_val (v := .string ((((((((⟨#[76, 71]⟩ : ByteArray) ++ x0) ++ x1) ++ x2) ++ x3) ++ x4) ++ x5) ++ text)) ?_ ⟨_, rfl, rfl, hC, fun _ _ h => h⟩
        have hadd := run_string_add_sum (P := Try.prog) W (((((((⟨#[76, 71]⟩ : ByteArray) ++ x0) ++ x1) ++ x2) ++ x3) ++ x4) ++ x5) text (by simp only [ByteArray.size_append, sM, s0, s1, s2, s3, s4, s5]; omega)
        simp [execOp, Act.eval, hdep, eqGuard, binOp_string_add, hadd]
      · simp only [List.getElem?_toArray, List.getElem?_cons_zero, List.getElem?_cons_succ, Option.some.injEq] at hi
        subst hi
        simp [Region.binds, valOf, bdI, bdIP] at hdep
        refine kp_val (v := .string ((((((((⟨#[76, 71]⟩ : ByteArray) ++ x0) ++ x1) ++ x2) ++ x3) ++ x4) ++ x5) ++ text)) ?_ ⟨_, rfl, rfl, hC, fun _ _ h => h⟩
        simp [execOp, Act.eval, hdep]
    · intro a W hC hbase hall
      have hx : a.tmps.getD 2 undef = Value.string ((((((((⟨#[76, 71]⟩ : ByteArray) ++ x0) ++ x1) ++ x2) ++ x3) ++ x4) ++ x5) ++ text) := hall 37 _ rfl
      obtain ⟨hbd, hbs, hbb⟩ := hbase
      have hdf : a.defers = [] := hbd
      clear hall hbb hbd
      rename_i hK
      refine hK a W ?_
      go_wp2_with fail
      exact bodyPost_ret (results_tmp rfl _ _ _) hdf ⟨by rw [hx], hTa.trans hC⟩
  · obtain rfl : l = 1 := HD.out.symm
    go_enter Try.func33, Try.ntmps33
    go_upto_region 4 with fail
    have hTa := (Touch.refl (fun _ => False) w).alloc (.cells #[.int .i64 (k : Nat), .int .u32 se, .int .u32 ep, .int .u32 sq, .int .u64 pos, .int .u32 sm, .int .u32 mp, .bool true, .string text] 42)
    have hbx := Block.new w 42 [.int .i64 (k : Nat), .int .u32 se, .int .u32 ep, .int .u32 sq, .int .u64 pos, .int .u32 sm, .int .u32 mp, .bool true, .string text]
    generalize (w.alloc (.cells #[.int .i64 (k : Nat), .int .u32 se, .int .u32 ep, .int .u32 sq, .int .u64 pos, .int .u32 sm, .int .u32 mp, .bool true, .string text] 42)) = w1 at hTa hbx ⊢
    generalize w.heap.size = G at hbx ⊢
    have z0 : w1.cell? ⟨G, 0, none⟩ = some (.int .i64 (k : Nat)) := hbx.cell 0
    have z1 : w1.cell? ⟨G, 1, none⟩ = some (.int .u32 se) := hbx.cell 1
    have z2 : w1.cell? ⟨G, 2, none⟩ = some (.int .u32 ep) := hbx.cell 2
    have z3 : w1.cell? ⟨G, 3, none⟩ = some (.int .u32 sq) := hbx.cell 3
    have z4 : w1.cell? ⟨G, 4, none⟩ = some (.int .u64 pos) := hbx.cell 4
    have z5 : w1.cell? ⟨G, 5, none⟩ = some (.int .u32 sm) := hbx.cell 5
    have z6 : w1.cell? ⟨G, 6, none⟩ = some (.int .u32 mp) := hbx.cell 6
    have z8 : w1.cell? ⟨G, 8, none⟩ = some (.string text) := hbx.cell 8
    clear hbx
    refine wp_region_inv (fun W => Touch (fun _ => False) w1 W) (fun i v W => bdI G k 1 se ep sq pos sm mp text x0 x1 x2 x3 x4 x5 i v W) (by kernel_rfl) (by kernel_rfl) (by kernel_rfl) (Touch.refl _ _).drew ?_ ?_
    · intro i o hi a W hC hbase hdep
      have hlt := op_lt hi
      obtain ⟨hbd, hbs, hbb⟩ := hbase
      have b1 : a.tmps[1]? = some (.pointer (some ⟨G, 0, none⟩)) := (hbb 1 (noDst_spec (by kernel_rfl))).trans rfl
      have b3 : a.tmps[3]? = some (.int .u64 (1 : Nat)) := (hbb 3 (noDst_spec (by kernel_rfl))).trans rfl
      have y0 := hC.cell z0 id
      have y1 := hC.cell z1 id
      have y2 := hC.cell z2 id
      have y3 := hC.cell z3 id
      have y4 := hC.cell z4 id
      have y5 := hC.cell z5 id
      have y6 := hC.cell z6 id
      have y8 := hC.cell z8 id
      rcases (by simp at hlt; omega : i = 0 ∨ i = 1 ∨ i = 2 ∨ i = 3 ∨ i = 4 ∨ i = 5 ∨ i = 6 ∨ i = 7 ∨ i = 8 ∨ i = 9 ∨ i = 10 ∨ i = 11 ∨ i = 12 ∨ i = 13 ∨ i = 14 ∨ i = 15 ∨ i = 16 ∨ i = 17 ∨ i = 18 ∨ i = 19 ∨ i = 20 ∨ i = 21 ∨ i = 22 ∨ i = 23 ∨ i = 24 ∨ i = 25 ∨ i = 26 ∨ i = 27 ∨ i = 28 ∨ i = 29 ∨ i = 30 ∨ i = 31 ∨ i = 32 ∨ i = 33 ∨ i = 34 ∨ i = 35 ∨ i = 36 ∨ i = 37) with rfl | rfl | rfl | rfl | rfl | rfl | rfl | rfl | rfl | rfl | rfl | rfl | rfl | rfl | rfl | rfl | rfl | rfl | rfl | rfl | rfl | rfl | rfl | rfl | rfl | rfl | rfl | rfl | rfl | rfl | rfl | rfl | rfl | rfl | rfl | rfl | rfl | rfl
      · simp only [List.getElem?_toArray, List.getElem?_cons_zero, List.getElem?_cons_succ, Option.some.injEq] at hi
        subst hi
        clear hdep
        refine kp_val (v := .pointer (some ⟨G, 0, none⟩)) ?_ ⟨_, rfl, rfl, hC, fun _ _ h => h⟩
        simp [execOp, Act.eval, b1]
        go_simp
      · simp only [List.getElem?_toArray, List.getElem?_cons_zero, List.getElem?_cons_succ, Option.some.injEq] at hi
        subst hi
        simp [Region.binds, valOf, bdI, bdIP] at hdep
        refine kp_val (v := .int .i64 (k : Nat)) ?_ ⟨_, rfl, rfl, hC, fun _ _ h => h⟩
        simp [execOp, Act.eval, hdep]
        go_simp
      · simp only [List.getElem?_toArray, List.getElem?_cons_zero, List.getElem?_cons_succ, Option.some.injEq] at hi
        subst hi
        simp [Region.binds, valOf, bdI, bdIP] at hdep
        refine kp_val (v := .int .u64 (k : Nat)) ?_ ⟨_, rfl, rfl, hC, fun _ _ h => h⟩
        simp [execOp, Act.eval, hdep]
        go_simp
      · simp only [List.getElem?_toArray, List.getElem?_cons_zero, List.getElem?_cons_succ, Option.some.injEq] at hi
        subst hi
        simp [Region.binds, valOf, bdI, bdIP] at hdep
        refine kp_call (f := 39) (args := #[.int .u64 (k : Nat), .int .i64 1]) (v := .string x0) ?_ (H0.out W) (fun w' ht => ⟨_, rfl, rfl, hC.trans ht, fun _ _ h => bdI_touch ht h⟩)
        simp [execOp, resolve, invoke, Act.eval, hdep]
        try rfl
      · simp only [List.getElem?_toArray, List.getElem?_cons_zero, List.getElem?_cons_succ, Option.some.injEq] at hi
        subst hi
        simp [Region.binds, valOf, bdI, bdIP] at hdep
        refine kp_val (v := .string ((⟨#[76, 71]⟩ : ByteArray) ++ x0)) ?_ ⟨_, rfl, rfl, hC, fun _ _ h => h⟩
        have hadd := run_string_add_sum (P := Try.prog) W ((⟨#[76, 71]⟩ : ByteArray)) x0 (by simp only [ByteArray.size_append, sM, s0, s1, s2, s3, s4, s5]; omega)
        simp [execOp, Act.eval, hdep, eqGuard, binOp_string_add, hadd]
      · simp only [List.getElem?_toArray, List.getElem?_cons_zero, List.getElem?_cons_succ, Option.some.injEq] at hi
        subst hi
        clear hdep
        refine kp_val (v := .int .u64 (1 : Nat)) ?_ ⟨_, rfl, rfl, hC, fun _ _ h => h⟩
        simp [execOp, Act.eval, b3]
      · simp only [List.getElem?_toArray, List.getElem?_cons_zero, List.getElem?_cons_succ, Option.some.injEq] at hi
        subst hi
        simp [Region.binds, valOf, bdI, bdIP] at hdep
        refine kp_call (f := 39) (args := #[.int .u64 (1 : Nat), .int .i64 1]) (v := .string x1) ?_ (H1.out W) (fun w' ht => ⟨_, rfl, rfl, hC.trans ht, fun _ _ h => bdI_touch ht h⟩)
        simp [execOp, resolve, invoke, Act.eval, hdep]
        try rfl
      · simp only [List.getElem?_toArray, List.getElem?_cons_zero, List.getElem?_cons_succ, Option.some.injEq] at hi
        subst hi
        simp [Region.binds, valOf, bdI, bdIP] at hdep
        refine kp_val (v := .string (((⟨#[76, 71]⟩ : ByteArray) ++ x0) ++ x1)) ?_ ⟨_, rfl, rfl, hC, fun _ _ h => h⟩
        have hadd := run_string_add_sum (P := Try.prog) W ((⟨#[76, 71]⟩ : ByteArray) ++ x0) x1 (by simp only [ByteArray.size_append, sM, s0, s1, s2, s3, s4, s5]; omega)
        simp [execOp, Act.eval, hdep, eqGuard, binOp_string_add, hadd]
      · simp only [List.getElem?_toArray, List.getElem?_cons_zero, List.getElem?_cons_succ, Option.some.injEq] at hi
        subst hi
        clear hdep
        refine kp_val (v := .pointer (some ⟨G, 1, none⟩)) ?_ ⟨_, rfl, rfl, hC, fun _ _ h => h⟩
        simp [execOp, Act.eval, b1]
        go_simp
      · simp only [List.getElem?_toArray, List.getElem?_cons_zero, List.getElem?_cons_succ, Option.some.injEq] at hi
        subst hi
        simp [Region.binds, valOf, bdI, bdIP] at hdep
        refine kp_val (v := .int .u32 (se : Nat)) ?_ ⟨_, rfl, rfl, hC, fun _ _ h => h⟩
        simp [execOp, Act.eval, hdep]
        go_simp
      · simp only [List.getElem?_toArray, List.getElem?_cons_zero, List.getElem?_cons_succ, Option.some.injEq] at hi
        subst hi
        clear hdep
        refine kp_val (v := .pointer (some ⟨G, 2, none⟩)) ?_ ⟨_, rfl, rfl, hC, fun _ _ h => h⟩
        simp [execOp, Act.eval, b1]
        go_simp
      · simp only [List.getElem?_toArray, List.getElem?_cons_zero, List.getElem?_cons_succ, Option.some.injEq] at hi
        subst hi
        simp [Region.binds, valOf, bdI, bdIP] at hdep
        refine kp_val (v := .int .u32 (ep : Nat)) ?_ ⟨_, rfl, rfl, hC, fun _ _ h => h⟩
        simp [execOp, Act.eval, hdep]
        go_simp
      · simp only [List.getElem?_toArray, List.getElem?_cons_zero, List.getElem?_cons_succ, Option.some.injEq] at hi
        subst hi
        clear hdep
        refine kp_val (v := .pointer (some ⟨G, 3, none⟩)) ?_ ⟨_, rfl, rfl, hC, fun _ _ h => h⟩
        simp [execOp, Act.eval, b1]
        go_simp
      · simp only [List.getElem?_toArray, List.getElem?_cons_zero, List.getElem?_cons_succ, Option.some.injEq] at hi
        subst hi
        simp [Region.binds, valOf, bdI, bdIP] at hdep
        refine kp_val (v := .int .u32 (sq : Nat)) ?_ ⟨_, rfl, rfl, hC, fun _ _ h => h⟩
        simp [execOp, Act.eval, hdep]
        go_simp
      · simp only [List.getElem?_toArray, List.getElem?_cons_zero, List.getElem?_cons_succ, Option.some.injEq] at hi
        subst hi
        simp [Region.binds, valOf, bdI, bdIP] at hdep
        have ev : ((#[(0, Operand.tmp 15), (1, Operand.tmp 17), (2, Operand.tmp 19)] : Array (Nat × Operand)).map fun (i, x) => (i, a.eval x)).toList = [(0, Value.int .u32 (se : Nat)), (1, Value.int .u32 (ep : Nat)), (2, Value.int .u32 (sq : Nat))] := by simp [Act.eval, hdep]
        refine wp_buildSlice 29 22 3 #[(0, Operand.tmp 15), (1, Operand.tmp 17), (2, Operand.tmp 19)] rfl (u32V [se, ep, sq]).toArray u0 _ Try.underlying29 hu0 hu1 (by rw [hu2]; decide) (by rw [hu2]; decide) (by rw [ev]; simp only [hu2]; kernel_rfl) ⟨_, rfl, reads_new W [se, ep, sq] (by simp), hC.alloc _, fun _ _ h => bdI_touch ((Touch.refl _ _).alloc _) h⟩
      · simp only [List.getElem?_toArray, List.getElem?_cons_zero, List.getElem?_cons_succ, Option.some.injEq] at hi
        subst hi
        simp [Region.binds, valOf, bdI, bdIP] at hdep
        have hr : Reads W (a.tmps[20]?.getD undef) (u32V [se, ep, sq]) := by first | exact hdep | exact hdep.1 | exact hdep.2 | exact hdep.1.1 | exact hdep.2.1
        refine kp_call (f := 45) (args := #[a.tmps[20]?.getD undef]) (v := .string x2) ?_ (H2.out W _ hr) (fun w' ht => ⟨_, rfl, rfl, hC.trans ht, fun _ _ h => bdI_touch ht h⟩)
        simp [execOp, resolve, invoke, Act.eval]
        try rfl
      · simp only [List.getElem?_toArray, List.getElem?_cons_zero, List.getElem?_cons_succ, Option.some.injEq] at hi
        subst hi
        simp [Region.binds, valOf, bdI, bdIP] at hdep
        refine kp_val (v := .string ((((⟨#[76, 71]⟩ : ByteArray) ++ x0) ++ x1) ++ x2)) ?_ ⟨_, rfl, rfl, hC, fun _ _ h => h⟩
        have hadd := run_string_add_sum (P := Try.prog) W (((⟨#[76, 71]⟩ : ByteArray) ++ x0) ++ x1) x2 (by simp only [ByteArray.size_append, sM, s0, s1, s2, s3, s4, s5]; omega)
        simp [execOp, Act.eval, hdep, eqGuard, binOp_string_add, hadd]
      · simp only [List.getElem?_toArray, List.getElem?_cons_zero, List.getElem?_cons_succ, Option.some.injEq] at hi
        subst hi
        clear hdep
        refine kp_val (v := .pointer (some ⟨G, 4, none⟩)) ?_ ⟨_, rfl, rfl, hC, fun _ _ h => h⟩
        simp [execOp, Act.eval, b1]
        go_simp
      · simp only [List.getElem?_toArray, List.getElem?_cons_zero, List.getElem?_cons_succ, Option.some.injEq] at hi
        subst hi
        simp [Region.binds, valOf, bdI, bdIP] at hdep
        refine kp_val (v := .int .u64 (pos : Nat)) ?_ ⟨_, rfl, rfl, hC, fun _ _ h => h⟩
        simp [execOp, Act.eval, hdep]
        go_simp
      · simp only [List.getElem?_toArray, List.getElem?_cons_zero, List.getElem?_cons_succ, Option.some.injEq] at hi
        subst hi
        simp [Region.binds, valOf, bdI, bdIP] at hdep
        refine kp_call (f := 39) (args := #[.int .u64 (pos : Nat), .int .i64 8]) (v := .string x3) ?_ (H3.out W) (fun w' ht => ⟨_, rfl, rfl, hC.trans ht, fun _ _ h => bdI_touch ht h⟩)
        simp [execOp, resolve, invoke, Act.eval, hdep]
        try rfl
      · simp only [List.getElem?_toArray, List.getElem?_cons_zero, List.getElem?_cons_succ, Option.some.injEq] at hi
        subst hi
        simp [Region.binds, valOf, bdI, bdIP] at hdep
        refine kp_val (v := .string (((((⟨#[76, 71]⟩ : ByteArray) ++ x0) ++ x1) ++ x2) ++ x3)) ?_ ⟨_, rfl, rfl, hC, fun _ _ h => h⟩
        have hadd := run_string_add_sum (P := Try.prog) W ((((⟨#[76, 71]⟩ : ByteArray) ++ x0) ++ x1) ++ x2) x3 (by simp only [ByteArray.size_append, sM, s0, s1, s2, s3, s4, s5]; omega)
        simp [execOp, Act.eval, hdep, eqGuard, binOp_string_add, hadd]
      · simp only [List.getElem?_toArray, List.getElem?_cons_zero, List.getElem?_cons_succ, Option.some.injEq] at hi
        subst hi
        clear hdep
        refine kp_val (v := .pointer (some ⟨G, 5, none⟩)) ?_ ⟨_, rfl, rfl, hC, fun _ _ h => h⟩
        simp [execOp, Act.eval, b1]
        go_simp
      · simp only [List.getElem?_toArray, List.getElem?_cons_zero, List.getElem?_cons_succ, Option.some.injEq] at hi
        subst hi
        simp [Region.binds, valOf, bdI, bdIP] at hdep
        refine kp_val (v := .int .u32 (sm : Nat)) ?_ ⟨_, rfl, rfl, hC, fun _ _ h => h⟩
        simp [execOp, Act.eval, hdep]
        go_simp
      · simp only [List.getElem?_toArray, List.getElem?_cons_zero, List.getElem?_cons_succ, Option.some.injEq] at hi
        subst hi
        clear hdep
        refine kp_val (v := .pointer (some ⟨G, 6, none⟩)) ?_ ⟨_, rfl, rfl, hC, fun _ _ h => h⟩
        simp [execOp, Act.eval, b1]
        go_simp
      · simp only [List.getElem?_toArray, List.getElem?_cons_zero, List.getElem?_cons_succ, Option.some.injEq] at hi
        subst hi
        simp [Region.binds, valOf, bdI, bdIP] at hdep
        refine kp_val (v := .int .u32 (mp : Nat)) ?_ ⟨_, rfl, rfl, hC, fun _ _ h => h⟩
        simp [execOp, Act.eval, hdep]
        go_simp
      · simp only [List.getElem?_toArray, List.getElem?_cons_zero, List.getElem?_cons_succ, Option.some.injEq] at hi
        subst hi
        simp [Region.binds, valOf, bdI, bdIP] at hdep
        have ev : ((#[(0, Operand.tmp 28), (1, Operand.tmp 30)] : Array (Nat × Operand)).map fun (i, x) => (i, a.eval x)).toList = [(0, Value.int .u32 (sm : Nat)), (1, Value.int .u32 (mp : Nat))] := by simp [Act.eval, hdep]
        refine wp_buildSlice 29 22 2 #[(0, Operand.tmp 28), (1, Operand.tmp 30)] rfl (u32V [sm, mp]).toArray u0 _ Try.underlying29 hu0 hu1 (by rw [hu2]; decide) (by rw [hu2]; decide) (by rw [ev]; simp only [hu2]; kernel_rfl) ⟨_, rfl, reads_new W [sm, mp] (by simp), hC.alloc _, fun _ _ h => bdI_touch ((Touch.refl _ _).alloc _) h⟩
      · simp only [List.getElem?_toArray, List.getElem?_cons_zero, List.getElem?_cons_succ, Option.some.injEq] at hi
        subst hi
        simp [Region.binds, valOf, bdI, bdIP] at hdep
        have hr : Reads W (a.tmps[31]?.getD undef) (u32V [sm, mp]) := by first | exact hdep | exact hdep.1 | exact hdep.2 | exact hdep.1.1 | exact hdep.2.1
        refine kp_call (f := 45) (args := #[a.tmps[31]?.getD undef]) (v := .string x4) ?_ (H4.out W _ hr) (fun w' ht => ⟨_, rfl, rfl, hC.trans ht, fun _ _ h => bdI_touch ht h⟩)
        simp [execOp, resolve, invoke, Act.eval]
        try rfl
      · simp only [List.getElem?_toArray, List.getElem?_cons_zero, List.getElem?_cons_succ, Option.some.injEq] at hi
        subst hi
        simp [Region.binds, valOf, bdI, bdIP] at hdep
        refine kp_val (v := .string ((((((⟨#[76, 71]⟩ : ByteArray) ++ x0) ++ x1) ++ x2) ++ x3) ++ x4)) ?_ ⟨_, rfl, rfl, hC, fun _ _ h => h⟩
        have hadd := run_string_add_sum (P := Try.prog) W (((((⟨#[76, 71]⟩ : ByteArray) ++ x0) ++ x1) ++ x2) ++ x3) x4 (by simp only [ByteArray.size_append, sM, s0, s1, s2, s3, s4, s5]; omega)
        simp [execOp, Act.eval, hdep, eqGuard, binOp_string_add, hadd]
      · simp only [List.getElem?_toArray, List.getElem?_cons_zero, List.getElem?_cons_succ, Option.some.injEq] at hi
        subst hi
        clear hdep
        refine kp_val (v := .pointer (some ⟨G, 8, none⟩)) ?_ ⟨_, rfl, rfl, hC, fun _ _ h => h⟩
        simp [execOp, Act.eval, b1]
        go_simp
      · simp only [List.getElem?_toArray, List.getElem?_cons_zero, List.getElem?_cons_succ, Option.some.injEq] at hi
        subst hi
        simp [Region.binds, valOf, bdI, bdIP] at hdep
        refine kp_val (v := .string text) ?_ ⟨_, rfl, rfl, hC, fun _ _ h => h⟩
        simp [execOp, Act.eval, hdep]
        go_simp
      · simp only [List.getElem?_toArray, List.getElem?_cons_zero, List.getElem?_cons_succ, Option.some.injEq] at hi
        subst hi
        simp [Region.binds, valOf, bdI, bdIP] at hdep
        refine kp_val (v := .int .i64 (text.size : Nat)) ?_ ⟨_, rfl, rfl, hC, fun _ _ h => h⟩
        simp [execOp, resolve, invoke, Act.eval, hdep]
        go_simp
      · simp only [List.getElem?_toArray, List.getElem?_cons_zero, List.getElem?_cons_succ, Option.some.injEq] at hi
        subst hi
        simp [Region.binds, valOf, bdI, bdIP] at hdep
        refine kp_val (v := .int .u64 (text.size : Nat)) ?_ ⟨_, rfl, rfl, hC, fun _ _ h => h⟩
        simp [execOp, Act.eval, hdep]
        go_simp
      · simp only [List.getElem?_toArray, List.getElem?_cons_zero, List.getElem?_cons_succ, Option.some.injEq] at hi
        subst hi
        simp [Region.binds, valOf, bdI, bdIP] at hdep
        refine kp_call (f := 39) (args := #[.int .u64 (text.size : Nat), .int .i64 2]) (v := .string x5) ?_ (H5.out W) (fun w' ht => ⟨_, rfl, rfl, hC.trans ht, fun _ _ h => bdI_touch ht h⟩)
        simp [execOp, resolve, invoke, Act.eval, hdep]
        try rfl
      · simp only [List.getElem?_toArray, List.getElem?_cons_zero, List.getElem?_cons_succ, Option.some.injEq] at hi
        subst hi
        simp [Region.binds, valOf, bdI, bdIP] at hdep
        refine kp_val (v := .string (((((((⟨#[76, 71]⟩ : ByteArray) ++ x0) ++ x1) ++ x2) ++ x3) ++ x4) ++ x5)) ?_ ⟨_, rfl, rfl, hC, fun _ _ h => h⟩
        have hadd := run_string_add_sum (P := Try.prog) W ((((((⟨#[76, 71]⟩ : ByteArray) ++ x0) ++ x1) ++ x2) ++ x3) ++ x4) x5 (by simp only [ByteArray.size_append, sM, s0, s1, s2, s3, s4, s5]; omega)
        simp [execOp, Act.eval, hdep, eqGuard, binOp_string_add, hadd]
      · simp only [List.getElem?_toArray, List.getElem?_cons_zero, List.getElem?_cons_succ, Option.some.injEq] at hi
        subst hi
        clear hdep
        refine kp_val (v := .pointer (some ⟨G, 8, none⟩)) ?_ ⟨_, rfl, rfl, hC, fun _ _ h => h⟩
        simp [execOp, Act.eval, b1]
        go_simp
      · simp only [List.getElem?_toArray, List.getElem?_cons_zero, List.getElem?_cons_succ, Option.some.injEq] at hi
        subst hi
        simp [Region.binds, valOf, bdI, bdIP] at hdep
        refine kp_val (v := .string text) ?_ ⟨_, rfl, rfl, hC, fun _ _ h => h⟩
        simp [execOp, Act.eval, hdep]
        go_simp
      · simp only [List.getElem?_toArray, List.getElem?_cons_zero, List.getElem?_cons_succ, Option.some.injEq] at hi
        subst hi
        simp [Region.binds, valOf, bdI, bdIP] at hdep
        refine kp_val (v := .string ((((((((⟨#[76, 71]⟩ : ByteArray) ++ x0) ++ x1) ++ x2) ++ x3) ++ x4) ++ x5) ++ text)) ?_ ⟨_, rfl, rfl, hC, fun _ _ h => h⟩
        have hadd := run_string_add_sum (P := Try.prog) W (((((((⟨#[76, 71]⟩ : ByteArray) ++ x0) ++ x1) ++ x2) ++ x3) ++ x4) ++ x5) text (by simp only [ByteArray.size_append, sM, s0, s1, s2, s3, s4, s5]; omega)
        simp [execOp, Act.eval, hdep, eqGuard, binOp_string_add, hadd]
      · simp only [List.getElem?_toArray, List.getElem?_cons_zero, List.getElem?_cons_succ, Option.some.injEq] at hi
        subst hi
        simp [Region.binds, valOf, bdI, bdIP] at hdep
        refine kp_val (v := .string ((((((((⟨#[76, 71]⟩ : ByteArray) ++ x0) ++ x1) ++ x2) ++ x3) ++ x4) ++ x5) ++ text)) ?_ ⟨_, rfl, rfl, hC, fun _ _ h => h⟩
        simp [execOp, Act.eval, hdep]
    · intro a W hC hbase hall
      have hx : a.tmps.getD 2 undef = Value.string ((((((((⟨#[76, 71]⟩ : ByteArray) ++ x0) ++ x1) ++ x2) ++ x3) ++ x4) ++ x5) ++ text) := hall 37 _ rfl
      obtain ⟨hbd, hbs, hbb⟩ := hbase
      have hdf : a.defers = [] := hbd
      clear hall hbb hbd
      rename_i hK
      refine hK a W ?_
      go_wp2_with fail
      exact bodyPost_ret (results_tmp rfl _ _ _) hdf ⟨by rw [hx], hTa.trans hC⟩
end Go.Proofs.Ytmjahbdengnoeaa

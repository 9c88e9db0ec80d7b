/- Contracts of package keep, first part: a state's note. -/
import Derived.Test.YtmcakilpdecacaaWlB
import Derived.Test.YtmcakilpdecacaaRegInv2
namespace Go.Proofs.Ytmcakilpdecacaa
open Go Go.RowKit
set_option maxRecDepth 100000

/-- A state as a value; its cells. -/
def stC (se ep sz sm : Nat) (dn : Bool) : List Value := [.int .u32 se, .int .u32 ep, .int .i64 sz, .int .u32 sm, .bool dn]
def stV (se ep sz sm : Nat) (dn : Bool) : Value := .agg #[.int .u32 se, .int .u32 ep, .int .i64 sz, .int .u32 sm, .bool dn]
/-- A state's note. -/
def ntS (se ep sz sm d : Nat) : ByteArray := (((lB 4 se ++ lB 4 ep) ++ lB 8 sz) ++ lB 4 sm) ++ lB 1 d
theorem ntS_list (se ep sz sm d : Nat) : (ntS se ep sz sm d).data.toList = leB 4 se ++ (leB 4 ep ++ (leB 8 sz ++ (leB 4 sm ++ leB 1 d))) := by
  unfold ntS
  simp only [ByteArray.data_append, Array.toList_append, List.append_assoc]
  rfl
theorem ntS_size (se ep sz sm d : Nat) : (ntS se ep sz sm d).size = 21 := by
  unfold ntS
  simp only [ByteArray.size_append, lB_size]

theorem kp_val {P : Program} {o : Oper} {a : Act} {w : World} {K : Act → World → Prop} {Q : Exit → Act → World → Prop} {v : Value} (h : (execOp a.eval o).run P w = .ok (.value v) w) (hk : K (a.put o.dst v) w) : o.wp P a w K Q := by
  unfold Oper.wp
  rw [h]
  exact hk
theorem kp_val2 {P : Program} {o : Oper} {a : Act} {w w' : World} {K : Act → World → Prop} {Q : Exit → Act → World → Prop} {v : Value} (h : (execOp a.eval o).run P w = .ok (.value v) w') (hk : K (a.put o.dst v) w') : o.wp P a w K Q := by
  unfold Oper.wp
  rw [h]
  exact hk
theorem kp_call {P : Program} {o : Oper} {a : Act} {w : World} {K : Act → World → Prop} {Q : Exit → Act → World → Prop} {f : FuncId} {args : Array Value} {v : Value} (h : (execOp a.eval o).run P w = .ok (.enter f args) w)
    (hc : Calls P f args w fun e w' => e = .returned v ∧ Touch (fun _ => False) w w') (hk : ∀ w', Touch (fun _ => False) w w' → K (a.put o.dst v) w') : o.wp P a w K Q := by
  unfold Oper.wp
  rw [h]
  exact hc.mono fun e w' ⟨he, ht⟩ => by subst he; exact hk w' ht

/-- What each operation of a note leaves. -/
def ntI (G se ep sz sm d : Nat) (x0 x1 x2 x3 x4 : ByteArray) (i : Nat) (v : Value) : Prop := match i with
  | 0 => v = .pointer (some ⟨G, 0, none⟩)
  | 1 => v = .int .u32 (se : Nat)
  | 2 => v = .int .u64 (se : Nat)
  | 3 => v = .string x0
  | 4 => v = .pointer (some ⟨G, 1, none⟩)
  | 5 => v = .int .u32 (ep : Nat)
  | 6 => v = .int .u64 (ep : Nat)
  | 7 => v = .string x1
  | 8 => v = .string (x0 ++ x1)
  | 9 => v = .pointer (some ⟨G, 2, none⟩)
  | 10 => v = .int .i64 (sz : Nat)
  | 11 => v = .int .u64 (sz : Nat)
  | 12 => v = .string x2
  | 13 => v = .string ((x0 ++ x1) ++ x2)
  | 14 => v = .pointer (some ⟨G, 3, none⟩)
  | 15 => v = .int .u32 (sm : Nat)
  | 16 => v = .int .u64 (sm : Nat)
  | 17 => v = .string x3
  | 18 => v = .string (((x0 ++ x1) ++ x2) ++ x3)
  | 19 => v = .int .u64 (d : Nat)
  | 20 => v = .string x4
  | 21 => v = .string ((((x0 ++ x1) ++ x2) ++ x3) ++ x4)
  | 22 => v = .string ((((x0 ++ x1) ++ x2) ++ x3) ++ x4)
  | _ => True

set_option maxHeartbeats 4000000 in
theorem noteOf_calls (se ep sz sm : Nat) (dn : Bool) (h0 : se < 4294967296) (h1 : ep < 4294967296) (h2 : sz ≤ 4194304) (h3 : sm < 4294967296) (w : World) :
    Calls Try.prog 90 #[stV se ep sz sm dn] w fun e w' => e = .returned (.string (ntS se ep sz sm (if dn then 1 else 0))) ∧ Touch (fun _ => False) w w' := by
  have hw0 : IntKind.u64.wrap (se : Int) = (se : Int) := by rw [IntKind.wrap_u64]; omega
  have hw1 : IntKind.u64.wrap (ep : Int) = (ep : Int) := by rw [IntKind.wrap_u64]; omega
  have hw2 : IntKind.u64.wrap (sz : Int) = (sz : Int) := by rw [IntKind.wrap_u64]; omega
  have hw3 : IntKind.u64.wrap (sm : Int) = (sm : Int) := by rw [IntKind.wrap_u64]; omega
  obtain ⟨d, hd⟩ : ∃ d : Nat, (if dn then 1 else 0) = d := ⟨_, rfl⟩
  rw [hd]
  unfold ntS stV
  have H0 := Lib.hid (fun W => wput_calls se 4 W (by omega) (by omega))
  have H1 := Lib.hid (fun W => wput_calls ep 4 W (by omega) (by omega))
  have H2 := Lib.hid (fun W => wput_calls sz 8 W (by omega) (by omega))
  have H3 := Lib.hid (fun W => wput_calls sm 4 W (by omega) (by omega))
  have H4 := Lib.hid (fun W => wput_calls d 1 W (by omega) (by omega))
  have s0 := lB_size 4 se
  have s1 := lB_size 4 ep
  have s2 := lB_size 8 sz
  have s3 := lB_size 4 sm
  have s4 := lB_size 1 d
  generalize lB 4 se = x0 at *
  generalize lB 4 ep = x1 at *
  generalize lB 8 sz = x2 at *
  generalize lB 4 sm = x3 at *
  generalize lB 1 d = x4 at *
  have HD := Lib.hid hd
  clear hd
  cases dn
  · obtain rfl : d = 0 := HD.out.symm
    go_enter Try.func90, Try.ntmps90
    go_upto_region 4 with fail
    have hTa := (Touch.refl (fun _ => False) w).alloc (.cells #[.int .u32 se, .int .u32 ep, .int .i64 sz, .int .u32 sm, .bool false] 82)
    have hbx := Block.new w 82 [.int .u32 se, .int .u32 ep, .int .i64 sz, .int .u32 sm, .bool false]
    generalize (w.alloc (.cells #[.int .u32 se, .int .u32 ep, .int .i64 sz, .int .u32 sm, .bool false] 82)) = w1 at hTa hbx ⊢
    generalize w.heap.size = G at hbx ⊢
    have z0 : w1.cell? ⟨G, 0, none⟩ = some (.int .u32 se) := hbx.cell 0
    have z1 : w1.cell? ⟨G, 1, none⟩ = some (.int .u32 ep) := hbx.cell 1
    have z2 : w1.cell? ⟨G, 2, none⟩ = some (.int .i64 sz) := hbx.cell 2
    have z3 : w1.cell? ⟨G, 3, none⟩ = some (.int .u32 sm) := hbx.cell 3
    refine wp_region_inv (fun W => Touch (fun _ => False) w1 W) (fun i v _ => ntI G se ep sz sm 0 x0 x1 x2 x3 x4 i v) (by kernel_rfl) (by kernel_rfl) (by kernel_rfl) (Touch.refl _ _).drew ?_ ?_
    · intro i o hi a W hC hbase hdep
      have hlt := op_lt hi
      obtain ⟨hbd, hbs, hbb⟩ := hbase
      have b1 : a.tmps[1]? = some (.pointer (some ⟨G, 0, none⟩)) := (hbb 1 (noDst_spec (by kernel_rfl))).trans rfl
      have b3 : a.tmps[3]? = some (.int .u64 (0 : Nat)) := (hbb 3 (noDst_spec (by kernel_rfl))).trans rfl
      have y0 := hC.cell z0 id
      have y1 := hC.cell z1 id
      have y2 := hC.cell z2 id
      have y3 := hC.cell z3 id
      rcases (by simp at hlt; omega : i = 0 ∨ i = 1 ∨ i = 2 ∨ i = 3 ∨ i = 4 ∨ i = 5 ∨ i = 6 ∨ i = 7 ∨ i = 8 ∨ i = 9 ∨ i = 10 ∨ i = 11 ∨ i = 12 ∨ i = 13 ∨ i = 14 ∨ i = 15 ∨ i = 16 ∨ i = 17 ∨ i = 18 ∨ i = 19 ∨ i = 20 ∨ i = 21 ∨ i = 22) with rfl | rfl | rfl | rfl | rfl | rfl | rfl | rfl | rfl | rfl | rfl | rfl | rfl | rfl | rfl | rfl | rfl | rfl | rfl | rfl | rfl | rfl | rfl
      · simp only [List.getElem?_toArray, List.getElem?_cons_zero, List.getElem?_cons_succ, Option.some.injEq] at hi
        subst hi
        clear hdep
        refine kp_val (v := .pointer (some ⟨G, 0, none⟩)) ?_ ⟨_, rfl, rfl, hC, fun _ _ h => h⟩
        simp [execOp, Act.eval, b1]
        go_simp
      · simp only [List.getElem?_toArray, List.getElem?_cons_zero, List.getElem?_cons_succ, Option.some.injEq] at hi
        subst hi
        simp [Region.binds, valOf, ntI] at hdep
        refine kp_val (v := .int .u32 (se : Nat)) ?_ ⟨_, rfl, rfl, hC, fun _ _ h => h⟩
        simp [execOp, Act.eval, hdep]
        go_simp
      · simp only [List.getElem?_toArray, List.getElem?_cons_zero, List.getElem?_cons_succ, Option.some.injEq] at hi
        subst hi
        simp [Region.binds, valOf, ntI] at hdep
        refine kp_val (v := .int .u64 (se : Nat)) ?_ ⟨_, rfl, rfl, hC, fun _ _ h => h⟩
        simp [execOp, Act.eval, hdep]
        go_simp
      · simp only [List.getElem?_toArray, List.getElem?_cons_zero, List.getElem?_cons_succ, Option.some.injEq] at hi
        subst hi
        simp [Region.binds, valOf, ntI] at hdep
        refine kp_call (f := 106) (args := #[.int .u64 (se : Nat), .int .i64 4]) (v := .string x0) ?_ (H0.out W) (fun w' ht => ⟨_, rfl, rfl, hC.trans ht, fun _ _ h => h⟩)
        simp [execOp, resolve, invoke, Act.eval, hdep]
        try rfl
      · simp only [List.getElem?_toArray, List.getElem?_cons_zero, List.getElem?_cons_succ, Option.some.injEq] at hi
        subst hi
        clear hdep
        refine kp_val (v := .pointer (some ⟨G, 1, none⟩)) ?_ ⟨_, rfl, rfl, hC, fun _ _ h => h⟩
        simp [execOp, Act.eval, b1]
        go_simp
      · simp only [List.getElem?_toArray, List.getElem?_cons_zero, List.getElem?_cons_succ, Option.some.injEq] at hi
        subst hi
        simp [Region.binds, valOf, ntI] at hdep
        refine kp_val (v := .int .u32 (ep : Nat)) ?_ ⟨_, rfl, rfl, hC, fun _ _ h => h⟩
        simp [execOp, Act.eval, hdep]
        go_simp
      · simp only [List.getElem?_toArray, List.getElem?_cons_zero, List.getElem?_cons_succ, Option.some.injEq] at hi
        subst hi
        simp [Region.binds, valOf, ntI] at hdep
        refine kp_val (v := .int .u64 (ep : Nat)) ?_ ⟨_, rfl, rfl, hC, fun _ _ h => h⟩
        simp [execOp, Act.eval, hdep]
        go_simp
      · simp only [List.getElem?_toArray, List.getElem?_cons_zero, List.getElem?_cons_succ, Option.some.injEq] at hi
        subst hi
        simp [Region.binds, valOf, ntI] at hdep
        refine kp_call (f := 106) (args := #[.int .u64 (ep : Nat), .int .i64 4]) (v := .string x1) ?_ (H1.out W) (fun w' ht => ⟨_, rfl, rfl, hC.trans ht, fun _ _ h => h⟩)
        simp [execOp, resolve, invoke, Act.eval, hdep]
        try rfl
      · simp only [List.getElem?_toArray, List.getElem?_cons_zero, List.getElem?_cons_succ, Option.some.injEq] at hi
        subst hi
        simp [Region.binds, valOf, ntI] at hdep
        refine kp_val (v := .string (x0 ++ x1)) ?_ ⟨_, rfl, rfl, hC, fun _ _ h => h⟩
        have hadd := run_string_add_sum (P := Try.prog) W x0 x1 (by simp only [ByteArray.size_append, s0, s1, s2, s3, s4]; omega)
        simp [execOp, Act.eval, hdep, eqGuard, binOp_string_add, hadd]
      · simp only [List.getElem?_toArray, List.getElem?_cons_zero, List.getElem?_cons_succ, Option.some.injEq] at hi
        subst hi
        clear hdep
        refine kp_val (v := .pointer (some ⟨G, 2, none⟩)) ?_ ⟨_, rfl, rfl, hC, fun _ _ h => h⟩
        simp [execOp, Act.eval, b1]
        go_simp
      · simp only [List.getElem?_toArray, List.getElem?_cons_zero, List.getElem?_cons_succ, Option.some.injEq] at hi
        subst hi
        simp [Region.binds, valOf, ntI] at hdep
        refine kp_val (v := .int .i64 (sz : Nat)) ?_ ⟨_, rfl, rfl, hC, fun _ _ h => h⟩
        simp [execOp, Act.eval, hdep]
        go_simp
      · simp only [List.getElem?_toArray, List.getElem?_cons_zero, List.getElem?_cons_succ, Option.some.injEq] at hi
        subst hi
        simp [Region.binds, valOf, ntI] at hdep
        refine kp_val (v := .int .u64 (sz : Nat)) ?_ ⟨_, rfl, rfl, hC, fun _ _ h => h⟩
        simp [execOp, Act.eval, hdep]
        go_simp
      · simp only [List.getElem?_toArray, List.getElem?_cons_zero, List.getElem?_cons_succ, Option.some.injEq] at hi
        subst hi
        simp [Region.binds, valOf, ntI] at hdep
        refine kp_call (f := 106) (args := #[.int .u64 (sz : Nat), .int .i64 8]) (v := .string x2) ?_ (H2.out W) (fun w' ht => ⟨_, rfl, rfl, hC.trans ht, fun _ _ h => h⟩)
        simp [execOp, resolve, invoke, Act.eval, hdep]
        try rfl
      · simp only [List.getElem?_toArray, List.getElem?_cons_zero, List.getElem?_cons_succ, Option.some.injEq] at hi
        subst hi
        simp [Region.binds, valOf, ntI] at hdep
        refine kp_val (v := .string ((x0 ++ x1) ++ x2)) ?_ ⟨_, rfl, rfl, hC, fun _ _ h => h⟩
        have hadd := run_string_add_sum (P := Try.prog) W (x0 ++ x1) x2 (by simp only [ByteArray.size_append, s0, s1, s2, s3, s4]; omega)
        simp [execOp, Act.eval, hdep, eqGuard, binOp_string_add, hadd]
      · simp only [List.getElem?_toArray, List.getElem?_cons_zero, List.getElem?_cons_succ, Option.some.injEq] at hi
        subst hi
        clear hdep
        refine kp_val (v := .pointer (some ⟨G, 3, none⟩)) ?_ ⟨_, rfl, rfl, hC, fun _ _ h => h⟩
        simp [execOp, Act.eval, b1]
        go_simp
      · simp only [List.getElem?_toArray, List.getElem?_cons_zero, List.getElem?_cons_succ, Option.some.injEq] at hi
        subst hi
        simp [Region.binds, valOf, ntI] at hdep
        refine kp_val (v := .int .u32 (sm : Nat)) ?_ ⟨_, rfl, rfl, hC, fun _ _ h => h⟩
        simp [execOp, Act.eval, hdep]
        go_simp
      · simp only [List.getElem?_toArray, List.getElem?_cons_zero, List.getElem?_cons_succ, Option.some.injEq] at hi
        subst hi
        simp [Region.binds, valOf, ntI] at hdep
        refine kp_val (v := .int .u64 (sm : Nat)) ?_ ⟨_, rfl, rfl, hC, fun _ _ h => h⟩
        simp [execOp, Act.eval, hdep]
        go_simp
      · simp only [List.getElem?_toArray, List.getElem?_cons_zero, List.getElem?_cons_succ, Option.some.injEq] at hi
        subst hi
        simp [Region.binds, valOf, ntI] at hdep
        refine kp_call (f := 106) (args := #[.int .u64 (sm : Nat), .int .i64 4]) (v := .string x3) ?_ (H3.out W) (fun w' ht => ⟨_, rfl, rfl, hC.trans ht, fun _ _ h => h⟩)
        simp [execOp, resolve, invoke, Act.eval, hdep]
        try rfl
      · simp only [List.getElem?_toArray, List.getElem?_cons_zero, List.getElem?_cons_succ, Option.some.injEq] at hi
        subst hi
        simp [Region.binds, valOf, ntI] at hdep
        refine kp_val (v := .string (((x0 ++ x1) ++ x2) ++ x3)) ?_ ⟨_, rfl, rfl, hC, fun _ _ h => h⟩
        have hadd := run_string_add_sum (P := Try.prog) W ((x0 ++ x1) ++ x2) x3 (by simp only [ByteArray.size_append, s0, s1, s2, s3, s4]; omega)
        simp [execOp, Act.eval, hdep, eqGuard, binOp_string_add, hadd]
      · simp only [List.getElem?_toArray, List.getElem?_cons_zero, List.getElem?_cons_succ, Option.some.injEq] at hi
        subst hi
        clear hdep
        refine kp_val (v := .int .u64 (0 : Nat)) ?_ ⟨_, rfl, rfl, hC, fun _ _ h => h⟩
        simp [execOp, Act.eval, b3]
      · simp only [List.getElem?_toArray, List.getElem?_cons_zero, List.getElem?_cons_succ, Option.some.injEq] at hi
        subst hi
        simp [Region.binds, valOf, ntI] at hdep
        refine kp_call (f := 106) (args := #[.int .u64 (0 : Nat), .int .i64 1]) (v := .string x4) ?_ (H4.out W) (fun w' ht => ⟨_, rfl, rfl, hC.trans ht, fun _ _ h => h⟩)
        simp [execOp, resolve, invoke, Act.eval, hdep]
        try rfl
      · simp only [List.getElem?_toArray, List.getElem?_cons_zero, List.getElem?_cons_succ, Option.some.injEq] at hi
        subst hi
        simp [Region.binds, valOf, ntI] at hdep
        refine kp_val (v := .string ((((x0 ++ x1) ++ x2) ++ x3) ++ x4)) ?_ ⟨_, rfl, rfl, hC, fun _ _ h => h⟩
        have hadd := run_string_add_sum (P := Try.prog) W (((x0 ++ x1) ++ x2) ++ x3) x4 (by simp only [ByteArray.size_append, s0, s1, s2, s3, s4]; omega)
        simp [execOp, Act.eval, hdep, eqGuard, binOp_string_add, hadd]
      · simp only [List.getElem?_toArray, List.getElem?_cons_zero, List.getElem?_cons_succ, Option.some.injEq] at hi
        subst hi
        simp [Region.binds, valOf, ntI] at hdep
        refine kp_val (v := .string ((((x0 ++ x1) ++ x2) ++ x3) ++ x4)) ?_ ⟨_, rfl, rfl, hC, fun _ _ h => h⟩
        simp [execOp, Act.eval, hdep]
    · intro a W hC hbase hall
      have hx : a.tmps.getD 2 undef = Value.string (x0 ++ x1 ++ x2 ++ x3 ++ x4) := hall 22 _ rfl
      obtain ⟨hbd, hbs, hbb⟩ := hbase
      have hdf : a.defers = [] := hbd
      clear hall hbb hbs hbd
      rename_i hK
      refine hK a W ?_
      go_wp2_with fail
      exact bodyPost_ret (results_tmp rfl _ _ _) hdf ⟨by rw [hx], hTa.trans hC⟩
  · obtain rfl : d = 1 := HD.out.symm
    go_enter Try.func90, Try.ntmps90
    go_upto_region 4 with fail
    have hTa := (Touch.refl (fun _ => False) w).alloc (.cells #[.int .u32 se, .int .u32 ep, .int .i64 sz, .int .u32 sm, .bool true] 82)
    have hbx := Block.new w 82 [.int .u32 se, .int .u32 ep, .int .i64 sz, .int .u32 sm, .bool true]
    generalize (w.alloc (.cells #[.int .u32 se, .int .u32 ep, .int .i64 sz, .int .u32 sm, .bool true] 82)) = w1 at hTa hbx ⊢
    generalize w.heap.size = G at hbx ⊢
    have z0 : w1.cell? ⟨G, 0, none⟩ = some (.int .u32 se) := hbx.cell 0
    have z1 : w1.cell? ⟨G, 1, none⟩ = some (.int .u32 ep) := hbx.cell 1
    have z2 : w1.cell? ⟨G, 2, none⟩ = some (.int .i64 sz) := hbx.cell 2
    have z3 : w1.cell? ⟨G, 3, none⟩ = some (.int .u32 sm) := hbx.cell 3
    refine wp_region_inv (fun W => Touch (fun _ => False) w1 W) (fun i v _ => ntI G se ep sz sm 1 x0 x1 x2 x3 x4 i v) (by kernel_rfl) (by kernel_rfl) (by kernel_rfl) (Touch.refl _ _).drew ?_ ?_
    · intro i o hi a W hC hbase hdep
      have hlt := op_lt hi
      obtain ⟨hbd, hbs, hbb⟩ := hbase
      have b1 : a.tmps[1]? = some (.pointer (some ⟨G, 0, none⟩)) := (hbb 1 (noDst_spec (by kernel_rfl))).trans rfl
      have b3 : a.tmps[3]? = some (.int .u64 (1 : Nat)) := (hbb 3 (noDst_spec (by kernel_rfl))).trans rfl
      have y0 := hC.cell z0 id
      have y1 := hC.cell z1 id
      have y2 := hC.cell z2 id
      have y3 := hC.cell z3 id
      rcases (by simp at hlt; omega : i = 0 ∨ i = 1 ∨ i = 2 ∨ i = 3 ∨ i = 4 ∨ i = 5 ∨ i = 6 ∨ i = 7 ∨ i = 8 ∨ i = 9 ∨ i = 10 ∨ i = 11 ∨ i = 12 ∨ i = 13 ∨ i = 14 ∨ i = 15 ∨ i = 16 ∨ i = 17 ∨ i = 18 ∨ i = 19 ∨ i = 20 ∨ i = 21 ∨ i = 22) with rfl | rfl | rfl | rfl | rfl | rfl | rfl | rfl | rfl | rfl | rfl | rfl | rfl | rfl | rfl | rfl | rfl | rfl | rfl | rfl | rfl | rfl | rfl
      · simp only [List.getElem?_toArray, List.getElem?_cons_zero, List.getElem?_cons_succ, Option.some.injEq] at hi
        subst hi
        clear hdep
        refine kp_val (v := .pointer (some ⟨G, 0, none⟩)) ?_ ⟨_, rfl, rfl, hC, fun _ _ h => h⟩
        simp [execOp, Act.eval, b1]
        go_simp
      · simp only [List.getElem?_toArray, List.getElem?_cons_zero, List.getElem?_cons_succ, Option.some.injEq] at hi
        subst hi
        simp [Region.binds, valOf, ntI] at hdep
        refine kp_val (v := .int .u32 (se : Nat)) ?_ ⟨_, rfl, rfl, hC, fun _ _ h => h⟩
        simp [execOp, Act.eval, hdep]
        go_simp
      · simp only [List.getElem?_toArray, List.getElem?_cons_zero, List.getElem?_cons_succ, Option.some.injEq] at hi
        subst hi
        simp [Region.binds, valOf, ntI] at hdep
        refine kp_val (v := .int .u64 (se : Nat)) ?_ ⟨_, rfl, rfl, hC, fun _ _ h => h⟩
        simp [execOp, Act.eval, hdep]
        go_simp
      · simp only [List.getElem?_toArray, List.getElem?_cons_zero, List.getElem?_cons_succ, Option.some.injEq] at hi
        subst hi
        simp [Region.binds, valOf, ntI] at hdep
        refine kp_call (f := 106) (args := #[.int .u64 (se : Nat), .int .i64 4]) (v := .string x0) ?_ (H0.out W) (fun w' ht => ⟨_, rfl, rfl, hC.trans ht, fun _ _ h => h⟩)
        simp [execOp, resolve, invoke, Act.eval, hdep]
        try rfl
      · simp only [List.getElem?_toArray, List.getElem?_cons_zero, List.getElem?_cons_succ, Option.some.injEq] at hi
        subst hi
        clear hdep
        refine kp_val (v := .pointer (some ⟨G, 1, none⟩)) ?_ ⟨_, rfl, rfl, hC, fun _ _ h => h⟩
        simp [execOp, Act.eval, b1]
        go_simp
      · simp only [List.getElem?_toArray, List.getElem?_cons_zero, List.getElem?_cons_succ, Option.some.injEq] at hi
        subst hi
        simp [Region.binds, valOf, ntI] at hdep
        refine kp_val (v := .int .u32 (ep : Nat)) ?_ ⟨_, rfl, rfl, hC, fun _ _ h => h⟩
        simp [execOp, Act.eval, hdep]
        go_simp
      · simp only [List.getElem?_toArray, List.getElem?_cons_zero, List.getElem?_cons_succ, Option.some.injEq] at hi
        subst hi
        simp [Region.binds, valOf, ntI] at hdep
        refine kp_val (v := .int .u64 (ep : Nat)) ?_ ⟨_, rfl, rfl, hC, fun _ _ h => h⟩
        simp [execOp, Act.eval, hdep]
        go_simp
      · simp only [List.getElem?_toArray, List.getElem?_cons_zero, List.getElem?_cons_succ, Option.some.injEq] at hi
        subst hi
        simp [Region.binds, valOf, ntI] at hdep
        refine kp_call (f := 106) (args := #[.int .u64 (ep : Nat), .int .i64 4]) (v := .string x1) ?_ (H1.out W) (fun w' ht => ⟨_, rfl, rfl, hC.trans ht, fun _ _ h => h⟩)
        simp [execOp, resolve, invoke, Act.eval, hdep]
        try rfl
      · simp only [List.getElem?_toArray, List.getElem?_cons_zero, List.getElem?_cons_succ, Option.some.injEq] at hi
        subst hi
        simp [Region.binds, valOf, ntI] at hdep
        refine kp_val (v := .string (x0 ++ x1)) ?_ ⟨_, rfl, rfl, hC, fun _ _ h => h⟩
        have hadd := run_string_add_sum (P := Try.prog) W x0 x1 (by simp only [ByteArray.size_append, s0, s1, s2, s3, s4]; omega)
        simp [execOp, Act.eval, hdep, eqGuard, binOp_string_add, hadd]
      · simp only [List.getElem?_toArray, List.getElem?_cons_zero, List.getElem?_cons_succ, Option.some.injEq] at hi
        subst hi
        clear hdep
        refine kp_val (v := .pointer (some ⟨G, 2, none⟩)) ?_ ⟨_, rfl, rfl, hC, fun _ _ h => h⟩
        simp [execOp, Act.eval, b1]
        go_simp
      · simp only [List.getElem?_toArray, List.getElem?_cons_zero, List.getElem?_cons_succ, Option.some.injEq] at hi
        subst hi
        simp [Region.binds, valOf, ntI] at hdep
        refine kp_val (v := .int .i64 (sz : Nat)) ?_ ⟨_, rfl, rfl, hC, fun _ _ h => h⟩
        simp [execOp, Act.eval, hdep]
        go_simp
      · simp only [List.getElem?_toArray, List.getElem?_cons_zero, List.getElem?_cons_succ, Option.some.injEq] at hi
        subst hi
        simp [Region.binds, valOf, ntI] at hdep
        refine kp_val (v := .int .u64 (sz : Nat)) ?_ ⟨_, rfl, rfl, hC, fun _ _ h => h⟩
        simp [execOp, Act.eval, hdep]
        go_simp
      · simp only [List.getElem?_toArray, List.getElem?_cons_zero, List.getElem?_cons_succ, Option.some.injEq] at hi
        subst hi
        simp [Region.binds, valOf, ntI] at hdep
        refine kp_call (f := 106) (args := #[.int .u64 (sz : Nat), .int .i64 8]) (v := .string x2) ?_ (H2.out W) (fun w' ht => ⟨_, rfl, rfl, hC.trans ht, fun _ _ h => h⟩)
        simp [execOp, resolve, invoke, Act.eval, hdep]
        try rfl
      · simp only [List.getElem?_toArray, List.getElem?_cons_zero, List.getElem?_cons_succ, Option.some.injEq] at hi
        subst hi
        simp [Region.binds, valOf, ntI] at hdep
        refine kp_val (v := .string ((x0 ++ x1) ++ x2)) ?_ ⟨_, rfl, rfl, hC, fun _ _ h => h⟩
        have hadd := run_string_add_sum (P := Try.prog) W (x0 ++ x1) x2 (by simp only [ByteArray.size_append, s0, s1, s2, s3, s4]; omega)
        simp [execOp, Act.eval, hdep, eqGuard, binOp_string_add, hadd]
      · simp only [List.getElem?_toArray, List.getElem?_cons_zero, List.getElem?_cons_succ, Option.some.injEq] at hi
        subst hi
        clear hdep
        refine kp_val (v := .pointer (some ⟨G, 3, none⟩)) ?_ ⟨_, rfl, rfl, hC, fun _ _ h => h⟩
        simp [execOp, Act.eval, b1]
        go_simp
      · simp only [List.getElem?_toArray, List.getElem?_cons_zero, List.getElem?_cons_succ, Option.some.injEq] at hi
        subst hi
        simp [Region.binds, valOf, ntI] at hdep
        refine kp_val (v := .int .u32 (sm : Nat)) ?_ ⟨_, rfl, rfl, hC, fun _ _ h => h⟩
        simp [execOp, Act.eval, hdep]
        go_simp
      · simp only [List.getElem?_toArray, List.getElem?_cons_zero, List.getElem?_cons_succ, Option.some.injEq] at hi
        subst hi
        simp [Region.binds, valOf, ntI] at hdep
        refine kp_val (v := .int .u64 (sm : Nat)) ?_ ⟨_, rfl, rfl, hC, fun _ _ h => h⟩
        simp [execOp, Act.eval, hdep]
        go_simp
      · simp only [List.getElem?_toArray, List.getElem?_cons_zero, List.getElem?_cons_succ, Option.some.injEq] at hi
        subst hi
        simp [Region.binds, valOf, ntI] at hdep
        refine kp_call (f := 106) (args := #[.int .u64 (sm : Nat), .int .i64 4]) (v := .string x3) ?_ (H3.out W) (fun w' ht => ⟨_, rfl, rfl, hC.trans ht, fun _ _ h => h⟩)
        simp [execOp, resolve, invoke, Act.eval, hdep]
        try rfl
      · simp only [List.getElem?_toArray, List.getElem?_cons_zero, List.getElem?_cons_succ, Option.some.injEq] at hi
        subst hi
        simp [Region.binds, valOf, ntI] at hdep
        refine kp_val (v := .string (((x0 ++ x1) ++ x2) ++ x3)) ?_ ⟨_, rfl, rfl, hC, fun _ _ h => h⟩
        have hadd := run_string_add_sum (P := Try.prog) W ((x0 ++ x1) ++ x2) x3 (by simp only [ByteArray.size_append, s0, s1, s2, s3, s4]; omega)
        simp [execOp, Act.eval, hdep, eqGuard, binOp_string_add, hadd]
      · simp only [List.getElem?_toArray, List.getElem?_cons_zero, List.getElem?_cons_succ, Option.some.injEq] at hi
        subst hi
        clear hdep
        refine kp_val (v := .int .u64 (1 : Nat)) ?_ ⟨_, rfl, rfl, hC, fun _ _ h => h⟩
        simp [execOp, Act.eval, b3]
      · simp only [List.getElem?_toArray, List.getElem?_cons_zero, List.getElem?_cons_succ, Option.some.injEq] at hi
        subst hi
        simp [Region.binds, valOf, ntI] at hdep
        refine kp_call (f := 106) (args := #[.int .u64 (1 : Nat), .int .i64 1]) (v := .string x4) ?_ (H4.out W) (fun w' ht => ⟨_, rfl, rfl, hC.trans ht, fun _ _ h => h⟩)
        simp [execOp, resolve, invoke, Act.eval, hdep]
        try rfl
      · simp only [List.getElem?_toArray, List.getElem?_cons_zero, List.getElem?_cons_succ, Option.some.injEq] at hi
        subst hi
        simp [Region.binds, valOf, ntI] at hdep
        refine kp_val (v := .string ((((x0 ++ x1) ++ x2) ++ x3) ++ x4)) ?_ ⟨_, rfl, rfl, hC, fun _ _ h => h⟩
        have hadd := run_string_add_sum (P := Try.prog) W (((x0 ++ x1) ++ x2) ++ x3) x4 (by simp only [ByteArray.size_append, s0, s1, s2, s3, s4]; omega)
        simp [execOp, Act.eval, hdep, eqGuard, binOp_string_add, hadd]
      · simp only [List.getElem?_toArray, List.getElem?_cons_zero, List.getElem?_cons_succ, Option.some.injEq] at hi
        subst hi
        simp [Region.binds, valOf, ntI] at hdep
        refine kp_val (v := .string ((((x0 ++ x1) ++ x2) ++ x3) ++ x4)) ?_ ⟨_, rfl, rfl, hC, fun _ _ h => h⟩
        simp [execOp, Act.eval, hdep]
    · intro a W hC hbase hall
      have hx : a.tmps.getD 2 undef = Value.string (x0 ++ x1 ++ x2 ++ x3 ++ x4) := hall 22 _ rfl
      obtain ⟨hbd, hbs, hbb⟩ := hbase
      have hdf : a.defers = [] := hbd
      clear hall hbb hbs hbd
      rename_i hK
      refine hK a W ?_
      go_wp2_with fail
      exact bodyPost_ret (results_tmp rfl _ _ _) hdf ⟨by rw [hx], hTa.trans hC⟩

end Go.Proofs.Ytmcakilpdecacaa

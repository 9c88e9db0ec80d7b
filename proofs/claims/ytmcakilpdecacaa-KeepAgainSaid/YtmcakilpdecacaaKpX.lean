/- Contracts of package keep, ninth part: a note read, Open again; wal.Open beside a cache; one bit of a sum. -/
import Derived.Test.YtmcakilpdecacaaKpH
namespace Go.Proofs.Ytmcakilpdecacaa
open Go Go.RowKit Go.Maps
set_option maxRecDepth 100000


theorem leB_getN {k v : Nat} (h : v < 256 ^ k) : getN (leB k v) = v := by rw [getN_leB, Nat.mod_eq_of_lt h]
theorem ex_part (A B : List UInt8) (R : List UInt8) (S : ByteArray) (hS : S.data.toList = A ++ (B ++ R)) : S.extract A.length (A.length + B.length) = ⟨B.toArray⟩ := by
  apply ba_ext
  show (S.extract A.length (A.length + B.length)).data.toList = B
  rw [ByteArray.data_extract, Array.toList_extract, List.extract, hS, Nat.add_sub_cancel_left, List.drop_append_of_le_length (Nat.le_refl _), List.drop_length, List.nil_append, List.take_append_of_le_length (Nat.le_refl _), List.take_length]
theorem nt_parts (se ep sz sm d : Nat) : (ntS se ep sz sm d).extract 0 4 = lB 4 se ∧ (ntS se ep sz sm d).extract 4 8 = lB 4 ep ∧ (ntS se ep sz sm d).extract 8 16 = lB 8 sz ∧ (ntS se ep sz sm d).extract 16 20 = lB 4 sm := by
  have h := ntS_list se ep sz sm d
  refine ⟨?_, ?_, ?_, ?_⟩
  · have := ex_part [] (leB 4 se) (leB 4 ep ++ (leB 8 sz ++ (leB 4 sm ++ leB 1 d))) _ h
    simp only [List.length_nil, leB_length, Nat.zero_add] at this
    exact this
  · have := ex_part (leB 4 se) (leB 4 ep) (leB 8 sz ++ (leB 4 sm ++ leB 1 d)) _ h
    simp only [leB_length] at this
    exact this
  · have := ex_part (leB 4 se ++ leB 4 ep) (leB 8 sz) (leB 4 sm ++ leB 1 d) (ntS se ep sz sm d) (by rw [h]; simp only [List.append_assoc])
    simp only [List.length_append, leB_length] at this
    exact this
  · have := ex_part (leB 4 se ++ (leB 4 ep ++ leB 8 sz)) (leB 4 sm) (leB 1 d) (ntS se ep sz sm d) (by rw [h]; simp only [List.append_assoc])
    simp only [List.length_append, leB_length] at this
    exact this
theorem nt_last (se ep sz sm d : Nat) (hd : d < 256) (h : 20 < (ntS se ep sz sm d).size) : ((ntS se ep sz sm d)[20]).toNat = d := by
  have e1 : (ntS se ep sz sm d)[20] = (ntS se ep sz sm d).data.toList[20]'(by rw [ba_len]; exact h) := by rw [Array.getElem_toList]; rfl
  rw [e1]
  have e2 : (ntS se ep sz sm d).data.toList[20]? = some (UInt8.ofNat d) := by
    rw [ntS_list]
    simp only [← List.append_assoc]
    rw [List.getElem?_append_right (by simp [leB_length])]
    simp [leB_length, leB, Nat.mod_eq_of_lt hd]
  have e3 := List.getElem?_eq_getElem (l := (ntS se ep sz sm d).data.toList) (i := 20) (by rw [ba_len]; exact h)
  rw [e2] at e3
  rw [← Option.some.inj e3]
  simp; omega
def put5 (w : World) (nb se ep sz sm : Nat) (dn : Bool) : World := (((((w.setCell ⟨nb, 0, none⟩ (.int .u32 (se : Int))).setCell ⟨nb, 1, none⟩ (.int .u32 (ep : Int))).setCell ⟨nb, 2, none⟩ (.int .i64 (sz : Int))).setCell ⟨nb, 3, none⟩ (.int .u32 (sm : Int))).setCell ⟨nb, 4, none⟩ (.bool dn))
theorem NBox.put5 {w : World} {nb a0 a1 a2 a3 : Nat} {d0 : Bool} (h : NBox w nb a0 a1 a2 a3 d0) (se ep sz sm : Nat) (dn : Bool) : NBox (put5 w nb se ep sz sm dn) nb se ep sz sm dn := Block.set (Block.set (Block.set (Block.set (Block.set h 0 _) 1 _) 2 _) 3 _) 4 _
theorem put5_touch (w : World) (nb se ep sz sm : Nat) (dn : Bool) : Touch (fun k => k = nb) w (put5 w nb se ep sz sm dn) :=
  (((((Touch.refl (fun k => k = nb) w).setCell (p := ⟨nb, 0, none⟩) (.inl rfl) _).setCell (p := ⟨nb, 1, none⟩) (.inl rfl) _).setCell (p := ⟨nb, 2, none⟩) (.inl rfl) _).setCell (p := ⟨nb, 3, none⟩) (.inl rfl) _).setCell (p := ⟨nb, 4, none⟩) (.inl rfl) _
theorem kp_cons {l : List Value} {n : Nat} (h : l.length = n + 1) : ∃ x l', l = x :: l' ∧ l'.length = n := by
  cases l with
  | nil => simp at h
  | cons x l => exact ⟨x, l, rfl, by simpa using h⟩

/-- What each operation of a note that is read leaves. -/
def rdI (G se ep sz sm d : Nat) (dn : Bool) (S x0 x1 x2 x3 : ByteArray) (i : Nat) (v : Value) (W : World) : Prop := match i with
  | 0 => v = .string S
  | 1 => v = .string x0
  | 2 => v = .int .u64 (se : Nat)
  | 3 => v = .int .u32 (se : Nat)
  | 4 => v = .string S
  | 5 => v = .string x1
  | 6 => v = .int .u64 (ep : Nat)
  | 7 => v = .int .u32 (ep : Nat)
  | 8 => v = .string S
  | 9 => v = .string x2
  | 10 => v = .int .u64 (sz : Nat)
  | 11 => v = .int .i64 (sz : Nat)
  | 12 => v = .string S
  | 13 => v = .string x3
  | 14 => v = .int .u64 (sm : Nat)
  | 15 => v = .int .u32 (sm : Nat)
  | 16 => v = .string S
  | 17 => v = .int .u8 (d : Nat)
  | 18 => v = .bool dn
  | 19 => v = .agg #[.int .u32 (se : Nat), .int .u32 (ep : Nat), .int .i64 (sz : Nat), .int .u32 (sm : Nat), .bool dn]
  | 20 => v = .pointer (some ⟨G, 0, none⟩) ∧ ∃ cs : Array Value, cs.size = 5 ∧ W.heap[G]? = some (.cells cs 82)
  | 21 => W.heap[G]? = some (.cells #[.int .u32 (se : Nat), .int .u32 (ep : Nat), .int .i64 (sz : Nat), .int .u32 (sm : Nat), .bool dn] 82)
  | _ => True

theorem rdI_still {G se ep sz sm d : Nat} {dn : Bool} {S x0 x1 x2 x3 : ByteArray} {W W' : World} (h : W'.heap = W.heap) : ∀ j u, rdI G se ep sz sm d dn S x0 x1 x2 x3 j u W → rdI G se ep sz sm d dn S x0 x1 x2 x3 j u W' := by
  intro j u hj
  unfold rdI at hj ⊢
  rw [h]
  exact hj
theorem rdI_alloc {G se ep sz sm d : Nat} {dn : Bool} {S x0 x1 x2 x3 : ByteArray} {W : World} (o : Obj) (hG : W.heap.size = G) : ∀ j u, rdI G se ep sz sm d dn S x0 x1 x2 x3 j u W → rdI G se ep sz sm d dn S x0 x1 x2 x3 j u (W.alloc o) := by
  have hn : W.heap[G]? = none := Array.getElem?_eq_none (by omega)
  intro j u h
  by_cases h20 : j = 20
  · subst h20
    obtain ⟨_, cs, _, h2⟩ := h
    rw [hn] at h2; cases h2
  by_cases h21 : j = 21
  · subst h21
    have h2 : W.heap[G]? = _ := h
    rw [hn] at h2; cases h2
  unfold rdI at h ⊢
  split at h <;> first | exact h | omega | trivial
theorem rdI_row {G se ep sz sm d : Nat} {dn : Bool} {S x0 x1 x2 x3 : ByteArray} {W : World} {cs0 : Array Value} (hG : W.heap[G]? = some (.cells cs0 82)) : ∀ j u, rdI G se ep sz sm d dn S x0 x1 x2 x3 j u W → rdI G se ep sz sm d dn S x0 x1 x2 x3 j u (W.setRow G (#[.int .u32 (se : Nat), .int .u32 (ep : Nat), .int .i64 (sz : Nat), .int .u32 (sm : Nat), .bool dn])) := by
  have hn := heap_setRow W G cs0 (#[.int .u32 (se : Nat), .int .u32 (ep : Nat), .int .i64 (sz : Nat), .int .u32 (sm : Nat), .bool dn]) 82 hG
  intro j u h
  by_cases h20 : j = 20
  · subst h20
    obtain ⟨h1, _⟩ := h
    exact ⟨h1, _, rfl, hn⟩
  by_cases h21 : j = 21
  · subst h21
    exact hn
  unfold rdI at h ⊢
  split at h <;> first | exact h | omega | trivial

theorem kp_call0 {P : Program} {o : Oper} {a : Act} {w : World} {K : Act → World → Prop} {Q : Exit → Act → World → Prop} {f : FuncId} {args : Array Value} {v : Value} (h : (execOp a.eval o).run P w = .ok (.enter f args) w)
    (hc : Calls P f args w fun e w' => e = .returned v ∧ w = w') (hk : K (a.put o.dst v) w) : o.wp P a w K Q := by
  unfold Oper.wp
  rw [h]
  exact hc.mono fun e w' ⟨he, ht⟩ => by subst he; subst ht; exact hk

set_option maxHeartbeats 4000000 in
theorem stateOf_calls (se ep sz sm : Nat) (dn : Bool) (h0 : se < 4294967296) (h1 : ep < 4294967296) (h2 : sz ≤ 4194304) (h3 : sm < 4294967296) (w : World) :
    Calls Try.prog 88 #[.string (ntS se ep sz sm (if dn then 1 else 0))] w fun e w' => e = .returned (.tuple #[stV se ep sz sm dn, .bool true]) ∧ Touch (fun _ => False) w w' := by
  obtain ⟨d, hd⟩ : ∃ d : Nat, (if dn then 1 else 0) = d := ⟨_, rfl⟩
  have hd2 : d < 2 := by rw [← hd]; split <;> omega
  have hdd : ((d : Int) == 1) = dn := by rw [← hd]; cases dn <;> rfl
  have hno := fun W => noteOf_calls se ep sz sm dn h0 h1 h2 h3 W
  rw [hd] at hno ⊢
  unfold stV at hno ⊢
  obtain ⟨e0, e1, e2, e3⟩ := nt_parts se ep sz sm d
  have hsz := ntS_size se ep sz sm d
  have hls := fun h => nt_last se ep sz sm d (by omega) h
  obtain ⟨S, hS⟩ : ∃ S, ntS se ep sz sm d = S := ⟨_, rfl⟩
  rw [hS] at hno e0 e1 e2 e3 hsz
  have hls : ∀ h : 20 < S.size, (S[20]).toNat = d := by subst hS; exact hls
  rw [hS]
  have G0 := Lib.hid (fun W => get_small (lB 4 se) W (by rw [lB_size]; omega))
  have G1 := Lib.hid (fun W => get_small (lB 4 ep) W (by rw [lB_size]; omega))
  have G2 := Lib.hid (fun W => get_small (lB 8 sz) W (by rw [lB_size]; omega))
  have G3 := Lib.hid (fun W => get_small (lB 4 sm) W (by rw [lB_size]; omega))
  rw [show (lB 4 se).data.toList = leB 4 se from rfl, leB_getN (by omega)] at G0
  rw [show (lB 4 ep).data.toList = leB 4 ep from rfl, leB_getN (by omega)] at G1
  rw [show (lB 8 sz).data.toList = leB 8 sz from rfl, leB_getN (by omega)] at G2
  rw [show (lB 4 sm).data.toList = leB 4 sm from rfl, leB_getN (by omega)] at G3
  generalize lB 4 se = x0 at *
  generalize lB 4 ep = x1 at *
  generalize lB 8 sz = x2 at *
  generalize lB 4 sm = x3 at *
  have HNO := Lib.hid hno
  have hw0 : IntKind.u32.wrap (se : Int) = (se : Int) := by rw [IntKind.wrap_u32]; omega
  have hw1 : IntKind.u32.wrap (ep : Int) = (ep : Int) := by rw [IntKind.wrap_u32]; omega
  have hw2 : IntKind.i64.wrap (sz : Int) = (sz : Int) := IntWalk.i64_in _ (by omega)
  have hw3 : IntKind.u32.wrap (sm : Int) = (sm : Int) := by rw [IntKind.wrap_u32]; omega
  have hszI : (S.size : Int) = 21 := by omega
  have hdI : (S[20]).toNat = d := hls (by omega)
  clear hno hd hS hls
  go_enter Try.func88, Try.ntmps88
  go_upto_region 3 with fail
  have hTa := (Touch.refl (fun _ => False) w).alloc (.cells #[.int .u32 0, .int .u32 0, .int .i64 0, .int .u32 0, .bool false] 82)
  have hbx : NBox (w.alloc (.cells #[.int .u32 0, .int .u32 0, .int .i64 0, .int .u32 0, .bool false] 82)) w.heap.size 0 0 0 0 false := Block.new w 82 [.int .u32 0, .int .u32 0, .int .i64 0, .int .u32 0, .bool false]
  generalize w.alloc (.cells #[.int .u32 0, .int .u32 0, .int .i64 0, .int .u32 0, .bool false] 82) = w1 at hTa hbx ⊢
  generalize hG0 : w.heap.size = Z at hbx ⊢
  have HBX := Lib.hid hbx
  obtain ⟨G, hG⟩ : ∃ G, w1.heap.size = G := ⟨_, rfl⟩
  clear hbx
  refine wp_region_inv2 20 (fun b W => Touch (fun _ => False) w1 W ∧ (b = false → W.heap.size = G)) (rdI G se ep sz sm d dn S x0 x1 x2 x3) (by kernel_rfl) (by kernel_rfl) (by kernel_rfl) (by decide) ⟨(Touch.refl _ _).drew, fun _ => hG⟩ ?_ ?_
  · intro i o hi a W b hbf hC hbase hdep
    have hlt := op_lt hi
    obtain ⟨hbd, hbs, hbb⟩ := hbase
    have b0 : a.tmps[0]? = some (.string S) := (hbb 0 (noDst_spec (by kernel_rfl))).trans rfl
    rcases (by simp at hlt; omega : i = 0 ∨ i = 1 ∨ i = 2 ∨ i = 3 ∨ i = 4 ∨ i = 5 ∨ i = 6 ∨ i = 7 ∨ i = 8 ∨ i = 9 ∨ i = 10 ∨ i = 11 ∨ i = 12 ∨ i = 13 ∨ i = 14 ∨ i = 15 ∨ i = 16 ∨ i = 17 ∨ i = 18 ∨ i = 19 ∨ i = 20 ∨ i = 21) with rfl | rfl | rfl | rfl | rfl | rfl | rfl | rfl | rfl | rfl | rfl | rfl | rfl | rfl | rfl | rfl | rfl | rfl | rfl | rfl | rfl | rfl
    · simp only [List.getElem?_toArray, List.getElem?_cons_zero, Option.some.injEq] at hi
      subst hi
      clear hdep
      refine kp_val (v := .string S) ?_ ⟨_, rfl, rfl, by simpa using hC, fun _ _ h => h⟩
      simp [execOp, Act.eval, b0]
    · simp only [List.getElem?_toArray, List.getElem?_cons_zero, List.getElem?_cons_succ, Option.some.injEq] at hi
      subst hi
      simp [Region.binds, valOf, rdI] at hdep
      refine kp_val (v := .string x0) ?_ ⟨_, rfl, rfl, by simpa using hC, fun _ _ h => h⟩
      simp [execOp, Act.eval, hdep]
      go_simp
    · simp only [List.getElem?_toArray, List.getElem?_cons_zero, List.getElem?_cons_succ, Option.some.injEq] at hi
      subst hi
      simp [Region.binds, valOf, rdI] at hdep
      refine kp_call0 (f := 103) (args := #[.string x0]) (v := .int .u64 (se : Nat)) ?_ (G0.out W) ⟨_, rfl, rfl, by simpa using hC, fun _ _ h => h⟩
      simp [execOp, resolve, invoke, Act.eval, hdep]
      try rfl
    · simp only [List.getElem?_toArray, List.getElem?_cons_zero, List.getElem?_cons_succ, Option.some.injEq] at hi
      subst hi
      simp [Region.binds, valOf, rdI] at hdep
      refine kp_val (v := .int .u32 (se : Nat)) ?_ ⟨_, rfl, rfl, by simpa using hC, fun _ _ h => h⟩
      simp [execOp, Act.eval, hdep]
      go_simp
    · simp only [List.getElem?_toArray, List.getElem?_cons_zero, List.getElem?_cons_succ, Option.some.injEq] at hi
      subst hi
      clear hdep
      refine kp_val (v := .string S) ?_ ⟨_, rfl, rfl, by simpa using hC, fun _ _ h => h⟩
      simp [execOp, Act.eval, b0]
    · simp only [List.getElem?_toArray, List.getElem?_cons_zero, List.getElem?_cons_succ, Option.some.injEq] at hi
      subst hi
      simp [Region.binds, valOf, rdI] at hdep
      refine kp_val (v := .string x1) ?_ ⟨_, rfl, rfl, by simpa using hC, fun _ _ h => h⟩
      simp [execOp, Act.eval, hdep]
      go_simp
    · simp only [List.getElem?_toArray, List.getElem?_cons_zero, List.getElem?_cons_succ, Option.some.injEq] at hi
      subst hi
      simp [Region.binds, valOf, rdI] at hdep
      refine kp_call0 (f := 103) (args := #[.string x1]) (v := .int .u64 (ep : Nat)) ?_ (G1.out W) ⟨_, rfl, rfl, by simpa using hC, fun _ _ h => h⟩
      simp [execOp, resolve, invoke, Act.eval, hdep]
      try rfl
    · simp only [List.getElem?_toArray, List.getElem?_cons_zero, List.getElem?_cons_succ, Option.some.injEq] at hi
      subst hi
      simp [Region.binds, valOf, rdI] at hdep
      refine kp_val (v := .int .u32 (ep : Nat)) ?_ ⟨_, rfl, rfl, by simpa using hC, fun _ _ h => h⟩
      simp [execOp, Act.eval, hdep]
      go_simp
    · simp only [List.getElem?_toArray, List.getElem?_cons_zero, List.getElem?_cons_succ, Option.some.injEq] at hi
      subst hi
      clear hdep
      refine kp_val (v := .string S) ?_ ⟨_, rfl, rfl, by simpa using hC, fun _ _ h => h⟩
      simp [execOp, Act.eval, b0]
    · simp only [List.getElem?_toArray, List.getElem?_cons_zero, List.getElem?_cons_succ, Option.some.injEq] at hi
      subst hi
      simp [Region.binds, valOf, rdI] at hdep
      refine kp_val (v := .string x2) ?_ ⟨_, rfl, rfl, by simpa using hC, fun _ _ h => h⟩
      simp [execOp, Act.eval, hdep]
      go_simp
    · simp only [List.getElem?_toArray, List.getElem?_cons_zero, List.getElem?_cons_succ, Option.some.injEq] at hi
      subst hi
      simp [Region.binds, valOf, rdI] at hdep
      refine kp_call0 (f := 103) (args := #[.string x2]) (v := .int .u64 (sz : Nat)) ?_ (G2.out W) ⟨_, rfl, rfl, by simpa using hC, fun _ _ h => h⟩
      simp [execOp, resolve, invoke, Act.eval, hdep]
      try rfl
    · simp only [List.getElem?_toArray, List.getElem?_cons_zero, List.getElem?_cons_succ, Option.some.injEq] at hi
      subst hi
      simp [Region.binds, valOf, rdI] at hdep
      refine kp_val (v := .int .i64 (sz : Nat)) ?_ ⟨_, rfl, rfl, by simpa using hC, fun _ _ h => h⟩
      simp [execOp, Act.eval, hdep]
      go_simp
    · simp only [List.getElem?_toArray, List.getElem?_cons_zero, List.getElem?_cons_succ, Option.some.injEq] at hi
      subst hi
      clear hdep
      refine kp_val (v := .string S) ?_ ⟨_, rfl, rfl, by simpa using hC, fun _ _ h => h⟩
      simp [execOp, Act.eval, b0]
    · simp only [List.getElem?_toArray, List.getElem?_cons_zero, List.getElem?_cons_succ, Option.some.injEq] at hi
      subst hi
      simp [Region.binds, valOf, rdI] at hdep
      refine kp_val (v := .string x3) ?_ ⟨_, rfl, rfl, by simpa using hC, fun _ _ h => h⟩
      simp [execOp, Act.eval, hdep]
      go_simp
    · simp only [List.getElem?_toArray, List.getElem?_cons_zero, List.getElem?_cons_succ, Option.some.injEq] at hi
      subst hi
      simp [Region.binds, valOf, rdI] at hdep
      refine kp_call0 (f := 103) (args := #[.string x3]) (v := .int .u64 (sm : Nat)) ?_ (G3.out W) ⟨_, rfl, rfl, by simpa using hC, fun _ _ h => h⟩
      simp [execOp, resolve, invoke, Act.eval, hdep]
      try rfl
    · simp only [List.getElem?_toArray, List.getElem?_cons_zero, List.getElem?_cons_succ, Option.some.injEq] at hi
      subst hi
      simp [Region.binds, valOf, rdI] at hdep
      refine kp_val (v := .int .u32 (sm : Nat)) ?_ ⟨_, rfl, rfl, by simpa using hC, fun _ _ h => h⟩
      simp [execOp, Act.eval, hdep]
      go_simp
    · simp only [List.getElem?_toArray, List.getElem?_cons_zero, List.getElem?_cons_succ, Option.some.injEq] at hi
      subst hi
      clear hdep
      refine kp_val (v := .string S) ?_ ⟨_, rfl, rfl, by simpa using hC, fun _ _ h => h⟩
      simp [execOp, Act.eval, b0]
    · simp only [List.getElem?_toArray, List.getElem?_cons_zero, List.getElem?_cons_succ, Option.some.injEq] at hi
      subst hi
      simp [Region.binds, valOf, rdI] at hdep
      refine kp_val (v := .int .u8 (d : Nat)) ?_ ⟨_, rfl, rfl, by simpa using hC, fun _ _ h => h⟩
      simp [execOp, Act.eval, hdep]
      go_simp
    · simp only [List.getElem?_toArray, List.getElem?_cons_zero, List.getElem?_cons_succ, Option.some.injEq] at hi
      subst hi
      simp [Region.binds, valOf, rdI] at hdep
      refine kp_val (v := .bool dn) ?_ ⟨_, rfl, rfl, by simpa using hC, fun _ _ h => h⟩
      simp [execOp, Act.eval, hdep]
      go_simp
    · simp only [List.getElem?_toArray, List.getElem?_cons_zero, List.getElem?_cons_succ, Option.some.injEq] at hi
      subst hi
      simp [Region.binds, valOf, rdI] at hdep
      have ev : ((#[(0, Operand.tmp 12), (1, Operand.tmp 16), (2, Operand.tmp 20), (3, Operand.tmp 24), (4, Operand.tmp 27)] : Array (Nat × Operand)).map fun (i, x) => (i, a.eval x)).toList = [(0, .int .u32 (se : Nat)), (1, .int .u32 (ep : Nat)), (2, .int .i64 (sz : Nat)), (3, .int .u32 (sm : Nat)), (4, .bool dn)] := by simp [Act.eval, hdep]
      refine wp_build 82 #[(0, Operand.tmp 12), (1, Operand.tmp 16), (2, Operand.tmp 20), (3, Operand.tmp 24), (4, Operand.tmp 27)] rfl (by rw [ev]; kernel_rfl) ⟨_, rfl, ?_, by simpa using hC, fun _ _ h => h⟩
      show Value.agg _ = Value.agg _
      rw [ev]
      kernel_rfl
    · simp only [List.getElem?_toArray, List.getElem?_cons_zero, List.getElem?_cons_succ, Option.some.injEq] at hi
      subst hi
      clear hdep
      have hG : W.heap.size = G := hC.2 (hbf rfl)
      refine kp_val2 (v := .pointer (some ⟨G, 0, none⟩)) (w' := W.alloc (.cells #[.int .u32 0, .int .u32 0, .int .i64 0, .int .u32 0, .bool false] 82)) ?_ ⟨_, rfl, ⟨rfl, _, rfl, by rw [← hG]; exact heap_alloc_new W _⟩, ⟨hC.1.alloc _, fun h => by simp at h⟩, rdI_alloc _ hG⟩
      rw [← hG]
      simp [execOp, Act.eval]
      go_simp
    · simp only [List.getElem?_toArray, List.getElem?_cons_zero, List.getElem?_cons_succ, Option.some.injEq] at hi
      subst hi
      simp [Region.binds, valOf, rdI] at hdep
      obtain ⟨⟨hd4, cs, hcs, hcell⟩, hd28⟩ := hdep
      have hx : a.eval (.tmp 28) = .agg #[.int .u32 (se : Nat), .int .u32 (ep : Nat), .int .i64 (sz : Nat), .int .u32 (sm : Nat), .bool dn] := by simp [Act.eval, hd28]
      refine wp_store_row 82 (.tmp 4) (.tmp 28) rfl G (#[.int .u32 (se : Nat), .int .u32 (ep : Nat), .int .i64 (sz : Nat), .int .u32 (sm : Nat), .bool dn]) (by simp [Act.eval, hd4]) hx _ cs hcell Try.sizeSt (by rw [hcs]; rfl) (by simp [Value.oneCell']) ⟨undef, rfl, heap_setRow _ _ _ _ _ hcell, ⟨hC.1.setRow (.inr (by omega)) _, fun h => by simpa using hC.2 (by simpa using h)⟩, rdI_row hcell⟩
  · intro a W hC hbase hall
    have hx4 := hall 20 _ rfl
    have hx21 : NBox W G se ep sz sm dn := hall 21 _ rfl
    obtain ⟨hbd, hbs, hbb⟩ := hbase
    clear hall
    obtain ⟨⟨l⟩, df⟩ := a
    have hl : l.length = 35 := hbs
    clear hbs
    obtain ⟨y0, l0, rfl, hl0⟩ := kp_cons (n := 34) hl
    clear hl
    obtain ⟨y1, l1, rfl, hl1⟩ := kp_cons (n := 33) hl0
    clear hl0
    obtain ⟨y2, l2, rfl, hl2⟩ := kp_cons (n := 32) hl1
    clear hl1
    obtain ⟨y3, l3, rfl, hl3⟩ := kp_cons (n := 31) hl2
    clear hl2
    obtain ⟨y4, l4, rfl, hl4⟩ := kp_cons (n := 30) hl3
    clear hl3
    obtain ⟨y5, l5, rfl, hl5⟩ := kp_cons (n := 29) hl4
    clear hl4
    obtain ⟨y6, l6, rfl, hl6⟩ := kp_cons (n := 28) hl5
    clear hl5
    obtain ⟨y7, l7, rfl, hl7⟩ := kp_cons (n := 27) hl6
    clear hl6
    obtain ⟨y8, l8, rfl, hl8⟩ := kp_cons (n := 26) hl7
    clear hl7
    obtain ⟨y9, l9, rfl, hl9⟩ := kp_cons (n := 25) hl8
    clear hl8
    obtain ⟨y10, l10, rfl, hl10⟩ := kp_cons (n := 24) hl9
    clear hl9
    obtain ⟨y11, l11, rfl, hl11⟩ := kp_cons (n := 23) hl10
    clear hl10
    obtain ⟨y12, l12, rfl, hl12⟩ := kp_cons (n := 22) hl11
    clear hl11
    obtain ⟨y13, l13, rfl, hl13⟩ := kp_cons (n := 21) hl12
    clear hl12
    obtain ⟨y14, l14, rfl, hl14⟩ := kp_cons (n := 20) hl13
    clear hl13
    obtain ⟨y15, l15, rfl, hl15⟩ := kp_cons (n := 19) hl14
    clear hl14
    obtain ⟨y16, l16, rfl, hl16⟩ := kp_cons (n := 18) hl15
    clear hl15
    obtain ⟨y17, l17, rfl, hl17⟩ := kp_cons (n := 17) hl16
    clear hl16
    obtain ⟨y18, l18, rfl, hl18⟩ := kp_cons (n := 16) hl17
    clear hl17
    obtain ⟨y19, l19, rfl, hl19⟩ := kp_cons (n := 15) hl18
    clear hl18
    obtain ⟨y20, l20, rfl, hl20⟩ := kp_cons (n := 14) hl19
    clear hl19
    obtain ⟨y21, l21, rfl, hl21⟩ := kp_cons (n := 13) hl20
    clear hl20
    obtain ⟨y22, l22, rfl, hl22⟩ := kp_cons (n := 12) hl21
    clear hl21
    obtain ⟨y23, l23, rfl, hl23⟩ := kp_cons (n := 11) hl22
    clear hl22
    obtain ⟨y24, l24, rfl, hl24⟩ := kp_cons (n := 10) hl23
    clear hl23
    obtain ⟨y25, l25, rfl, hl25⟩ := kp_cons (n := 9) hl24
    clear hl24
    obtain ⟨y26, l26, rfl, hl26⟩ := kp_cons (n := 8) hl25
    clear hl25
    obtain ⟨y27, l27, rfl, hl27⟩ := kp_cons (n := 7) hl26
    clear hl26
    obtain ⟨y28, l28, rfl, hl28⟩ := kp_cons (n := 6) hl27
    clear hl27
    obtain ⟨y29, l29, rfl, hl29⟩ := kp_cons (n := 5) hl28
    clear hl28
    obtain ⟨y30, l30, rfl, hl30⟩ := kp_cons (n := 4) hl29
    clear hl29
    obtain ⟨y31, l31, rfl, hl31⟩ := kp_cons (n := 3) hl30
    clear hl30
    obtain ⟨y32, l32, rfl, hl32⟩ := kp_cons (n := 2) hl31
    clear hl31
    obtain ⟨y33, l33, rfl, hl33⟩ := kp_cons (n := 1) hl32
    clear hl32
    obtain ⟨y34, l34, rfl, hl34⟩ := kp_cons (n := 0) hl33
    clear hl33
    obtain rfl := List.eq_nil_of_length_eq_zero hl34
    have hx4' : y4 = .pointer (some ⟨G, 0, none⟩) := hx4.1
    subst hx4'
    clear hx4 hl34
    have eq0 := hbb 0 (noDst_spec (by kernel_rfl))
    simp only [List.getElem?_toArray, List.getElem?_cons_zero, Option.some.injEq] at eq0
    subst eq0
    have eq1 := hbb 1 (noDst_spec (by kernel_rfl))
    simp only [List.getElem?_toArray, List.getElem?_cons_zero, List.getElem?_cons_succ, Option.some.injEq] at eq1
    subst eq1
    have eq2 := hbb 2 (noDst_spec (by kernel_rfl))
    simp only [List.getElem?_toArray, List.getElem?_cons_zero, List.getElem?_cons_succ, Option.some.injEq] at eq2
    subst eq2
    have eq3 := hbb 3 (noDst_spec (by kernel_rfl))
    simp only [List.getElem?_toArray, List.getElem?_cons_zero, List.getElem?_cons_succ, Option.some.injEq] at eq3
    subst eq3
    have eq5 := hbb 5 (noDst_spec (by kernel_rfl))
    simp only [List.getElem?_toArray, List.getElem?_cons_zero, List.getElem?_cons_succ, Option.some.injEq] at eq5
    subst eq5
    have eq6 := hbb 6 (noDst_spec (by kernel_rfl))
    simp only [List.getElem?_toArray, List.getElem?_cons_zero, List.getElem?_cons_succ, Option.some.injEq] at eq6
    subst eq6
    have eq7 := hbb 7 (noDst_spec (by kernel_rfl))
    simp only [List.getElem?_toArray, List.getElem?_cons_zero, List.getElem?_cons_succ, Option.some.injEq] at eq7
    subst eq7
    have eq8 := hbb 8 (noDst_spec (by kernel_rfl))
    simp only [List.getElem?_toArray, List.getElem?_cons_zero, List.getElem?_cons_succ, Option.some.injEq] at eq8
    subst eq8
    have eq29 := hbb 29 (noDst_spec (by kernel_rfl))
    simp only [List.getElem?_toArray, List.getElem?_cons_zero, List.getElem?_cons_succ, Option.some.injEq] at eq29
    subst eq29
    have eq30 := hbb 30 (noDst_spec (by kernel_rfl))
    simp only [List.getElem?_toArray, List.getElem?_cons_zero, List.getElem?_cons_succ, Option.some.injEq] at eq30
    subst eq30
    have eq31 := hbb 31 (noDst_spec (by kernel_rfl))
    simp only [List.getElem?_toArray, List.getElem?_cons_zero, List.getElem?_cons_succ, Option.some.injEq] at eq31
    subst eq31
    have eq32 := hbb 32 (noDst_spec (by kernel_rfl))
    simp only [List.getElem?_toArray, List.getElem?_cons_zero, List.getElem?_cons_succ, Option.some.injEq] at eq32
    subst eq32
    have eq33 := hbb 33 (noDst_spec (by kernel_rfl))
    simp only [List.getElem?_toArray, List.getElem?_cons_zero, List.getElem?_cons_succ, Option.some.injEq] at eq33
    subst eq33
    have eq34 := hbb 34 (noDst_spec (by kernel_rfl))
    simp only [List.getElem?_toArray, List.getElem?_cons_zero, List.getElem?_cons_succ, Option.some.injEq] at eq34
    subst eq34
    obtain rfl : df = [] := hbd
    clear hbb
    have hzW := NBox.still HBX.out hC.1
    obtain ⟨c0, c1, c2, c3, c4⟩ := hx21.cells
    have HXG := Lib.hid hx21
    have HZW := Lib.hid hzW
    have HT := Lib.hid (hTa.trans hC.1)
    have HZ0 := Lib.hid hG0
    clear hx21 hzW hC hTa hG hG0
    rename_i hK
    refine hK _ W ?_
    go_wp2_with fail
    refine (HNO.out W).mono ?_
    rintro e w5 ⟨rfl, hT5⟩
    have hg5 := NBox.still HXG.out hT5
    have hz5 := NBox.still HZW.out hT5
    obtain ⟨c0, c1, c2, c3, c4⟩ := hg5.cells
    obtain ⟨k0, k1, k2, k3, k4⟩ := hz5.cells
    have f0 := Block.free hz5 0
    have f1 := Block.free hz5 1
    have f2 := Block.free hz5 2
    have f3 := Block.free hz5 3
    have f4 := Block.free hz5 4
    have HZ5 := Lib.hid hz5
    have HT5 := Lib.hid (HT.out.trans hT5)
    clear hg5 hz5 hT5
    go_wp2_with fail
    have hr : NBox (put5 w5 Z se ep sz sm dn) Z se ep sz sm dn := HZ5.out.put5 se ep sz sm dn
    have hTp := put5_touch w5 Z se ep sz sm dn
    exact bodyPost_ret (results_cell_slot rfl _ _ Z _ _ _ _ rfl hr Try.underlying82 rfl Try.sizeSt) rfl ⟨rfl, HT5.out.trans' hTp (fun i hi => .inr (by rw [HZ0.out]; exact Nat.le_of_eq hi.symm))⟩


theorem lastOf_some {w : World} {gb b N se ep sz sm : Nat} {dn : Bool} {nt : ByteArray} (h : LogAt w gb b 0 8 N nt false) (hN : N ≠ 0) (hN2 : N < 1000000) (hnt : nt = ntS se ep sz sm (if dn then 1 else 0)) (h0 : se < 4294967296) (h1 : ep < 4294967296) (h2 : sz ≤ 4194304) (h3 : sm < 4294967296) : Calls Try.prog 69 #[.pointer (some ⟨gb, 0, none⟩)] w fun e w' => e = .returned (.tuple #[stV se ep sz sm dn, .bool true]) ∧ Touch (fun _ => False) w w' := by
  have HN := Lib.hid (fun W (hW : Touch (fun _ => False) w W) => note_calls (show LogAt W gb b 0 8 N nt false from Block.kept h hW id))
  have hso := fun W => stateOf_calls se ep sz sm dn h0 h1 h2 h3 W
  rw [← hnt] at hso
  have HSO := Lib.hid hso
  have hN0 : ¬ ((N : Int) = 0) := by omega
  have hN1 : ((N : Int) == 0) = false := by rw [beq_eq_false_iff_ne]; omega
  unfold stV at HSO ⊢
  clear h hso hnt
  go_enter Try.func69, Try.ntmps69
  go_wp2_with fail
  have hT := (Touch.refl (fun _ => False) w).alloc (.cells #[.int .u32 0, .int .u32 0, .int .i64 0, .int .u32 0, .bool false] 82)
  have hbx : NBox (w.alloc (.cells #[.int .u32 0, .int .u32 0, .int .i64 0, .int .u32 0, .bool false] 82)) w.heap.size 0 0 0 0 false := Block.new w 82 [.int .u32 0, .int .u32 0, .int .i64 0, .int .u32 0, .bool false]
  generalize w.alloc (.cells #[.int .u32 0, .int .u32 0, .int .i64 0, .int .u32 0, .bool false] 82) = w1 at hT hbx ⊢
  generalize hG : w.heap.size = G at hbx ⊢
  have HG := Lib.hid hG
  have HBX := Lib.hid hbx
  clear hG hbx
  refine (HN.out w1 hT).mono ?_
  rintro e w2 ⟨rfl, hT2⟩
  have HT2 := Lib.hid (hT.trans hT2)
  have HB2 := Lib.hid (NBox.still HBX.out hT2)
  clear hT hT2
  go_wp2_with fail
  refine (HSO.out w2).mono ?_
  rintro e w3 ⟨rfl, hT3⟩
  have hz5 := NBox.still HB2.out hT3
  obtain ⟨k0, k1, k2, k3, k4⟩ := hz5.cells
  have f0 := Block.free hz5 0
  have f1 := Block.free hz5 1
  have f2 := Block.free hz5 2
  have f3 := Block.free hz5 3
  have f4 := Block.free hz5 4
  have HZ5 := Lib.hid hz5
  have HT3 := Lib.hid (HT2.out.trans hT3)
  clear hz5 hT3
  go_wp2_with fail
  have hr : NBox (put5 w3 G se ep sz sm dn) G se ep sz sm dn := HZ5.out.put5 se ep sz sm dn
  have hTp := put5_touch w3 G se ep sz sm dn
  exact bodyPost_ret (results_cell_slot rfl _ _ G _ _ _ _ rfl hr Try.underlying82 rfl Try.sizeSt) rfl ⟨rfl, HT3.out.trans' hTp (fun i hi => .inr (by rw [HG.out]; exact Nat.le_of_eq hi.symm))⟩

/-- What a log's last note tells. -/
theorem lastOf_any {w : World} {gb b N se ep : Nat} {A : List UInt8} {dn : Bool} {nt : ByteArray} (h : LogAt w gb b 0 8 N nt false) (hN : N < 1000000) (hn : NoteOf N nt se ep A dn) (h0 : se < 4294967296) (h1 : ep < 4294967296) (h2 : A.length ≤ 4194304) : Calls Try.prog 69 #[.pointer (some ⟨gb, 0, none⟩)] w fun e w' => e = .returned (.tuple #[stV se ep A.length (moreN 0 A) dn, .bool true]) ∧ Touch (fun _ => False) w w' := by
  rcases Nat.eq_zero_or_pos N with hz | hz
  · subst hz
    obtain ⟨rfl, rfl, rfl, rfl⟩ := hn.1 rfl
    rw [moreN_nil]
    exact lastOf_none h
  · exact lastOf_some h (by omega) hN (hn.2 (by omega)) h0 h1 h2 (more_lt A)

/-- A keep's disk is opened again. -/
theorem kopen_again {w : World} {b lb mb c n t gb fb kb N : Nat} {nt : ByteArray} {L : List UInt8} {se ep : Nat} {A : List UInt8} {dn : Bool} (h : Kp w b lb mb c n t gb fb kb N nt L se ep A dn) (hN : N < 1000000) :
    Calls Try.prog 40 #[.pointer (some ⟨b, 0, none⟩)] w fun e w' => ∃ gb' fb' kb', e = .returned (.tuple #[.pointer (some ⟨kb', 0, none⟩), .int .i64 0]) ∧ Kp w' b lb mb c n t gb' fb' kb' N nt L se ep A dn ∧ (w.heap.size ≤ gb' ∧ w.heap.size ≤ fb' ∧ w.heap.size ≤ kb') ∧ Touch (fun _ => False) w w' :=
  kopen_calls h.duo.live.disk h.duo.n9 hN h.duo.live.secs h.duo.holds h.duo.size h.se2 h.ep2 h.note (fun W gb hL => lastOf_any hL hN h.note h.se2 h.ep2 (by have := h.duo.size; have := h.duo.live.disk.n2; omega))


theorem getN_cat (A B : List UInt8) : getN (A ++ B) = getN A + 256 ^ A.length * getN B := by
  induction A with
  | nil => simp [getN]
  | cons a r ih =>
    have e1 : getN (a :: r ++ B) = a.toNat + 256 * getN (r ++ B) := rfl
    have e2 : getN (a :: r) = a.toNat + 256 * getN r := rfl
    have e3 : 256 ^ (a :: r).length * getN B = 256 * (256 ^ r.length * getN B) := by
      rw [List.length_cons, Nat.pow_succ, Nat.mul_comm (256 ^ r.length) 256, Nat.mul_assoc]
    rw [e1, e2, e3, ih, Nat.mul_add]
    omega
theorem one_bit (j : Nat) : (1 : Nat).testBit j = decide (j = 0) := by
  cases j with
  | zero => rfl
  | succ j => rw [Nat.testBit_succ]; simp
theorem xor_high (a b n : Nat) (ha : a < 2 ^ n) : (a + 2 ^ n * b) ^^^ 2 ^ n = a + 2 ^ n * (b ^^^ 1) := by
  apply Nat.eq_of_testBit_eq
  intro j
  rw [Nat.testBit_xor, Nat.add_comm a, Nat.add_comm a, Nat.testBit_two_pow_mul_add _ ha, Nat.testBit_two_pow_mul_add _ ha, Nat.testBit_two_pow]
  by_cases hj : j < n
  · rw [if_pos hj, if_pos hj, decide_eq_false (by omega)]; simp
  · rw [if_neg hj, if_neg hj, Nat.testBit_xor, one_bit]
    congr 1
    apply decide_eq_decide.2
    omega
theorem xor_low (x r : Nat) (hx : x < 256) : (x + 256 * r) ^^^ 1 = (x ^^^ 1) + 256 * r := by
  apply Nat.eq_of_testBit_eq
  intro j
  have h1 : x ^^^ 1 < 2 ^ 8 := Nat.xor_lt_two_pow hx (by decide)
  rw [Nat.testBit_xor, Nat.add_comm x, Nat.add_comm (x ^^^ 1), show 256 = 2 ^ 8 from rfl, Nat.testBit_two_pow_mul_add _ hx, Nat.testBit_two_pow_mul_add _ h1, Nat.testBit_xor]
  by_cases hj : j < 8
  · rw [if_pos hj, if_pos hj]
  · rw [if_neg hj, if_neg hj, one_bit, decide_eq_false (by omega)]; simp
theorem bit_ne (P Q : List UInt8) (x : UInt8) : moreN 0 (P ++ (x ^^^ 1) :: Q) ≠ moreN 0 (P ++ x :: Q) := by
  refine burst_ne (P ++ x :: Q) (P ++ (x ^^^ 1) :: Q) (8 * P.length) 1 (by simp) ?_ (by decide) (by decide) (by simp; omega)
  rw [getN_cat, getN_cat, Nat.one_mul, show 2 ^ (8 * P.length) = 256 ^ P.length by rw [Nat.pow_mul]]
  have h1 := getN_lt P
  rw [show (256 : Nat) ^ P.length = 2 ^ (8 * P.length) by rw [Nat.pow_mul]] at h1 ⊢
  rw [xor_high _ _ _ h1]
  congr 2
  show (x ^^^ 1).toNat + 256 * getN Q = (x.toNat + 256 * getN Q) ^^^ 1
  rw [xor_low _ _ x.toNat_lt]
  rfl

set_option maxHeartbeats 1000000 in
theorem slots2_calls {w : World} {b lb mb c n : Nat} {L : List UInt8} {C : List Ent} {t : Nat} {f : Int} (h : DkAt w b lb mb c n L C t f true) {gb at' sn N : Nat} {note : ByteArray} {fl : Bool} (hL : LogAt w gb b at' sn N note fl) (hfit : at' + sn ≤ n) (hC : ∀ j, j < sn → readS L C (at' + j) = ⟨(sec L (at' + j)).toArray⟩) :
    Calls Try.prog 86 #[.pointer (some ⟨gb, 0, none⟩)] w fun e w' => ∃ v k, e = .returned (.tuple #[v, .int .i64 0]) ∧ w'.ownsRow w.heap.size 136 2 v k (ensV ((secsOf L at' sn).filterMap entOf)) ∧ k = ((secsOf L at' sn).filterMap entOf).length ∧ Touch (fun _ => False) w w' := by
  have hn2 := h.n2
  have H := Lib.hid h
  have HL := Lib.hid hL
  clear h hL
  obtain ⟨i0, hi, hz0, hz1, hz2⟩ := info_parts Try.infoEn
  go_enter Try.func86, Try.ntmps86
  go_wp2_with fail
  refine (make_calls w).mono ?_
  rintro e w1 ⟨rfl, hT, hT1⟩
  have HT := Lib.hid hT
  have hD1 := H.out.still hT1
  have hL1 : Block w1 gb 138 _ := HL.out.kept hT1 id
  have q2 : w1.cell? ⟨gb, 2, none⟩ = some (.int .i64 sn) := hL1.cell 2
  have HD1 := Lib.hid hD1
  have HL1 := Lib.hid hL1
  clear hT hD1 hL1
  go_wp2_with fail
  have hsn : sn ≤ 65536 := by omega
  go_loopw [4, 6, 16] (fun v4 _ i wr => ∃ j k : Nat, i = .int .i64 j ∧ j ≤ sn ∧ k ≤ j ∧ wr.ownsRow w1.heap.size 136 2 v4 k (ensV (((secsOf L at' sn).take j).filterMap entOf)) ∧ k = (((secsOf L at' sn).take j).filterMap entOf).length ∧ Touch (fun _ => False) w1 wr) (fun _ _ i _ => sn - (intOf i).toNat)
  case atStart => exact ⟨0, 0, rfl, Nat.zero_le _, Nat.zero_le _, World.ownsRow_nil _ _ _ _, by simp, Touch.refl _ _⟩
  case round =>
    obtain ⟨j, k, rfl, hj, hkj, hO, hkl, hTr⟩ := hrel
    by_cases hlt : j < sn
    · have hjI : (j : Int) < (sn : Int) := by omega
      have hD := HD1.out.still hTr
      have hL : Block wr gb 138 _ := HL1.out.kept hTr id
      have q0 : wr.cell? ⟨gb, 0, none⟩ = some (.pointer (some ⟨b, 0, none⟩)) := hL.cell 0
      have q1 : wr.cell? ⟨gb, 1, none⟩ = some (.int .i64 at') := hL.cell 1
      obtain ⟨p, hp⟩ : ∃ p : Nat, at' + j = p := ⟨_, rfl⟩
      have hpI : (at' : Int) + (j : Int) = (p : Int) := by omega
      have hpw : IntKind.i64.wrap ((p : Nat) : Int) = (p : Int) := IntWalk.i64_in _ (by omega)
      have hpn : p < n := by omega
      have HDr := Lib.hid hD
      have HP := Lib.hid hp
      have HO := Lib.hid (⟨hO, hkl⟩ : _ ∧ _)
      have HQ : Hid (wr.cell? ⟨gb, 0, none⟩ = some (.pointer (some ⟨b, 0, none⟩)) ∧ wr.cell? ⟨gb, 1, none⟩ = some (.int .i64 at')) := Lib.hid ⟨q0, q1⟩
      clear hD hL hp hO hkl q2
      have HRD : Hid (∀ W, Touch (fun _ => False) wr W → Calls Try.prog 42 #[.pointer (some ⟨b, 0, none⟩), .int .i64 p] W fun e w' => e = .returned (.tuple #[.string (readS L C p), .int .i64 0]) ∧ Touch (fun _ => False) W w') := Lib.hid (fun W hT => read_ok (HDr.out.still hT) p hpn)
      have HSS : Hid (readS L C p = ⟨(sec L p).toArray⟩) := Lib.hid (by rw [← HP.out]; exact hC j hlt)
      generalize readS L C p = SS at HRD HSS
      go_upto_region 6 with fail
      go_cut [7, 8] from 19 to 32 (fun v7 v8 wx => v7 = .string SS ∧ v8 = .int .i64 0 ∧ Touch (fun _ => False) wr wx)
      case first =>
        go_region_law (go_simp; go_at_call 42; refine (HRD.out wr.drew ((Touch.refl (fun _ => False) wr).drew)).mono ?_; rintro e wa ⟨rfl, hTp⟩; have r0 := hTp.cell (p := ⟨gb, 0, none⟩) HQ.out.1 id; have r1 := hTp.cell (p := ⟨gb, 1, none⟩) HQ.out.2 id)
        all_goals
          go_wp2_with fail
          go_meet
          exact ⟨rfl, rfl, (Touch.refl (fun _ => False) wr).drew.trans hTp⟩
      case rest =>
        obtain ⟨rfl, rfl, hTc⟩ := hcut
        have hsz : SS.size = 64 := by rw [HSS.out]; show (sec L p).toArray.size = 64; simp [sec_len H.out.len hpn]
        have hen := entryOf_calls SS hsz w.heap.size wc (HT.out.kept (hTr.trans hTc) id)
        rw [show SS.data.toList = sec L p by rw [HSS.out]] at hen
        have hTrc := hTr.trans hTc
        have HTK : Hid ((secsOf L at' sn).take (j + 1) = (secsOf L at' sn).take j ++ [sec L p]) := Lib.hid (by rw [secsOf_take _ _ _ _ hlt, HP.out])
        clear hsz q0 q1 hpI hpw
        cases hE : entOf (sec L p) with
        | none =>
          rw [hE] at hen
          unfold entV at hen
          simp only at hen
          have HE := Lib.hid hE
          clear hE
          go_wp2_with fail
          refine hen.mono ?_
          rintro e wd ⟨rfl, hTd⟩
          go_wp2_with fail
          go_roundw
          case rel =>
            refine ⟨j + 1, k, by go_num, by omega, by omega, ?_, ?_, (hTrc.trans hTd).alloc _⟩
            · rw [HTK.out, List.filterMap_append, List.filterMap_cons, HE.out, List.filterMap_nil, List.append_nil]
              exact own_still HO.out.1 ((hTc.trans hTd).alloc _) (fun _ _ => id)
            · rw [HTK.out, List.filterMap_append, List.filterMap_cons, HE.out, List.filterMap_nil, List.append_nil]
              exact HO.out.2
          case measure => simp [intOf]; omega
        | some e =>
          rw [hE] at hen
          unfold entV at hen
          simp only at hen
          have HE := Lib.hid hE
          clear hE
          obtain ⟨aa, ca, hv, _, _⟩ := own_form HO.out.1
          subst hv
          go_wp2_with fail
          refine hen.mono ?_
          rintro e' wd ⟨rfl, hTd⟩
          have hTcd := hTc.trans hTd
          have hsz1 : (wd.alloc (.cells #[.int .u64 (e.1 : Nat), .string ⟨e.2.toArray⟩] 136)).heap.size = wd.heap.size + 1 := Array.size_push ..
          have hnew : ((wd.alloc (.cells #[.int .u64 (e.1 : Nat), .string ⟨e.2.toArray⟩] 136)).alloc (.cells #[.int .u64 (e.1 : Nat), .string ⟨e.2.toArray⟩] 136)).heap[wd.heap.size + 1]? = some (.cells #[.int .u64 (e.1 : Nat), .string ⟨e.2.toArray⟩] 136) := by
            rw [← hsz1]; exact heap_alloc_new _ _
          have hTn : Touch (fun _ => False) wr ((wd.alloc (.cells #[.int .u64 (e.1 : Nat), .string ⟨e.2.toArray⟩] 136)).alloc (.cells #[.int .u64 (e.1 : Nat), .string ⟨e.2.toArray⟩] 136)) := (hTcd.alloc _).alloc _
          have hOn := own_still HO.out.1 hTn (fun _ _ => id)
          have hnb := hTn.size
          have hwb := hTr.size
          have hwb1 := hT1.size
          have HN := Lib.hid (⟨hnew, hOn, hTn⟩ : _ ∧ _ ∧ _)
          clear hnew hOn hTn
          go_wp2_with (at_builtin; refine wpList_append_own_at _ rfl (.tmp 43) (.tmp 45) 139 rfl w1.heap.size 136 i0 _ 2 24 Try.underlying139 hi hz0 hz1 hz2 rfl (by decide) (.slice aa k ca) k _ rfl HN.out.2.1 ⟨wd.heap.size + 1, 0, none⟩ 1 1 (enV e) rfl rfl (new_en HN.out.1) (en_one e) (by unfold maxLen; omega) (by omega) (by omega) ?_; intro v2 w2 hrow2 hgrow _ hown2)
          go_roundw
          case rel =>
            refine ⟨j + 1, k + 1, by go_num, by omega, by omega, ?_, ?_, ?_⟩
            · rw [HTK.out, List.filterMap_append, List.filterMap_cons, HE.out, List.filterMap_nil, ensV_snoc]
              exact hrow2
            · rw [HTK.out, List.filterMap_append, List.filterMap_cons, HE.out, List.filterMap_nil, List.length_append, ← HO.out.2]
              rfl
            · have := own_base HO.out.1
              exact ((hTr.trans HN.out.2.2).trans' (Touch.of_grown hgrow) (fun i hi => .inr (by have := this i hi.symm; omega)))
          case measure => simp [intOf]; omega
    · obtain rfl : j = sn := by omega
      have hfull : (secsOf L at' j).take j = secsOf L at' j := List.take_of_length_le (by rw [secsOf_len]; exact Nat.le_refl _)
      rw [hfull] at hO hkl
      have HO := Lib.hid (⟨hO, hkl⟩ : _ ∧ _)
      clear hO hkl hfull
      go_wp2_with fail
      go_ret2
      exact ⟨_, k, rfl, own_weaken HO.out.1 hT1.size, HO.out.2, hT1.trans hTr⟩


set_option maxHeartbeats 1000000 in
theorem open2_calls {w : World} {b lb mb c n : Nat} {L : List UInt8} {C : List Ent} {t : Nat} {f : Int} (h : DkAt w b lb mb c n L C t f true) (at' sn : Nat) (h2 : 2 ≤ sn) (hfit : at' + sn ≤ n) (hC : ∀ j, j < sn → readS L C (at' + j) = ⟨(sec L (at' + j)).toArray⟩) :
    Calls Try.prog 68 #[.pointer (some ⟨b, 0, none⟩), .int .i64 at', .int .i64 sn] w fun e w' => ∃ gb, e = .returned (.tuple #[.pointer (some ⟨gb, 0, none⟩), .int .i64 0]) ∧ LogAt w' gb b at' sn (lastOf ((secsOf L at' sn).filterMap entOf)).1 ⟨(lastOf ((secsOf L at' sn).filterMap entOf)).2.toArray⟩ false ∧ w.heap.size ≤ gb ∧ Touch (fun _ => False) w w' := by
  have hn2 := h.n2
  have H := Lib.hid h
  clear h
  have hI1 : ¬ ((sn : Int) < 2) := by omega
  have hI2 : IntKind.i64.wrap ((n : Int) - (sn : Int)) = (n : Int) - (sn : Int) := IntWalk.i64_in _ (by omega)
  have hI3 : ¬ ((n : Int) - (sn : Int) < (at' : Int)) := by omega
  go_enter Try.func68, Try.ntmps68
  go_wp2_with (go_at_call 49; refine (sectors_calls H.out).mono ?_; rintro e w' ⟨rfl, rfl⟩)
  have hLn : LogAt (w.alloc (.cells #[.pointer (some ⟨b, 0, none⟩), .int .i64 at', .int .i64 sn, .int .u64 0, .string ⟨#[]⟩, .bool false] 138)) w.heap.size b at' sn 0 ⟨#[]⟩ false := heap_alloc_new w _
  have hTn := (Touch.refl (fun _ => False) w).alloc (.cells #[.pointer (some ⟨b, 0, none⟩), .int .i64 at', .int .i64 sn, .int .u64 0, .string ⟨#[]⟩, .bool false] 138)
  refine (slots2_calls (H.out.still hTn) hLn hfit hC).mono ?_
  rintro e w1 ⟨sv, k, rfl, hO, hk, hT1⟩
  have hL1 : LogAt w1 w.heap.size b at' sn 0 ⟨#[]⟩ false := hLn.kept hT1 id
  have hT01 := hTn.trans hT1
  have hlts := ents_lt (secs := secsOf L at' sn)
  have hk2 : k ≤ 65536 := by rw [hk]; exact Nat.le_trans (List.length_filterMap_le _ _) (by rw [secsOf_len]; omega)
  obtain ⟨gb, hgb⟩ : ∃ gb, w.heap.size = gb := ⟨_, rfl⟩
  have hgs : gb < w1.heap.size := by rw [← hgb]; exact hL1.lt
  have hOb := own_base hO
  rw [show (w.alloc (.cells #[.pointer (some ⟨b, 0, none⟩), .int .i64 at', .int .i64 sn, .int .u64 0, .string ⟨#[]⟩, .bool false] 138)).heap.size = w.heap.size + 1 from Array.size_push .., hgb] at hO hOb
  rw [hgb] at hL1
  obtain ⟨es, hes⟩ : ∃ es, (secsOf L at' sn).filterMap entOf = es := ⟨_, rfl⟩
  rw [hes] at hO hk hlts
  have HE : Hid ((lastOf ((secsOf L at' sn).filterMap entOf)) = lastFrom (0, []) es) := Lib.hid (by rw [hes]; rfl)
  clear hes
  obtain ⟨a, cap, hv, hc1, hc2⟩ := own_form hO
  subst hv
  have HO := Lib.hid hO
  have HK := Lib.hid hk
  have HL1 := Lib.hid hL1
  have HT1 := Lib.hid hT01
  have HB := Lib.hid hOb
  have HG := Lib.hid hgb
  rw [hgb]
  clear hO hk hL1 hLn hTn hT1 hT01 hOb hgb
  go_wp2_with fail
  go_loopw [12, 46] (fun _ i wr => ∃ j : Nat, i = .int .i64 j ∧ j ≤ k ∧ LogAt wr gb b at' sn (lastFrom (0, []) (es.take j)).1 ⟨(lastFrom (0, []) (es.take j)).2.toArray⟩ false ∧ (lastFrom (0, []) (es.take j)).1 < 18446744073709551616 ∧ Touch (fun g => g = gb) w1 wr) (fun _ i _ => k - (intOf i).toNat)
  case atStart => exact ⟨0, rfl, Nat.zero_le _, by simpa [lastFrom] using HL1.out, by simp [lastFrom], Touch.refl _ _⟩
  case round =>
    obtain ⟨j, rfl, hj, hL, hN, hTr⟩ := hrel
    by_cases hlt : j < k
    · have hjI : (j : Int) < (k : Int) := by omega
      obtain ⟨g, cap', hv, hgb2, hcell⟩ := own_cell HO.out (by omega)
      cases hv
      have hgne : ¬ (g = gb) := by omega
      have hje : j < es.length := by rw [← HK.out]; exact hlt
      obtain ⟨u0, u1⟩ := ensV_at es j hje
      have x0 := hTr.cell (hcell _ _ u0) hgne
      have x1 := hTr.cell (hcell _ _ u1) hgne
      have HS : Hid (lastFrom (0, []) (es.take (j + 1)) = if (lastFrom (0, []) (es.take j)).1 < es[j].1 then es[j] else lastFrom (0, []) (es.take j)) := Lib.hid (by rw [List.take_succ_eq_append_getElem hje, lastFrom_snoc])
      have hel := hlts _ (List.getElem_mem hje)
      generalize lastFrom (0, []) (es.take j) = l at hL hN HS
      generalize es[j] = e at x0 x1 HS hel
      have q0 : wr.cell? ⟨gb, 3, none⟩ = some (.int .u64 (l.1 : Nat)) := hL.cell 3
      have q1 : wr.cell? ⟨gb, 4, none⟩ = some (.string ⟨l.2.toArray⟩) := hL.cell 4
      have q3 := hL.free 3
      have q4 := hL.free 4
      have hgr : gb < wr.heap.size := hL.lt
      have HL := Lib.hid hL
      clear hL u0 u1 hcell
      go_upto_region 12 with fail
      go_quiet (fail)
      by_cases hgt : (l.1 : Int) < (e.1 : Int)
      · go_wp2_with fail
        go_roundw
        case rel =>
          refine ⟨j + 1, by go_num, by omega, ?_, ?_, ?_⟩
          · rw [HS.out, if_pos (by omega)]
            exact LogAt.last (HL.out.kept (((Touch.refl (fun _ => False) wr).alloc _).drewN _) id) _ _
          · rw [HS.out, if_pos (by omega)]; exact hel
          · exact (((hTr.alloc _).drewN _).setCell (p := ⟨gb, 3, none⟩) (Or.inl rfl) _).setCell (p := ⟨gb, 4, none⟩) (Or.inl rfl) _
        case measure => simp [intOf]; omega
      · go_wp2_with fail
        go_roundw
        case rel =>
          refine ⟨j + 1, by go_num, by omega, ?_, ?_, ?_⟩
          · rw [HS.out, if_neg (by omega)]
            exact HL.out.kept (((Touch.refl (fun _ => False) wr).alloc _).drewN _) id
          · rw [HS.out, if_neg (by omega)]; exact hN
          · exact (hTr.alloc _).drewN _
        case measure => simp [intOf]; omega
    · obtain rfl : j = k := by omega
      have hfull : es.take j = es := List.take_of_length_le (by rw [HK.out]; exact Nat.le_refl _)
      rw [hfull] at hL
      have HL := Lib.hid hL
      clear hL
      go_wp2_with fail
      go_ret2
      exact ⟨gb, rfl, by rw [HE.out]; exact HL.out, Nat.le_of_eq HG.out, HT1.out.trans' hTr (fun i hi => .inr (by have := HG.out; omega))⟩


end Go.Proofs.Ytmcakilpdecacaa

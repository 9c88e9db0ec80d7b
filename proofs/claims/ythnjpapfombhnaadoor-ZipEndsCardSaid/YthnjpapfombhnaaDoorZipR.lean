/- Contract of the document's answer: an archive's end. -/
import Derived.Test.YthnjpapfombhnaaDoorZipO
namespace Go.Proofs.YthnjpapfombhnaaDoor
open Go Go.RowKit
set_option maxRecDepth 100000

theorem wp_call {P : Program} {o : Oper} {a : Act} {w : World} {K : Act → World → Prop} {Q : Exit → Act → World → Prop} {f : FuncId} {args : Array Value} {v : Value} (h : (execOp a.eval o).run P w = .ok (.enter f args) w)
    (hc : Calls P f args w fun e w' => e = .returned v ∧ Touch (fun _ => False) w w') (hk : ∀ w', Touch (fun _ => False) w w' → K (a.put o.dst v) w') : o.wp P a w K Q := by
  unfold Oper.wp
  rw [h]
  exact hc.mono fun e w' ⟨he, ht⟩ => by subst he; exact hk w' ht
theorem wp_val2 {P : Program} {o : Oper} {a : Act} {w w' : World} {K : Act → World → Prop} {Q : Exit → Act → World → Prop} {v : Value} (h : (execOp a.eval o).run P w = .ok (.value v) w') (hk : K (a.put o.dst v) w') : o.wp P a w K Q := by
  unfold Oper.wp
  rw [h]
  exact hk

/-- What each operation of the wide end leaves. -/
def endI (x44 x45 z8 xc xz xa xs x40 x1 : ByteArray) (cI zI aI sI : Int) (i : Nat) (v : Value) (W : World) : Prop := match i with
  | 0 => v = .string x44
  | 1 => v = .string ((ByteArray.mk #[80, 75, 6, 6]) ++ x44)
  | 2 => v = .string x45
  | 3 => v = .string (((ByteArray.mk #[80, 75, 6, 6]) ++ x44) ++ x45)
  | 4 => v = .string x45
  | 5 => v = .string ((((ByteArray.mk #[80, 75, 6, 6]) ++ x44) ++ x45) ++ x45)
  | 6 => ∃ g, v = .slice (some ⟨g, 0, none⟩) 8 8 ∧ W.heap[g]? = some (.cells #[.int .u8 0, .int .u8 0, .int .u8 0, .int .u8 0, .int .u8 0, .int .u8 0, .int .u8 0, .int .u8 0] 5)
  | 7 => v = .string z8
  | 8 => v = .string (((((ByteArray.mk #[80, 75, 6, 6]) ++ x44) ++ x45) ++ x45) ++ z8)
  | 9 => v = .int .u64 cI
  | 10 => v = .string xc
  | 11 => v = .string ((((((ByteArray.mk #[80, 75, 6, 6]) ++ x44) ++ x45) ++ x45) ++ z8) ++ xc)
  | 12 => v = .int .u64 cI
  | 13 => v = .string xc
  | 14 => v = .string (((((((ByteArray.mk #[80, 75, 6, 6]) ++ x44) ++ x45) ++ x45) ++ z8) ++ xc) ++ xc)
  | 15 => v = .int .u64 zI
  | 16 => v = .string xz
  | 17 => v = .string ((((((((ByteArray.mk #[80, 75, 6, 6]) ++ x44) ++ x45) ++ x45) ++ z8) ++ xc) ++ xc) ++ xz)
  | 18 => v = .int .u64 aI
  | 19 => v = .string xa
  | 20 => v = .string (((((((((ByteArray.mk #[80, 75, 6, 6]) ++ x44) ++ x45) ++ x45) ++ z8) ++ xc) ++ xc) ++ xz) ++ xa)
  | 21 => v = .string ((((((((((ByteArray.mk #[80, 75, 6, 6]) ++ x44) ++ x45) ++ x45) ++ z8) ++ xc) ++ xc) ++ xz) ++ xa) ++ (ByteArray.mk #[80, 75, 6, 7]))
  | 22 => v = .string x40
  | 23 => v = .string (((((((((((ByteArray.mk #[80, 75, 6, 6]) ++ x44) ++ x45) ++ x45) ++ z8) ++ xc) ++ xc) ++ xz) ++ xa) ++ (ByteArray.mk #[80, 75, 6, 7])) ++ x40)
  | 24 => v = .int .u64 aI
  | 25 => v = .int .u64 zI
  | 26 => v = .int .u64 sI
  | 27 => v = .string xs
  | 28 => v = .string ((((((((((((ByteArray.mk #[80, 75, 6, 6]) ++ x44) ++ x45) ++ x45) ++ z8) ++ xc) ++ xc) ++ xz) ++ xa) ++ (ByteArray.mk #[80, 75, 6, 7])) ++ x40) ++ xs)
  | 29 => v = .string x1
  | 30 => v = .string (((((((((((((ByteArray.mk #[80, 75, 6, 6]) ++ x44) ++ x45) ++ x45) ++ z8) ++ xc) ++ xc) ++ xz) ++ xa) ++ (ByteArray.mk #[80, 75, 6, 7])) ++ x40) ++ xs) ++ x1)
  | 31 => v = .string (((((((((((((ByteArray.mk #[80, 75, 6, 6]) ++ x44) ++ x45) ++ x45) ++ z8) ++ xc) ++ xc) ++ xz) ++ xa) ++ (ByteArray.mk #[80, 75, 6, 7])) ++ x40) ++ xs) ++ x1)
  | _ => True
theorem endI_stab (x44 x45 z8 xc xz xa xs x40 x1 : ByteArray) (cI zI aI sI : Int) {W W' : World} (h : Touch (fun _ => False) W W') (j : Nat) (u : Value) (hj : endI x44 x45 z8 xc xz xa xs x40 x1 cI zI aI sI j u W) : endI x44 x45 z8 xc xz xa xs x40 x1 cI zI aI sI j u W' := by
  rcases (by omega : j = 0 ∨ j = 1 ∨ j = 2 ∨ j = 3 ∨ j = 4 ∨ j = 5 ∨ j = 6 ∨ j = 7 ∨ j = 8 ∨ j = 9 ∨ j = 10 ∨ j = 11 ∨ j = 12 ∨ j = 13 ∨ j = 14 ∨ j = 15 ∨ j = 16 ∨ j = 17 ∨ j = 18 ∨ j = 19 ∨ j = 20 ∨ j = 21 ∨ j = 22 ∨ j = 23 ∨ j = 24 ∨ j = 25 ∨ j = 26 ∨ j = 27 ∨ j = 28 ∨ j = 29 ∨ j = 30 ∨ j = 31 ∨ 32 ≤ j) with rfl | rfl | rfl | rfl | rfl | rfl | rfl | rfl | rfl | rfl | rfl | rfl | rfl | rfl | rfl | rfl | rfl | rfl | rfl | rfl | rfl | rfl | rfl | rfl | rfl | rfl | rfl | rfl | rfl | rfl | rfl | rfl | hj2
  · exact hj
  · exact hj
  · exact hj
  · exact hj
  · exact hj
  · exact hj
  · obtain ⟨g, e, hg⟩ := hj
    exact ⟨g, e, h.held hg id⟩
  · exact hj
  · exact hj
  · exact hj
  · exact hj
  · exact hj
  · exact hj
  · exact hj
  · exact hj
  · exact hj
  · exact hj
  · exact hj
  · exact hj
  · exact hj
  · exact hj
  · exact hj
  · exact hj
  · exact hj
  · exact hj
  · exact hj
  · exact hj
  · exact hj
  · exact hj
  · exact hj
  · exact hj
  · exact hj
  · obtain ⟨m, rfl⟩ : ∃ m, j = m + 32 := ⟨j - 32, by omega⟩
    exact trivial

theorem Tryd.infoU8 : (Tryd.prog.info? 5).map (fun i => (i.zero, i.size, i.bytes)) = some (some (.int .u8 0), 1, 1) := by kernel_rfl
theorem make8 (W : World) : (Instr.makeSlice 31 (.int .i64 8) (.int .i64 8)).run Tryd.prog W = .ok (.slice (some ⟨W.heap.size, 0, none⟩) 8 8) (W.alloc (.cells #[.int .u8 0, .int .u8 0, .int .u8 0, .int .u8 0, .int .u8 0, .int .u8 0, .int .u8 0, .int .u8 0] 5)) := by
  obtain ⟨i0, hi, hz0, hz1, hz2⟩ := info_parts Tryd.infoU8
  have h := run_makeSlice (P := Tryd.prog) W 31 5 i0 _ Tryd.underlying31 hi hz0 .i64 .i64 8 8 (by omega) (by omega) (by rw [hz1]; decide) (by rw [hz2]; decide) (by omega)
  rw [hz1, show madeCells (Value.int IntKind.u8 0).cells (Int.toNat 8 * 1) = #[.int .u8 0, .int .u8 0, .int .u8 0, .int .u8 0, .int .u8 0, .int .u8 0, .int .u8 0, .int .u8 0] by kernel_rfl] at h
  exact h

theorem mark_size6 : (ByteArray.mk #[80, 75, 6, 6]).size = 4 := rfl
theorem mark_size7 : (ByteArray.mk #[80, 75, 6, 7]).size = 4 := rfl
theorem z8_eq : (⟨(List.replicate 8 (0 : UInt8)).toArray⟩ : ByteArray) = Z 8 := by
  apply ByteArray.ext
  apply Array.ext'
  rw [Z_list]
theorem Z4_P : Z 4 = P 4 0 := by decide +kernel
theorem Z2_P : Z 2 = P 2 0 := by decide +kernel

theorem list_cons {l : List Value} {n : Nat} (h : l.length = n + 1) : ∃ x l', l = x :: l' ∧ l'.length = n := by
  cases l with
  | nil => simp at h
  | cons x l => exact ⟨x, l, rfl, by simpa using h⟩

set_option maxHeartbeats 8000000 in
theorem refend_small (c z a : Nat) (w : World) (h : max (max c z) a < 4611686018427387904) : Calls Tryd.prog 26 #[.int .u64 c, .int .u64 z, .int .u64 a] w fun e w' => e = .returned (.string (endTail c z a (if isWide c z a then wideB c z a else ByteArray.empty))) ∧ Touch (fun _ => False) w w' := by
  have hsum : IntKind.u64.wrap ((a : Int) + (z : Int)) = ((a + z : Nat) : Int) := by rw [IntKind.wrap_u64]; omega
  have Hc := fun W => refput_int c 8 c 8 rfl rfl (by decide) (by omega) W
  have H44 := fun W => refput_int 44 8 44 8 rfl rfl (by decide) (by decide) W
  have H45 := fun W => n2_calls 45 45 rfl (by decide) W
  have Hz := fun W => refput_int z 8 z 8 rfl rfl (by decide) (by omega) W
  have Ha := fun W => refput_int a 8 a 8 rfl rfl (by decide) (by omega) W
  have Hs := fun W => refput_int ((a + z : Nat) : Int) 8 (a + z) 8 rfl rfl (by decide) (by omega) W
  have H40 := fun W => n4_calls 0 0 rfl (by decide) W
  have H1 := fun W => n4_calls 1 1 rfl (by decide) W
  rw [← Z4_P] at H40
  obtain ⟨b1, hb1⟩ : ∃ b, decide (65535 ≤ c) = b := ⟨_, rfl⟩
  obtain ⟨b2, hb2⟩ : ∃ b, decide (4294967295 ≤ z) = b := ⟨_, rfl⟩
  obtain ⟨b3, hb3⟩ : ∃ b, decide (4294967295 ≤ a) = b := ⟨_, rfl⟩
  have d1 : decide ((65534 : Int) < (c : Int)) = b1 := by rw [← hb1]; apply decide_eq_decide.2; omega
  have d2 : decide ((4294967294 : Int) < (z : Int)) = b2 := by rw [← hb2]; apply decide_eq_decide.2; omega
  have d3 : decide ((4294967294 : Int) < (a : Int)) = b3 := by rw [← hb3]; apply decide_eq_decide.2; omega
  have e1 : decide ((4611686018427387904 : Int) ≤ (c : Int)) = false := by apply decide_eq_false; omega
  have e2 : decide ((4611686018427387904 : Int) ≤ (z : Int)) = false := by apply decide_eq_false; omega
  have e3 : decide ((4611686018427387904 : Int) ≤ (a : Int)) = false := by apply decide_eq_false; omega
  have hiw : isWide c z a = (b1 || (b2 || b3)) := by unfold isWide; rw [hb1, hb2, hb3]
  rw [hiw]
  obtain ⟨C, hC⟩ : ∃ C, min c 65535 = C := ⟨_, rfl⟩
  obtain ⟨D, hD⟩ : ∃ D, min z 4294967295 = D := ⟨_, rfl⟩
  obtain ⟨E, hE⟩ : ∃ E, min a 4294967295 = E := ⟨_, rfl⟩
  have f1 : b1 = true → C = 65535 := fun hb => by rw [hb] at hb1; have := of_decide_eq_true hb1; omega
  have f1' : b1 = false → c = C := fun hb => by rw [hb] at hb1; have := of_decide_eq_false hb1; omega
  have f2 : b2 = true → D = 4294967295 := fun hb => by rw [hb] at hb2; have := of_decide_eq_true hb2; omega
  have f2' : b2 = false → z = D := fun hb => by rw [hb] at hb2; have := of_decide_eq_false hb2; omega
  have f3 : b3 = true → E = 4294967295 := fun hb => by rw [hb] at hb3; have := of_decide_eq_true hb3; omega
  have f3' : b3 = false → a = E := fun hb => by rw [hb] at hb3; have := of_decide_eq_false hb3; omega
  unfold endTail wideB
  rw [hC, hD, hE]
  have HC := Lib.hid (fun W => n2_calls C C rfl (by omega) W)
  have HD := Lib.hid (fun W => n4_calls D D rfl (by omega) W)
  have HE := Lib.hid (fun W => n4_calls E E rfl (by omega) W)
  have HN2 := fun W => n2_calls 0 0 rfl (by decide) W
  rw [← Z2_P] at HN2
  have s44 := P_size 8 44
  have s45 := P_size 2 45
  have s8 := Z_size 8
  have sc := P_size 8 c
  have sz := P_size 8 z
  have sa := P_size 8 a
  have ss := P_size 8 (a + z)
  have s40 := Z_size 4
  have s1 := P_size 4 1
  have sC := P_size 2 C
  have sD := P_size 4 D
  have sE := P_size 4 E
  have s2 := Z_size 2
  have hz8 := z8_eq
  have KDE := Lib.hid (fun h : D = E => congrArg (P 4) h)
  generalize P 8 44 = x44 at *
  generalize P 2 45 = x45 at *
  generalize Z 8 = z8 at *
  generalize P 8 c = xc at *
  generalize P 8 z = xz at *
  generalize P 8 a = xa at *
  generalize P 8 (a + z) = xs at *
  generalize Z 4 = x40 at *
  generalize P 4 1 = x1 at *
  generalize Z 2 = x2 at *
  generalize P 2 C = xC at *
  generalize P 4 D = xD at *
  generalize P 4 E = xE at *
  generalize ((a + z : Nat) : Int) = sI at *
  obtain ⟨X, hX⟩ : ∃ X, (if (b1 || (b2 || b3)) = true then (((((((((((((ByteArray.mk #[80, 75, 6, 6]) ++ x44) ++ x45) ++ x45) ++ z8) ++ xc) ++ xc) ++ xz) ++ xa) ++ (ByteArray.mk #[80, 75, 6, 7])) ++ x40) ++ xs) ++ x1) else ByteArray.empty) = X := ⟨_, rfl⟩
  rw [hX]
  have hXs : X.size ≤ 100 := by
    rw [← hX]
    split
    · simp only [ByteArray.size_append, s44, s45, s8, sc, sz, sa, ss, s40, s1, mark_size6, mark_size7]; omega
    · decide
  have KX := Lib.hid hX
  clear hX
  have K1 := Lib.hid (And.intro f1 f1')
  have K2 := Lib.hid (And.intro f2 f2')
  have K3 := Lib.hid (And.intro f3 f3')
  have HH40 := Lib.hid H40
  have HHN2 := Lib.hid HN2
  have HSum := Lib.hid hsum
  have HHc := Lib.hid Hc
  have HH44 := Lib.hid H44
  have HH45 := Lib.hid H45
  have HHz := Lib.hid Hz
  have HHa := Lib.hid Ha
  have HHs := Lib.hid Hs
  have HH1 := Lib.hid H1
  have S44 := Lib.hid s44
  have S45 := Lib.hid s45
  have S8 := Lib.hid s8
  have Sc := Lib.hid sc
  have Sz := Lib.hid sz
  have Sa := Lib.hid sa
  have Ss := Lib.hid ss
  have S40 := Lib.hid s40
  have S1 := Lib.hid s1
  have SC := Lib.hid sC
  have SD := Lib.hid sD
  have SE := Lib.hid sE
  have S2 := Lib.hid s2
  have HZ8 := Lib.hid hz8
  clear f1 f1' f2 f2' f3 f3' hC hD hE hb1 hb2 hb3 hiw h H40 HN2 hsum Hc H44 H45 Hz Ha Hs H1 s44 s45 s8 sc sz sa ss s40 s1 sC sD sE s2 hz8
  go_enter Tryd.func26, Tryd.ntmps26
  go_upto_region 4 with fail
  go_cut [30] (fun v30 wx => v30 = .bool (b1 || (b2 || b3)) ∧ w = wx)
  case first =>
    cases b1 <;> cases b2 <;> cases b3
    all_goals
      go_wp2_with fail
      go_meet
      exact ⟨rfl, rfl⟩
  case rest =>
    obtain ⟨rfl, rfl⟩ := hcut
    go_upto_if 30 with fail
    go_cut [7] (fun v7 wx => v7 = .string X ∧ Touch (fun _ => False) w wx)
    case first =>
      cases hbb : (b1 || (b2 || b3))
      · go_wp2_with fail
        go_meet
        exact ⟨congrArg Value.string (by rw [← KX.out, hbb]; rfl), Touch.refl _ _⟩
      · go_upto_region 5 with fail
        have hsum := HSum.out
        have Hc := HHc.out
        have H44 := HH44.out
        have H45 := HH45.out
        have Hz := HHz.out
        have Ha := HHa.out
        have Hs := HHs.out
        have H40 := HH40.out
        have H1 := HH1.out
        have s44 := S44.out
        have s45 := S45.out
        have s8 := S8.out
        have sc := Sc.out
        have sz := Sz.out
        have sa := Sa.out
        have ss := Ss.out
        have s40 := S40.out
        have s1 := S1.out
        have hz8 := HZ8.out
        clear d1 d2 d3 e1 e2 e3
        generalize (c : Int) = cI at *
        generalize (z : Int) = zI at *
        generalize (a : Int) = aI at *
        refine wp_region_inv (fun W => Touch (fun _ => False) w W) (endI x44 x45 z8 xc xz xa xs x40 x1 cI zI aI sI) (by kernel_rfl) (by kernel_rfl) (by kernel_rfl) (Touch.refl _ _).drew ?_ ?_
        · intro i o hi a W hC hbase hdep
          have hlt := op_lt hi
          obtain ⟨hbd, hbs, hbb⟩ := hbase
          have b0 : a.tmps[0]? = some (.int .u64 cI) := (hbb 0 (noDst_spec (by kernel_rfl))).trans rfl
          have b1 : a.tmps[1]? = some (.int .u64 zI) := (hbb 1 (noDst_spec (by kernel_rfl))).trans rfl
          have b2 : a.tmps[2]? = some (.int .u64 aI) := (hbb 2 (noDst_spec (by kernel_rfl))).trans rfl
          rcases (by simp at hlt; omega : i = 0 ∨ i = 1 ∨ i = 2 ∨ i = 3 ∨ i = 4 ∨ i = 5 ∨ i = 6 ∨ i = 7 ∨ i = 8 ∨ i = 9 ∨ i = 10 ∨ i = 11 ∨ i = 12 ∨ i = 13 ∨ i = 14 ∨ i = 15 ∨ i = 16 ∨ i = 17 ∨ i = 18 ∨ i = 19 ∨ i = 20 ∨ i = 21 ∨ i = 22 ∨ i = 23 ∨ i = 24 ∨ i = 25 ∨ i = 26 ∨ i = 27 ∨ i = 28 ∨ i = 29 ∨ i = 30 ∨ i = 31) with rfl | rfl | rfl | rfl | rfl | rfl | rfl | rfl | rfl | rfl | rfl | rfl | rfl | rfl | rfl | rfl | rfl | rfl | rfl | rfl | rfl | rfl | rfl | rfl | rfl | rfl | rfl | rfl | rfl | rfl | rfl | rfl
          · simp only [List.getElem?_toArray, List.getElem?_cons_zero, List.getElem?_cons_succ, Option.some.injEq] at hi
            subst hi
            clear hdep
            refine wp_call (f := 52) (args := #[.int .u64 44, .int .i64 8]) (v := .string x44) ?_ (H44 W) (fun w' ht => ⟨_, rfl, rfl, hC.trans ht, endI_stab x44 x45 z8 xc xz xa xs x40 x1 cI zI aI sI ht⟩)
            simp [execOp, resolve, invoke, Act.eval]
            rfl
          · simp only [List.getElem?_toArray, List.getElem?_cons_zero, List.getElem?_cons_succ, Option.some.injEq] at hi
            subst hi
            simp [Region.binds, valOf, endI] at hdep
            refine wp_val (v := .string ((ByteArray.mk #[80, 75, 6, 6]) ++ x44)) ?_ ⟨_, rfl, rfl, hC, fun _ _ h => h⟩
            have hadd := run_string_add_sum (P := Tryd.prog) W (ByteArray.mk #[80, 75, 6, 6]) x44 (by simp only [ByteArray.size_append, s44, s45, s8, sc, sz, sa, ss, s40, s1, mark_size6, mark_size7]; omega)
            simp [execOp, Act.eval, hdep, binOp_string_add, hadd, eqGuard]
          · simp only [List.getElem?_toArray, List.getElem?_cons_zero, List.getElem?_cons_succ, Option.some.injEq] at hi
            subst hi
            simp [Region.binds, valOf, endI] at hdep
            refine wp_call (f := 53) (args := #[.int .u64 45]) (v := .string x45) ?_ (H45 W) (fun w' ht => ⟨_, rfl, rfl, hC.trans ht, endI_stab x44 x45 z8 xc xz xa xs x40 x1 cI zI aI sI ht⟩)
            simp [execOp, resolve, invoke, Act.eval, hdep]
            rfl
          · simp only [List.getElem?_toArray, List.getElem?_cons_zero, List.getElem?_cons_succ, Option.some.injEq] at hi
            subst hi
            simp [Region.binds, valOf, endI] at hdep
            refine wp_val (v := .string (((ByteArray.mk #[80, 75, 6, 6]) ++ x44) ++ x45)) ?_ ⟨_, rfl, rfl, hC, fun _ _ h => h⟩
            have hadd := run_string_add_sum (P := Tryd.prog) W ((ByteArray.mk #[80, 75, 6, 6]) ++ x44) x45 (by simp only [ByteArray.size_append, s44, s45, s8, sc, sz, sa, ss, s40, s1, mark_size6, mark_size7]; omega)
            simp [execOp, Act.eval, hdep, binOp_string_add, hadd, eqGuard]
          · simp only [List.getElem?_toArray, List.getElem?_cons_zero, List.getElem?_cons_succ, Option.some.injEq] at hi
            subst hi
            simp [Region.binds, valOf, endI] at hdep
            refine wp_call (f := 53) (args := #[.int .u64 45]) (v := .string x45) ?_ (H45 W) (fun w' ht => ⟨_, rfl, rfl, hC.trans ht, endI_stab x44 x45 z8 xc xz xa xs x40 x1 cI zI aI sI ht⟩)
            simp [execOp, resolve, invoke, Act.eval, hdep]
            rfl
          · simp only [List.getElem?_toArray, List.getElem?_cons_zero, List.getElem?_cons_succ, Option.some.injEq] at hi
            subst hi
            simp [Region.binds, valOf, endI] at hdep
            refine wp_val (v := .string ((((ByteArray.mk #[80, 75, 6, 6]) ++ x44) ++ x45) ++ x45)) ?_ ⟨_, rfl, rfl, hC, fun _ _ h => h⟩
            have hadd := run_string_add_sum (P := Tryd.prog) W (((ByteArray.mk #[80, 75, 6, 6]) ++ x44) ++ x45) x45 (by simp only [ByteArray.size_append, s44, s45, s8, sc, sz, sa, ss, s40, s1, mark_size6, mark_size7]; omega)
            simp [execOp, Act.eval, hdep, binOp_string_add, hadd, eqGuard]
          · simp only [List.getElem?_toArray, List.getElem?_cons_zero, List.getElem?_cons_succ, Option.some.injEq] at hi
            subst hi
            simp [Region.binds, valOf, endI] at hdep
            refine wp_val2 (v := .slice (some ⟨W.heap.size, 0, none⟩) 8 8) (w' := W.alloc (.cells #[.int .u8 0, .int .u8 0, .int .u8 0, .int .u8 0, .int .u8 0, .int .u8 0, .int .u8 0, .int .u8 0] 5)) ?_ ⟨_, rfl, ⟨W.heap.size, rfl, heap_alloc_new W _⟩, hC.alloc _, endI_stab x44 x45 z8 xc xz xa xs x40 x1 cI zI aI sI ((Touch.refl _ _).alloc _)⟩
            simp [execOp, Act.eval, make8 W]
          · simp only [List.getElem?_toArray, List.getElem?_cons_zero, List.getElem?_cons_succ, Option.some.injEq] at hi
            subst hi
            simp [Region.binds, valOf, endI] at hdep
            obtain ⟨g, hv, hg⟩ := hdep
            refine wp_val (v := .string z8) ?_ ⟨_, rfl, rfl, hC, fun _ _ h => h⟩
            have hrow : Row W 5 (.slice (some ⟨g, 0, none⟩) 8 8) (byteVs (List.replicate 8 0)) := .inr ⟨g, 0, 8, _, rfl, hg, by decide, by decide, by decide, rfl⟩
            have hcv := run_bytes_row (P := Tryd.prog) W 31 5 9 Tryd.underlying31 Tryd.underlying5 Tryd.underlying9 hrow
            rw [hz8] at hcv
            simp [execOp, Act.eval, hv, hcv]
          · simp only [List.getElem?_toArray, List.getElem?_cons_zero, List.getElem?_cons_succ, Option.some.injEq] at hi
            subst hi
            simp [Region.binds, valOf, endI] at hdep
            refine wp_val (v := .string (((((ByteArray.mk #[80, 75, 6, 6]) ++ x44) ++ x45) ++ x45) ++ z8)) ?_ ⟨_, rfl, rfl, hC, fun _ _ h => h⟩
            have hadd := run_string_add_sum (P := Tryd.prog) W ((((ByteArray.mk #[80, 75, 6, 6]) ++ x44) ++ x45) ++ x45) z8 (by simp only [ByteArray.size_append, s44, s45, s8, sc, sz, sa, ss, s40, s1, mark_size6, mark_size7]; omega)
            simp [execOp, Act.eval, hdep, binOp_string_add, hadd, eqGuard]
          · simp only [List.getElem?_toArray, List.getElem?_cons_zero, List.getElem?_cons_succ, Option.some.injEq] at hi
            subst hi
            clear hdep
            refine wp_val (v := .int .u64 cI) ?_ ⟨_, rfl, rfl, hC, fun _ _ h => h⟩
            simp [execOp, Act.eval, b0]
          · simp only [List.getElem?_toArray, List.getElem?_cons_zero, List.getElem?_cons_succ, Option.some.injEq] at hi
            subst hi
            simp [Region.binds, valOf, endI] at hdep
            refine wp_call (f := 52) (args := #[.int .u64 cI, .int .i64 8]) (v := .string xc) ?_ (Hc W) (fun w' ht => ⟨_, rfl, rfl, hC.trans ht, endI_stab x44 x45 z8 xc xz xa xs x40 x1 cI zI aI sI ht⟩)
            simp [execOp, resolve, invoke, Act.eval, hdep]
            rfl
          · simp only [List.getElem?_toArray, List.getElem?_cons_zero, List.getElem?_cons_succ, Option.some.injEq] at hi
            subst hi
            simp [Region.binds, valOf, endI] at hdep
            refine wp_val (v := .string ((((((ByteArray.mk #[80, 75, 6, 6]) ++ x44) ++ x45) ++ x45) ++ z8) ++ xc)) ?_ ⟨_, rfl, rfl, hC, fun _ _ h => h⟩
            have hadd := run_string_add_sum (P := Tryd.prog) W (((((ByteArray.mk #[80, 75, 6, 6]) ++ x44) ++ x45) ++ x45) ++ z8) xc (by simp only [ByteArray.size_append, s44, s45, s8, sc, sz, sa, ss, s40, s1, mark_size6, mark_size7]; omega)
            simp [execOp, Act.eval, hdep, binOp_string_add, hadd, eqGuard]
          · simp only [List.getElem?_toArray, List.getElem?_cons_zero, List.getElem?_cons_succ, Option.some.injEq] at hi
            subst hi
            clear hdep
            refine wp_val (v := .int .u64 cI) ?_ ⟨_, rfl, rfl, hC, fun _ _ h => h⟩
            simp [execOp, Act.eval, b0]
          · simp only [List.getElem?_toArray, List.getElem?_cons_zero, List.getElem?_cons_succ, Option.some.injEq] at hi
            subst hi
            simp [Region.binds, valOf, endI] at hdep
            refine wp_call (f := 52) (args := #[.int .u64 cI, .int .i64 8]) (v := .string xc) ?_ (Hc W) (fun w' ht => ⟨_, rfl, rfl, hC.trans ht, endI_stab x44 x45 z8 xc xz xa xs x40 x1 cI zI aI sI ht⟩)
            simp [execOp, resolve, invoke, Act.eval, hdep]
            rfl
          · simp only [List.getElem?_toArray, List.getElem?_cons_zero, List.getElem?_cons_succ, Option.some.injEq] at hi
            subst hi
            simp [Region.binds, valOf, endI] at hdep
            refine wp_val (v := .string (((((((ByteArray.mk #[80, 75, 6, 6]) ++ x44) ++ x45) ++ x45) ++ z8) ++ xc) ++ xc)) ?_ ⟨_, rfl, rfl, hC, fun _ _ h => h⟩
            have hadd := run_string_add_sum (P := Tryd.prog) W ((((((ByteArray.mk #[80, 75, 6, 6]) ++ x44) ++ x45) ++ x45) ++ z8) ++ xc) xc (by simp only [ByteArray.size_append, s44, s45, s8, sc, sz, sa, ss, s40, s1, mark_size6, mark_size7]; omega)
            simp [execOp, Act.eval, hdep, binOp_string_add, hadd, eqGuard]
          · simp only [List.getElem?_toArray, List.getElem?_cons_zero, List.getElem?_cons_succ, Option.some.injEq] at hi
            subst hi
            clear hdep
            refine wp_val (v := .int .u64 zI) ?_ ⟨_, rfl, rfl, hC, fun _ _ h => h⟩
            simp [execOp, Act.eval, b1]
          · simp only [List.getElem?_toArray, List.getElem?_cons_zero, List.getElem?_cons_succ, Option.some.injEq] at hi
            subst hi
            simp [Region.binds, valOf, endI] at hdep
            refine wp_call (f := 52) (args := #[.int .u64 zI, .int .i64 8]) (v := .string xz) ?_ (Hz W) (fun w' ht => ⟨_, rfl, rfl, hC.trans ht, endI_stab x44 x45 z8 xc xz xa xs x40 x1 cI zI aI sI ht⟩)
            simp [execOp, resolve, invoke, Act.eval, hdep]
            rfl
          · simp only [List.getElem?_toArray, List.getElem?_cons_zero, List.getElem?_cons_succ, Option.some.injEq] at hi
            subst hi
            simp [Region.binds, valOf, endI] at hdep
            refine wp_val (v := .string ((((((((ByteArray.mk #[80, 75, 6, 6]) ++ x44) ++ x45) ++ x45) ++ z8) ++ xc) ++ xc) ++ xz)) ?_ ⟨_, rfl, rfl, hC, fun _ _ h => h⟩
            have hadd := run_string_add_sum (P := Tryd.prog) W (((((((ByteArray.mk #[80, 75, 6, 6]) ++ x44) ++ x45) ++ x45) ++ z8) ++ xc) ++ xc) xz (by simp only [ByteArray.size_append, s44, s45, s8, sc, sz, sa, ss, s40, s1, mark_size6, mark_size7]; omega)
            simp [execOp, Act.eval, hdep, binOp_string_add, hadd, eqGuard]
          · simp only [List.getElem?_toArray, List.getElem?_cons_zero, List.getElem?_cons_succ, Option.some.injEq] at hi
            subst hi
            clear hdep
            refine wp_val (v := .int .u64 aI) ?_ ⟨_, rfl, rfl, hC, fun _ _ h => h⟩
            simp [execOp, Act.eval, b2]
          · simp only [List.getElem?_toArray, List.getElem?_cons_zero, List.getElem?_cons_succ, Option.some.injEq] at hi
            subst hi
            simp [Region.binds, valOf, endI] at hdep
            refine wp_call (f := 52) (args := #[.int .u64 aI, .int .i64 8]) (v := .string xa) ?_ (Ha W) (fun w' ht => ⟨_, rfl, rfl, hC.trans ht, endI_stab x44 x45 z8 xc xz xa xs x40 x1 cI zI aI sI ht⟩)
            simp [execOp, resolve, invoke, Act.eval, hdep]
            rfl
          · simp only [List.getElem?_toArray, List.getElem?_cons_zero, List.getElem?_cons_succ, Option.some.injEq] at hi
            subst hi
            simp [Region.binds, valOf, endI] at hdep
            refine wp_val (v := .string (((((((((ByteArray.mk #[80, 75, 6, 6]) ++ x44) ++ x45) ++ x45) ++ z8) ++ xc) ++ xc) ++ xz) ++ xa)) ?_ ⟨_, rfl, rfl, hC, fun _ _ h => h⟩
            have hadd := run_string_add_sum (P := Tryd.prog) W ((((((((ByteArray.mk #[80, 75, 6, 6]) ++ x44) ++ x45) ++ x45) ++ z8) ++ xc) ++ xc) ++ xz) xa (by simp only [ByteArray.size_append, s44, s45, s8, sc, sz, sa, ss, s40, s1, mark_size6, mark_size7]; omega)
            simp [execOp, Act.eval, hdep, binOp_string_add, hadd, eqGuard]
          · simp only [List.getElem?_toArray, List.getElem?_cons_zero, List.getElem?_cons_succ, Option.some.injEq] at hi
            subst hi
            simp [Region.binds, valOf, endI] at hdep
            refine wp_val (v := .string ((((((((((ByteArray.mk #[80, 75, 6, 6]) ++ x44) ++ x45) ++ x45) ++ z8) ++ xc) ++ xc) ++ xz) ++ xa) ++ (ByteArray.mk #[80, 75, 6, 7]))) ?_ ⟨_, rfl, rfl, hC, fun _ _ h => h⟩
            have hadd := run_string_add_sum (P := Tryd.prog) W (((((((((ByteArray.mk #[80, 75, 6, 6]) ++ x44) ++ x45) ++ x45) ++ z8) ++ xc) ++ xc) ++ xz) ++ xa) (ByteArray.mk #[80, 75, 6, 7]) (by simp only [ByteArray.size_append, s44, s45, s8, sc, sz, sa, ss, s40, s1, mark_size6, mark_size7]; omega)
            simp [execOp, Act.eval, hdep, binOp_string_add, hadd, eqGuard]
          · simp only [List.getElem?_toArray, List.getElem?_cons_zero, List.getElem?_cons_succ, Option.some.injEq] at hi
            subst hi
            simp [Region.binds, valOf, endI] at hdep
            refine wp_call (f := 54) (args := #[.int .u64 0]) (v := .string x40) ?_ (H40 W) (fun w' ht => ⟨_, rfl, rfl, hC.trans ht, endI_stab x44 x45 z8 xc xz xa xs x40 x1 cI zI aI sI ht⟩)
            simp [execOp, resolve, invoke, Act.eval, hdep]
            rfl
          · simp only [List.getElem?_toArray, List.getElem?_cons_zero, List.getElem?_cons_succ, Option.some.injEq] at hi
            subst hi
            simp [Region.binds, valOf, endI] at hdep
            refine wp_val (v := .string (((((((((((ByteArray.mk #[80, 75, 6, 6]) ++ x44) ++ x45) ++ x45) ++ z8) ++ xc) ++ xc) ++ xz) ++ xa) ++ (ByteArray.mk #[80, 75, 6, 7])) ++ x40)) ?_ ⟨_, rfl, rfl, hC, fun _ _ h => h⟩
            have hadd := run_string_add_sum (P := Tryd.prog) W ((((((((((ByteArray.mk #[80, 75, 6, 6]) ++ x44) ++ x45) ++ x45) ++ z8) ++ xc) ++ xc) ++ xz) ++ xa) ++ (ByteArray.mk #[80, 75, 6, 7])) x40 (by simp only [ByteArray.size_append, s44, s45, s8, sc, sz, sa, ss, s40, s1, mark_size6, mark_size7]; omega)
            simp [execOp, Act.eval, hdep, binOp_string_add, hadd, eqGuard]
          · simp only [List.getElem?_toArray, List.getElem?_cons_zero, List.getElem?_cons_succ, Option.some.injEq] at hi
            subst hi
            clear hdep
            refine wp_val (v := .int .u64 aI) ?_ ⟨_, rfl, rfl, hC, fun _ _ h => h⟩
            simp [execOp, Act.eval, b2]
          · simp only [List.getElem?_toArray, List.getElem?_cons_zero, List.getElem?_cons_succ, Option.some.injEq] at hi
            subst hi
            clear hdep
            refine wp_val (v := .int .u64 zI) ?_ ⟨_, rfl, rfl, hC, fun _ _ h => h⟩
            simp [execOp, Act.eval, b1]
          · simp only [List.getElem?_toArray, List.getElem?_cons_zero, List.getElem?_cons_succ, Option.some.injEq] at hi
            subst hi
            simp [Region.binds, valOf, endI] at hdep
            refine wp_val (v := .int .u64 sI) ?_ ⟨_, rfl, rfl, hC, fun _ _ h => h⟩
            simp [execOp, Act.eval, hdep]
            go_simp
          · simp only [List.getElem?_toArray, List.getElem?_cons_zero, List.getElem?_cons_succ, Option.some.injEq] at hi
            subst hi
            simp [Region.binds, valOf, endI] at hdep
            refine wp_call (f := 52) (args := #[.int .u64 sI, .int .i64 8]) (v := .string xs) ?_ (Hs W) (fun w' ht => ⟨_, rfl, rfl, hC.trans ht, endI_stab x44 x45 z8 xc xz xa xs x40 x1 cI zI aI sI ht⟩)
            simp [execOp, resolve, invoke, Act.eval, hdep]
            rfl
          · simp only [List.getElem?_toArray, List.getElem?_cons_zero, List.getElem?_cons_succ, Option.some.injEq] at hi
            subst hi
            simp [Region.binds, valOf, endI] at hdep
            refine wp_val (v := .string ((((((((((((ByteArray.mk #[80, 75, 6, 6]) ++ x44) ++ x45) ++ x45) ++ z8) ++ xc) ++ xc) ++ xz) ++ xa) ++ (ByteArray.mk #[80, 75, 6, 7])) ++ x40) ++ xs)) ?_ ⟨_, rfl, rfl, hC, fun _ _ h => h⟩
            have hadd := run_string_add_sum (P := Tryd.prog) W (((((((((((ByteArray.mk #[80, 75, 6, 6]) ++ x44) ++ x45) ++ x45) ++ z8) ++ xc) ++ xc) ++ xz) ++ xa) ++ (ByteArray.mk #[80, 75, 6, 7])) ++ x40) xs (by simp only [ByteArray.size_append, s44, s45, s8, sc, sz, sa, ss, s40, s1, mark_size6, mark_size7]; omega)
            simp [execOp, Act.eval, hdep, binOp_string_add, hadd, eqGuard]
          · simp only [List.getElem?_toArray, List.getElem?_cons_zero, List.getElem?_cons_succ, Option.some.injEq] at hi
            subst hi
            simp [Region.binds, valOf, endI] at hdep
            refine wp_call (f := 54) (args := #[.int .u64 1]) (v := .string x1) ?_ (H1 W) (fun w' ht => ⟨_, rfl, rfl, hC.trans ht, endI_stab x44 x45 z8 xc xz xa xs x40 x1 cI zI aI sI ht⟩)
            simp [execOp, resolve, invoke, Act.eval, hdep]
            rfl
          · simp only [List.getElem?_toArray, List.getElem?_cons_zero, List.getElem?_cons_succ, Option.some.injEq] at hi
            subst hi
            simp [Region.binds, valOf, endI] at hdep
            refine wp_val (v := .string (((((((((((((ByteArray.mk #[80, 75, 6, 6]) ++ x44) ++ x45) ++ x45) ++ z8) ++ xc) ++ xc) ++ xz) ++ xa) ++ (ByteArray.mk #[80, 75, 6, 7])) ++ x40) ++ xs) ++ x1)) ?_ ⟨_, rfl, rfl, hC, fun _ _ h => h⟩
            have hadd := run_string_add_sum (P := Tryd.prog) W ((((((((((((ByteArray.mk #[80, 75, 6, 6]) ++ x44) ++ x45) ++ x45) ++ z8) ++ xc) ++ xc) ++ xz) ++ xa) ++ (ByteArray.mk #[80, 75, 6, 7])) ++ x40) ++ xs) x1 (by simp only [ByteArray.size_append, s44, s45, s8, sc, sz, sa, ss, s40, s1, mark_size6, mark_size7]; omega)
            simp [execOp, Act.eval, hdep, binOp_string_add, hadd, eqGuard]
          · simp only [List.getElem?_toArray, List.getElem?_cons_zero, List.getElem?_cons_succ, Option.some.injEq] at hi
            subst hi
            simp [Region.binds, valOf, endI] at hdep
            refine wp_val (v := .string (((((((((((((ByteArray.mk #[80, 75, 6, 6]) ++ x44) ++ x45) ++ x45) ++ z8) ++ xc) ++ xc) ++ xz) ++ xa) ++ (ByteArray.mk #[80, 75, 6, 7])) ++ x40) ++ xs) ++ x1)) ?_ ⟨_, rfl, rfl, hC, fun _ _ h => h⟩
            simp [execOp, Act.eval, hdep]

        · intro a W hC hbase hall
          have hx := hall 31 _ rfl
          simp [valOf, endI] at hx
          obtain ⟨hbd, hbs, hbb'⟩ := hbase
          clear hall
          obtain ⟨⟨l⟩, df⟩ := a
          have hl : l.length = 89 := hbs
          clear hbs
          obtain ⟨y0, l0, rfl, hl0⟩ := list_cons (n := 88) hl
          clear hl
          obtain ⟨y1, l1, rfl, hl1⟩ := list_cons (n := 87) hl0
          clear hl0
          obtain ⟨y2, l2, rfl, hl2⟩ := list_cons (n := 86) hl1
          clear hl1
          obtain ⟨y3, l3, rfl, hl3⟩ := list_cons (n := 85) hl2
          clear hl2
          obtain ⟨y4, l4, rfl, hl4⟩ := list_cons (n := 84) hl3
          clear hl3
          obtain ⟨y5, l5, rfl, hl5⟩ := list_cons (n := 83) hl4
          clear hl4
          obtain ⟨y6, l6, rfl, hl6⟩ := list_cons (n := 82) hl5
          clear hl5
          obtain ⟨y7, l7, rfl, hl7⟩ := list_cons (n := 81) hl6
          clear hl6
          obtain ⟨y8, l8, rfl, hl8⟩ := list_cons (n := 80) hl7
          clear hl7
          obtain ⟨y9, l9, rfl, hl9⟩ := list_cons (n := 79) hl8
          clear hl8
          obtain ⟨y10, l10, rfl, hl10⟩ := list_cons (n := 78) hl9
          clear hl9
          obtain ⟨y11, l11, rfl, hl11⟩ := list_cons (n := 77) hl10
          clear hl10
          obtain ⟨y12, l12, rfl, hl12⟩ := list_cons (n := 76) hl11
          clear hl11
          obtain ⟨y13, l13, rfl, hl13⟩ := list_cons (n := 75) hl12
          clear hl12
          obtain ⟨y14, l14, rfl, hl14⟩ := list_cons (n := 74) hl13
          clear hl13
          obtain ⟨y15, l15, rfl, hl15⟩ := list_cons (n := 73) hl14
          clear hl14
          obtain ⟨y16, l16, rfl, hl16⟩ := list_cons (n := 72) hl15
          clear hl15
          obtain ⟨y17, l17, rfl, hl17⟩ := list_cons (n := 71) hl16
          clear hl16
          obtain ⟨y18, l18, rfl, hl18⟩ := list_cons (n := 70) hl17
          clear hl17
          obtain ⟨y19, l19, rfl, hl19⟩ := list_cons (n := 69) hl18
          clear hl18
          obtain ⟨y20, l20, rfl, hl20⟩ := list_cons (n := 68) hl19
          clear hl19
          obtain ⟨y21, l21, rfl, hl21⟩ := list_cons (n := 67) hl20
          clear hl20
          obtain ⟨y22, l22, rfl, hl22⟩ := list_cons (n := 66) hl21
          clear hl21
          obtain ⟨y23, l23, rfl, hl23⟩ := list_cons (n := 65) hl22
          clear hl22
          obtain ⟨y24, l24, rfl, hl24⟩ := list_cons (n := 64) hl23
          clear hl23
          obtain ⟨y25, l25, rfl, hl25⟩ := list_cons (n := 63) hl24
          clear hl24
          obtain ⟨y26, l26, rfl, hl26⟩ := list_cons (n := 62) hl25
          clear hl25
          obtain ⟨y27, l27, rfl, hl27⟩ := list_cons (n := 61) hl26
          clear hl26
          obtain ⟨y28, l28, rfl, hl28⟩ := list_cons (n := 60) hl27
          clear hl27
          obtain ⟨y29, l29, rfl, hl29⟩ := list_cons (n := 59) hl28
          clear hl28
          obtain ⟨y30, l30, rfl, hl30⟩ := list_cons (n := 58) hl29
          clear hl29
          obtain ⟨y31, l31, rfl, hl31⟩ := list_cons (n := 57) hl30
          clear hl30
          obtain ⟨y32, l32, rfl, hl32⟩ := list_cons (n := 56) hl31
          clear hl31
          obtain ⟨y33, l33, rfl, hl33⟩ := list_cons (n := 55) hl32
          clear hl32
          obtain ⟨y34, l34, rfl, hl34⟩ := list_cons (n := 54) hl33
          clear hl33
          obtain ⟨y35, l35, rfl, hl35⟩ := list_cons (n := 53) hl34
          clear hl34
          obtain ⟨y36, l36, rfl, hl36⟩ := list_cons (n := 52) hl35
          clear hl35
          obtain ⟨y37, l37, rfl, hl37⟩ := list_cons (n := 51) hl36
          clear hl36
          obtain ⟨y38, l38, rfl, hl38⟩ := list_cons (n := 50) hl37
          clear hl37
          obtain ⟨y39, l39, rfl, hl39⟩ := list_cons (n := 49) hl38
          clear hl38
          obtain ⟨y40, l40, rfl, hl40⟩ := list_cons (n := 48) hl39
          clear hl39
          obtain ⟨y41, l41, rfl, hl41⟩ := list_cons (n := 47) hl40
          clear hl40
          obtain ⟨y42, l42, rfl, hl42⟩ := list_cons (n := 46) hl41
          clear hl41
          obtain ⟨y43, l43, rfl, hl43⟩ := list_cons (n := 45) hl42
          clear hl42
          obtain ⟨y44, l44, rfl, hl44⟩ := list_cons (n := 44) hl43
          clear hl43
          obtain ⟨y45, l45, rfl, hl45⟩ := list_cons (n := 43) hl44
          clear hl44
          obtain ⟨y46, l46, rfl, hl46⟩ := list_cons (n := 42) hl45
          clear hl45
          obtain ⟨y47, l47, rfl, hl47⟩ := list_cons (n := 41) hl46
          clear hl46
          obtain ⟨y48, l48, rfl, hl48⟩ := list_cons (n := 40) hl47
          clear hl47
          obtain ⟨y49, l49, rfl, hl49⟩ := list_cons (n := 39) hl48
          clear hl48
          obtain ⟨y50, l50, rfl, hl50⟩ := list_cons (n := 38) hl49
          clear hl49
          obtain ⟨y51, l51, rfl, hl51⟩ := list_cons (n := 37) hl50
          clear hl50
          obtain ⟨y52, l52, rfl, hl52⟩ := list_cons (n := 36) hl51
          clear hl51
          obtain ⟨y53, l53, rfl, hl53⟩ := list_cons (n := 35) hl52
          clear hl52
          obtain ⟨y54, l54, rfl, hl54⟩ := list_cons (n := 34) hl53
          clear hl53
          obtain ⟨y55, l55, rfl, hl55⟩ := list_cons (n := 33) hl54
          clear hl54
          obtain ⟨y56, l56, rfl, hl56⟩ := list_cons (n := 32) hl55
          clear hl55
          obtain ⟨y57, l57, rfl, hl57⟩ := list_cons (n := 31) hl56
          clear hl56
          obtain ⟨y58, l58, rfl, hl58⟩ := list_cons (n := 30) hl57
          clear hl57
          obtain ⟨y59, l59, rfl, hl59⟩ := list_cons (n := 29) hl58
          clear hl58
          obtain ⟨y60, l60, rfl, hl60⟩ := list_cons (n := 28) hl59
          clear hl59
          obtain ⟨y61, l61, rfl, hl61⟩ := list_cons (n := 27) hl60
          clear hl60
          obtain ⟨y62, l62, rfl, hl62⟩ := list_cons (n := 26) hl61
          clear hl61
          obtain ⟨y63, l63, rfl, hl63⟩ := list_cons (n := 25) hl62
          clear hl62
          obtain ⟨y64, l64, rfl, hl64⟩ := list_cons (n := 24) hl63
          clear hl63
          obtain ⟨y65, l65, rfl, hl65⟩ := list_cons (n := 23) hl64
          clear hl64
          obtain ⟨y66, l66, rfl, hl66⟩ := list_cons (n := 22) hl65
          clear hl65
          obtain ⟨y67, l67, rfl, hl67⟩ := list_cons (n := 21) hl66
          clear hl66
          obtain ⟨y68, l68, rfl, hl68⟩ := list_cons (n := 20) hl67
          clear hl67
          obtain ⟨y69, l69, rfl, hl69⟩ := list_cons (n := 19) hl68
          clear hl68
          obtain ⟨y70, l70, rfl, hl70⟩ := list_cons (n := 18) hl69
          clear hl69
          obtain ⟨y71, l71, rfl, hl71⟩ := list_cons (n := 17) hl70
          clear hl70
          obtain ⟨y72, l72, rfl, hl72⟩ := list_cons (n := 16) hl71
          clear hl71
          obtain ⟨y73, l73, rfl, hl73⟩ := list_cons (n := 15) hl72
          clear hl72
          obtain ⟨y74, l74, rfl, hl74⟩ := list_cons (n := 14) hl73
          clear hl73
          obtain ⟨y75, l75, rfl, hl75⟩ := list_cons (n := 13) hl74
          clear hl74
          obtain ⟨y76, l76, rfl, hl76⟩ := list_cons (n := 12) hl75
          clear hl75
          obtain ⟨y77, l77, rfl, hl77⟩ := list_cons (n := 11) hl76
          clear hl76
          obtain ⟨y78, l78, rfl, hl78⟩ := list_cons (n := 10) hl77
          clear hl77
          obtain ⟨y79, l79, rfl, hl79⟩ := list_cons (n := 9) hl78
          clear hl78
          obtain ⟨y80, l80, rfl, hl80⟩ := list_cons (n := 8) hl79
          clear hl79
          obtain ⟨y81, l81, rfl, hl81⟩ := list_cons (n := 7) hl80
          clear hl80
          obtain ⟨y82, l82, rfl, hl82⟩ := list_cons (n := 6) hl81
          clear hl81
          obtain ⟨y83, l83, rfl, hl83⟩ := list_cons (n := 5) hl82
          clear hl82
          obtain ⟨y84, l84, rfl, hl84⟩ := list_cons (n := 4) hl83
          clear hl83
          obtain ⟨y85, l85, rfl, hl85⟩ := list_cons (n := 3) hl84
          clear hl84
          obtain ⟨y86, l86, rfl, hl86⟩ := list_cons (n := 2) hl85
          clear hl85
          obtain ⟨y87, l87, rfl, hl87⟩ := list_cons (n := 1) hl86
          clear hl86
          obtain ⟨y88, l88, rfl, hl88⟩ := list_cons (n := 0) hl87
          clear hl87
          obtain rfl := List.eq_nil_of_length_eq_zero hl88
          have hx7 : y7 = .string (((((((((((((ByteArray.mk #[80, 75, 6, 6]) ++ x44) ++ x45) ++ x45) ++ z8) ++ xc) ++ xc) ++ xz) ++ xa) ++ (ByteArray.mk #[80, 75, 6, 7])) ++ x40) ++ xs) ++ x1) := hx
          clear hx
          have eq0 := hbb' 0 (noDst_spec (by kernel_rfl))
          simp only [List.getElem?_toArray, List.getElem?_cons_zero, List.getElem?_cons_succ, Option.some.injEq] at eq0
          subst eq0
          have eq1 := hbb' 1 (noDst_spec (by kernel_rfl))
          simp only [List.getElem?_toArray, List.getElem?_cons_zero, List.getElem?_cons_succ, Option.some.injEq] at eq1
          subst eq1
          have eq2 := hbb' 2 (noDst_spec (by kernel_rfl))
          simp only [List.getElem?_toArray, List.getElem?_cons_zero, List.getElem?_cons_succ, Option.some.injEq] at eq2
          subst eq2
          have eq3 := hbb' 3 (noDst_spec (by kernel_rfl))
          simp only [List.getElem?_toArray, List.getElem?_cons_zero, List.getElem?_cons_succ, Option.some.injEq] at eq3
          subst eq3
          have eq4 := hbb' 4 (noDst_spec (by kernel_rfl))
          simp only [List.getElem?_toArray, List.getElem?_cons_zero, List.getElem?_cons_succ, Option.some.injEq] at eq4
          subst eq4
          have eq5 := hbb' 5 (noDst_spec (by kernel_rfl))
          simp only [List.getElem?_toArray, List.getElem?_cons_zero, List.getElem?_cons_succ, Option.some.injEq] at eq5
          subst eq5
          have eq6 := hbb' 6 (noDst_spec (by kernel_rfl))
          simp only [List.getElem?_toArray, List.getElem?_cons_zero, List.getElem?_cons_succ, Option.some.injEq] at eq6
          subst eq6
          have eq8 := hbb' 8 (noDst_spec (by kernel_rfl))
          simp only [List.getElem?_toArray, List.getElem?_cons_zero, List.getElem?_cons_succ, Option.some.injEq] at eq8
          subst eq8
          have eq9 := hbb' 9 (noDst_spec (by kernel_rfl))
          simp only [List.getElem?_toArray, List.getElem?_cons_zero, List.getElem?_cons_succ, Option.some.injEq] at eq9
          subst eq9
          have eq10 := hbb' 10 (noDst_spec (by kernel_rfl))
          simp only [List.getElem?_toArray, List.getElem?_cons_zero, List.getElem?_cons_succ, Option.some.injEq] at eq10
          subst eq10
          have eq11 := hbb' 11 (noDst_spec (by kernel_rfl))
          simp only [List.getElem?_toArray, List.getElem?_cons_zero, List.getElem?_cons_succ, Option.some.injEq] at eq11
          subst eq11
          have eq12 := hbb' 12 (noDst_spec (by kernel_rfl))
          simp only [List.getElem?_toArray, List.getElem?_cons_zero, List.getElem?_cons_succ, Option.some.injEq] at eq12
          subst eq12
          have eq13 := hbb' 13 (noDst_spec (by kernel_rfl))
          simp only [List.getElem?_toArray, List.getElem?_cons_zero, List.getElem?_cons_succ, Option.some.injEq] at eq13
          subst eq13
          have eq14 := hbb' 14 (noDst_spec (by kernel_rfl))
          simp only [List.getElem?_toArray, List.getElem?_cons_zero, List.getElem?_cons_succ, Option.some.injEq] at eq14
          subst eq14
          have eq15 := hbb' 15 (noDst_spec (by kernel_rfl))
          simp only [List.getElem?_toArray, List.getElem?_cons_zero, List.getElem?_cons_succ, Option.some.injEq] at eq15
          subst eq15
          have eq16 := hbb' 16 (noDst_spec (by kernel_rfl))
          simp only [List.getElem?_toArray, List.getElem?_cons_zero, List.getElem?_cons_succ, Option.some.injEq] at eq16
          subst eq16
          have eq17 := hbb' 17 (noDst_spec (by kernel_rfl))
          simp only [List.getElem?_toArray, List.getElem?_cons_zero, List.getElem?_cons_succ, Option.some.injEq] at eq17
          subst eq17
          have eq18 := hbb' 18 (noDst_spec (by kernel_rfl))
          simp only [List.getElem?_toArray, List.getElem?_cons_zero, List.getElem?_cons_succ, Option.some.injEq] at eq18
          subst eq18
          have eq19 := hbb' 19 (noDst_spec (by kernel_rfl))
          simp only [List.getElem?_toArray, List.getElem?_cons_zero, List.getElem?_cons_succ, Option.some.injEq] at eq19
          subst eq19
          have eq20 := hbb' 20 (noDst_spec (by kernel_rfl))
          simp only [List.getElem?_toArray, List.getElem?_cons_zero, List.getElem?_cons_succ, Option.some.injEq] at eq20
          subst eq20
          have eq21 := hbb' 21 (noDst_spec (by kernel_rfl))
          simp only [List.getElem?_toArray, List.getElem?_cons_zero, List.getElem?_cons_succ, Option.some.injEq] at eq21
          subst eq21
          have eq22 := hbb' 22 (noDst_spec (by kernel_rfl))
          simp only [List.getElem?_toArray, List.getElem?_cons_zero, List.getElem?_cons_succ, Option.some.injEq] at eq22
          subst eq22
          have eq23 := hbb' 23 (noDst_spec (by kernel_rfl))
          simp only [List.getElem?_toArray, List.getElem?_cons_zero, List.getElem?_cons_succ, Option.some.injEq] at eq23
          subst eq23
          have eq24 := hbb' 24 (noDst_spec (by kernel_rfl))
          simp only [List.getElem?_toArray, List.getElem?_cons_zero, List.getElem?_cons_succ, Option.some.injEq] at eq24
          subst eq24
          have eq25 := hbb' 25 (noDst_spec (by kernel_rfl))
          simp only [List.getElem?_toArray, List.getElem?_cons_zero, List.getElem?_cons_succ, Option.some.injEq] at eq25
          subst eq25
          have eq26 := hbb' 26 (noDst_spec (by kernel_rfl))
          simp only [List.getElem?_toArray, List.getElem?_cons_zero, List.getElem?_cons_succ, Option.some.injEq] at eq26
          subst eq26
          have eq27 := hbb' 27 (noDst_spec (by kernel_rfl))
          simp only [List.getElem?_toArray, List.getElem?_cons_zero, List.getElem?_cons_succ, Option.some.injEq] at eq27
          subst eq27
          have eq28 := hbb' 28 (noDst_spec (by kernel_rfl))
          simp only [List.getElem?_toArray, List.getElem?_cons_zero, List.getElem?_cons_succ, Option.some.injEq] at eq28
          subst eq28
          have eq29 := hbb' 29 (noDst_spec (by kernel_rfl))
          simp only [List.getElem?_toArray, List.getElem?_cons_zero, List.getElem?_cons_succ, Option.some.injEq] at eq29
          subst eq29
          have eq30 := hbb' 30 (noDst_spec (by kernel_rfl))
          simp only [List.getElem?_toArray, List.getElem?_cons_zero, List.getElem?_cons_succ, Option.some.injEq] at eq30
          subst eq30
          have eq62 := hbb' 62 (noDst_spec (by kernel_rfl))
          simp only [List.getElem?_toArray, List.getElem?_cons_zero, List.getElem?_cons_succ, Option.some.injEq] at eq62
          subst eq62
          have eq63 := hbb' 63 (noDst_spec (by kernel_rfl))
          simp only [List.getElem?_toArray, List.getElem?_cons_zero, List.getElem?_cons_succ, Option.some.injEq] at eq63
          subst eq63
          have eq64 := hbb' 64 (noDst_spec (by kernel_rfl))
          simp only [List.getElem?_toArray, List.getElem?_cons_zero, List.getElem?_cons_succ, Option.some.injEq] at eq64
          subst eq64
          have eq65 := hbb' 65 (noDst_spec (by kernel_rfl))
          simp only [List.getElem?_toArray, List.getElem?_cons_zero, List.getElem?_cons_succ, Option.some.injEq] at eq65
          subst eq65
          have eq66 := hbb' 66 (noDst_spec (by kernel_rfl))
          simp only [List.getElem?_toArray, List.getElem?_cons_zero, List.getElem?_cons_succ, Option.some.injEq] at eq66
          subst eq66
          have eq67 := hbb' 67 (noDst_spec (by kernel_rfl))
          simp only [List.getElem?_toArray, List.getElem?_cons_zero, List.getElem?_cons_succ, Option.some.injEq] at eq67
          subst eq67
          have eq68 := hbb' 68 (noDst_spec (by kernel_rfl))
          simp only [List.getElem?_toArray, List.getElem?_cons_zero, List.getElem?_cons_succ, Option.some.injEq] at eq68
          subst eq68
          have eq69 := hbb' 69 (noDst_spec (by kernel_rfl))
          simp only [List.getElem?_toArray, List.getElem?_cons_zero, List.getElem?_cons_succ, Option.some.injEq] at eq69
          subst eq69
          have eq70 := hbb' 70 (noDst_spec (by kernel_rfl))
          simp only [List.getElem?_toArray, List.getElem?_cons_zero, List.getElem?_cons_succ, Option.some.injEq] at eq70
          subst eq70
          have eq71 := hbb' 71 (noDst_spec (by kernel_rfl))
          simp only [List.getElem?_toArray, List.getElem?_cons_zero, List.getElem?_cons_succ, Option.some.injEq] at eq71
          subst eq71
          have eq72 := hbb' 72 (noDst_spec (by kernel_rfl))
          simp only [List.getElem?_toArray, List.getElem?_cons_zero, List.getElem?_cons_succ, Option.some.injEq] at eq72
          subst eq72
          have eq73 := hbb' 73 (noDst_spec (by kernel_rfl))
          simp only [List.getElem?_toArray, List.getElem?_cons_zero, List.getElem?_cons_succ, Option.some.injEq] at eq73
          subst eq73
          have eq74 := hbb' 74 (noDst_spec (by kernel_rfl))
          simp only [List.getElem?_toArray, List.getElem?_cons_zero, List.getElem?_cons_succ, Option.some.injEq] at eq74
          subst eq74
          have eq75 := hbb' 75 (noDst_spec (by kernel_rfl))
          simp only [List.getElem?_toArray, List.getElem?_cons_zero, List.getElem?_cons_succ, Option.some.injEq] at eq75
          subst eq75
          have eq76 := hbb' 76 (noDst_spec (by kernel_rfl))
          simp only [List.getElem?_toArray, List.getElem?_cons_zero, List.getElem?_cons_succ, Option.some.injEq] at eq76
          subst eq76
          have eq77 := hbb' 77 (noDst_spec (by kernel_rfl))
          simp only [List.getElem?_toArray, List.getElem?_cons_zero, List.getElem?_cons_succ, Option.some.injEq] at eq77
          subst eq77
          have eq78 := hbb' 78 (noDst_spec (by kernel_rfl))
          simp only [List.getElem?_toArray, List.getElem?_cons_zero, List.getElem?_cons_succ, Option.some.injEq] at eq78
          subst eq78
          have eq79 := hbb' 79 (noDst_spec (by kernel_rfl))
          simp only [List.getElem?_toArray, List.getElem?_cons_zero, List.getElem?_cons_succ, Option.some.injEq] at eq79
          subst eq79
          have eq80 := hbb' 80 (noDst_spec (by kernel_rfl))
          simp only [List.getElem?_toArray, List.getElem?_cons_zero, List.getElem?_cons_succ, Option.some.injEq] at eq80
          subst eq80
          have eq81 := hbb' 81 (noDst_spec (by kernel_rfl))
          simp only [List.getElem?_toArray, List.getElem?_cons_zero, List.getElem?_cons_succ, Option.some.injEq] at eq81
          subst eq81
          have eq82 := hbb' 82 (noDst_spec (by kernel_rfl))
          simp only [List.getElem?_toArray, List.getElem?_cons_zero, List.getElem?_cons_succ, Option.some.injEq] at eq82
          subst eq82
          have eq83 := hbb' 83 (noDst_spec (by kernel_rfl))
          simp only [List.getElem?_toArray, List.getElem?_cons_zero, List.getElem?_cons_succ, Option.some.injEq] at eq83
          subst eq83
          have eq84 := hbb' 84 (noDst_spec (by kernel_rfl))
          simp only [List.getElem?_toArray, List.getElem?_cons_zero, List.getElem?_cons_succ, Option.some.injEq] at eq84
          subst eq84
          have eq85 := hbb' 85 (noDst_spec (by kernel_rfl))
          simp only [List.getElem?_toArray, List.getElem?_cons_zero, List.getElem?_cons_succ, Option.some.injEq] at eq85
          subst eq85
          have eq86 := hbb' 86 (noDst_spec (by kernel_rfl))
          simp only [List.getElem?_toArray, List.getElem?_cons_zero, List.getElem?_cons_succ, Option.some.injEq] at eq86
          subst eq86
          have eq87 := hbb' 87 (noDst_spec (by kernel_rfl))
          simp only [List.getElem?_toArray, List.getElem?_cons_zero, List.getElem?_cons_succ, Option.some.injEq] at eq87
          subst eq87
          have eq88 := hbb' 88 (noDst_spec (by kernel_rfl))
          simp only [List.getElem?_toArray, List.getElem?_cons_zero, List.getElem?_cons_succ, Option.some.injEq] at eq88
          subst eq88
          clear hbb'
          subst hx7
          obtain rfl : df = _ := hbd
          rename_i hKK hJ
          have hXW := KX.out
          rw [hbb, if_pos rfl] at hXW
          subst hXW
          dsimp only [Exit.then]
          refine hKK _ W (hJ _ W ?_)
          repeat apply Exists.intro
          first
            | exact ⟨⟨rfl, hC⟩, rfl⟩
            | exact ⟨rfl, rfl, hC⟩
            | exact ⟨rfl, hC, rfl⟩
            | trace_state
    case rest =>
      obtain ⟨rfl, hT⟩ := hcut
      have HT0 := Lib.hid hT
      clear hT KX HHc HH44 HH45 HHz HHa HHs HH1 S44 S45 S8 Sc Sz Sa Ss S1 HZ8 HSum
      have sx40 := S40.out
      have sxC := SC.out
      have sxD := SD.out
      have sxE := SE.out
      have sx2 := S2.out
      clear S40 SC SD SE S2
      have t1 := K1.out
      have t2 := K2.out
      have t3 := K3.out
      clear K1 K2 K3
      cases b1 <;> cases b2 <;> cases b3
      all_goals
        simp only [true_implies, forall_const, Bool.false_eq_true, Bool.true_eq_false, reduceCtorEq, false_implies, and_true, true_and] at t1 t2 t3
        subst t1 t2 t3
        try simp only [Int.cast_ofNat_Int] at HC HD HE
        go_wp2_with (first
          | (go_at_call 53; first
              | (with_reducible refine (HC.out _).mono ?_)
              | (with_reducible refine (HHN2.out _).mono ?_)
             rintro e wn ⟨rfl, htn⟩; replace HT0 := Lib.hid (HT0.out.trans htn); clear htn)
          | (go_at_call 54; first
              | (with_reducible refine (HD.out _).mono ?_)
              | (with_reducible refine (HE.out _).mono ?_)
              | (with_reducible refine (HH40.out _).mono ?_)
             rintro e wn ⟨rfl, htn⟩; replace HT0 := Lib.hid (HT0.out.trans htn); clear htn))
        go_ret
        first
          | exact ⟨rfl, HT0.out⟩
          | (have hde := KDE.out (by trivial); subst hde; exact ⟨rfl, HT0.out⟩)
end Go.Proofs.YthnjpapfombhnaaDoor

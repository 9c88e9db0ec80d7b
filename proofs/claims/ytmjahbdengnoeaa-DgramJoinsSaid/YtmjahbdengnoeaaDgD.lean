/- Contracts of package dgram: the reference's bytes. -/
import Derived.Test.YtmjahbdengnoeaaDgGr
import Derived.Test.YtmjahbdengnoeaaDgC
namespace Go.Proofs.Ytmjahbdengnoeaa
open Go Go.RowKit
set_option maxRecDepth 100000
set_option linter.unusedSimpArgs false

theorem two_row (w : World) (a b : Nat) (ha : a < 256) (hb : b < 256) : Row (w.alloc (.cells #[.int .u8 (a : Nat), .int .u8 (b : Nat)] 5)) 5 (.slice (some ⟨w.heap.size, 0, none⟩) 2 2) (byteVs [UInt8.ofNat a, UInt8.ofNat b]) := by
  refine .inr ⟨w.heap.size, 0, 2, _, by simp [byteVs], heap_alloc_new w _, by simp [byteVs], by decide, by simp, ?_⟩
  simp [byteVs]
  omega

/-- Those that leave a value. -/
def rfIP (G k l se ep sq pos sm mp : Nat) (text x0 x1 x2 x3 x4 x5 x6 x7 : ByteArray) (i : Nat) (v : Value) : Prop := match i with
  | 0 => v = .pointer (some ⟨G, 0, none⟩)
  | 1 => v = .int .i64 (k : Nat)
  | 2 => v = .int .u8 (k : Nat)
  | 3 => v = .int .u8 (l : Nat)
  | 5 => v = .string x0
  | 6 => v = .string ((⟨#[76, 71]⟩ : ByteArray) ++ x0)
  | 7 => v = .pointer (some ⟨G, 1, none⟩)
  | 8 => v = .int .u32 (se : Nat)
  | 9 => v = .string x1
  | 10 => v = .string (((⟨#[76, 71]⟩ : ByteArray) ++ x0) ++ x1)
  | 11 => v = .pointer (some ⟨G, 2, none⟩)
  | 12 => v = .int .u32 (ep : Nat)
  | 13 => v = .string x2
  | 14 => v = .string ((((⟨#[76, 71]⟩ : ByteArray) ++ x0) ++ x1) ++ x2)
  | 15 => v = .pointer (some ⟨G, 3, none⟩)
  | 16 => v = .int .u32 (sq : Nat)
  | 17 => v = .string x3
  | 18 => v = .string (((((⟨#[76, 71]⟩ : ByteArray) ++ x0) ++ x1) ++ x2) ++ x3)
  | 19 => v = .pointer (some ⟨G, 4, none⟩)
  | 20 => v = .int .u64 (pos : Nat)
  | 21 => v = .string x4
  | 22 => v = .string ((((((⟨#[76, 71]⟩ : ByteArray) ++ x0) ++ x1) ++ x2) ++ x3) ++ x4)
  | 23 => v = .pointer (some ⟨G, 5, none⟩)
  | 24 => v = .int .u32 (sm : Nat)
  | 25 => v = .string x5
  | 26 => v = .string (((((((⟨#[76, 71]⟩ : ByteArray) ++ x0) ++ x1) ++ x2) ++ x3) ++ x4) ++ x5)
  | 27 => v = .pointer (some ⟨G, 6, none⟩)
  | 28 => v = .int .u32 (mp : Nat)
  | 29 => v = .string x6
  | 30 => v = .string ((((((((⟨#[76, 71]⟩ : ByteArray) ++ x0) ++ x1) ++ x2) ++ x3) ++ x4) ++ x5) ++ x6)
  | 31 => v = .pointer (some ⟨G, 8, none⟩)
  | 32 => v = .string text
  | 33 => v = .int .i64 (text.size : Nat)
  | 34 => v = .int .u64 (text.size : Nat)
  | 35 => v = .string x7
  | 36 => v = .string (((((((((⟨#[76, 71]⟩ : ByteArray) ++ x0) ++ x1) ++ x2) ++ x3) ++ x4) ++ x5) ++ x6) ++ x7)
  | 37 => v = .pointer (some ⟨G, 8, none⟩)
  | 38 => v = .string text
  | 39 => v = .string ((((((((((⟨#[76, 71]⟩ : ByteArray) ++ x0) ++ x1) ++ x2) ++ x3) ++ x4) ++ x5) ++ x6) ++ x7) ++ text)
  | 40 => v = .string ((((((((((⟨#[76, 71]⟩ : ByteArray) ++ x0) ++ x1) ++ x2) ++ x3) ++ x4) ++ x5) ++ x6) ++ x7) ++ text)
  | _ => True

/-- What each operation leaves. -/
def rfI (G k l se ep sq pos sm mp : Nat) (text x0 x1 x2 x3 x4 x5 x6 x7 : ByteArray) (i : Nat) (v : Value) (W : World) : Prop := match i with
  | 4 => Row W 5 v (byteVs [UInt8.ofNat k, UInt8.ofNat l])
  | n => rfIP G k l se ep sq pos sm mp text x0 x1 x2 x3 x4 x5 x6 x7 n v

theorem rfI_touch {G k l se ep sq pos sm mp : Nat} {text x0 x1 x2 x3 x4 x5 x6 x7 : ByteArray} {i : Nat} {v : Value} {W W' : World} (ht : Touch (fun _ => False) W W') (h : rfI G k l se ep sq pos sm mp text x0 x1 x2 x3 x4 x5 x6 x7 i v W) : rfI G k l se ep sq pos sm mp text x0 x1 x2 x3 x4 x5 x6 x7 i v W' := by
  unfold rfI at h ⊢
  split
  · exact Row.kept h ht (fun _ _ => id)
  · split at h
    · contradiction
    · exact h

theorem ref_body (d : Dg) (k l : Nat) (hk : d.kind = (k : Nat)) (hk5 : k < 256) (hl : (if d.last then 1 else 0) = l) (hl5 : l < 256) (x0 : ByteArray) (hx : x0.data.toList = [UInt8.ofNat k, UInt8.ofNat l]) :
    (((((((((⟨#[76, 71]⟩ : ByteArray) ++ x0) ++ lB 4 d.se) ++ lB 4 d.ep) ++ lB 4 d.sq) ++ lB 8 d.pos) ++ lB 4 d.sm) ++ lB 4 d.mp) ++ lB 2 d.text.size) ++ d.text = bodyB d := by
  apply ByteArray.ext
  apply Array.toList_inj.1
  rw [bodyB_list]
  unfold bodyL
  rw [hl, hk]
  simp only [ByteArray.data_append, Array.toList_append, List.append_assoc]
  rw [hx]
  have e1 : k % 256 = k := Nat.mod_eq_of_lt hk5
  have e2 : l % 256 = l := Nat.mod_eq_of_lt hl5
  simp [lB, leB, e1, e2]

set_option maxHeartbeats 8000000 in
theorem rencode_k (k se ep sq pos sm mp : Nat) (last : Bool) (text : ByteArray) (hg : goodD ⟨(k : Nat), se, ep, sq, pos, sm, mp, last, text⟩ = true) (hk5 : k < 256) (h0 : se < 4294967296) (h1 : ep < 4294967296) (h2 : sq < 4294967296) (h3 : pos < 18446744073709551616) (h4 : sm < 4294967296) (h5 : mp < 4294967296) (ht : text.size ≤ 1000000) (w : World) :
    Calls Try.prog 23 #[(Dg.mk (k : Nat) se ep sq pos sm mp last text).v] w fun e w' => e = .returned (.string (bodyB ⟨(k : Nat), se, ep, sq, pos, sm, mp, last, text⟩ ++ sealB (bodyB ⟨(k : Nat), se, ep, sq, pos, sm, mp, last, text⟩))) ∧ Touch (fun _ => False) w w' := by
  have HG := Lib.hid (fun W => (hg ▸ rgood_calls ⟨(k : Nat), se, ep, sq, pos, sm, mp, last, text⟩ W : Calls Try.prog 20 #[(Dg.mk (k : Nat) se ep sq pos sm mp last text).v] W fun e w' => e = .returned (.bool true) ∧ Touch (fun _ => False) W w'))
  clear hg
  have hw0 : IntKind.u8.wrap (k : Int) = (k : Int) := by rw [show IntKind.u8.wrap (k : Int) = (k : Int) % 256 by simp [IntKind.wrap, IntKind.bits, IntKind.signed]]; omega
  have hw0' : (k : Int) % 256 = (k : Int) := by omega
  have hw1 : IntKind.u64.wrap (text.size : Int) = (text.size : Int) := by rw [IntKind.wrap_u64]; omega
  obtain ⟨l, hl⟩ : ∃ l : Nat, (if last then 1 else 0) = l := ⟨_, rfl⟩
  have hl5 : l < 256 := by rw [← hl]; split <;> omega
  obtain ⟨v0, hv0, hv1, hv2, hv3⟩ := info_parts Try.info5
  have sM : (⟨#[76, 71]⟩ : ByteArray).size = 2 := rfl
  obtain ⟨x0, hx0⟩ : ∃ x0 : ByteArray, x0 = ⟨#[UInt8.ofNat k, UInt8.ofNat l]⟩ := ⟨_, rfl⟩
  have hrb := ref_body ⟨(k : Nat), se, ep, sq, pos, sm, mp, last, text⟩ k l rfl hk5 hl hl5 x0 (by rw [hx0])
  simp only at hrb
  have HX := Lib.hid hx0
  have s0 : x0.size = 2 := by rw [hx0]; rfl
  have hbs := bodyB_size ⟨(k : Nat), se, ep, sq, pos, sm, mp, last, text⟩
  simp only at hbs
  have HM := Lib.hid (fun W => refmore_calls 0 (bodyB ⟨(k : Nat), se, ep, sq, pos, sm, mp, last, text⟩) W (by decide) (by rw [hbs]; omega))
  have hml : moreN 0 (bodyB ⟨(k : Nat), se, ep, sq, pos, sm, mp, last, text⟩).data.toList < 4294967296 := moreN_lt 0 _ (by decide)
  unfold sealB
  have HN := Lib.hid (fun W => n4_calls _ W hml)
  have s8 := lB_size 4 (moreN 0 (bodyB ⟨(k : Nat), se, ep, sq, pos, sm, mp, last, text⟩).data.toList)
  generalize lB 4 (moreN 0 (bodyB ⟨(k : Nat), se, ep, sq, pos, sm, mp, last, text⟩).data.toList) = x8 at HN s8 ⊢
  generalize moreN 0 (bodyB ⟨(k : Nat), se, ep, sq, pos, sm, mp, last, text⟩).data.toList = crc at HM HN hml
  generalize bodyB ⟨(k : Nat), se, ep, sq, pos, sm, mp, last, text⟩ = BB at HM hrb hbs ⊢
  have HB := Lib.hid hrb
  clear hrb
  unfold Dg.v Dg.cells at HG ⊢
  simp only at HG ⊢
  have H1 := Lib.hid (fun W => n4_calls se W h0)
  have H2 := Lib.hid (fun W => n4_calls ep W h1)
  have H3 := Lib.hid (fun W => n4_calls sq W h2)
  have H4 := Lib.hid (fun W => rput_calls pos 8 W (by omega) h3)
  have H5 := Lib.hid (fun W => n4_calls sm W h4)
  have H6 := Lib.hid (fun W => n4_calls mp W h5)
  have H7 := Lib.hid (fun W => rput_calls text.size 2 W (by omega) (by omega))
  have s1 := lB_size 4 se
  have s2 := lB_size 4 ep
  have s3 := lB_size 4 sq
  have s4 := lB_size 8 pos
  have s5 := lB_size 4 sm
  have s6 := lB_size 4 mp
  have s7 := lB_size 2 text.size
  generalize lB 4 se = x1 at *
  generalize lB 4 ep = x2 at *
  generalize lB 4 sq = x3 at *
  generalize lB 8 pos = x4 at *
  generalize lB 4 sm = x5 at *
  generalize lB 4 mp = x6 at *
  generalize lB 2 text.size = x7 at *
  have HD := Lib.hid hl
  clear hl hx0
  cases last
  · obtain rfl : l = 0 := HD.out.symm
    go_enter Try.func23, Try.ntmps23
    go_wp2_with fail
    have hc1 := Block.new w 38 [.int .i64 (k : Nat), .int .u32 se, .int .u32 ep, .int .u32 sq, .int .u64 pos, .int .u32 sm, .int .u32 mp, .bool false, .string text]
    refine (HG.out _).mono ?_
    rintro e w1 ⟨rfl, hT0⟩
    have hbx := hc1.kept hT0 id
    have hTa := ((Touch.refl (fun _ => False) w).alloc _).trans hT0
    have z7 : w1.cell? ⟨w.heap.size, 7, none⟩ = some (.bool false) := hbx.cell 7
    go_upto_region 6 with fail
    generalize w.heap.size = G at hbx ⊢
    have z0 : w1.cell? ⟨G, 0, none⟩ = some (.int .i64 (k : Nat)) := hbx.cell 0
    have z1 : w1.cell? ⟨G, 1, none⟩ = some (.int .u32 se) := hbx.cell 1
    have z2 : w1.cell? ⟨G, 2, none⟩ = some (.int .u32 ep) := hbx.cell 2
    have z3 : w1.cell? ⟨G, 3, none⟩ = some (.int .u32 sq) := hbx.cell 3
    have z4 : w1.cell? ⟨G, 4, none⟩ = some (.int .u64 pos) := hbx.cell 4
    have z5 : w1.cell? ⟨G, 5, none⟩ = some (.int .u32 sm) := hbx.cell 5
    have z6 : w1.cell? ⟨G, 6, none⟩ = some (.int .u32 mp) := hbx.cell 6
    have z8 : w1.cell? ⟨G, 8, none⟩ = some (.string text) := hbx.cell 8
    clear hbx
    refine wp_region_inv (fun W => Touch (fun _ => False) w1 W) (fun i v W => rfI G k 0 se ep sq pos sm mp text x0 x1 x2 x3 x4 x5 x6 x7 i v W) (by kernel_rfl) (by kernel_rfl) (by kernel_rfl) (Touch.refl _ _).drew ?_ ?_
    · intro i o hi a W hC hbase hdep
      have hlt := op_lt hi
      obtain ⟨hbd, hbs, hbb⟩ := hbase
      have b1 : a.tmps[1]? = some (.pointer (some ⟨G, 0, none⟩)) := (hbb 1 (noDst_spec (by kernel_rfl))).trans rfl
      have b3 : a.tmps[3]? = some (.int .u8 (0 : Nat)) := (hbb 3 (noDst_spec (by kernel_rfl))).trans rfl
      have y0 := hC.cell z0 id
      have y1 := hC.cell z1 id
      have y2 := hC.cell z2 id
      have y3 := hC.cell z3 id
      have y4 := hC.cell z4 id
      have y5 := hC.cell z5 id
      have y6 := hC.cell z6 id
      have y8 := hC.cell z8 id
      rcases (by simp at hlt; omega : i = 0 ∨ i = 1 ∨ i = 2 ∨ i = 3 ∨ i = 4 ∨ i = 5 ∨ i = 6 ∨ i = 7 ∨ i = 8 ∨ i = 9 ∨ i = 10 ∨ i = 11 ∨ i = 12 ∨ i = 13 ∨ i = 14 ∨ i = 15 ∨ i = 16 ∨ i = 17 ∨ i = 18 ∨ i = 19 ∨ i = 20 ∨ i = 21 ∨ i = 22 ∨ i = 23 ∨ i = 24 ∨ i = 25 ∨ i = 26 ∨ i = 27 ∨ i = 28 ∨ i = 29 ∨ i = 30 ∨ i = 31 ∨ i = 32 ∨ i = 33 ∨ i = 34 ∨ i = 35 ∨ i = 36 ∨ i = 37 ∨ i = 38 ∨ i = 39 ∨ i = 40) with rfl | rfl | rfl | rfl | rfl | rfl | rfl | rfl | rfl | rfl | rfl | rfl | rfl | rfl | rfl | rfl | rfl | rfl | rfl | rfl | rfl | rfl | rfl | rfl | rfl | rfl | rfl | rfl | rfl | rfl | rfl | rfl | rfl | rfl | rfl | rfl | rfl | rfl | rfl | rfl | rfl
      · simp only [List.getElem?_toArray, List.getElem?_cons_zero, List.getElem?_cons_succ, Option.some.injEq] at hi
        subst hi
        clear hdep
        refine kp_val (v := .pointer (some ⟨G, 0, none⟩)) ?_ ⟨_, rfl, rfl, hC, fun _ _ h => h⟩
        simp [execOp, Act.eval, b1]
        go_simp
      · simp only [List.getElem?_toArray, List.getElem?_cons_zero, List.getElem?_cons_succ, Option.some.injEq] at hi
        subst hi
        simp [Region.binds, valOf, rfI, rfIP] at hdep
        refine kp_val (v := .int .i64 (k : Nat)) ?_ ⟨_, rfl, rfl, hC, fun _ _ h => h⟩
        simp [execOp, Act.eval, hdep]
        go_simp
      · simp only [List.getElem?_toArray, List.getElem?_cons_zero, List.getElem?_cons_succ, Option.some.injEq] at hi
        subst hi
        simp [Region.binds, valOf, rfI, rfIP] at hdep
        refine kp_val (v := .int .u8 (k : Nat)) ?_ ⟨_, rfl, rfl, hC, fun _ _ h => h⟩
        simp [execOp, Act.eval, hdep]
        go_simp
      · simp only [List.getElem?_toArray, List.getElem?_cons_zero, List.getElem?_cons_succ, Option.some.injEq] at hi
        subst hi
        clear hdep
        refine kp_val (v := .int .u8 (0 : Nat)) ?_ ⟨_, rfl, rfl, hC, fun _ _ h => h⟩
        simp [execOp, Act.eval, b3]
      · simp only [List.getElem?_toArray, List.getElem?_cons_zero, List.getElem?_cons_succ, Option.some.injEq] at hi
        subst hi
        simp [Region.binds, valOf, rfI, rfIP] at hdep
        have ev : ((#[(0, Operand.tmp 12), (1, Operand.tmp 13)] : Array (Nat × Operand)).map fun (i, x) => (i, a.eval x)).toList = [(0, Value.int .u8 (k : Nat)), (1, Value.int .u8 (0 : Nat))] := by simp [Act.eval, hdep]
        refine wp_buildSlice 48 5 2 #[(0, Operand.tmp 12), (1, Operand.tmp 13)] rfl #[.int .u8 (k : Nat), .int .u8 (0 : Nat)] v0 _ Try.underlying48 hv0 hv1 (by rw [hv2]; decide) (by rw [hv2]; decide) (by rw [ev]; simp only [hv2]; kernel_rfl) ⟨_, rfl, ?_, hC.alloc _, fun _ _ h => rfI_touch ((Touch.refl _ _).alloc _) h⟩
        exact two_row W k 0 hk5 (by decide)
      · simp only [List.getElem?_toArray, List.getElem?_cons_zero, List.getElem?_cons_succ, Option.some.injEq] at hi
        subst hi
        simp [Region.binds, valOf, rfI, rfIP] at hdep
        have hr : Row W 5 (a.tmps[14]?.getD undef) (byteVs [UInt8.ofNat k, UInt8.ofNat 0]) := by first | exact hdep | exact hdep.1 | exact hdep.2
        refine kp_val (v := .string x0) ?_ ⟨_, rfl, rfl, hC, fun _ _ h => h⟩
        have hconv := run_bytes_row (P := Try.prog) _ 48 5 9 Try.underlying48 Try.underlying5 Try.underlying9 hr
        simp [execOp, Act.eval, hconv]
        rw [HX.out]
        try rfl
      · simp only [List.getElem?_toArray, List.getElem?_cons_zero, List.getElem?_cons_succ, Option.some.injEq] at hi
        subst hi
        simp [Region.binds, valOf, rfI, rfIP] at hdep
        refine kp_val (v := .string ((⟨#[76, 71]⟩ : ByteArray) ++ x0)) ?_ ⟨_, rfl, rfl, hC, fun _ _ h => h⟩
        have hadd := run_string_add_sum (P := Try.prog) W ((⟨#[76, 71]⟩ : ByteArray)) x0 (by simp only [ByteArray.size_append, sM, s0, s1, s2, s3, s4, s5, s6, s7]; omega)
        simp [execOp, Act.eval, hdep, eqGuard, binOp_string_add, hadd]
      · simp only [List.getElem?_toArray, List.getElem?_cons_zero, List.getElem?_cons_succ, Option.some.injEq] at hi
        subst hi
        clear hdep
        refine kp_val (v := .pointer (some ⟨G, 1, none⟩)) ?_ ⟨_, rfl, rfl, hC, fun _ _ h => h⟩
        simp [execOp, Act.eval, b1]
        go_simp
      · simp only [List.getElem?_toArray, List.getElem?_cons_zero, List.getElem?_cons_succ, Option.some.injEq] at hi
        subst hi
        simp [Region.binds, valOf, rfI, rfIP] at hdep
        refine kp_val (v := .int .u32 (se : Nat)) ?_ ⟨_, rfl, rfl, hC, fun _ _ h => h⟩
        simp [execOp, Act.eval, hdep]
        go_simp
      · simp only [List.getElem?_toArray, List.getElem?_cons_zero, List.getElem?_cons_succ, Option.some.injEq] at hi
        subst hi
        simp [Region.binds, valOf, rfI, rfIP] at hdep
        refine kp_call (f := 35) (args := #[.int .u32 (se : Nat)]) (v := .string x1) ?_ (H1.out W) (fun w' ht => ⟨_, rfl, rfl, hC.trans ht, fun _ _ h => rfI_touch ht h⟩)
        simp [execOp, resolve, invoke, Act.eval, hdep]
        try rfl
      · simp only [List.getElem?_toArray, List.getElem?_cons_zero, List.getElem?_cons_succ, Option.some.injEq] at hi
        subst hi
        simp [Region.binds, valOf, rfI, rfIP] at hdep
        refine kp_val (v := .string (((⟨#[76, 71]⟩ : ByteArray) ++ x0) ++ x1)) ?_ ⟨_, rfl, rfl, hC, fun _ _ h => h⟩
        have hadd := run_string_add_sum (P := Try.prog) W ((⟨#[76, 71]⟩ : ByteArray) ++ x0) x1 (by simp only [ByteArray.size_append, sM, s0, s1, s2, s3, s4, s5, s6, s7]; omega)
        simp [execOp, Act.eval, hdep, eqGuard, binOp_string_add, hadd]
      · simp only [List.getElem?_toArray, List.getElem?_cons_zero, List.getElem?_cons_succ, Option.some.injEq] at hi
        subst hi
        clear hdep
        refine kp_val (v := .pointer (some ⟨G, 2, none⟩)) ?_ ⟨_, rfl, rfl, hC, fun _ _ h => h⟩
        simp [execOp, Act.eval, b1]
        go_simp
      · simp only [List.getElem?_toArray, List.getElem?_cons_zero, List.getElem?_cons_succ, Option.some.injEq] at hi
        subst hi
        simp [Region.binds, valOf, rfI, rfIP] at hdep
        refine kp_val (v := .int .u32 (ep : Nat)) ?_ ⟨_, rfl, rfl, hC, fun _ _ h => h⟩
        simp [execOp, Act.eval, hdep]
        go_simp
      · simp only [List.getElem?_toArray, List.getElem?_cons_zero, List.getElem?_cons_succ, Option.some.injEq] at hi
        subst hi
        simp [Region.binds, valOf, rfI, rfIP] at hdep
        refine kp_call (f := 35) (args := #[.int .u32 (ep : Nat)]) (v := .string x2) ?_ (H2.out W) (fun w' ht => ⟨_, rfl, rfl, hC.trans ht, fun _ _ h => rfI_touch ht h⟩)
        simp [execOp, resolve, invoke, Act.eval, hdep]
        try rfl
      · simp only [List.getElem?_toArray, List.getElem?_cons_zero, List.getElem?_cons_succ, Option.some.injEq] at hi
        subst hi
        simp [Region.binds, valOf, rfI, rfIP] at hdep
        refine kp_val (v := .string ((((⟨#[76, 71]⟩ : ByteArray) ++ x0) ++ x1) ++ x2)) ?_ ⟨_, rfl, rfl, hC, fun _ _ h => h⟩
        have hadd := run_string_add_sum (P := Try.prog) W (((⟨#[76, 71]⟩ : ByteArray) ++ x0) ++ x1) x2 (by simp only [ByteArray.size_append, sM, s0, s1, s2, s3, s4, s5, s6, s7]; omega)
        simp [execOp, Act.eval, hdep, eqGuard, binOp_string_add, hadd]
      · simp only [List.getElem?_toArray, List.getElem?_cons_zero, List.getElem?_cons_succ, Option.some.injEq] at hi
        subst hi
        clear hdep
        refine kp_val (v := .pointer (some ⟨G, 3, none⟩)) ?_ ⟨_, rfl, rfl, hC, fun _ _ h => h⟩
        simp [execOp, Act.eval, b1]
        go_simp
      · simp only [List.getElem?_toArray, List.getElem?_cons_zero, List.getElem?_cons_succ, Option.some.injEq] at hi
        subst hi
        simp [Region.binds, valOf, rfI, rfIP] at hdep
        refine kp_val (v := .int .u32 (sq : Nat)) ?_ ⟨_, rfl, rfl, hC, fun _ _ h => h⟩
        simp [execOp, Act.eval, hdep]
        go_simp
      · simp only [List.getElem?_toArray, List.getElem?_cons_zero, List.getElem?_cons_succ, Option.some.injEq] at hi
        subst hi
        simp [Region.binds, valOf, rfI, rfIP] at hdep
        refine kp_call (f := 35) (args := #[.int .u32 (sq : Nat)]) (v := .string x3) ?_ (H3.out W) (fun w' ht => ⟨_, rfl, rfl, hC.trans ht, fun _ _ h => rfI_touch ht h⟩)
        simp [execOp, resolve, invoke, Act.eval, hdep]
        try rfl
      · simp only [List.getElem?_toArray, List.getElem?_cons_zero, List.getElem?_cons_succ, Option.some.injEq] at hi
        subst hi
        simp [Region.binds, valOf, rfI, rfIP] at hdep
        refine kp_val (v := .string (((((⟨#[76, 71]⟩ : ByteArray) ++ x0) ++ x1) ++ x2) ++ x3)) ?_ ⟨_, rfl, rfl, hC, fun _ _ h => h⟩
        have hadd := run_string_add_sum (P := Try.prog) W ((((⟨#[76, 71]⟩ : ByteArray) ++ x0) ++ x1) ++ x2) x3 (by simp only [ByteArray.size_append, sM, s0, s1, s2, s3, s4, s5, s6, s7]; omega)
        simp [execOp, Act.eval, hdep, eqGuard, binOp_string_add, hadd]
      · simp only [List.getElem?_toArray, List.getElem?_cons_zero, List.getElem?_cons_succ, Option.some.injEq] at hi
        subst hi
        clear hdep
        refine kp_val (v := .pointer (some ⟨G, 4, none⟩)) ?_ ⟨_, rfl, rfl, hC, fun _ _ h => h⟩
        simp [execOp, Act.eval, b1]
        go_simp
      · simp only [List.getElem?_toArray, List.getElem?_cons_zero, List.getElem?_cons_succ, Option.some.injEq] at hi
        subst hi
        simp [Region.binds, valOf, rfI, rfIP] at hdep
        refine kp_val (v := .int .u64 (pos : Nat)) ?_ ⟨_, rfl, rfl, hC, fun _ _ h => h⟩
        simp [execOp, Act.eval, hdep]
        go_simp
      · simp only [List.getElem?_toArray, List.getElem?_cons_zero, List.getElem?_cons_succ, Option.some.injEq] at hi
        subst hi
        simp [Region.binds, valOf, rfI, rfIP] at hdep
        refine kp_call (f := 25) (args := #[.int .u64 (pos : Nat), .int .i64 8]) (v := .string x4) ?_ (H4.out W) (fun w' ht => ⟨_, rfl, rfl, hC.trans ht, fun _ _ h => rfI_touch ht h⟩)
        simp [execOp, resolve, invoke, Act.eval, hdep]
        try rfl
      · simp only [List.getElem?_toArray, List.getElem?_cons_zero, List.getElem?_cons_succ, Option.some.injEq] at hi
        subst hi
        simp [Region.binds, valOf, rfI, rfIP] at hdep
        refine kp_val (v := .string ((((((⟨#[76, 71]⟩ : ByteArray) ++ x0) ++ x1) ++ x2) ++ x3) ++ x4)) ?_ ⟨_, rfl, rfl, hC, fun _ _ h => h⟩
        have hadd := run_string_add_sum (P := Try.prog) W (((((⟨#[76, 71]⟩ : ByteArray) ++ x0) ++ x1) ++ x2) ++ x3) x4 (by simp only [ByteArray.size_append, sM, s0, s1, s2, s3, s4, s5, s6, s7]; omega)
        simp [execOp, Act.eval, hdep, eqGuard, binOp_string_add, hadd]
      · simp only [List.getElem?_toArray, List.getElem?_cons_zero, List.getElem?_cons_succ, Option.some.injEq] at hi
        subst hi
        clear hdep
        refine kp_val (v := .pointer (some ⟨G, 5, none⟩)) ?_ ⟨_, rfl, rfl, hC, fun _ _ h => h⟩
        simp [execOp, Act.eval, b1]
        go_simp
      · simp only [List.getElem?_toArray, List.getElem?_cons_zero, List.getElem?_cons_succ, Option.some.injEq] at hi
        subst hi
        simp [Region.binds, valOf, rfI, rfIP] at hdep
        refine kp_val (v := .int .u32 (sm : Nat)) ?_ ⟨_, rfl, rfl, hC, fun _ _ h => h⟩
        simp [execOp, Act.eval, hdep]
        go_simp
      · simp only [List.getElem?_toArray, List.getElem?_cons_zero, List.getElem?_cons_succ, Option.some.injEq] at hi
        subst hi
        simp [Region.binds, valOf, rfI, rfIP] at hdep
        refine kp_call (f := 35) (args := #[.int .u32 (sm : Nat)]) (v := .string x5) ?_ (H5.out W) (fun w' ht => ⟨_, rfl, rfl, hC.trans ht, fun _ _ h => rfI_touch ht h⟩)
        simp [execOp, resolve, invoke, Act.eval, hdep]
        try rfl
      · simp only [List.getElem?_toArray, List.getElem?_cons_zero, List.getElem?_cons_succ, Option.some.injEq] at hi
        subst hi
        simp [Region.binds, valOf, rfI, rfIP] at hdep
        refine kp_val (v := .string (((((((⟨#[76, 71]⟩ : ByteArray) ++ x0) ++ x1) ++ x2) ++ x3) ++ x4) ++ x5)) ?_ ⟨_, rfl, rfl, hC, fun _ _ h => h⟩
        have hadd := run_string_add_sum (P := Try.prog) W ((((((⟨#[76, 71]⟩ : ByteArray) ++ x0) ++ x1) ++ x2) ++ x3) ++ x4) x5 (by simp only [ByteArray.size_append, sM, s0, s1, s2, s3, s4, s5, s6, s7]; omega)
        simp [execOp, Act.eval, hdep, eqGuard, binOp_string_add, hadd]
      · simp only [List.getElem?_toArray, List.getElem?_cons_zero, List.getElem?_cons_succ, Option.some.injEq] at hi
        subst hi
        clear hdep
        refine kp_val (v := .pointer (some ⟨G, 6, none⟩)) ?_ ⟨_, rfl, rfl, hC, fun _ _ h => h⟩
        simp [execOp, Act.eval, b1]
        go_simp
      · simp only [List.getElem?_toArray, List.getElem?_cons_zero, List.getElem?_cons_succ, Option.some.injEq] at hi
        subst hi
        simp [Region.binds, valOf, rfI, rfIP] at hdep
        refine kp_val (v := .int .u32 (mp : Nat)) ?_ ⟨_, rfl, rfl, hC, fun _ _ h => h⟩
        simp [execOp, Act.eval, hdep]
        go_simp
      · simp only [List.getElem?_toArray, List.getElem?_cons_zero, List.getElem?_cons_succ, Option.some.injEq] at hi
        subst hi
        simp [Region.binds, valOf, rfI, rfIP] at hdep
        refine kp_call (f := 35) (args := #[.int .u32 (mp : Nat)]) (v := .string x6) ?_ (H6.out W) (fun w' ht => ⟨_, rfl, rfl, hC.trans ht, fun _ _ h => rfI_touch ht h⟩)
        simp [execOp, resolve, invoke, Act.eval, hdep]
        try rfl
      · simp only [List.getElem?_toArray, List.getElem?_cons_zero, List.getElem?_cons_succ, Option.some.injEq] at hi
        subst hi
        simp [Region.binds, valOf, rfI, rfIP] at hdep
        refine kp_val (v := .string ((((((((⟨#[76, 71]⟩ : ByteArray) ++ x0) ++ x1) ++ x2) ++ x3) ++ x4) ++ x5) ++ x6)) ?_ ⟨_, rfl, rfl, hC, fun _ _ h => h⟩
        have hadd := run_string_add_sum (P := Try.prog) W (((((((⟨#[76, 71]⟩ : ByteArray) ++ x0) ++ x1) ++ x2) ++ x3) ++ x4) ++ x5) x6 (by simp only [ByteArray.size_append, sM, s0, s1, s2, s3, s4, s5, s6, s7]; omega)
        simp [execOp, Act.eval, hdep, eqGuard, binOp_string_add, hadd]
      · simp only [List.getElem?_toArray, List.getElem?_cons_zero, List.getElem?_cons_succ, Option.some.injEq] at hi
        subst hi
        clear hdep
        refine kp_val (v := .pointer (some ⟨G, 8, none⟩)) ?_ ⟨_, rfl, rfl, hC, fun _ _ h => h⟩
        simp [execOp, Act.eval, b1]
        go_simp
      · simp only [List.getElem?_toArray, List.getElem?_cons_zero, List.getElem?_cons_succ, Option.some.injEq] at hi
        subst hi
        simp [Region.binds, valOf, rfI, rfIP] at hdep
        refine kp_val (v := .string text) ?_ ⟨_, rfl, rfl, hC, fun _ _ h => h⟩
        simp [execOp, Act.eval, hdep]
        go_simp
      · simp only [List.getElem?_toArray, List.getElem?_cons_zero, List.getElem?_cons_succ, Option.some.injEq] at hi
        subst hi
        simp [Region.binds, valOf, rfI, rfIP] at hdep
        refine kp_val (v := .int .i64 (text.size : Nat)) ?_ ⟨_, rfl, rfl, hC, fun _ _ h => h⟩
        simp [execOp, resolve, invoke, Act.eval, hdep]
        go_simp
      · simp only [List.getElem?_toArray, List.getElem?_cons_zero, List.getElem?_cons_succ, Option.some.injEq] at hi
        subst hi
        simp [Region.binds, valOf, rfI, rfIP] at hdep
        refine kp_val (v := .int .u64 (text.size : Nat)) ?_ ⟨_, rfl, rfl, hC, fun _ _ h => h⟩
        simp [execOp, Act.eval, hdep]
        go_simp
      · simp only [List.getElem?_toArray, List.getElem?_cons_zero, List.getElem?_cons_succ, Option.some.injEq] at hi
        subst hi
        simp [Region.binds, valOf, rfI, rfIP] at hdep
        refine kp_call (f := 25) (args := #[.int .u64 (text.size : Nat), .int .i64 2]) (v := .string x7) ?_ (H7.out W) (fun w' ht => ⟨_, rfl, rfl, hC.trans ht, fun _ _ h => rfI_touch ht h⟩)
        simp [execOp, resolve, invoke, Act.eval, hdep]
        try rfl
      · simp only [List.getElem?_toArray, List.getElem?_cons_zero, List.getElem?_cons_succ, Option.some.injEq] at hi
        subst hi
        simp [Region.binds, valOf, rfI, rfIP] at hdep
        refine kp_val (v := .string (((((((((⟨#[76, 71]⟩ : ByteArray) ++ x0) ++ x1) ++ x2) ++ x3) ++ x4) ++ x5) ++ x6) ++ x7)) ?_ ⟨_, rfl, rfl, hC, fun _ _ h => h⟩
        have hadd := run_string_add_sum (P := Try.prog) W ((((((((⟨#[76, 71]⟩ : ByteArray) ++ x0) ++ x1) ++ x2) ++ x3) ++ x4) ++ x5) ++ x6) x7 (by simp only [ByteArray.size_append, sM, s0, s1, s2, s3, s4, s5, s6, s7]; omega)
        simp [execOp, Act.eval, hdep, eqGuard, binOp_string_add, hadd]
      · simp only [List.getElem?_toArray, List.getElem?_cons_zero, List.getElem?_cons_succ, Option.some.injEq] at hi
        subst hi
        clear hdep
        refine kp_val (v := .pointer (some ⟨G, 8, none⟩)) ?_ ⟨_, rfl, rfl, hC, fun _ _ h => h⟩
        simp [execOp, Act.eval, b1]
        go_simp
      · simp only [List.getElem?_toArray, List.getElem?_cons_zero, List.getElem?_cons_succ, Option.some.injEq] at hi
        subst hi
        simp [Region.binds, valOf, rfI, rfIP] at hdep
        refine kp_val (v := .string text) ?_ ⟨_, rfl, rfl, hC, fun _ _ h => h⟩
        simp [execOp, Act.eval, hdep]
        go_simp
      · simp only [List.getElem?_toArray, List.getElem?_cons_zero, List.getElem?_cons_succ, Option.some.injEq] at hi
        subst hi
        simp [Region.binds, valOf, rfI, rfIP] at hdep
        refine kp_val (v := .string ((((((((((⟨#[76, 71]⟩ : ByteArray) ++ x0) ++ x1) ++ x2) ++ x3) ++ x4) ++ x5) ++ x6) ++ x7) ++ text)) ?_ ⟨_, rfl, rfl, hC, fun _ _ h => h⟩
        have hadd := run_string_add_sum (P := Try.prog) W (((((((((⟨#[76, 71]⟩ : ByteArray) ++ x0) ++ x1) ++ x2) ++ x3) ++ x4) ++ x5) ++ x6) ++ x7) text (by simp only [ByteArray.size_append, sM, s0, s1, s2, s3, s4, s5, s6, s7]; omega)
        simp [execOp, Act.eval, hdep, eqGuard, binOp_string_add, hadd]
      · simp only [List.getElem?_toArray, List.getElem?_cons_zero, List.getElem?_cons_succ, Option.some.injEq] at hi
        subst hi
        simp [Region.binds, valOf, rfI, rfIP] at hdep
        refine kp_val (v := .string ((((((((((⟨#[76, 71]⟩ : ByteArray) ++ x0) ++ x1) ++ x2) ++ x3) ++ x4) ++ x5) ++ x6) ++ x7) ++ text)) ?_ ⟨_, rfl, rfl, hC, fun _ _ h => h⟩
        simp [execOp, Act.eval, hdep]
    · intro a W hC hbase hall
      have hx : a.tmps.getD 4 undef = Value.string ((((((((((⟨#[76, 71]⟩ : ByteArray) ++ x0) ++ x1) ++ x2) ++ x3) ++ x4) ++ x5) ++ x6) ++ x7) ++ text) := hall 40 _ rfl
      obtain ⟨hbd, hbs, hbb⟩ := hbase
      have hdf : a.defers = [] := hbd
      clear hall hbb hbd
      rename_i hK
      have hx' : a.tmps.getD 4 undef = Value.string BB := by rw [hx, ← HB.out]
      clear hx
      obtain ⟨⟨l⟩, df⟩ := a
      have hl : l.length = 55 := hbs
      clear hbs
      obtain ⟨y0, l0, rfl, hl0⟩ := dg_cons (n := 54) hl
      clear hl
      obtain ⟨y1, l1, rfl, hl1⟩ := dg_cons (n := 53) hl0
      clear hl0
      obtain ⟨y2, l2, rfl, hl2⟩ := dg_cons (n := 52) hl1
      clear hl1
      obtain ⟨y3, l3, rfl, hl3⟩ := dg_cons (n := 51) hl2
      clear hl2
      obtain ⟨y4, l4, rfl, hl4⟩ := dg_cons (n := 50) hl3
      clear hl3
      obtain ⟨y5, l5, rfl, hl5⟩ := dg_cons (n := 49) hl4
      clear hl4
      obtain ⟨y6, l6, rfl, hl6⟩ := dg_cons (n := 48) hl5
      clear hl5
      obtain ⟨y7, l7, rfl, hl7⟩ := dg_cons (n := 47) hl6
      clear hl6
      obtain ⟨y8, l8, rfl, hl8⟩ := dg_cons (n := 46) hl7
      clear hl7
      obtain ⟨y9, l9, rfl, hl9⟩ := dg_cons (n := 45) hl8
      clear hl8
      obtain ⟨y10, l10, rfl, hl10⟩ := dg_cons (n := 44) hl9
      clear hl9
      obtain ⟨y11, l11, rfl, hl11⟩ := dg_cons (n := 43) hl10
      clear hl10
      obtain ⟨y12, l12, rfl, hl12⟩ := dg_cons (n := 42) hl11
      clear hl11
      obtain ⟨y13, l13, rfl, hl13⟩ := dg_cons (n := 41) hl12
      clear hl12
      obtain ⟨y14, l14, rfl, hl14⟩ := dg_cons (n := 40) hl13
      clear hl13
      obtain ⟨y15, l15, rfl, hl15⟩ := dg_cons (n := 39) hl14
      clear hl14
      obtain ⟨y16, l16, rfl, hl16⟩ := dg_cons (n := 38) hl15
      clear hl15
      obtain ⟨y17, l17, rfl, hl17⟩ := dg_cons (n := 37) hl16
      clear hl16
      obtain ⟨y18, l18, rfl, hl18⟩ := dg_cons (n := 36) hl17
      clear hl17
      obtain ⟨y19, l19, rfl, hl19⟩ := dg_cons (n := 35) hl18
      clear hl18
      obtain ⟨y20, l20, rfl, hl20⟩ := dg_cons (n := 34) hl19
      clear hl19
      obtain ⟨y21, l21, rfl, hl21⟩ := dg_cons (n := 33) hl20
      clear hl20
      obtain ⟨y22, l22, rfl, hl22⟩ := dg_cons (n := 32) hl21
      clear hl21
      obtain ⟨y23, l23, rfl, hl23⟩ := dg_cons (n := 31) hl22
      clear hl22
      obtain ⟨y24, l24, rfl, hl24⟩ := dg_cons (n := 30) hl23
      clear hl23
      obtain ⟨y25, l25, rfl, hl25⟩ := dg_cons (n := 29) hl24
      clear hl24
      obtain ⟨y26, l26, rfl, hl26⟩ := dg_cons (n := 28) hl25
      clear hl25
      obtain ⟨y27, l27, rfl, hl27⟩ := dg_cons (n := 27) hl26
      clear hl26
      obtain ⟨y28, l28, rfl, hl28⟩ := dg_cons (n := 26) hl27
      clear hl27
      obtain ⟨y29, l29, rfl, hl29⟩ := dg_cons (n := 25) hl28
      clear hl28
      obtain ⟨y30, l30, rfl, hl30⟩ := dg_cons (n := 24) hl29
      clear hl29
      obtain ⟨y31, l31, rfl, hl31⟩ := dg_cons (n := 23) hl30
      clear hl30
      obtain ⟨y32, l32, rfl, hl32⟩ := dg_cons (n := 22) hl31
      clear hl31
      obtain ⟨y33, l33, rfl, hl33⟩ := dg_cons (n := 21) hl32
      clear hl32
      obtain ⟨y34, l34, rfl, hl34⟩ := dg_cons (n := 20) hl33
      clear hl33
      obtain ⟨y35, l35, rfl, hl35⟩ := dg_cons (n := 19) hl34
      clear hl34
      obtain ⟨y36, l36, rfl, hl36⟩ := dg_cons (n := 18) hl35
      clear hl35
      obtain ⟨y37, l37, rfl, hl37⟩ := dg_cons (n := 17) hl36
      clear hl36
      obtain ⟨y38, l38, rfl, hl38⟩ := dg_cons (n := 16) hl37
      clear hl37
      obtain ⟨y39, l39, rfl, hl39⟩ := dg_cons (n := 15) hl38
      clear hl38
      obtain ⟨y40, l40, rfl, hl40⟩ := dg_cons (n := 14) hl39
      clear hl39
      obtain ⟨y41, l41, rfl, hl41⟩ := dg_cons (n := 13) hl40
      clear hl40
      obtain ⟨y42, l42, rfl, hl42⟩ := dg_cons (n := 12) hl41
      clear hl41
      obtain ⟨y43, l43, rfl, hl43⟩ := dg_cons (n := 11) hl42
      clear hl42
      obtain ⟨y44, l44, rfl, hl44⟩ := dg_cons (n := 10) hl43
      clear hl43
      obtain ⟨y45, l45, rfl, hl45⟩ := dg_cons (n := 9) hl44
      clear hl44
      obtain ⟨y46, l46, rfl, hl46⟩ := dg_cons (n := 8) hl45
      clear hl45
      obtain ⟨y47, l47, rfl, hl47⟩ := dg_cons (n := 7) hl46
      clear hl46
      obtain ⟨y48, l48, rfl, hl48⟩ := dg_cons (n := 6) hl47
      clear hl47
      obtain ⟨y49, l49, rfl, hl49⟩ := dg_cons (n := 5) hl48
      clear hl48
      obtain ⟨y50, l50, rfl, hl50⟩ := dg_cons (n := 4) hl49
      clear hl49
      obtain ⟨y51, l51, rfl, hl51⟩ := dg_cons (n := 3) hl50
      clear hl50
      obtain ⟨y52, l52, rfl, hl52⟩ := dg_cons (n := 2) hl51
      clear hl51
      obtain ⟨y53, l53, rfl, hl53⟩ := dg_cons (n := 1) hl52
      clear hl52
      obtain ⟨y54, l54, rfl, hl54⟩ := dg_cons (n := 0) hl53
      clear hl53
      obtain rfl := List.eq_nil_of_length_eq_zero hl54
      clear hl54
      obtain rfl : y4 = Value.string BB := hx'
      obtain rfl : df = [] := hdf
      refine hK _ W ?_
      have hBI : (BB.size : Int) = 34 + text.size := by omega
      go_wp2_with fail
      refine (HM.out _).mono ?_
      rintro e w3 ⟨rfl, rfl⟩
      go_wp2_with fail
      refine (HN.out _).mono ?_
      rintro e w4 ⟨rfl, hT4⟩
      go_wp2_with fail
      go_ret
      exact ⟨rfl, (hTa.trans hC).trans hT4⟩
  · obtain rfl : l = 1 := HD.out.symm
    go_enter Try.func23, Try.ntmps23
    go_wp2_with fail
    have hc1 := Block.new w 38 [.int .i64 (k : Nat), .int .u32 se, .int .u32 ep, .int .u32 sq, .int .u64 pos, .int .u32 sm, .int .u32 mp, .bool true, .string text]
    refine (HG.out _).mono ?_
    rintro e w1 ⟨rfl, hT0⟩
    have hbx := hc1.kept hT0 id
    have hTa := ((Touch.refl (fun _ => False) w).alloc _).trans hT0
    have z7 : w1.cell? ⟨w.heap.size, 7, none⟩ = some (.bool true) := hbx.cell 7
    go_upto_region 6 with fail
    generalize w.heap.size = G at hbx ⊢
    have z0 : w1.cell? ⟨G, 0, none⟩ = some (.int .i64 (k : Nat)) := hbx.cell 0
    have z1 : w1.cell? ⟨G, 1, none⟩ = some (.int .u32 se) := hbx.cell 1
    have z2 : w1.cell? ⟨G, 2, none⟩ = some (.int .u32 ep) := hbx.cell 2
    have z3 : w1.cell? ⟨G, 3, none⟩ = some (.int .u32 sq) := hbx.cell 3
    have z4 : w1.cell? ⟨G, 4, none⟩ = some (.int .u64 pos) := hbx.cell 4
    have z5 : w1.cell? ⟨G, 5, none⟩ = some (.int .u32 sm) := hbx.cell 5
    have z6 : w1.cell? ⟨G, 6, none⟩ = some (.int .u32 mp) := hbx.cell 6
    have z8 : w1.cell? ⟨G, 8, none⟩ = some (.string text) := hbx.cell 8
    clear hbx
    refine wp_region_inv (fun W => Touch (fun _ => False) w1 W) (fun i v W => rfI G k 1 se ep sq pos sm mp text x0 x1 x2 x3 x4 x5 x6 x7 i v W) (by kernel_rfl) (by kernel_rfl) (by kernel_rfl) (Touch.refl _ _).drew ?_ ?_
    · intro i o hi a W hC hbase hdep
      have hlt := op_lt hi
      obtain ⟨hbd, hbs, hbb⟩ := hbase
      have b1 : a.tmps[1]? = some (.pointer (some ⟨G, 0, none⟩)) := (hbb 1 (noDst_spec (by kernel_rfl))).trans rfl
      have b3 : a.tmps[3]? = some (.int .u8 (1 : Nat)) := (hbb 3 (noDst_spec (by kernel_rfl))).trans rfl
      have y0 := hC.cell z0 id
      have y1 := hC.cell z1 id
      have y2 := hC.cell z2 id
      have y3 := hC.cell z3 id
      have y4 := hC.cell z4 id
      have y5 := hC.cell z5 id
      have y6 := hC.cell z6 id
      have y8 := hC.cell z8 id
      rcases (by simp at hlt; omega : i = 0 ∨ i = 1 ∨ i = 2 ∨ i = 3 ∨ i = 4 ∨ i = 5 ∨ i = 6 ∨ i = 7 ∨ i = 8 ∨ i = 9 ∨ i = 10 ∨ i = 11 ∨ i = 12 ∨ i = 13 ∨ i = 14 ∨ i = 15 ∨ i = 16 ∨ i = 17 ∨ i = 18 ∨ i = 19 ∨ i = 20 ∨ i = 21 ∨ i = 22 ∨ i = 23 ∨ i = 24 ∨ i = 25 ∨ i = 26 ∨ i = 27 ∨ i = 28 ∨ i = 29 ∨ i = 30 ∨ i = 31 ∨ i = 32 ∨ i = 33 ∨ i = 34 ∨ i = 35 ∨ i = 36 ∨ i = 37 ∨ i = 38 ∨ i = 39 ∨ i = 40) with rfl | rfl | rfl | rfl | rfl | rfl | rfl | rfl | rfl | rfl | rfl | rfl | rfl | rfl | rfl | rfl | rfl | rfl | rfl | rfl | rfl | rfl | rfl | rfl | rfl | rfl | rfl | rfl | rfl | rfl | rfl | rfl | rfl | rfl | rfl | rfl | rfl | rfl | rfl | rfl | rfl
      · simp only [List.getElem?_toArray, List.getElem?_cons_zero, List.getElem?_cons_succ, Option.some.injEq] at hi
        subst hi
        clear hdep
        refine kp_val (v := .pointer (some ⟨G, 0, none⟩)) ?_ ⟨_, rfl, rfl, hC, fun _ _ h => h⟩
        simp [execOp, Act.eval, b1]
        go_simp
      · simp only [List.getElem?_toArray, List.getElem?_cons_zero, List.getElem?_cons_succ, Option.some.injEq] at hi
        subst hi
        simp [Region.binds, valOf, rfI, rfIP] at hdep
        refine kp_val (v := .int .i64 (k : Nat)) ?_ ⟨_, rfl, rfl, hC, fun _ _ h => h⟩
        simp [execOp, Act.eval, hdep]
        go_simp
      · simp only [List.getElem?_toArray, List.getElem?_cons_zero, List.getElem?_cons_succ, Option.some.injEq] at hi
        subst hi
        simp [Region.binds, valOf, rfI, rfIP] at hdep
        refine kp_val (v := .int .u8 (k : Nat)) ?_ ⟨_, rfl, rfl, hC, fun _ _ h => h⟩
        simp [execOp, Act.eval, hdep]
        go_simp
      · simp only [List.getElem?_toArray, List.getElem?_cons_zero, List.getElem?_cons_succ, Option.some.injEq] at hi
        subst hi
        clear hdep
        refine kp_val (v := .int .u8 (1 : Nat)) ?_ ⟨_, rfl, rfl, hC, fun _ _ h => h⟩
        simp [execOp, Act.eval, b3]
      · simp only [List.getElem?_toArray, List.getElem?_cons_zero, List.getElem?_cons_succ, Option.some.injEq] at hi
        subst hi
        simp [Region.binds, valOf, rfI, rfIP] at hdep
        have ev : ((#[(0, Operand.tmp 12), (1, Operand.tmp 13)] : Array (Nat × Operand)).map fun (i, x) => (i, a.eval x)).toList = [(0, Value.int .u8 (k : Nat)), (1, Value.int .u8 (1 : Nat))] := by simp [Act.eval, hdep]
        refine wp_buildSlice 48 5 2 #[(0, Operand.tmp 12), (1, Operand.tmp 13)] rfl #[.int .u8 (k : Nat), .int .u8 (1 : Nat)] v0 _ Try.underlying48 hv0 hv1 (by rw [hv2]; decide) (by rw [hv2]; decide) (by rw [ev]; simp only [hv2]; kernel_rfl) ⟨_, rfl, ?_, hC.alloc _, fun _ _ h => rfI_touch ((Touch.refl _ _).alloc _) h⟩
        exact two_row W k 1 hk5 (by decide)
      · simp only [List.getElem?_toArray, List.getElem?_cons_zero, List.getElem?_cons_succ, Option.some.injEq] at hi
        subst hi
        simp [Region.binds, valOf, rfI, rfIP] at hdep
        have hr : Row W 5 (a.tmps[14]?.getD undef) (byteVs [UInt8.ofNat k, UInt8.ofNat 1]) := by first | exact hdep | exact hdep.1 | exact hdep.2
        refine kp_val (v := .string x0) ?_ ⟨_, rfl, rfl, hC, fun _ _ h => h⟩
        have hconv := run_bytes_row (P := Try.prog) _ 48 5 9 Try.underlying48 Try.underlying5 Try.underlying9 hr
        simp [execOp, Act.eval, hconv]
        rw [HX.out]
        try rfl
      · simp only [List.getElem?_toArray, List.getElem?_cons_zero, List.getElem?_cons_succ, Option.some.injEq] at hi
        subst hi
        simp [Region.binds, valOf, rfI, rfIP] at hdep
        refine kp_val (v := .string ((⟨#[76, 71]⟩ : ByteArray) ++ x0)) ?_ ⟨_, rfl, rfl, hC, fun _ _ h => h⟩
        have hadd := run_string_add_sum (P := Try.prog) W ((⟨#[76, 71]⟩ : ByteArray)) x0 (by simp only [ByteArray.size_append, sM, s0, s1, s2, s3, s4, s5, s6, s7]; omega)
        simp [execOp, Act.eval, hdep, eqGuard, binOp_string_add, hadd]
      · simp only [List.getElem?_toArray, List.getElem?_cons_zero, List.getElem?_cons_succ, Option.some.injEq] at hi
        subst hi
        clear hdep
        refine kp_val (v := .pointer (some ⟨G, 1, none⟩)) ?_ ⟨_, rfl, rfl, hC, fun _ _ h => h⟩
        simp [execOp, Act.eval, b1]
        go_simp
      · simp only [List.getElem?_toArray, List.getElem?_cons_zero, List.getElem?_cons_succ, Option.some.injEq] at hi
        subst hi
        simp [Region.binds, valOf, rfI, rfIP] at hdep
        refine kp_val (v := .int .u32 (se : Nat)) ?_ ⟨_, rfl, rfl, hC, fun _ _ h => h⟩
        simp [execOp, Act.eval, hdep]
        go_simp
      · simp only [List.getElem?_toArray, List.getElem?_cons_zero, List.getElem?_cons_succ, Option.some.injEq] at hi
        subst hi
        simp [Region.binds, valOf, rfI, rfIP] at hdep
        refine kp_call (f := 35) (args := #[.int .u32 (se : Nat)]) (v := .string x1) ?_ (H1.out W) (fun w' ht => ⟨_, rfl, rfl, hC.trans ht, fun _ _ h => rfI_touch ht h⟩)
        simp [execOp, resolve, invoke, Act.eval, hdep]
        try rfl
      · simp only [List.getElem?_toArray, List.getElem?_cons_zero, List.getElem?_cons_succ, Option.some.injEq] at hi
        subst hi
        simp [Region.binds, valOf, rfI, rfIP] at hdep
        refine kp_val (v := .string (((⟨#[76, 71]⟩ : ByteArray) ++ x0) ++ x1)) ?_ ⟨_, rfl, rfl, hC, fun _ _ h => h⟩
        have hadd := run_string_add_sum (P := Try.prog) W ((⟨#[76, 71]⟩ : ByteArray) ++ x0) x1 (by simp only [ByteArray.size_append, sM, s0, s1, s2, s3, s4, s5, s6, s7]; omega)
        simp [execOp, Act.eval, hdep, eqGuard, binOp_string_add, hadd]
      · simp only [List.getElem?_toArray, List.getElem?_cons_zero, List.getElem?_cons_succ, Option.some.injEq] at hi
        subst hi
        clear hdep
        refine kp_val (v := .pointer (some ⟨G, 2, none⟩)) ?_ ⟨_, rfl, rfl, hC, fun _ _ h => h⟩
        simp [execOp, Act.eval, b1]
        go_simp
      · simp only [List.getElem?_toArray, List.getElem?_cons_zero, List.getElem?_cons_succ, Option.some.injEq] at hi
        subst hi
        simp [Region.binds, valOf, rfI, rfIP] at hdep
        refine kp_val (v := .int .u32 (ep : Nat)) ?_ ⟨_, rfl, rfl, hC, fun _ _ h => h⟩
        simp [execOp, Act.eval, hdep]
        go_simp
      · simp only [List.getElem?_toArray, List.getElem?_cons_zero, List.getElem?_cons_succ, Option.some.injEq] at hi
        subst hi
        simp [Region.binds, valOf, rfI, rfIP] at hdep
        refine kp_call (f := 35) (args := #[.int .u32 (ep : Nat)]) (v := .string x2) ?_ (H2.out W) (fun w' ht => ⟨_, rfl, rfl, hC.trans ht, fun _ _ h => rfI_touch ht h⟩)
        simp [execOp, resolve, invoke, Act.eval, hdep]
        try rfl
      · simp only [List.getElem?_toArray, List.getElem?_cons_zero, List.getElem?_cons_succ, Option.some.injEq] at hi
        subst hi
        simp [Region.binds, valOf, rfI, rfIP] at hdep
        refine kp_val (v := .string ((((⟨#[76, 71]⟩ : ByteArray) ++ x0) ++ x1) ++ x2)) ?_ ⟨_, rfl, rfl, hC, fun _ _ h => h⟩
        have hadd := run_string_add_sum (P := Try.prog) W (((⟨#[76, 71]⟩ : ByteArray) ++ x0) ++ x1) x2 (by simp only [ByteArray.size_append, sM, s0, s1, s2, s3, s4, s5, s6, s7]; omega)
        simp [execOp, Act.eval, hdep, eqGuard, binOp_string_add, hadd]
      · simp only [List.getElem?_toArray, List.getElem?_cons_zero, List.getElem?_cons_succ, Option.some.injEq] at hi
        subst hi
        clear hdep
        refine kp_val (v := .pointer (some ⟨G, 3, none⟩)) ?_ ⟨_, rfl, rfl, hC, fun _ _ h => h⟩
        simp [execOp, Act.eval, b1]
        go_simp
      · simp only [List.getElem?_toArray, List.getElem?_cons_zero, List.getElem?_cons_succ, Option.some.injEq] at hi
        subst hi
        simp [Region.binds, valOf, rfI, rfIP] at hdep
        refine kp_val (v := .int .u32 (sq : Nat)) ?_ ⟨_, rfl, rfl, hC, fun _ _ h => h⟩
        simp [execOp, Act.eval, hdep]
        go_simp
      · simp only [List.getElem?_toArray, List.getElem?_cons_zero, List.getElem?_cons_succ, Option.some.injEq] at hi
        subst hi
        simp [Region.binds, valOf, rfI, rfIP] at hdep
        refine kp_call (f := 35) (args := #[.int .u32 (sq : Nat)]) (v := .string x3) ?_ (H3.out W) (fun w' ht => ⟨_, rfl, rfl, hC.trans ht, fun _ _ h => rfI_touch ht h⟩)
        simp [execOp, resolve, invoke, Act.eval, hdep]
        try rfl
      · simp only [List.getElem?_toArray, List.getElem?_cons_zero, List.getElem?_cons_succ, Option.some.injEq] at hi
        subst hi
        simp [Region.binds, valOf, rfI, rfIP] at hdep
        refine kp_val (v := .string (((((⟨#[76, 71]⟩ : ByteArray) ++ x0) ++ x1) ++ x2) ++ x3)) ?_ ⟨_, rfl, rfl, hC, fun _ _ h => h⟩
        have hadd := run_string_add_sum (P := Try.prog) W ((((⟨#[76, 71]⟩ : ByteArray) ++ x0) ++ x1) ++ x2) x3 (by simp only [ByteArray.size_append, sM, s0, s1, s2, s3, s4, s5, s6, s7]; omega)
        simp [execOp, Act.eval, hdep, eqGuard, binOp_string_add, hadd]
      · simp only [List.getElem?_toArray, List.getElem?_cons_zero, List.getElem?_cons_succ, Option.some.injEq] at hi
        subst hi
        clear hdep
        refine kp_val (v := .pointer (some ⟨G, 4, none⟩)) ?_ ⟨_, rfl, rfl, hC, fun _ _ h => h⟩
        simp [execOp, Act.eval, b1]
        go_simp
      · simp only [List.getElem?_toArray, List.getElem?_cons_zero, List.getElem?_cons_succ, Option.some.injEq] at hi
        subst hi
        simp [Region.binds, valOf, rfI, rfIP] at hdep
        refine kp_val (v := .int .u64 (pos : Nat)) ?_ ⟨_, rfl, rfl, hC, fun _ _ h => h⟩
        simp [execOp, Act.eval, hdep]
        go_simp
      · simp only [List.getElem?_toArray, List.getElem?_cons_zero, List.getElem?_cons_succ, Option.some.injEq] at hi
        subst hi
        simp [Region.binds, valOf, rfI, rfIP] at hdep
        refine kp_call (f := 25) (args := #[.int .u64 (pos : Nat), .int .i64 8]) (v := .string x4) ?_ (H4.out W) (fun w' ht => ⟨_, rfl, rfl, hC.trans ht, fun _ _ h => rfI_touch ht h⟩)
        simp [execOp, resolve, invoke, Act.eval, hdep]
        try rfl
      · simp only [List.getElem?_toArray, List.getElem?_cons_zero, List.getElem?_cons_succ, Option.some.injEq] at hi
        subst hi
        simp [Region.binds, valOf, rfI, rfIP] at hdep
        refine kp_val (v := .string ((((((⟨#[76, 71]⟩ : ByteArray) ++ x0) ++ x1) ++ x2) ++ x3) ++ x4)) ?_ ⟨_, rfl, rfl, hC, fun _ _ h => h⟩
        have hadd := run_string_add_sum (P := Try.prog) W (((((⟨#[76, 71]⟩ : ByteArray) ++ x0) ++ x1) ++ x2) ++ x3) x4 (by simp only [ByteArray.size_append, sM, s0, s1, s2, s3, s4, s5, s6, s7]; omega)
        simp [execOp, Act.eval, hdep, eqGuard, binOp_string_add, hadd]
      · simp only [List.getElem?_toArray, List.getElem?_cons_zero, List.getElem?_cons_succ, Option.some.injEq] at hi
        subst hi
        clear hdep
        refine kp_val (v := .pointer (some ⟨G, 5, none⟩)) ?_ ⟨_, rfl, rfl, hC, fun _ _ h => h⟩
        simp [execOp, Act.eval, b1]
        go_simp
      · simp only [List.getElem?_toArray, List.getElem?_cons_zero, List.getElem?_cons_succ, Option.some.injEq] at hi
        subst hi
        simp [Region.binds, valOf, rfI, rfIP] at hdep
        refine kp_val (v := .int .u32 (sm : Nat)) ?_ ⟨_, rfl, rfl, hC, fun _ _ h => h⟩
        simp [execOp, Act.eval, hdep]
        go_simp
      · simp only [List.getElem?_toArray, List.getElem?_cons_zero, List.getElem?_cons_succ, Option.some.injEq] at hi
        subst hi
        simp [Region.binds, valOf, rfI, rfIP] at hdep
        refine kp_call (f := 35) (args := #[.int .u32 (sm : Nat)]) (v := .string x5) ?_ (H5.out W) (fun w' ht => ⟨_, rfl, rfl, hC.trans ht, fun _ _ h => rfI_touch ht h⟩)
        simp [execOp, resolve, invoke, Act.eval, hdep]
        try rfl
      · simp only [List.getElem?_toArray, List.getElem?_cons_zero, List.getElem?_cons_succ, Option.some.injEq] at hi
        subst hi
        simp [Region.binds, valOf, rfI, rfIP] at hdep
        refine kp_val (v := .string (((((((⟨#[76, 71]⟩ : ByteArray) ++ x0) ++ x1) ++ x2) ++ x3) ++ x4) ++ x5)) ?_ ⟨_, rfl, rfl, hC, fun _ _ h => h⟩
        have hadd := run_string_add_sum (P := Try.prog) W ((((((⟨#[76, 71]⟩ : ByteArray) ++ x0) ++ x1) ++ x2) ++ x3) ++ x4) x5 (by simp only [ByteArray.size_append, sM, s0, s1, s2, s3, s4, s5, s6, s7]; omega)
        simp [execOp, Act.eval, hdep, eqGuard, binOp_string_add, hadd]
      · simp only [List.getElem?_toArray, List.getElem?_cons_zero, List.getElem?_cons_succ, Option.some.injEq] at hi
        subst hi
        clear hdep
        refine kp_val (v := .pointer (some ⟨G, 6, none⟩)) ?_ ⟨_, rfl, rfl, hC, fun _ _ h => h⟩
        simp [execOp, Act.eval, b1]
        go_simp
      · simp only [List.getElem?_toArray, List.getElem?_cons_zero, List.getElem?_cons_succ, Option.some.injEq] at hi
        subst hi
        simp [Region.binds, valOf, rfI, rfIP] at hdep
        refine kp_val (v := .int .u32 (mp : Nat)) ?_ ⟨_, rfl, rfl, hC, fun _ _ h => h⟩
        simp [execOp, Act.eval, hdep]
        go_simp
      · simp only [List.getElem?_toArray, List.getElem?_cons_zero, List.getElem?_cons_succ, Option.some.injEq] at hi
        subst hi
        simp [Region.binds, valOf, rfI, rfIP] at hdep
        refine kp_call (f := 35) (args := #[.int .u32 (mp : Nat)]) (v := .string x6) ?_ (H6.out W) (fun w' ht => ⟨_, rfl, rfl, hC.trans ht, fun _ _ h => rfI_touch ht h⟩)
        simp [execOp, resolve, invoke, Act.eval, hdep]
        try rfl
      · simp only [List.getElem?_toArray, List.getElem?_cons_zero, List.getElem?_cons_succ, Option.some.injEq] at hi
        subst hi
        simp [Region.binds, valOf, rfI, rfIP] at hdep
        refine kp_val (v := .string ((((((((⟨#[76, 71]⟩ : ByteArray) ++ x0) ++ x1) ++ x2) ++ x3) ++ x4) ++ x5) ++ x6)) ?_ ⟨_, rfl, rfl, hC, fun _ _ h => h⟩
        have hadd := run_string_add_sum (P := Try.prog) W (((((((⟨#[76, 71]⟩ : ByteArray) ++ x0) ++ x1) ++ x2) ++ x3) ++ x4) ++ x5) x6 (by simp only [ByteArray.size_append, sM, s0, s1, s2, s3, s4, s5, s6, s7]; omega)
        simp [execOp, Act.eval, hdep, eqGuard, binOp_string_add, hadd]
      · simp only [List.getElem?_toArray, List.getElem?_cons_zero, List.getElem?_cons_succ, Option.some.injEq] at hi
        subst hi
        clear hdep
        refine kp_val (v := .pointer (some ⟨G, 8, none⟩)) ?_ ⟨_, rfl, rfl, hC, fun _ _ h => h⟩
        simp [execOp, Act.eval, b1]
        go_simp
      · simp only [List.getElem?_toArray, List.getElem?_cons_zero, List.getElem?_cons_succ, Option.some.injEq] at hi
        subst hi
        simp [Region.binds, valOf, rfI, rfIP] at hdep
        refine kp_val (v := .string text) ?_ ⟨_, rfl, rfl, hC, fun _ _ h => h⟩
        simp [execOp, Act.eval, hdep]
        go_simp
      · simp only [List.getElem?_toArray, List.getElem?_cons_zero, List.getElem?_cons_succ, Option.some.injEq] at hi
        subst hi
        simp [Region.binds, valOf, rfI, rfIP] at hdep
        refine kp_val (v := .int .i64 (text.size : Nat)) ?_ ⟨_, rfl, rfl, hC, fun _ _ h => h⟩
        simp [execOp, resolve, invoke, Act.eval, hdep]
        go_simp
      · simp only [List.getElem?_toArray, List.getElem?_cons_zero, List.getElem?_cons_succ, Option.some.injEq] at hi
        subst hi
        simp [Region.binds, valOf, rfI, rfIP] at hdep
        refine kp_val (v := .int .u64 (text.size : Nat)) ?_ ⟨_, rfl, rfl, hC, fun _ _ h => h⟩
        simp [execOp, Act.eval, hdep]
        go_simp
      · simp only [List.getElem?_toArray, List.getElem?_cons_zero, List.getElem?_cons_succ, Option.some.injEq] at hi
        subst hi
        simp [Region.binds, valOf, rfI, rfIP] at hdep
        refine kp_call (f := 25) (args := #[.int .u64 (text.size : Nat), .int .i64 2]) (v := .string x7) ?_ (H7.out W) (fun w' ht => ⟨_, rfl, rfl, hC.trans ht, fun _ _ h => rfI_touch ht h⟩)
        simp [execOp, resolve, invoke, Act.eval, hdep]
        try rfl
      · simp only [List.getElem?_toArray, List.getElem?_cons_zero, List.getElem?_cons_succ, Option.some.injEq] at hi
        subst hi
        simp [Region.binds, valOf, rfI, rfIP] at hdep
        refine kp_val (v := .string (((((((((⟨#[76, 71]⟩ : ByteArray) ++ x0) ++ x1) ++ x2) ++ x3) ++ x4) ++ x5) ++ x6) ++ x7)) ?_ ⟨_, rfl, rfl, hC, fun _ _ h => h⟩
        have hadd := run_string_add_sum (P := Try.prog) W ((((((((⟨#[76, 71]⟩ : ByteArray) ++ x0) ++ x1) ++ x2) ++ x3) ++ x4) ++ x5) ++ x6) x7 (by simp only [ByteArray.size_append, sM, s0, s1, s2, s3, s4, s5, s6, s7]; omega)
        simp [execOp, Act.eval, hdep, eqGuard, binOp_string_add, hadd]
      · simp only [List.getElem?_toArray, List.getElem?_cons_zero, List.getElem?_cons_succ, Option.some.injEq] at hi
        subst hi
        clear hdep
        refine kp_val (v := .pointer (some ⟨G, 8, none⟩)) ?_ ⟨_, rfl, rfl, hC, fun _ _ h => h⟩
        simp [execOp, Act.eval, b1]
        go_simp
      · simp only [List.getElem?_toArray, List.getElem?_cons_zero, List.getElem?_cons_succ, Option.some.injEq] at hi
        subst hi
        simp [Region.binds, valOf, rfI, rfIP] at hdep
        refine kp_val (v := .string text) ?_ ⟨_, rfl, rfl, hC, fun _ _ h => h⟩
        simp [execOp, Act.eval, hdep]
        go_simp
      · simp only [List.getElem?_toArray, List.getElem?_cons_zero, List.getElem?_cons_succ, Option.some.injEq] at hi
        subst hi
        simp [Region.binds, valOf, rfI, rfIP] at hdep
        refine kp_val (v := .string ((((((((((⟨#[76, 71]⟩ : ByteArray) ++ x0) ++ x1) ++ x2) ++ x3) ++ x4) ++ x5) ++ x6) ++ x7) ++ text)) ?_ ⟨_, rfl, rfl, hC, fun _ _ h => h⟩
        have hadd := run_string_add_sum (P := Try.prog) W (((((((((⟨#[76, 71]⟩ : ByteArray) ++ x0) ++ x1) ++ x2) ++ x3) ++ x4) ++ x5) ++ x6) ++ x7) text (by simp only [ByteArray.size_append, sM, s0, s1, s2, s3, s4, s5, s6, s7]; omega)
        simp [execOp, Act.eval, hdep, eqGuard, binOp_string_add, hadd]
      · simp only [List.getElem?_toArray, List.getElem?_cons_zero, List.getElem?_cons_succ, Option.some.injEq] at hi
        subst hi
        simp [Region.binds, valOf, rfI, rfIP] at hdep
        refine kp_val (v := .string ((((((((((⟨#[76, 71]⟩ : ByteArray) ++ x0) ++ x1) ++ x2) ++ x3) ++ x4) ++ x5) ++ x6) ++ x7) ++ text)) ?_ ⟨_, rfl, rfl, hC, fun _ _ h => h⟩
        simp [execOp, Act.eval, hdep]
    · intro a W hC hbase hall
      have hx : a.tmps.getD 4 undef = Value.string ((((((((((⟨#[76, 71]⟩ : ByteArray) ++ x0) ++ x1) ++ x2) ++ x3) ++ x4) ++ x5) ++ x6) ++ x7) ++ text) := hall 40 _ rfl
      obtain ⟨hbd, hbs, hbb⟩ := hbase
      have hdf : a.defers = [] := hbd
      clear hall hbb hbd
      rename_i hK
      have hx' : a.tmps.getD 4 undef = Value.string BB := by rw [hx, ← HB.out]
      clear hx
      obtain ⟨⟨l⟩, df⟩ := a
      have hl : l.length = 55 := hbs
      clear hbs
      obtain ⟨y0, l0, rfl, hl0⟩ := dg_cons (n := 54) hl
      clear hl
      obtain ⟨y1, l1, rfl, hl1⟩ := dg_cons (n := 53) hl0
      clear hl0
      obtain ⟨y2, l2, rfl, hl2⟩ := dg_cons (n := 52) hl1
      clear hl1
      obtain ⟨y3, l3, rfl, hl3⟩ := dg_cons (n := 51) hl2
      clear hl2
      obtain ⟨y4, l4, rfl, hl4⟩ := dg_cons (n := 50) hl3
      clear hl3
      obtain ⟨y5, l5, rfl, hl5⟩ := dg_cons (n := 49) hl4
      clear hl4
      obtain ⟨y6, l6, rfl, hl6⟩ := dg_cons (n := 48) hl5
      clear hl5
      obtain ⟨y7, l7, rfl, hl7⟩ := dg_cons (n := 47) hl6
      clear hl6
      obtain ⟨y8, l8, rfl, hl8⟩ := dg_cons (n := 46) hl7
      clear hl7
      obtain ⟨y9, l9, rfl, hl9⟩ := dg_cons (n := 45) hl8
      clear hl8
      obtain ⟨y10, l10, rfl, hl10⟩ := dg_cons (n := 44) hl9
      clear hl9
      obtain ⟨y11, l11, rfl, hl11⟩ := dg_cons (n := 43) hl10
      clear hl10
      obtain ⟨y12, l12, rfl, hl12⟩ := dg_cons (n := 42) hl11
      clear hl11
      obtain ⟨y13, l13, rfl, hl13⟩ := dg_cons (n := 41) hl12
      clear hl12
      obtain ⟨y14, l14, rfl, hl14⟩ := dg_cons (n := 40) hl13
      clear hl13
      obtain ⟨y15, l15, rfl, hl15⟩ := dg_cons (n := 39) hl14
      clear hl14
      obtain ⟨y16, l16, rfl, hl16⟩ := dg_cons (n := 38) hl15
      clear hl15
      obtain ⟨y17, l17, rfl, hl17⟩ := dg_cons (n := 37) hl16
      clear hl16
      obtain ⟨y18, l18, rfl, hl18⟩ := dg_cons (n := 36) hl17
      clear hl17
      obtain ⟨y19, l19, rfl, hl19⟩ := dg_cons (n := 35) hl18
      clear hl18
      obtain ⟨y20, l20, rfl, hl20⟩ := dg_cons (n := 34) hl19
      clear hl19
      obtain ⟨y21, l21, rfl, hl21⟩ := dg_cons (n := 33) hl20
      clear hl20
      obtain ⟨y22, l22, rfl, hl22⟩ := dg_cons (n := 32) hl21
      clear hl21
      obtain ⟨y23, l23, rfl, hl23⟩ := dg_cons (n := 31) hl22
      clear hl22
      obtain ⟨y24, l24, rfl, hl24⟩ := dg_cons (n := 30) hl23
      clear hl23
      obtain ⟨y25, l25, rfl, hl25⟩ := dg_cons (n := 29) hl24
      clear hl24
      obtain ⟨y26, l26, rfl, hl26⟩ := dg_cons (n := 28) hl25
      clear hl25
      obtain ⟨y27, l27, rfl, hl27⟩ := dg_cons (n := 27) hl26
      clear hl26
      obtain ⟨y28, l28, rfl, hl28⟩ := dg_cons (n := 26) hl27
      clear hl27
      obtain ⟨y29, l29, rfl, hl29⟩ := dg_cons (n := 25) hl28
      clear hl28
      obtain ⟨y30, l30, rfl, hl30⟩ := dg_cons (n := 24) hl29
      clear hl29
      obtain ⟨y31, l31, rfl, hl31⟩ := dg_cons (n := 23) hl30
      clear hl30
      obtain ⟨y32, l32, rfl, hl32⟩ := dg_cons (n := 22) hl31
      clear hl31
      obtain ⟨y33, l33, rfl, hl33⟩ := dg_cons (n := 21) hl32
      clear hl32
      obtain ⟨y34, l34, rfl, hl34⟩ := dg_cons (n := 20) hl33
      clear hl33
      obtain ⟨y35, l35, rfl, hl35⟩ := dg_cons (n := 19) hl34
      clear hl34
      obtain ⟨y36, l36, rfl, hl36⟩ := dg_cons (n := 18) hl35
      clear hl35
      obtain ⟨y37, l37, rfl, hl37⟩ := dg_cons (n := 17) hl36
      clear hl36
      obtain ⟨y38, l38, rfl, hl38⟩ := dg_cons (n := 16) hl37
      clear hl37
      obtain ⟨y39, l39, rfl, hl39⟩ := dg_cons (n := 15) hl38
      clear hl38
      obtain ⟨y40, l40, rfl, hl40⟩ := dg_cons (n := 14) hl39
      clear hl39
      obtain ⟨y41, l41, rfl, hl41⟩ := dg_cons (n := 13) hl40
      clear hl40
      obtain ⟨y42, l42, rfl, hl42⟩ := dg_cons (n := 12) hl41
      clear hl41
      obtain ⟨y43, l43, rfl, hl43⟩ := dg_cons (n := 11) hl42
      clear hl42
      obtain ⟨y44, l44, rfl, hl44⟩ := dg_cons (n := 10) hl43
      clear hl43
      obtain ⟨y45, l45, rfl, hl45⟩ := dg_cons (n := 9) hl44
      clear hl44
      obtain ⟨y46, l46, rfl, hl46⟩ := dg_cons (n := 8) hl45
      clear hl45
      obtain ⟨y47, l47, rfl, hl47⟩ := dg_cons (n := 7) hl46
      clear hl46
      obtain ⟨y48, l48, rfl, hl48⟩ := dg_cons (n := 6) hl47
      clear hl47
      obtain ⟨y49, l49, rfl, hl49⟩ := dg_cons (n := 5) hl48
      clear hl48
      obtain ⟨y50, l50, rfl, hl50⟩ := dg_cons (n := 4) hl49
      clear hl49
      obtain ⟨y51, l51, rfl, hl51⟩ := dg_cons (n := 3) hl50
      clear hl50
      obtain ⟨y52, l52, rfl, hl52⟩ := dg_cons (n := 2) hl51
      clear hl51
      obtain ⟨y53, l53, rfl, hl53⟩ := dg_cons (n := 1) hl52
      clear hl52
      obtain ⟨y54, l54, rfl, hl54⟩ := dg_cons (n := 0) hl53
      clear hl53
      obtain rfl := List.eq_nil_of_length_eq_zero hl54
      clear hl54
      obtain rfl : y4 = Value.string BB := hx'
      obtain rfl : df = [] := hdf
      refine hK _ W ?_
      have hBI : (BB.size : Int) = 34 + text.size := by omega
      go_wp2_with fail
      refine (HM.out _).mono ?_
      rintro e w3 ⟨rfl, rfl⟩
      go_wp2_with fail
      refine (HN.out _).mono ?_
      rintro e w4 ⟨rfl, hT4⟩
      go_wp2_with fail
      go_ret
      exact ⟨rfl, (hTa.trans hC).trans hT4⟩
end Go.Proofs.Ytmjahbdengnoeaa

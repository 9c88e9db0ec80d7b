/- Contract of package zip: a header is read. -/
import Derived.Test.YtdohhmaggeocjaaDoorZipJ
namespace Go.Proofs.YtdohhmaggeocjaaDoor
open Go Go.RowKit
set_option maxRecDepth 100000

def zeroH : Hd := ⟨ByteArray.empty, Tim.zero, 0, 0, 0, 0, false⟩
/-- A header is read: what it tells, and how many bytes it has. -/
def rdM (M : ByteArray) (f l : Nat) (tell : ByteArray → ByteArray → Hd) (sh : Hd → ByteArray) (s : ByteArray) : Hd × Int :=
  if s.extract 0 (min s.size 4) = M.extract 0 (min s.size 4) then
    if s.size < f then (zeroH, 0)
    else if s.size < f + gN (s.extract l (l + 2)) + gN (s.extract (l + 2) (l + 4)) then (zeroH, 0)
    else if sh { tell (s.extract 0 f) (s.extract (f + gN (s.extract l (l + 2))) (f + gN (s.extract l (l + 2)) + gN (s.extract (l + 2) (l + 4)))) with n := s.extract f (f + gN (s.extract l (l + 2))) } =
        s.extract 0 (f + gN (s.extract l (l + 2)) + gN (s.extract (l + 2) (l + 4))) then
      ({ tell (s.extract 0 f) (s.extract (f + gN (s.extract l (l + 2))) (f + gN (s.extract l (l + 2)) + gN (s.extract (l + 2) (l + 4)))) with n := s.extract f (f + gN (s.extract l (l + 2))) },
        ((f + gN (s.extract l (l + 2)) + gN (s.extract (l + 2) (l + 4)) : Nat) : Int))
    else (zeroH, -1)
  else (zeroH, -1)

theorem wp_abs {P : Program} {c : Code} {Q : Exit → Act → World → Prop} {a : Act} {w : World} (R : World → Prop) (h : R w) (h2 : ∀ w', R w' → c.wp P Q a w') : c.wp P Q a w := h2 w h
theorem strEqB (a b : ByteArray) : (a.toList == b.toList) = decide (a = b) := by
  rw [ByteArray.toList_eq, ByteArray.toList_eq, Bool.eq_iff_iff, beq_iff_eq, decide_eq_true_eq]
  constructor
  · intro h
    exact ByteArray.ext (Array.ext' h)
  · rintro rfl; rfl
theorem strEq_t {a b : ByteArray} (h : a = b) : (a.toList == b.toList) = true := by rw [strEqB]; exact decide_eq_true h
theorem strEq_f {a b : ByteArray} (h : a ≠ b) : (a.toList == b.toList) = false := by rw [strEqB]; exact decide_eq_false h
theorem heap_drewN (n : Nat) (X : World) : (X.drewN n).heap = X.heap := by
  induction n generalizing X with
  | zero => rfl
  | succ n ih => exact (ih X.drew).trans rfl
theorem box_set12n {w : World} {b n : Nat} {x0 x1 x2 x3 x4 x5 x6 x7 x8 x9 x10 x11 y0 y1 y2 y3 y4 y5 y6 y7 y8 y9 y10 y11 : Value} {t : TypeId} (h : w.heap[b]? = some (.cells #[x0, x1, x2, x3, x4, x5, x6, x7, x8, x9, x10, x11] t)) :
    (((((((((((((w.setCell ⟨b, 0, none⟩ y0).setCell ⟨b, 1, none⟩ y1).setCell ⟨b, 2, none⟩ y2).setCell ⟨b, 3, none⟩ y3).setCell ⟨b, 4, none⟩ y4).setCell ⟨b, 5, none⟩ y5).setCell ⟨b, 6, none⟩ y6).setCell ⟨b, 7, none⟩ y7).setCell ⟨b, 8, none⟩ y8).setCell ⟨b, 9, none⟩ y9).setCell ⟨b, 10, none⟩ y10).setCell ⟨b, 11, none⟩ y11).drewN n).heap[b]? = some (.cells #[y0, y1, y2, y3, y4, y5, y6, y7, y8, y9, y10, y11] t) := by
  rw [heap_drewN]
  exact box_set12 h
theorem row5 {w : World} {b : Nat} {x0 x1 x2 x3 x4 : Value} {t : TypeId} (h : w.heap[b]? = some (.cells #[x0, x1, x2, x3, x4] t)) :
    w.cell? ⟨b, 0, none⟩ = some x0 ∧ w.cell? ⟨b, 1, none⟩ = some x1 ∧ w.cell? ⟨b, 2, none⟩ = some x2 ∧ w.cell? ⟨b, 3, none⟩ = some x3 ∧ w.cell? ⟨b, 4, none⟩ = some x4 := by
  refine ⟨?_, ?_, ?_, ?_, ?_⟩
  all_goals (rw [cell_of_row _ _ _ _ _ _ h]; rfl)
theorem row5w {w0 : World} {b : Nat} {x0 x1 x2 x3 x4 : Value} {t : TypeId} (h : w0.heap[b]? = some (.cells #[x0, x1, x2, x3, x4] t)) :
    (∀ T : Wd (fun _ => False) w0, T.V.cell? ⟨b, 0, none⟩ = some x0) ∧ (∀ T : Wd (fun _ => False) w0, T.V.cell? ⟨b, 1, none⟩ = some x1) ∧ (∀ T : Wd (fun _ => False) w0, T.V.cell? ⟨b, 2, none⟩ = some x2) ∧
      (∀ T : Wd (fun _ => False) w0, T.V.cell? ⟨b, 3, none⟩ = some x3) ∧ (∀ T : Wd (fun _ => False) w0, T.V.cell? ⟨b, 4, none⟩ = some x4) := by
  refine ⟨fun T => ?_, fun T => ?_, fun T => ?_, fun T => ?_, fun T => ?_⟩
  all_goals (rw [cell_of_row _ _ _ _ _ _ (T.ok.held h id)]; rfl)
theorem row_drewN {w : World} {b n : Nat} {o : Obj} (h : w.heap[b]? = some o) : (w.drewN n).heap[b]? = some o := by rw [heap_drewN]; exact h
theorem readA {wy w1 : World} {x0 x1 x2 x3 x4 x5 x6 x7 x8 x9 x10 x11 y0 y1 y2 y3 y4 y5 y6 y7 y8 y9 y10 y11 : Value} {z12 : Array Value} {t : TypeId} (ht1 : Touch (fun _ => False) (wy.alloc (.cells z12 t)).drew w1) (hb1 : w1.heap[wy.heap.size]? = some (.cells #[x0, x1, x2, x3, x4, x5, x6, x7, x8, x9, x10, x11] t)) :
    ((((((((((((w1.setCell ⟨wy.heap.size, 0, none⟩ y0).setCell ⟨wy.heap.size, 1, none⟩ y1).setCell ⟨wy.heap.size, 2, none⟩ y2).setCell ⟨wy.heap.size, 3, none⟩ y3).setCell ⟨wy.heap.size, 4, none⟩ y4).setCell ⟨wy.heap.size, 5, none⟩ y5).setCell ⟨wy.heap.size, 6, none⟩ y6).setCell ⟨wy.heap.size, 7, none⟩ y7).setCell ⟨wy.heap.size, 8, none⟩ y8).setCell ⟨wy.heap.size, 9, none⟩ y9).setCell ⟨wy.heap.size, 10, none⟩ y10).setCell ⟨wy.heap.size, 11, none⟩ y11).heap[wy.heap.size]? = some (.cells #[y0, y1, y2, y3, y4, y5, y6, y7, y8, y9, y10, y11] t) ∧ Touch (fun _ => False) wy ((((((((((((w1.setCell ⟨wy.heap.size, 0, none⟩ y0).setCell ⟨wy.heap.size, 1, none⟩ y1).setCell ⟨wy.heap.size, 2, none⟩ y2).setCell ⟨wy.heap.size, 3, none⟩ y3).setCell ⟨wy.heap.size, 4, none⟩ y4).setCell ⟨wy.heap.size, 5, none⟩ y5).setCell ⟨wy.heap.size, 6, none⟩ y6).setCell ⟨wy.heap.size, 7, none⟩ y7).setCell ⟨wy.heap.size, 8, none⟩ y8).setCell ⟨wy.heap.size, 9, none⟩ y9).setCell ⟨wy.heap.size, 10, none⟩ y10).setCell ⟨wy.heap.size, 11, none⟩ y11) :=
  ⟨box_set12 hb1, (((Touch.refl _ _).alloc _).trans ht1.undrew).set12 (.inr (Nat.le_refl _)) _ _ _ _ _ _ _ _ _ _ _ _⟩
theorem readB {wy w1 : World} {cs : Array Value} {t : TypeId} (ht1 : Touch (fun _ => False) wy.drew w1) :
    (w1.alloc (.cells cs t)).heap[w1.heap.size]? = some (.cells cs t) ∧ Touch (fun _ => False) wy (w1.alloc (.cells cs t)) ∧ wy.heap.size ≤ w1.heap.size :=
  ⟨heap_alloc_new w1 _, ht1.undrew.alloc _, ht1.undrew.size⟩
theorem fN_lt (s : ByteArray) : fN s < 18446744073709551616 := by
  have := gN_lt (s.extract 0 (min 8 s.size)) 8 (by rw [ByteArray.size_extract]; omega)
  unfold fN
  omega
theorem gN4_lt (s : ByteArray) (a b : Nat) (h : b ≤ a + 4) : gN (s.extract a b) < 4294967296 := by
  have := gN_lt (s.extract a b) 4 (by rw [ByteArray.size_extract]; omega)
  omega
theorem lt64 {n : Nat} (h : n < 4294967296) : n < 18446744073709551616 := by omega
theorem ite_lt {c : Prop} [Decidable c] {a b N : Nat} (h1 : a < N) (h2 : b < N) : (if c then a else b) < N := by split <;> assumption
theorem tL_ok (F X nm : ByteArray) (h : nm.size ≤ 1000000) : HdOk { tL F X with n := nm } := by
  have e : ({ tL F X with n := nm } : Hd) = ⟨nm, uT (gN (F.extract 12 14)) (gN (F.extract 10 12)), 0, if X.size = 0 then 0 else full32, 0, 0, !((gN (F.extract 8 10) : Int) == 8)⟩ := rfl
  rw [e]
  refine ⟨h, ?_, ?_, ?_, ?_⟩
  · simp only; omega
  · simp only
    unfold full32
    split <;> omega
  · simp only; omega
  · simp only; omega
theorem tC_p (F X : ByteArray) : (tC F X).p < 18446744073709551616 := by
  unfold tC
  simp only
  exact ite_lt (fN_lt _) (lt64 (gN4_lt F 20 24 (by omega)))
theorem tC_z (F X : ByteArray) : (tC F X).z < 18446744073709551616 := by
  unfold tC
  simp only
  exact ite_lt (fN_lt _) (lt64 (gN4_lt F 24 28 (by omega)))
theorem tC_s (F X : ByteArray) : (tC F X).s < 4294967296 := by
  unfold tC
  simp only
  exact gN4_lt F 16 20 (by omega)
theorem tC_a (F X : ByteArray) : (tC F X).a < 18446744073709551616 := by
  unfold tC
  simp only
  exact ite_lt (fN_lt _) (lt64 (gN4_lt F 42 46 (by omega)))
theorem tC_ok (F X nm : ByteArray) (h : nm.size ≤ 1000000) : HdOk { tC F X with n := nm } := by
  have h1 := tC_p F X
  have h2 := tC_z F X
  have h3 := tC_s F X
  have h4 := tC_a F X
  generalize tC F X = H at *
  exact ⟨h, h1, h2, h3, h4⟩

set_option maxHeartbeats 1000000 in
theorem readL_sign (s : ByteArray) (k : Nat) (hk : k = min s.size 4) (hs : s.size ≤ 500000) (w : World) (hm : s.extract 0 k ≠ ByteArray.extract ⟨#[80, 75, 3, 4]⟩ 0 k) : Calls Tryd.prog 62 #[.agg #[.string ⟨#[80, 75, 3, 4]⟩, .int .i64 30, .int .i64 26, .func (.func 61) #[] #[], .func (.func 29) #[] #[]], .string s] w fun e w' =>
    e = .returned (.tuple #[zeroH.v, .int .i64 (-1)]) ∧ Touch (fun _ => False) w w' := by
  have hk1 : min (s.size : Int) 4 = (k : Int) := by omega
  have hk0 : (0 : Int) ≤ (k : Int) := by omega
  have hkl : (k : Int) ≤ (s.size : Int) := by omega
  have hk4 : (k : Int) ≤ 4 := by omega
  clear hk
  have hx1 := heap_alloc_new w (.cells #[.string ⟨#[80, 75, 3, 4]⟩, .int .i64 30, .int .i64 26, .func (.func 61) #[] #[], .func (.func 29) #[] #[]] 87)
  have hx2 := heap_alloc_new (w.alloc (.cells #[.string ⟨#[80, 75, 3, 4]⟩, .int .i64 30, .int .i64 26, .func (.func 61) #[] #[], .func (.func 29) #[] #[]] 87)) (.cells #[.string ⟨#[]⟩, .int .i64 0, .int .i64 0, .int .i64 0, .int .i64 0, .int .i64 0, .int .i64 0, .int .u64 0, .int .u64 0, .int .u32 0, .int .u64 0, .bool false] 48)
  rw [alloc_size] at hx2
  have HX1 := Lib.hid hx1
  have HX2 := Lib.hid hx2
  clear hx1 hx2
  go_enter Tryd.func62, Tryd.ntmps62
  go_upto_region 1 with fail
  refine wp_abs (fun wx => wx.heap[w.heap.size]? = some (.cells #[.string ⟨#[80, 75, 3, 4]⟩, .int .i64 30, .int .i64 26, .func (.func 61) #[] #[], .func (.func 29) #[] #[]] 87) ∧ wx.heap[w.heap.size + 1]? = some (.cells #[.string ⟨#[]⟩, .int .i64 0, .int .i64 0, .int .i64 0, .int .i64 0, .int .i64 0, .int .i64 0, .int .u64 0, .int .u64 0, .int .u32 0, .int .u64 0, .bool false] 48) ∧ Touch (fun _ => False) w wx)
    ⟨((Touch.refl (fun _ => False) _).alloc _).held HX1.out id, HX2.out, ((Touch.refl _ _).alloc _).alloc _⟩ ?_
  rintro wx ⟨hfa, hha, htx⟩
  obtain ⟨a0, a1, a2, a3, a4⟩ := row5 hfa
  obtain ⟨⟨c0, c1, c2, c3, c4, c5⟩, c6, c7, c8, c9, c10, c11⟩ := row12 hha
  have hfx := box_free hha
  have hlx := row_lt hha
  have HF := Lib.hid hfa
  have HH := Lib.hid hha
  have HX := Lib.hid htx
  clear hfa hha htx HX1 HX2
  have hmb := strEq_f hm
  clear hm
  go_wp2_with fail
  go_quiet (fail)
  go_wp2_with fail
  refine bodyPost_ret (results_cell_slot rfl _ _ (w.heap.size + 1) _ _ _ _ rfl (box_set12 (row_drewN HH.out)) Tryd.underlying48 rfl Tryd.sizeH) rfl ⟨rfl, ?_⟩
  exact (HX.out.drewN _).set12 (.inr (Nat.le_succ _)) _ _ _ _ _ _ _ _ _ _ _ _

set_option maxHeartbeats 1000000 in
theorem readL_few (s : ByteArray) (k : Nat) (hk : k = min s.size 4) (hs : s.size ≤ 500000) (w : World) (hm : s.extract 0 k = ByteArray.extract ⟨#[80, 75, 3, 4]⟩ 0 k) (hf : s.size < 30) : Calls Tryd.prog 62 #[.agg #[.string ⟨#[80, 75, 3, 4]⟩, .int .i64 30, .int .i64 26, .func (.func 61) #[] #[], .func (.func 29) #[] #[]], .string s] w fun e w' =>
    e = .returned (.tuple #[zeroH.v, .int .i64 0]) ∧ Touch (fun _ => False) w w' := by
  have hk1 : min (s.size : Int) 4 = (k : Int) := by omega
  have hk0 : (0 : Int) ≤ (k : Int) := by omega
  have hkl : (k : Int) ≤ (s.size : Int) := by omega
  have hk4 : (k : Int) ≤ 4 := by omega
  clear hk
  have hx1 := heap_alloc_new w (.cells #[.string ⟨#[80, 75, 3, 4]⟩, .int .i64 30, .int .i64 26, .func (.func 61) #[] #[], .func (.func 29) #[] #[]] 87)
  have hx2 := heap_alloc_new (w.alloc (.cells #[.string ⟨#[80, 75, 3, 4]⟩, .int .i64 30, .int .i64 26, .func (.func 61) #[] #[], .func (.func 29) #[] #[]] 87)) (.cells #[.string ⟨#[]⟩, .int .i64 0, .int .i64 0, .int .i64 0, .int .i64 0, .int .i64 0, .int .i64 0, .int .u64 0, .int .u64 0, .int .u32 0, .int .u64 0, .bool false] 48)
  rw [alloc_size] at hx2
  have HX1 := Lib.hid hx1
  have HX2 := Lib.hid hx2
  clear hx1 hx2
  go_enter Tryd.func62, Tryd.ntmps62
  go_upto_region 1 with fail
  refine wp_abs (fun wx => wx.heap[w.heap.size]? = some (.cells #[.string ⟨#[80, 75, 3, 4]⟩, .int .i64 30, .int .i64 26, .func (.func 61) #[] #[], .func (.func 29) #[] #[]] 87) ∧ wx.heap[w.heap.size + 1]? = some (.cells #[.string ⟨#[]⟩, .int .i64 0, .int .i64 0, .int .i64 0, .int .i64 0, .int .i64 0, .int .i64 0, .int .u64 0, .int .u64 0, .int .u32 0, .int .u64 0, .bool false] 48) ∧ Touch (fun _ => False) w wx)
    ⟨((Touch.refl (fun _ => False) _).alloc _).held HX1.out id, HX2.out, ((Touch.refl _ _).alloc _).alloc _⟩ ?_
  rintro wx ⟨hfa, hha, htx⟩
  obtain ⟨a0, a1, a2, a3, a4⟩ := row5 hfa
  obtain ⟨⟨c0, c1, c2, c3, c4, c5⟩, c6, c7, c8, c9, c10, c11⟩ := row12 hha
  have hfx := box_free hha
  have hlx := row_lt hha
  have HF := Lib.hid hfa
  have HH := Lib.hid hha
  have HX := Lib.hid htx
  clear hfa hha htx HX1 HX2
  have hmb := strEq_t hm
  have hf' : (s.size : Int) < 30 := by omega
  clear hm hf
  go_wp2_with fail
  go_quiet (fail)
  go_wp2_with fail
  refine bodyPost_ret (results_cell_slot rfl _ _ (w.heap.size + 1) _ _ _ _ rfl (box_set12 (row_drewN HH.out)) Tryd.underlying48 rfl Tryd.sizeH) rfl ⟨rfl, ?_⟩
  exact (HX.out.drewN _).set12 (.inr (Nat.le_succ _)) _ _ _ _ _ _ _ _ _ _ _ _

set_option maxHeartbeats 1000000 in
theorem readL_short (s : ByteArray) (k b1 b2 : Nat) (hk : k = min s.size 4) (hs : s.size ≤ 500000) (w : World) (hm : s.extract 0 k = ByteArray.extract ⟨#[80, 75, 3, 4]⟩ 0 k) (hf : ¬ s.size < 30)
    (hb1 : gN (s.extract 26 (26 + 2)) = b1) (hb2 : gN (s.extract (26 + 2) (26 + 4)) = b2) (hz : s.size < 30 + b1 + b2) : Calls Tryd.prog 62 #[.agg #[.string ⟨#[80, 75, 3, 4]⟩, .int .i64 30, .int .i64 26, .func (.func 61) #[] #[], .func (.func 29) #[] #[]], .string s] w fun e w' =>
    e = .returned (.tuple #[zeroH.v, .int .i64 0]) ∧ Touch (fun _ => False) w w' := by
  have HN1 := Lib.hid (fun W => znumber_calls (s.extract 26 s.size) b1 (by rw [ByteArray.size_extract]; omega) (by rw [ext_ext _ _ _ _ _ (by omega)]; exact hb1) W)
  have HN2 := Lib.hid (fun W => znumber_calls (s.extract 28 s.size) b2 (by rw [ByteArray.size_extract]; omega) (by rw [ext_ext _ _ _ _ _ (by omega)]; exact hb2) W)
  have B1 : b1 < 256 ^ 2 := by rw [← hb1]; exact gN_lt _ _ (by rw [ByteArray.size_extract]; omega)
  have B2 : b2 < 256 ^ 2 := by rw [← hb2]; exact gN_lt _ _ (by rw [ByteArray.size_extract]; omega)
  have hmb := strEq_t hm
  have hf' : ¬ (s.size : Int) < 30 := by omega
  have hll : (28 : Int) ≤ (s.size : Int) := by omega
  clear hm hb1 hb2 hf
  obtain ⟨q1, hq1⟩ : ∃ q, 30 + b1 = q := ⟨_, rfl⟩
  obtain ⟨q2, hq2⟩ : ∃ q, q1 + b2 = q := ⟨_, rfl⟩
  have hq1' : (30 : Int) + (b1 : Int) = (q1 : Int) := by omega
  have hq2' : (q1 : Int) + (b2 : Int) = (q2 : Int) := by omega
  have hzq : (s.size : Int) < (q2 : Int) := by omega
  have g1 : (q1 : Int) ≤ 70000 := by omega
  have g2 : (q2 : Int) ≤ 140000 := by omega
  clear hz hq1 hq2 B1 B2
  have hk1 : min (s.size : Int) 4 = (k : Int) := by omega
  have hk0 : (0 : Int) ≤ (k : Int) := by omega
  have hkl : (k : Int) ≤ (s.size : Int) := by omega
  have hk4 : (k : Int) ≤ 4 := by omega
  clear hk
  have hx1 := heap_alloc_new w (.cells #[.string ⟨#[80, 75, 3, 4]⟩, .int .i64 30, .int .i64 26, .func (.func 61) #[] #[], .func (.func 29) #[] #[]] 87)
  have hx2 := heap_alloc_new (w.alloc (.cells #[.string ⟨#[80, 75, 3, 4]⟩, .int .i64 30, .int .i64 26, .func (.func 61) #[] #[], .func (.func 29) #[] #[]] 87)) (.cells #[.string ⟨#[]⟩, .int .i64 0, .int .i64 0, .int .i64 0, .int .i64 0, .int .i64 0, .int .i64 0, .int .u64 0, .int .u64 0, .int .u32 0, .int .u64 0, .bool false] 48)
  rw [alloc_size] at hx2
  have HX1 := Lib.hid hx1
  have HX2 := Lib.hid hx2
  clear hx1 hx2
  go_enter Tryd.func62, Tryd.ntmps62
  go_upto_region 1 with fail
  refine wp_abs (fun wx => wx.heap[w.heap.size]? = some (.cells #[.string ⟨#[80, 75, 3, 4]⟩, .int .i64 30, .int .i64 26, .func (.func 61) #[] #[], .func (.func 29) #[] #[]] 87) ∧ wx.heap[w.heap.size + 1]? = some (.cells #[.string ⟨#[]⟩, .int .i64 0, .int .i64 0, .int .i64 0, .int .i64 0, .int .i64 0, .int .i64 0, .int .u64 0, .int .u64 0, .int .u32 0, .int .u64 0, .bool false] 48) ∧ Touch (fun _ => False) w wx)
    ⟨((Touch.refl (fun _ => False) _).alloc _).held HX1.out id, HX2.out, ((Touch.refl _ _).alloc _).alloc _⟩ ?_
  rintro wx ⟨hfa, hha, htx⟩
  obtain ⟨a0, a1, a2, a3, a4⟩ := row5 hfa
  obtain ⟨⟨c0, c1, c2, c3, c4, c5⟩, c6, c7, c8, c9, c10, c11⟩ := row12 hha
  have hfx := box_free hha
  have hlx := row_lt hha
  have HF := Lib.hid hfa
  have HH := Lib.hid hha
  have HX := Lib.hid htx
  clear hfa hha htx HX1 HX2
  go_wp2_with fail
  go_quiet (fail)
  go_wp2_with fail
  refine wp_region_quiet_lit (by kernel_rfl) (by kernel_rfl) ?_
  repeat (go_big_quiet_step (first
    | (go_at_call 83; exact (HN1.out _).mono fun _ _ ⟨he, hm⟩ => ⟨he, _, hm.symm⟩)))
  refine wpQuiet_nil ?_
  intro _ hw1
  obtain ⟨nq, hw2⟩ := hw1
  subst hw2
  go_wp2_with (go_at_call 83; refine (HN2.out _).mono ?_; rintro e wn ⟨rfl, rfl⟩)
  refine bodyPost_ret (results_cell_slot rfl _ _ (w.heap.size + 1) _ _ _ _ rfl (box_set12 (row_drewN HH.out)) Tryd.underlying48 rfl Tryd.sizeH) rfl ⟨rfl, ?_⟩
  exact (HX.out.drewN _).set12 (.inr (Nat.le_succ _)) _ _ _ _ _ _ _ _ _ _ _ _

set_option maxHeartbeats 3000000 in
theorem readL_full (s : ByteArray) (k b1 b2 : Nat) (hk : k = min s.size 4) (hs : s.size ≤ 500000) (w : World) (hT : Tabs w) (hm : s.extract 0 k = ByteArray.extract ⟨#[80, 75, 3, 4]⟩ 0 k) (hf : ¬ s.size < 30)
    (hb1 : gN (s.extract 26 (26 + 2)) = b1) (hb2 : gN (s.extract (26 + 2) (26 + 4)) = b2) (hz : ¬ s.size < 30 + b1 + b2) (H : Hd) (hH : tL (s.extract 0 30) (s.extract (30 + b1) (30 + b1 + b2)) = H)
    (ev : Bool) (N : Int) (R : Hd) (hev : decide (localB { H with n := s.extract 30 (30 + b1) } = s.extract 0 (30 + b1 + b2)) = ev) (hR : R = if ev then { H with n := s.extract 30 (30 + b1) } else zeroH) (hN : N = if ev then ((30 + b1 + b2 : Nat) : Int) else -1) : Calls Tryd.prog 62 #[.agg #[.string ⟨#[80, 75, 3, 4]⟩, .int .i64 30, .int .i64 26, .func (.func 61) #[] #[], .func (.func 29) #[] #[]], .string s] w fun e w' =>
    e = .returned (.tuple #[R.v, .int .i64 N]) ∧ Touch (fun _ => False) w w' := by
  have hFz : (s.extract 0 30).size = 30 := by rw [ByteArray.size_extract]; omega
  have HN1 := Lib.hid (fun W => znumber_calls (s.extract 26 s.size) b1 (by rw [ByteArray.size_extract]; omega) (by rw [ext_ext _ _ _ _ _ (by omega)]; exact hb1) W)
  have HN2 := Lib.hid (fun W => znumber_calls (s.extract 28 s.size) b2 (by rw [ByteArray.size_extract]; omega) (by rw [ext_ext _ _ _ _ _ (by omega)]; exact hb2) W)
  have B1 : b1 < 256 ^ 2 := by rw [← hb1]; exact gN_lt _ _ (by rw [ByteArray.size_extract]; omega)
  have B2 : b2 < 256 ^ 2 := by rw [← hb2]; exact gN_lt _ _ (by rw [ByteArray.size_extract]; omega)
  have hmb := strEq_t hm
  have hf' : ¬ (s.size : Int) < 30 := by omega
  have hll : (28 : Int) ≤ (s.size : Int) := by omega
  clear hm hb1 hb2 hf
  obtain ⟨q1, hq1⟩ : ∃ q, 30 + b1 = q := ⟨_, rfl⟩
  obtain ⟨q2, hq2⟩ : ∃ q, q1 + b2 = q := ⟨_, rfl⟩
  have hq1' : (30 : Int) + (b1 : Int) = (q1 : Int) := by omega
  have hq2' : (q1 : Int) + (b2 : Int) = (q2 : Int) := by omega
  rw [hq1, hq2] at hH hev hN
  rw [hq1] at hR
  have hzq : ¬ (s.size : Int) < (q2 : Int) := by omega
  have hXz : (s.extract q1 q2).size ≤ 1000000 := by rw [ByteArray.size_extract]; omega
  have HTE := Lib.hid (fun W => tellL_calls (s.extract 0 30) (s.extract q1 q2) hFz hXz W)
  rw [hH] at HTE
  have hok : HdOk { H with n := s.extract 30 q1 } := by
    rw [← hH]
    exact tL_ok _ _ _ (by rw [ByteArray.size_extract]; omega)
  have HSH := Lib.hid (fun W (h : Tabs W) => local_calls { H with n := s.extract 30 q1 } hok W h)
  have hcmp : ((localB { H with n := s.extract 30 q1 }).toList == (s.extract 0 q2).toList) = ev := by rw [strEqB]; exact hev
  have g0 : (30 : Int) ≤ (q1 : Int) := by omega
  have g1 : (q1 : Int) ≤ (q2 : Int) := by omega
  have g2 : (q2 : Int) ≤ (s.size : Int) := by omega
  have g3 : (q2 : Int) ≤ 140000 := by omega
  clear hz hq1 hq2 B1 B2 hFz hXz hH hev hok
  obtain ⟨nm, hnm⟩ : ∃ n, s.extract 30 q1 = n := ⟨_, rfl⟩
  rw [hnm] at hR HSH hcmp
  generalize localB { H with n := nm } = SB at HSH hcmp
  obtain ⟨hn, ⟨y, mo, dd, hh, mi, ss⟩, hp, hz, hs', ha, hk'⟩ := H
  unfold Hd.v Hd.cs at HTE HSH
  simp only at HTE HSH hR
  have HR := Lib.hid hR
  have HN := Lib.hid hN
  clear hR hN
  generalize hpI : (hp : Int) = pI at HTE HSH
  generalize hzI : (hz : Int) = zI at HTE HSH
  generalize hsI : (hs' : Int) = sI at HTE HSH
  generalize haI : (ha : Int) = aI at HTE HSH
  have HVS := Lib.hid (And.intro hpI (And.intro hzI (And.intro hsI haI)))
  clear hpI hzI hsI haI
  have HTA := Lib.hid (fun (X : World) => (HTE.out (X.alloc (.cells #[.string ⟨#[]⟩, .int .i64 0, .int .i64 0, .int .i64 0, .int .i64 0, .int .i64 0, .int .i64 0, .int .u64 0, .int .u64 0, .int .u32 0, .int .u64 0, .bool false] 48)).drew).mono fun e w' (h : e = _ ∧ Touch (fun _ => False) _ w') => (⟨h.1, h.2, h.2.undrew.held (heap_alloc_new _ _) id⟩ : e = _ ∧ Touch (fun _ => False) (X.alloc (.cells #[.string ⟨#[]⟩, .int .i64 0, .int .i64 0, .int .i64 0, .int .i64 0, .int .i64 0, .int .i64 0, .int .u64 0, .int .u64 0, .int .u32 0, .int .u64 0, .bool false] 48)).drew w' ∧ w'.heap[X.heap.size]? = some (.cells #[.string ⟨#[]⟩, .int .i64 0, .int .i64 0, .int .i64 0, .int .i64 0, .int .i64 0, .int .i64 0, .int .u64 0, .int .u64 0, .int .u32 0, .int .u64 0, .bool false] 48)))
  have hk1 : min (s.size : Int) 4 = (k : Int) := by omega
  have hk0 : (0 : Int) ≤ (k : Int) := by omega
  have hkl : (k : Int) ≤ (s.size : Int) := by omega
  have hk4 : (k : Int) ≤ 4 := by omega
  clear hk
  have hx1 := heap_alloc_new w (.cells #[.string ⟨#[80, 75, 3, 4]⟩, .int .i64 30, .int .i64 26, .func (.func 61) #[] #[], .func (.func 29) #[] #[]] 87)
  have hx2 := heap_alloc_new (w.alloc (.cells #[.string ⟨#[80, 75, 3, 4]⟩, .int .i64 30, .int .i64 26, .func (.func 61) #[] #[], .func (.func 29) #[] #[]] 87)) (.cells #[.string ⟨#[]⟩, .int .i64 0, .int .i64 0, .int .i64 0, .int .i64 0, .int .i64 0, .int .i64 0, .int .u64 0, .int .u64 0, .int .u32 0, .int .u64 0, .bool false] 48)
  rw [alloc_size] at hx2
  have HX1 := Lib.hid hx1
  have HX2 := Lib.hid hx2
  clear hx1 hx2
  go_enter Tryd.func62, Tryd.ntmps62
  go_upto_region 1 with fail
  refine wp_abs (fun wx => wx.heap[w.heap.size]? = some (.cells #[.string ⟨#[80, 75, 3, 4]⟩, .int .i64 30, .int .i64 26, .func (.func 61) #[] #[], .func (.func 29) #[] #[]] 87) ∧ wx.heap[w.heap.size + 1]? = some (.cells #[.string ⟨#[]⟩, .int .i64 0, .int .i64 0, .int .i64 0, .int .i64 0, .int .i64 0, .int .i64 0, .int .u64 0, .int .u64 0, .int .u32 0, .int .u64 0, .bool false] 48) ∧ Touch (fun _ => False) w wx)
    ⟨((Touch.refl (fun _ => False) _).alloc _).held HX1.out id, HX2.out, ((Touch.refl _ _).alloc _).alloc _⟩ ?_
  rintro wx ⟨hfa, hha, htx⟩
  obtain ⟨a0, a1, a2, a3, a4⟩ := row5 hfa
  obtain ⟨⟨c0, c1, c2, c3, c4, c5⟩, c6, c7, c8, c9, c10, c11⟩ := row12 hha
  have hfx := box_free hha
  have hlx := row_lt hha
  have HF := Lib.hid hfa
  have HH := Lib.hid hha
  have HX := Lib.hid htx
  clear hfa hha htx HX1 HX2
  go_wp2_with fail
  go_quiet (fail)
  go_wp2_with fail
  refine wp_region_quiet_lit (by kernel_rfl) (by kernel_rfl) ?_
  repeat (go_big_quiet_step (first
    | (go_at_call 83; exact (HN1.out _).mono fun _ _ ⟨he, hm⟩ => ⟨he, _, hm.symm⟩)))
  refine wpQuiet_nil ?_
  intro _ hw1
  obtain ⟨nq, hw2⟩ := hw1
  subst hw2
  go_wp2_with (go_at_call 83; refine (HN2.out _).mono ?_; rintro e wn ⟨rfl, rfl⟩)
  refine wp_abs (fun wx => wx.heap[w.heap.size]? = some (.cells #[.string ⟨#[80, 75, 3, 4]⟩, .int .i64 30, .int .i64 26, .func (.func 61) #[] #[], .func (.func 29) #[] #[]] 87) ∧ wx.heap[w.heap.size + 1]? = some (.cells #[.string ⟨#[]⟩, .int .i64 0, .int .i64 0, .int .i64 0, .int .i64 0, .int .i64 0, .int .i64 0, .int .u64 0, .int .u64 0, .int .u32 0, .int .u64 0, .bool false] 48) ∧ Touch (fun _ => False) w wx)
    ⟨row_drewN HF.out, row_drewN HH.out, HX.out.drewN _⟩ ?_
  clear a0 a1 a2 a3 a4 c0 c1 c2 c3 c4 c5 c6 c7 c8 c9 c10 c11 hfx hlx HF HH HX
  rintro wy ⟨hfa, hha, htx⟩
  obtain ⟨a0, a1, a2, a3, a4⟩ := row5 hfa
  have hly := row_lt hha
  have hly0 := row_lt hfa
  have HF := Lib.hid hfa
  have HH := Lib.hid hha
  have HX := Lib.hid htx
  clear hfa hha htx
  go_cut [9] (fun v9 wc => ∃ B9, v9 = .pointer (some ⟨B9, 0, none⟩) ∧ w.heap.size + 1 < B9 ∧ wc.heap[B9]? = some (.cells #[.string hn, .int .i64 y, .int .i64 mo, .int .i64 dd, .int .i64 hh, .int .i64 mi, .int .i64 ss, .int .u64 pI, .int .u64 zI, .int .u32 sI, .int .u64 aI, .bool hk'] 48) ∧ wc.heap[w.heap.size]? = some (.cells #[.string ⟨#[80, 75, 3, 4]⟩, .int .i64 30, .int .i64 26, .func (.func 61) #[] #[], .func (.func 29) #[] #[]] 87) ∧ wc.heap[w.heap.size + 1]? = some (.cells #[.string ⟨#[]⟩, .int .i64 0, .int .i64 0, .int .i64 0, .int .i64 0, .int .i64 0, .int .i64 0, .int .u64 0, .int .u64 0, .int .u32 0, .int .u64 0, .bool false] 48) ∧ Touch (fun _ => False) w wc)
  case first =>
    go_region_with (first
      | (go_at_call 61; (with_reducible refine (HTA.out _).mono ?_); rintro e w1 ⟨rfl, ht1, hb1⟩; obtain ⟨⟨c0, c1, c2, c3, c4, c5⟩, c6, c7, c8, c9, c10, c11⟩ := row12 hb1; have hf1 := box_free hb1; have hl1 := row_lt hb1; have HB1 := Lib.hid hb1; clear hb1)
      | (go_at_call 61; (with_reducible refine (HTE.out _).mono ?_); rintro e w1 ⟨rfl, ht1⟩))
    all_goals go_wp2_with fail
    all_goals
      go_meet
      first
      | (with_reducible exact ⟨_, rfl, hly, (readA ht1 HB1.out).1, (readA ht1 HB1.out).2.held HF.out id, (readA ht1 HB1.out).2.held HH.out id, HX.out.trans (readA ht1 HB1.out).2⟩)
      | (with_reducible exact ⟨_, rfl, Nat.lt_of_lt_of_le hly (readB (cs := #[]) (t := 0) ht1).2.2, (readB ht1).1, (readB ht1).2.1.held HF.out id, (readB ht1).2.1.held HH.out id, HX.out.trans (readB ht1).2.1⟩)
  case rest =>
    obtain ⟨B9, rfl, hB9, hb9, hfa, hha, htx⟩ := hcut
    obtain ⟨⟨c0, c1, c2, c3, c4, c5⟩, c6, c7, c8, c9, c10, c11⟩ := row12 hb9
    obtain ⟨a0, a1, a2, a3, a4⟩ := row5 hfa
    have hfx := box_free hb9
    have hlx := row_lt hb9
    have hne0 : ¬ w.heap.size = B9 := by omega
    have hne1 : ¬ w.heap.size + 1 = B9 := by omega
    have HB9 := Lib.hid hb9
    have HF2 := Lib.hid hfa
    have HH2 := Lib.hid hha
    have HX2 := Lib.hid htx
    clear hb9 hfa hha htx
    go_wp2_with fail
    refine wp_abs (fun wx => wx.heap[B9]? = some (.cells #[.string nm, .int .i64 y, .int .i64 mo, .int .i64 dd, .int .i64 hh, .int .i64 mi, .int .i64 ss, .int .u64 pI, .int .u64 zI, .int .u32 sI, .int .u64 aI, .bool hk'] 48) ∧ wx.heap[w.heap.size]? = some (.cells #[.string ⟨#[80, 75, 3, 4]⟩, .int .i64 30, .int .i64 26, .func (.func 61) #[] #[], .func (.func 29) #[] #[]] 87) ∧ wx.heap[w.heap.size + 1]? = some (.cells #[.string ⟨#[]⟩, .int .i64 0, .int .i64 0, .int .i64 0, .int .i64 0, .int .i64 0, .int .i64 0, .int .u64 0, .int .u64 0, .int .u32 0, .int .u64 0, .bool false] 48) ∧ Touch (fun _ => False) w wx)
      ⟨heap_setCell_same _ HB9.out, ((Touch.refl (fun k => k = B9) _).setCell (.inl rfl) _).held HF2.out hne0, ((Touch.refl (fun k => k = B9) _).setCell (.inl rfl) _).held HH2.out hne1, HX2.out.setCell (.inr (Nat.le_of_lt (Nat.lt_of_le_of_lt (Nat.le_succ _) hB9))) _⟩ ?_
    clear a0 a1 a2 a3 a4 c0 c1 c2 c3 c4 c5 c6 c7 c8 c9 c10 c11 hfx hlx HF2 HH2 HX2 HB9
    rintro wz ⟨hb9, hfa, hha, htx⟩
    obtain ⟨⟨c0, c1, c2, c3, c4, c5⟩, c6, c7, c8, c9, c10, c11⟩ := row12w hb9
    obtain ⟨a0, a1, a2, a3, a4⟩ := row5w hfa
    have HB9 := Lib.hid hb9
    have HH2 := Lib.hid hha
    have HX2 := Lib.hid htx
    clear hb9 hfa hha htx
    refine wp_region_quiet_touch (fun _ => False) (by kernel_rfl) (by kernel_rfl) ?_
    repeat (go_big_quiet_step (first
      | (go_at_call 29; exact quiet_touch (HSH.out _ (hT.kept (HX2.out.trans (Wd.ok _)))))))
    refine wpQuiet_nil ?_
    intro _ hw1
    obtain ⟨T, hw2⟩ := hw1
    subst hw2
    clear a0 a1 a2 a3 a4 c0 c1 c2 c3 c4 c5 c6 c7 c8 c9 c10 c11
    have hTT := HX2.out.trans T.ok
    have hb9 := T.ok.held HB9.out id
    have hha := T.ok.held HH2.out id
    generalize T.V = wv at *
    obtain ⟨⟨c0, c1, c2, c3, c4, c5⟩, c6, c7, c8, c9, c10, c11⟩ := row12 hb9
    obtain ⟨⟨d0, d1, d2, d3, d4, d5⟩, d6, d7, d8, d9, d10, d11⟩ := row12 hha
    have hfx := box_free hha
    have hlx := row_lt hha
    have HH3 := Lib.hid hha
    have HT3 := Lib.hid hTT
    obtain ⟨v1, v2, v3, v4⟩ := HVS.out
    clear hb9 hha hTT HVS
    cases ev
    · go_wp2_with fail
      have hr := HR.out
      have hn' := HN.out
      simp only [Bool.false_eq_true, if_false] at hr hn'
      subst hr hn'
      refine bodyPost_ret (results_cell_slot rfl _ _ (w.heap.size + 1) _ _ _ _ rfl (box_set12 HH3.out) Tryd.underlying48 rfl Tryd.sizeH) rfl ⟨rfl, ?_⟩
      exact HT3.out.set12 (.inr (Nat.le_succ _)) _ _ _ _ _ _ _ _ _ _ _ _
    · go_wp2_with fail
      have hr := HR.out
      have hn' := HN.out
      simp only [if_true] at hr hn'
      subst hr hn'
      unfold Hd.v Hd.cs
      simp only
      rw [v1, v2, v3, v4]
      refine bodyPost_ret (results_cell_slot rfl _ _ (w.heap.size + 1) _ _ _ _ rfl (box_set12 HH3.out) Tryd.underlying48 rfl Tryd.sizeH) rfl ⟨rfl, ?_⟩
      exact HT3.out.set12 (.inr (Nat.le_succ _)) _ _ _ _ _ _ _ _ _ _ _ _

set_option maxHeartbeats 1000000 in
theorem readC_sign (s : ByteArray) (k : Nat) (hk : k = min s.size 4) (hs : s.size ≤ 500000) (w : World) (hm : s.extract 0 k ≠ ByteArray.extract ⟨#[80, 75, 1, 2]⟩ 0 k) : Calls Tryd.prog 62 #[.agg #[.string ⟨#[80, 75, 1, 2]⟩, .int .i64 46, .int .i64 28, .func (.func 63) #[] #[], .func (.func 30) #[] #[]], .string s] w fun e w' =>
    e = .returned (.tuple #[zeroH.v, .int .i64 (-1)]) ∧ Touch (fun _ => False) w w' := by
  have hk1 : min (s.size : Int) 4 = (k : Int) := by omega
  have hk0 : (0 : Int) ≤ (k : Int) := by omega
  have hkl : (k : Int) ≤ (s.size : Int) := by omega
  have hk4 : (k : Int) ≤ 4 := by omega
  clear hk
  have hx1 := heap_alloc_new w (.cells #[.string ⟨#[80, 75, 1, 2]⟩, .int .i64 46, .int .i64 28, .func (.func 63) #[] #[], .func (.func 30) #[] #[]] 87)
  have hx2 := heap_alloc_new (w.alloc (.cells #[.string ⟨#[80, 75, 1, 2]⟩, .int .i64 46, .int .i64 28, .func (.func 63) #[] #[], .func (.func 30) #[] #[]] 87)) (.cells #[.string ⟨#[]⟩, .int .i64 0, .int .i64 0, .int .i64 0, .int .i64 0, .int .i64 0, .int .i64 0, .int .u64 0, .int .u64 0, .int .u32 0, .int .u64 0, .bool false] 48)
  rw [alloc_size] at hx2
  have HX1 := Lib.hid hx1
  have HX2 := Lib.hid hx2
  clear hx1 hx2
  go_enter Tryd.func62, Tryd.ntmps62
  go_upto_region 1 with fail
  refine wp_abs (fun wx => wx.heap[w.heap.size]? = some (.cells #[.string ⟨#[80, 75, 1, 2]⟩, .int .i64 46, .int .i64 28, .func (.func 63) #[] #[], .func (.func 30) #[] #[]] 87) ∧ wx.heap[w.heap.size + 1]? = some (.cells #[.string ⟨#[]⟩, .int .i64 0, .int .i64 0, .int .i64 0, .int .i64 0, .int .i64 0, .int .i64 0, .int .u64 0, .int .u64 0, .int .u32 0, .int .u64 0, .bool false] 48) ∧ Touch (fun _ => False) w wx)
    ⟨((Touch.refl (fun _ => False) _).alloc _).held HX1.out id, HX2.out, ((Touch.refl _ _).alloc _).alloc _⟩ ?_
  rintro wx ⟨hfa, hha, htx⟩
  obtain ⟨a0, a1, a2, a3, a4⟩ := row5 hfa
  obtain ⟨⟨c0, c1, c2, c3, c4, c5⟩, c6, c7, c8, c9, c10, c11⟩ := row12 hha
  have hfx := box_free hha
  have hlx := row_lt hha
  have HF := Lib.hid hfa
  have HH := Lib.hid hha
  have HX := Lib.hid htx
  clear hfa hha htx HX1 HX2
  have hmb := strEq_f hm
  clear hm
  go_wp2_with fail
  go_quiet (fail)
  go_wp2_with fail
  refine bodyPost_ret (results_cell_slot rfl _ _ (w.heap.size + 1) _ _ _ _ rfl (box_set12 (row_drewN HH.out)) Tryd.underlying48 rfl Tryd.sizeH) rfl ⟨rfl, ?_⟩
  exact (HX.out.drewN _).set12 (.inr (Nat.le_succ _)) _ _ _ _ _ _ _ _ _ _ _ _

set_option maxHeartbeats 1000000 in
theorem readC_few (s : ByteArray) (k : Nat) (hk : k = min s.size 4) (hs : s.size ≤ 500000) (w : World) (hm : s.extract 0 k = ByteArray.extract ⟨#[80, 75, 1, 2]⟩ 0 k) (hf : s.size < 46) : Calls Tryd.prog 62 #[.agg #[.string ⟨#[80, 75, 1, 2]⟩, .int .i64 46, .int .i64 28, .func (.func 63) #[] #[], .func (.func 30) #[] #[]], .string s] w fun e w' =>
    e = .returned (.tuple #[zeroH.v, .int .i64 0]) ∧ Touch (fun _ => False) w w' := by
  have hk1 : min (s.size : Int) 4 = (k : Int) := by omega
  have hk0 : (0 : Int) ≤ (k : Int) := by omega
  have hkl : (k : Int) ≤ (s.size : Int) := by omega
  have hk4 : (k : Int) ≤ 4 := by omega
  clear hk
  have hx1 := heap_alloc_new w (.cells #[.string ⟨#[80, 75, 1, 2]⟩, .int .i64 46, .int .i64 28, .func (.func 63) #[] #[], .func (.func 30) #[] #[]] 87)
  have hx2 := heap_alloc_new (w.alloc (.cells #[.string ⟨#[80, 75, 1, 2]⟩, .int .i64 46, .int .i64 28, .func (.func 63) #[] #[], .func (.func 30) #[] #[]] 87)) (.cells #[.string ⟨#[]⟩, .int .i64 0, .int .i64 0, .int .i64 0, .int .i64 0, .int .i64 0, .int .i64 0, .int .u64 0, .int .u64 0, .int .u32 0, .int .u64 0, .bool false] 48)
  rw [alloc_size] at hx2
  have HX1 := Lib.hid hx1
  have HX2 := Lib.hid hx2
  clear hx1 hx2
  go_enter Tryd.func62, Tryd.ntmps62
  go_upto_region 1 with fail
  refine wp_abs (fun wx => wx.heap[w.heap.size]? = some (.cells #[.string ⟨#[80, 75, 1, 2]⟩, .int .i64 46, .int .i64 28, .func (.func 63) #[] #[], .func (.func 30) #[] #[]] 87) ∧ wx.heap[w.heap.size + 1]? = some (.cells #[.string ⟨#[]⟩, .int .i64 0, .int .i64 0, .int .i64 0, .int .i64 0, .int .i64 0, .int .i64 0, .int .u64 0, .int .u64 0, .int .u32 0, .int .u64 0, .bool false] 48) ∧ Touch (fun _ => False) w wx)
    ⟨((Touch.refl (fun _ => False) _).alloc _).held HX1.out id, HX2.out, ((Touch.refl _ _).alloc _).alloc _⟩ ?_
  rintro wx ⟨hfa, hha, htx⟩
  obtain ⟨a0, a1, a2, a3, a4⟩ := row5 hfa
  obtain ⟨⟨c0, c1, c2, c3, c4, c5⟩, c6, c7, c8, c9, c10, c11⟩ := row12 hha
  have hfx := box_free hha
  have hlx := row_lt hha
  have HF := Lib.hid hfa
  have HH := Lib.hid hha
  have HX := Lib.hid htx
  clear hfa hha htx HX1 HX2
  have hmb := strEq_t hm
  have hf' : (s.size : Int) < 46 := by omega
  clear hm hf
  go_wp2_with fail
  go_quiet (fail)
  go_wp2_with fail
  refine bodyPost_ret (results_cell_slot rfl _ _ (w.heap.size + 1) _ _ _ _ rfl (box_set12 (row_drewN HH.out)) Tryd.underlying48 rfl Tryd.sizeH) rfl ⟨rfl, ?_⟩
  exact (HX.out.drewN _).set12 (.inr (Nat.le_succ _)) _ _ _ _ _ _ _ _ _ _ _ _

set_option maxHeartbeats 1000000 in
theorem readC_short (s : ByteArray) (k b1 b2 : Nat) (hk : k = min s.size 4) (hs : s.size ≤ 500000) (w : World) (hm : s.extract 0 k = ByteArray.extract ⟨#[80, 75, 1, 2]⟩ 0 k) (hf : ¬ s.size < 46)
    (hb1 : gN (s.extract 28 (28 + 2)) = b1) (hb2 : gN (s.extract (28 + 2) (28 + 4)) = b2) (hz : s.size < 46 + b1 + b2) : Calls Tryd.prog 62 #[.agg #[.string ⟨#[80, 75, 1, 2]⟩, .int .i64 46, .int .i64 28, .func (.func 63) #[] #[], .func (.func 30) #[] #[]], .string s] w fun e w' =>
    e = .returned (.tuple #[zeroH.v, .int .i64 0]) ∧ Touch (fun _ => False) w w' := by
  have HN1 := Lib.hid (fun W => znumber_calls (s.extract 28 s.size) b1 (by rw [ByteArray.size_extract]; omega) (by rw [ext_ext _ _ _ _ _ (by omega)]; exact hb1) W)
  have HN2 := Lib.hid (fun W => znumber_calls (s.extract 30 s.size) b2 (by rw [ByteArray.size_extract]; omega) (by rw [ext_ext _ _ _ _ _ (by omega)]; exact hb2) W)
  have B1 : b1 < 256 ^ 2 := by rw [← hb1]; exact gN_lt _ _ (by rw [ByteArray.size_extract]; omega)
  have B2 : b2 < 256 ^ 2 := by rw [← hb2]; exact gN_lt _ _ (by rw [ByteArray.size_extract]; omega)
  have hmb := strEq_t hm
  have hf' : ¬ (s.size : Int) < 46 := by omega
  have hll : (30 : Int) ≤ (s.size : Int) := by omega
  clear hm hb1 hb2 hf
  obtain ⟨q1, hq1⟩ : ∃ q, 46 + b1 = q := ⟨_, rfl⟩
  obtain ⟨q2, hq2⟩ : ∃ q, q1 + b2 = q := ⟨_, rfl⟩
  have hq1' : (46 : Int) + (b1 : Int) = (q1 : Int) := by omega
  have hq2' : (q1 : Int) + (b2 : Int) = (q2 : Int) := by omega
  have hzq : (s.size : Int) < (q2 : Int) := by omega
  have g1 : (q1 : Int) ≤ 70000 := by omega
  have g2 : (q2 : Int) ≤ 140000 := by omega
  clear hz hq1 hq2 B1 B2
  have hk1 : min (s.size : Int) 4 = (k : Int) := by omega
  have hk0 : (0 : Int) ≤ (k : Int) := by omega
  have hkl : (k : Int) ≤ (s.size : Int) := by omega
  have hk4 : (k : Int) ≤ 4 := by omega
  clear hk
  have hx1 := heap_alloc_new w (.cells #[.string ⟨#[80, 75, 1, 2]⟩, .int .i64 46, .int .i64 28, .func (.func 63) #[] #[], .func (.func 30) #[] #[]] 87)
  have hx2 := heap_alloc_new (w.alloc (.cells #[.string ⟨#[80, 75, 1, 2]⟩, .int .i64 46, .int .i64 28, .func (.func 63) #[] #[], .func (.func 30) #[] #[]] 87)) (.cells #[.string ⟨#[]⟩, .int .i64 0, .int .i64 0, .int .i64 0, .int .i64 0, .int .i64 0, .int .i64 0, .int .u64 0, .int .u64 0, .int .u32 0, .int .u64 0, .bool false] 48)
  rw [alloc_size] at hx2
  have HX1 := Lib.hid hx1
  have HX2 := Lib.hid hx2
  clear hx1 hx2
  go_enter Tryd.func62, Tryd.ntmps62
  go_upto_region 1 with fail
  refine wp_abs (fun wx => wx.heap[w.heap.size]? = some (.cells #[.string ⟨#[80, 75, 1, 2]⟩, .int .i64 46, .int .i64 28, .func (.func 63) #[] #[], .func (.func 30) #[] #[]] 87) ∧ wx.heap[w.heap.size + 1]? = some (.cells #[.string ⟨#[]⟩, .int .i64 0, .int .i64 0, .int .i64 0, .int .i64 0, .int .i64 0, .int .i64 0, .int .u64 0, .int .u64 0, .int .u32 0, .int .u64 0, .bool false] 48) ∧ Touch (fun _ => False) w wx)
    ⟨((Touch.refl (fun _ => False) _).alloc _).held HX1.out id, HX2.out, ((Touch.refl _ _).alloc _).alloc _⟩ ?_
  rintro wx ⟨hfa, hha, htx⟩
  obtain ⟨a0, a1, a2, a3, a4⟩ := row5 hfa
  obtain ⟨⟨c0, c1, c2, c3, c4, c5⟩, c6, c7, c8, c9, c10, c11⟩ := row12 hha
  have hfx := box_free hha
  have hlx := row_lt hha
  have HF := Lib.hid hfa
  have HH := Lib.hid hha
  have HX := Lib.hid htx
  clear hfa hha htx HX1 HX2
  go_wp2_with fail
  go_quiet (fail)
  go_wp2_with fail
  refine wp_region_quiet_lit (by kernel_rfl) (by kernel_rfl) ?_
  repeat (go_big_quiet_step (first
    | (go_at_call 83; exact (HN1.out _).mono fun _ _ ⟨he, hm⟩ => ⟨he, _, hm.symm⟩)))
  refine wpQuiet_nil ?_
  intro _ hw1
  obtain ⟨nq, hw2⟩ := hw1
  subst hw2
  go_wp2_with (go_at_call 83; refine (HN2.out _).mono ?_; rintro e wn ⟨rfl, rfl⟩)
  refine bodyPost_ret (results_cell_slot rfl _ _ (w.heap.size + 1) _ _ _ _ rfl (box_set12 (row_drewN HH.out)) Tryd.underlying48 rfl Tryd.sizeH) rfl ⟨rfl, ?_⟩
  exact (HX.out.drewN _).set12 (.inr (Nat.le_succ _)) _ _ _ _ _ _ _ _ _ _ _ _

set_option maxHeartbeats 3000000 in
theorem readC_full (s : ByteArray) (k b1 b2 : Nat) (hk : k = min s.size 4) (hs : s.size ≤ 500000) (w : World) (hT : Tabs w) (hm : s.extract 0 k = ByteArray.extract ⟨#[80, 75, 1, 2]⟩ 0 k) (hf : ¬ s.size < 46)
    (hb1 : gN (s.extract 28 (28 + 2)) = b1) (hb2 : gN (s.extract (28 + 2) (28 + 4)) = b2) (hz : ¬ s.size < 46 + b1 + b2) (H : Hd) (hH : tC (s.extract 0 46) (s.extract (46 + b1) (46 + b1 + b2)) = H)
    (ev : Bool) (N : Int) (R : Hd) (hev : decide (centralB { H with n := s.extract 46 (46 + b1) } = s.extract 0 (46 + b1 + b2)) = ev) (hR : R = if ev then { H with n := s.extract 46 (46 + b1) } else zeroH) (hN : N = if ev then ((46 + b1 + b2 : Nat) : Int) else -1) : Calls Tryd.prog 62 #[.agg #[.string ⟨#[80, 75, 1, 2]⟩, .int .i64 46, .int .i64 28, .func (.func 63) #[] #[], .func (.func 30) #[] #[]], .string s] w fun e w' =>
    e = .returned (.tuple #[R.v, .int .i64 N]) ∧ Touch (fun _ => False) w w' := by
  have hFz : (s.extract 0 46).size = 46 := by rw [ByteArray.size_extract]; omega
  have HN1 := Lib.hid (fun W => znumber_calls (s.extract 28 s.size) b1 (by rw [ByteArray.size_extract]; omega) (by rw [ext_ext _ _ _ _ _ (by omega)]; exact hb1) W)
  have HN2 := Lib.hid (fun W => znumber_calls (s.extract 30 s.size) b2 (by rw [ByteArray.size_extract]; omega) (by rw [ext_ext _ _ _ _ _ (by omega)]; exact hb2) W)
  have B1 : b1 < 256 ^ 2 := by rw [← hb1]; exact gN_lt _ _ (by rw [ByteArray.size_extract]; omega)
  have B2 : b2 < 256 ^ 2 := by rw [← hb2]; exact gN_lt _ _ (by rw [ByteArray.size_extract]; omega)
  have hmb := strEq_t hm
  have hf' : ¬ (s.size : Int) < 46 := by omega
  have hll : (30 : Int) ≤ (s.size : Int) := by omega
  clear hm hb1 hb2 hf
  obtain ⟨q1, hq1⟩ : ∃ q, 46 + b1 = q := ⟨_, rfl⟩
  obtain ⟨q2, hq2⟩ : ∃ q, q1 + b2 = q := ⟨_, rfl⟩
  have hq1' : (46 : Int) + (b1 : Int) = (q1 : Int) := by omega
  have hq2' : (q1 : Int) + (b2 : Int) = (q2 : Int) := by omega
  rw [hq1, hq2] at hH hev hN
  rw [hq1] at hR
  have hzq : ¬ (s.size : Int) < (q2 : Int) := by omega
  have hXz : (s.extract q1 q2).size ≤ 1000000 := by rw [ByteArray.size_extract]; omega
  have HTE := Lib.hid (fun W => tellC_calls (s.extract 0 46) (s.extract q1 q2) hFz hXz W)
  rw [hH] at HTE
  have hok : HdOk { H with n := s.extract 46 q1 } := by
    rw [← hH]
    exact tC_ok _ _ _ (by rw [ByteArray.size_extract]; omega)
  have HSH := Lib.hid (fun W (h : Tabs W) => central_calls { H with n := s.extract 46 q1 } hok W h)
  have hcmp : ((centralB { H with n := s.extract 46 q1 }).toList == (s.extract 0 q2).toList) = ev := by rw [strEqB]; exact hev
  have g0 : (46 : Int) ≤ (q1 : Int) := by omega
  have g1 : (q1 : Int) ≤ (q2 : Int) := by omega
  have g2 : (q2 : Int) ≤ (s.size : Int) := by omega
  have g3 : (q2 : Int) ≤ 140000 := by omega
  clear hz hq1 hq2 B1 B2 hFz hXz hH hev hok
  obtain ⟨nm, hnm⟩ : ∃ n, s.extract 46 q1 = n := ⟨_, rfl⟩
  rw [hnm] at hR HSH hcmp
  generalize centralB { H with n := nm } = SB at HSH hcmp
  obtain ⟨hn, ⟨y, mo, dd, hh, mi, ss⟩, hp, hz, hs', ha, hk'⟩ := H
  unfold Hd.v Hd.cs at HTE HSH
  simp only at HTE HSH hR
  have HR := Lib.hid hR
  have HN := Lib.hid hN
  clear hR hN
  generalize hpI : (hp : Int) = pI at HTE HSH
  generalize hzI : (hz : Int) = zI at HTE HSH
  generalize hsI : (hs' : Int) = sI at HTE HSH
  generalize haI : (ha : Int) = aI at HTE HSH
  have HVS := Lib.hid (And.intro hpI (And.intro hzI (And.intro hsI haI)))
  clear hpI hzI hsI haI
  have HTA := Lib.hid (fun (X : World) => (HTE.out (X.alloc (.cells #[.string ⟨#[]⟩, .int .i64 0, .int .i64 0, .int .i64 0, .int .i64 0, .int .i64 0, .int .i64 0, .int .u64 0, .int .u64 0, .int .u32 0, .int .u64 0, .bool false] 48)).drew).mono fun e w' (h : e = _ ∧ Touch (fun _ => False) _ w') => (⟨h.1, h.2, h.2.undrew.held (heap_alloc_new _ _) id⟩ : e = _ ∧ Touch (fun _ => False) (X.alloc (.cells #[.string ⟨#[]⟩, .int .i64 0, .int .i64 0, .int .i64 0, .int .i64 0, .int .i64 0, .int .i64 0, .int .u64 0, .int .u64 0, .int .u32 0, .int .u64 0, .bool false] 48)).drew w' ∧ w'.heap[X.heap.size]? = some (.cells #[.string ⟨#[]⟩, .int .i64 0, .int .i64 0, .int .i64 0, .int .i64 0, .int .i64 0, .int .i64 0, .int .u64 0, .int .u64 0, .int .u32 0, .int .u64 0, .bool false] 48)))
  have hk1 : min (s.size : Int) 4 = (k : Int) := by omega
  have hk0 : (0 : Int) ≤ (k : Int) := by omega
  have hkl : (k : Int) ≤ (s.size : Int) := by omega
  have hk4 : (k : Int) ≤ 4 := by omega
  clear hk
  have hx1 := heap_alloc_new w (.cells #[.string ⟨#[80, 75, 1, 2]⟩, .int .i64 46, .int .i64 28, .func (.func 63) #[] #[], .func (.func 30) #[] #[]] 87)
  have hx2 := heap_alloc_new (w.alloc (.cells #[.string ⟨#[80, 75, 1, 2]⟩, .int .i64 46, .int .i64 28, .func (.func 63) #[] #[], .func (.func 30) #[] #[]] 87)) (.cells #[.string ⟨#[]⟩, .int .i64 0, .int .i64 0, .int .i64 0, .int .i64 0, .int .i64 0, .int .i64 0, .int .u64 0, .int .u64 0, .int .u32 0, .int .u64 0, .bool false] 48)
  rw [alloc_size] at hx2
  have HX1 := Lib.hid hx1
  have HX2 := Lib.hid hx2
  clear hx1 hx2
  go_enter Tryd.func62, Tryd.ntmps62
  go_upto_region 1 with fail
  refine wp_abs (fun wx => wx.heap[w.heap.size]? = some (.cells #[.string ⟨#[80, 75, 1, 2]⟩, .int .i64 46, .int .i64 28, .func (.func 63) #[] #[], .func (.func 30) #[] #[]] 87) ∧ wx.heap[w.heap.size + 1]? = some (.cells #[.string ⟨#[]⟩, .int .i64 0, .int .i64 0, .int .i64 0, .int .i64 0, .int .i64 0, .int .i64 0, .int .u64 0, .int .u64 0, .int .u32 0, .int .u64 0, .bool false] 48) ∧ Touch (fun _ => False) w wx)
    ⟨((Touch.refl (fun _ => False) _).alloc _).held HX1.out id, HX2.out, ((Touch.refl _ _).alloc _).alloc _⟩ ?_
  rintro wx ⟨hfa, hha, htx⟩
  obtain ⟨a0, a1, a2, a3, a4⟩ := row5 hfa
  obtain ⟨⟨c0, c1, c2, c3, c4, c5⟩, c6, c7, c8, c9, c10, c11⟩ := row12 hha
  have hfx := box_free hha
  have hlx := row_lt hha
  have HF := Lib.hid hfa
  have HH := Lib.hid hha
  have HX := Lib.hid htx
  clear hfa hha htx HX1 HX2
  go_wp2_with fail
  go_quiet (fail)
  go_wp2_with fail
  refine wp_region_quiet_lit (by kernel_rfl) (by kernel_rfl) ?_
  repeat (go_big_quiet_step (first
    | (go_at_call 83; exact (HN1.out _).mono fun _ _ ⟨he, hm⟩ => ⟨he, _, hm.symm⟩)))
  refine wpQuiet_nil ?_
  intro _ hw1
  obtain ⟨nq, hw2⟩ := hw1
  subst hw2
  go_wp2_with (go_at_call 83; refine (HN2.out _).mono ?_; rintro e wn ⟨rfl, rfl⟩)
  refine wp_abs (fun wx => wx.heap[w.heap.size]? = some (.cells #[.string ⟨#[80, 75, 1, 2]⟩, .int .i64 46, .int .i64 28, .func (.func 63) #[] #[], .func (.func 30) #[] #[]] 87) ∧ wx.heap[w.heap.size + 1]? = some (.cells #[.string ⟨#[]⟩, .int .i64 0, .int .i64 0, .int .i64 0, .int .i64 0, .int .i64 0, .int .i64 0, .int .u64 0, .int .u64 0, .int .u32 0, .int .u64 0, .bool false] 48) ∧ Touch (fun _ => False) w wx)
    ⟨row_drewN HF.out, row_drewN HH.out, HX.out.drewN _⟩ ?_
  clear a0 a1 a2 a3 a4 c0 c1 c2 c3 c4 c5 c6 c7 c8 c9 c10 c11 hfx hlx HF HH HX
  rintro wy ⟨hfa, hha, htx⟩
  obtain ⟨a0, a1, a2, a3, a4⟩ := row5 hfa
  have hly := row_lt hha
  have hly0 := row_lt hfa
  have HF := Lib.hid hfa
  have HH := Lib.hid hha
  have HX := Lib.hid htx
  clear hfa hha htx
  go_cut [9] (fun v9 wc => ∃ B9, v9 = .pointer (some ⟨B9, 0, none⟩) ∧ w.heap.size + 1 < B9 ∧ wc.heap[B9]? = some (.cells #[.string hn, .int .i64 y, .int .i64 mo, .int .i64 dd, .int .i64 hh, .int .i64 mi, .int .i64 ss, .int .u64 pI, .int .u64 zI, .int .u32 sI, .int .u64 aI, .bool hk'] 48) ∧ wc.heap[w.heap.size]? = some (.cells #[.string ⟨#[80, 75, 1, 2]⟩, .int .i64 46, .int .i64 28, .func (.func 63) #[] #[], .func (.func 30) #[] #[]] 87) ∧ wc.heap[w.heap.size + 1]? = some (.cells #[.string ⟨#[]⟩, .int .i64 0, .int .i64 0, .int .i64 0, .int .i64 0, .int .i64 0, .int .i64 0, .int .u64 0, .int .u64 0, .int .u32 0, .int .u64 0, .bool false] 48) ∧ Touch (fun _ => False) w wc)
  case first =>
    go_region_with (first
      | (go_at_call 63; (with_reducible refine (HTA.out _).mono ?_); rintro e w1 ⟨rfl, ht1, hb1⟩; obtain ⟨⟨c0, c1, c2, c3, c4, c5⟩, c6, c7, c8, c9, c10, c11⟩ := row12 hb1; have hf1 := box_free hb1; have hl1 := row_lt hb1; have HB1 := Lib.hid hb1; clear hb1)
      | (go_at_call 63; (with_reducible refine (HTE.out _).mono ?_); rintro e w1 ⟨rfl, ht1⟩))
    all_goals go_wp2_with fail
    all_goals
      go_meet
      first
      | (with_reducible exact ⟨_, rfl, hly, (readA ht1 HB1.out).1, (readA ht1 HB1.out).2.held HF.out id, (readA ht1 HB1.out).2.held HH.out id, HX.out.trans (readA ht1 HB1.out).2⟩)
      | (with_reducible exact ⟨_, rfl, Nat.lt_of_lt_of_le hly (readB (cs := #[]) (t := 0) ht1).2.2, (readB ht1).1, (readB ht1).2.1.held HF.out id, (readB ht1).2.1.held HH.out id, HX.out.trans (readB ht1).2.1⟩)
  case rest =>
    obtain ⟨B9, rfl, hB9, hb9, hfa, hha, htx⟩ := hcut
    obtain ⟨⟨c0, c1, c2, c3, c4, c5⟩, c6, c7, c8, c9, c10, c11⟩ := row12 hb9
    obtain ⟨a0, a1, a2, a3, a4⟩ := row5 hfa
    have hfx := box_free hb9
    have hlx := row_lt hb9
    have hne0 : ¬ w.heap.size = B9 := by omega
    have hne1 : ¬ w.heap.size + 1 = B9 := by omega
    have HB9 := Lib.hid hb9
    have HF2 := Lib.hid hfa
    have HH2 := Lib.hid hha
    have HX2 := Lib.hid htx
    clear hb9 hfa hha htx
    go_wp2_with fail
    refine wp_abs (fun wx => wx.heap[B9]? = some (.cells #[.string nm, .int .i64 y, .int .i64 mo, .int .i64 dd, .int .i64 hh, .int .i64 mi, .int .i64 ss, .int .u64 pI, .int .u64 zI, .int .u32 sI, .int .u64 aI, .bool hk'] 48) ∧ wx.heap[w.heap.size]? = some (.cells #[.string ⟨#[80, 75, 1, 2]⟩, .int .i64 46, .int .i64 28, .func (.func 63) #[] #[], .func (.func 30) #[] #[]] 87) ∧ wx.heap[w.heap.size + 1]? = some (.cells #[.string ⟨#[]⟩, .int .i64 0, .int .i64 0, .int .i64 0, .int .i64 0, .int .i64 0, .int .i64 0, .int .u64 0, .int .u64 0, .int .u32 0, .int .u64 0, .bool false] 48) ∧ Touch (fun _ => False) w wx)
      ⟨heap_setCell_same _ HB9.out, ((Touch.refl (fun k => k = B9) _).setCell (.inl rfl) _).held HF2.out hne0, ((Touch.refl (fun k => k = B9) _).setCell (.inl rfl) _).held HH2.out hne1, HX2.out.setCell (.inr (Nat.le_of_lt (Nat.lt_of_le_of_lt (Nat.le_succ _) hB9))) _⟩ ?_
    clear a0 a1 a2 a3 a4 c0 c1 c2 c3 c4 c5 c6 c7 c8 c9 c10 c11 hfx hlx HF2 HH2 HX2 HB9
    rintro wz ⟨hb9, hfa, hha, htx⟩
    obtain ⟨⟨c0, c1, c2, c3, c4, c5⟩, c6, c7, c8, c9, c10, c11⟩ := row12w hb9
    obtain ⟨a0, a1, a2, a3, a4⟩ := row5w hfa
    have HB9 := Lib.hid hb9
    have HH2 := Lib.hid hha
    have HX2 := Lib.hid htx
    clear hb9 hfa hha htx
    refine wp_region_quiet_touch (fun _ => False) (by kernel_rfl) (by kernel_rfl) ?_
    repeat (go_big_quiet_step (first
      | (go_at_call 30; exact quiet_touch (HSH.out _ (hT.kept (HX2.out.trans (Wd.ok _)))))))
    refine wpQuiet_nil ?_
    intro _ hw1
    obtain ⟨T, hw2⟩ := hw1
    subst hw2
    clear a0 a1 a2 a3 a4 c0 c1 c2 c3 c4 c5 c6 c7 c8 c9 c10 c11
    have hTT := HX2.out.trans T.ok
    have hb9 := T.ok.held HB9.out id
    have hha := T.ok.held HH2.out id
    generalize T.V = wv at *
    obtain ⟨⟨c0, c1, c2, c3, c4, c5⟩, c6, c7, c8, c9, c10, c11⟩ := row12 hb9
    obtain ⟨⟨d0, d1, d2, d3, d4, d5⟩, d6, d7, d8, d9, d10, d11⟩ := row12 hha
    have hfx := box_free hha
    have hlx := row_lt hha
    have HH3 := Lib.hid hha
    have HT3 := Lib.hid hTT
    obtain ⟨v1, v2, v3, v4⟩ := HVS.out
    clear hb9 hha hTT HVS
    cases ev
    · go_wp2_with fail
      have hr := HR.out
      have hn' := HN.out
      simp only [Bool.false_eq_true, if_false] at hr hn'
      subst hr hn'
      refine bodyPost_ret (results_cell_slot rfl _ _ (w.heap.size + 1) _ _ _ _ rfl (box_set12 HH3.out) Tryd.underlying48 rfl Tryd.sizeH) rfl ⟨rfl, ?_⟩
      exact HT3.out.set12 (.inr (Nat.le_succ _)) _ _ _ _ _ _ _ _ _ _ _ _
    · go_wp2_with fail
      have hr := HR.out
      have hn' := HN.out
      simp only [if_true] at hr hn'
      subst hr hn'
      unfold Hd.v Hd.cs
      simp only
      rw [v1, v2, v3, v4]
      refine bodyPost_ret (results_cell_slot rfl _ _ (w.heap.size + 1) _ _ _ _ rfl (box_set12 HH3.out) Tryd.underlying48 rfl Tryd.sizeH) rfl ⟨rfl, ?_⟩
      exact HT3.out.set12 (.inr (Nat.le_succ _)) _ _ _ _ _ _ _ _ _ _ _ _
end Go.Proofs.YtdohhmaggeocjaaDoor

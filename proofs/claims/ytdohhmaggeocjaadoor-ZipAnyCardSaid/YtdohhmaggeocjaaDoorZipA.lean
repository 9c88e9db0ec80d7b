/- Contracts of package zip: numbers in bytes, noughts, which heads may be. -/
import Derived.Test.YtdohhmaggeocjaaDoorBitsN
import Derived.Test.YtdohhmaggeocjaaDoorNamJ
import Derived.Test.YtdohhmaggeocjaaDoorDosF
import Derived.Test.YtdohhmaggeocjaaDoorDosC1
import Derived.Test.YtdohhmaggeocjaaDoorZipShelf
import Derived.Laws.Cover1
namespace Go.Proofs.YtdohhmaggeocjaaDoor
open Go Go.RowKit Go.Shelf
set_option maxRecDepth 100000

/-- A number in so many bytes. -/
def P (k n : Nat) : ByteArray := ⟨(leB k n).toArray⟩
theorem P_list (k n : Nat) : (P k n).data.toList = leB k n := rfl
theorem P_size (k n : Nat) : (P k n).size = k := by
  show (leB k n).toArray.size = k
  rw [List.size_toArray, leB_length]
/-- Noughts. -/
def Z (k : Nat) : ByteArray := ⟨(Lib.repeatL [0] k).toArray⟩
theorem rep0 (k : Nat) : Lib.repeatL [0] k = List.replicate k 0 := by
  induction k with
  | zero => rfl
  | succ k ih =>
    unfold Lib.repeatL
    rw [ih]; rfl
theorem Z_list (k : Nat) : (Z k).data.toList = List.replicate k 0 := by
  show Lib.repeatL [0] k = _
  exact rep0 k
theorem Z_size (k : Nat) : (Z k).size = k := by
  rw [← data_length, Z_list, List.length_replicate]

theorem put_int (x y : Int) (n k : Nat) (hx : x = n) (hy : y = k) (h1 : 1 ≤ k) (h8 : k ≤ 8) (w : World) : Calls Tryd.prog 50 #[.int .u64 x, .int .i64 y] w fun e w' => e = .returned (.string (P k n)) ∧ Touch (fun _ => False) w w' := by
  subst hx hy
  exact put_small n k w h1 h8
theorem refput_int (x y : Int) (n k : Nat) (hx : x = n) (hy : y = k) (h8 : k ≤ 8) (hn : n < 18446744073709551616) (w : World) : Calls Tryd.prog 52 #[.int .u64 x, .int .i64 y] w fun e w' => e = .returned (.string (P k n)) ∧ Touch (fun _ => False) w w' := by
  subst hx hy
  exact refput_small n k w h8 hn
theorem n2_calls (x : Int) (n : Nat) (hx : x = n) (hn : n < 18446744073709551616) (w : World) : Calls Tryd.prog 53 #[.int .u64 x] w fun e w' => e = .returned (.string (P 2 n)) ∧ Touch (fun _ => False) w w' := by
  have H := Lib.hid (fun W => refput_int x 2 n 2 hx rfl (by decide) hn W)
  clear hx
  go_enter Tryd.func53, Tryd.ntmps53
  go_wp2_with (go_at_call 52; refine (H.out _).mono ?_; rintro e w1 ⟨rfl, ht1⟩)
  go_ret
  exact ⟨rfl, ht1⟩
theorem n4_calls (x : Int) (n : Nat) (hx : x = n) (hn : n < 18446744073709551616) (w : World) : Calls Tryd.prog 54 #[.int .u64 x] w fun e w' => e = .returned (.string (P 4 n)) ∧ Touch (fun _ => False) w w' := by
  have H := Lib.hid (fun W => refput_int x 4 n 4 hx rfl (by decide) hn W)
  clear hx
  go_enter Tryd.func54, Tryd.ntmps54
  go_wp2_with (go_at_call 52; refine (H.out _).mono ?_; rintro e w1 ⟨rfl, ht1⟩)
  go_ret
  exact ⟨rfl, ht1⟩

theorem Tryd.repExtra : Builder.Extra Tryd.prog Tryd.layRepeat_ren where
  sizeBuilder := by kernel_rfl
  liesBuilder := by kernel_rfl
  t5 := Tryd.layRepeat.t5
  a5 := Tryd.layRepeat.a5
  z5 := Tryd.layRepeat.z5
  v5 := Tryd.layRepeat.v5
  infoByte := by kernel_rfl
  cellsByte := by kernel_rfl
  sizeByte := by kernel_rfl
  neB5 := by decide

theorem noughts_int (x : Int) (k : Nat) (hx : x = k) (hk : k ≤ 1000) (w : World) : Calls Tryd.prog 51 #[.int .i64 x] w fun e w' => e = .returned (.string (Z k)) ∧ Touch (fun _ => False) w w' := by
  subst hx
  have H : RowKit.Hid (∀ W, Calls Tryd.prog 77 #[.string ⟨#[0]⟩, .int .i64 k] W fun e w' => e = .returned (.string (Z k)) ∧ Touch (fun _ => False) W w') := Lib.hid (fun W =>
    (Any.strings_Repeat Tryd.layRepeat Tryd.repExtra ⟨#[0]⟩ k W (by omega) (by show 1 * k ≤ _; omega)).mono fun _ _ ⟨he, hb⟩ => ⟨he, Touch.of_below hb⟩)
  go_enter Tryd.func51, Tryd.ntmps51
  go_wp2_with (go_at_call 77; refine (H.out _).mono ?_; rintro e w1 ⟨rfl, ht1⟩)
  go_ret
  exact ⟨rfl, ht1⟩

/-- A head, plainly. -/
structure Hd where
  n : ByteArray
  t : Tim
  p : Nat
  z : Nat
  s : Nat
  a : Nat
  k : Bool
def Hd.cs (h : Hd) : Array Value := #[.string h.n, .int .i64 h.t.y, .int .i64 h.t.mo, .int .i64 h.t.d, .int .i64 h.t.h, .int .i64 h.t.mi, .int .i64 h.t.s, .int .u64 h.p, .int .u64 h.z, .int .u32 h.s, .int .u64 h.a, .bool h.k]
def Hd.v (h : Hd) : Value := .agg h.cs
/-- Its numbers are such as have room. -/
structure HdOk (h : Hd) : Prop where
  n : h.n.size ≤ 1000000
  p : h.p < 18446744073709551616
  z : h.z < 18446744073709551616
  s : h.s < 4294967296
  a : h.a < 18446744073709551616

def goodH (h : Hd) : Bool := checkB h.n && (goodB h.t && (decide (max (max h.p h.z) h.a < 4611686018427387904) && (!h.k || (h.p == 0 && h.z == 0))))
def bigH (h : Hd) : Bool := decide (4294705145 < max h.p h.z)

theorem row12 {w : World} {b : Nat} {x0 x1 x2 x3 x4 x5 x6 x7 x8 x9 x10 x11 : Value} {t : TypeId} (h : w.heap[b]? = some (.cells #[x0, x1, x2, x3, x4, x5, x6, x7, x8, x9, x10, x11] t)) :
    (w.cell? ⟨b, 0, none⟩ = some x0 ∧ w.cell? ⟨b, 1, none⟩ = some x1 ∧ w.cell? ⟨b, 2, none⟩ = some x2 ∧ w.cell? ⟨b, 3, none⟩ = some x3 ∧ w.cell? ⟨b, 4, none⟩ = some x4 ∧ w.cell? ⟨b, 5, none⟩ = some x5) ∧
    w.cell? ⟨b, 6, none⟩ = some x6 ∧ w.cell? ⟨b, 7, none⟩ = some x7 ∧ w.cell? ⟨b, 8, none⟩ = some x8 ∧ w.cell? ⟨b, 9, none⟩ = some x9 ∧ w.cell? ⟨b, 10, none⟩ = some x10 ∧ w.cell? ⟨b, 11, none⟩ = some x11 := by
  refine ⟨⟨?_, ?_, ?_, ?_, ?_, ?_⟩, ?_, ?_, ?_, ?_, ?_, ?_⟩
  all_goals (rw [cell_of_row _ _ _ _ _ _ h]; rfl)

set_option maxHeartbeats 1000000 in
theorem big_calls (h : Hd) (w : World) : Calls Tryd.prog 32 #[h.v] w fun e w' => e = .returned (.bool (bigH h)) ∧ Touch (fun _ => False) w w' := by
  obtain ⟨n, ⟨y, mo, d, hh, mi, ss⟩, p, z, s, a, k⟩ := h
  unfold Hd.v Hd.cs bigH
  simp only
  obtain ⟨Q, hQ⟩ : ∃ Q, Q = max p z := ⟨_, rfl⟩
  have hq : (if (p : Int) < (z : Int) then (z : Int) else (p : Int)) = (Q : Int) := by split <;> omega
  have hq2 : max (p : Int) (z : Int) = (Q : Int) := by omega
  rw [← hQ]
  clear hQ
  go_enter Tryd.func32, Tryd.ntmps32
  go_wp2
  go_ret
  refine ⟨ret_bool ?_, (Touch.refl _ _).alloc _⟩
  simp only [decide_eq_decide]
  omega

theorem zchain (a1 a2 a3 a4 a5 a6 : Bool) : (a1 = false) ∨ (a1 = true ∧ a2 = false) ∨ (a1 = true ∧ a2 = true ∧ a3 = false) ∨ (a1 = true ∧ a2 = true ∧ a3 = true ∧ a4 = false) ∨ (a1 = true ∧ a2 = true ∧ a3 = true ∧ a4 = true ∧ a5 = false) ∨ (a1 = true ∧ a2 = true ∧ a3 = true ∧ a4 = true ∧ a5 = true ∧ a6 = false) ∨ (a1 = true ∧ a2 = true ∧ a3 = true ∧ a4 = true ∧ a5 = true ∧ a6 = true) := by
  cases a1 <;> cases a2 <;> cases a3 <;> cases a4 <;> cases a5 <;> cases a6 <;> simp

theorem lim_t {M : Nat} (h : decide (M < 4611686018427387904) = true) : (M : Int) < 4611686018427387904 := by
  have := of_decide_eq_true h
  omega
theorem lim_f {M : Nat} (h : decide (M < 4611686018427387904) = false) : decide ((M : Int) < 4611686018427387904) = false := by
  have := of_decide_eq_false h
  apply decide_eq_false
  omega
theorem nought_t {p : Nat} (h : (p == 0) = true) : ((p : Int) == 0) = true := by
  simp at h
  simp [h]
theorem nought_f {p : Nat} (h : (p == 0) = false) : ((p : Int) == 0) = false := by
  simp at h
  simp
  omega

set_option maxHeartbeats 4000000 in
theorem zgood_calls (h : Hd) (ho : HdOk h) (w : World) (hT : Tabs w) : Calls Tryd.prog 35 #[h.v] w fun e w' => e = .returned (.bool (goodH h)) ∧ Touch (fun _ => False) w w' := by
  obtain ⟨n, t, p, z, s, a, k⟩ := h
  obtain ⟨hn, hp, hz, hs, ha⟩ := ho
  simp only at hn hp hz hs ha
  have HC0 := fun b (h : checkB n = b) W (hT : Tabs W) => (by have := check_calls n W hn hT; rwa [h] at this : Calls Tryd.prog 13 #[.string n] W fun e w' => e = .returned (.int .i64 (if b then 0 else 9)) ∧ Touch (fun _ => False) W w')
  have HG0 := fun b (h : goodB t = b) W => (by have := good_calls t W; rwa [h] at this : Calls Tryd.prog 65 #[t.v] W fun e w' => e = .returned (.bool b) ∧ Touch (fun _ => False) W w')
  obtain ⟨Q, hQ⟩ : ∃ Q, Q = max p z := ⟨_, rfl⟩
  obtain ⟨M, hM⟩ : ∃ M, M = max Q a := ⟨_, rfl⟩
  have hq : (if (p : Int) < (z : Int) then (z : Int) else (p : Int)) = (Q : Int) := by split <;> omega
  have hq2 : max (p : Int) (z : Int) = (Q : Int) := by omega
  have hm : (if (Q : Int) < (a : Int) then (a : Int) else (Q : Int)) = (M : Int) := by split <;> omega
  have hm2 : max (Q : Int) (a : Int) = (M : Int) := by omega
  have hgo : goodH ⟨n, t, p, z, s, a, k⟩ = (checkB n && (goodB t && (decide (M < 4611686018427387904) && (!k || (p == 0 && z == 0))))) := by
    unfold goodH
    simp only
    rw [← hQ, ← hM]
  rw [hgo]
  clear hgo hQ hM
  generalize hcb : checkB n = cb at HC0
  generalize hgb : goodB t = gb at HG0
  have HC := Lib.hid (HC0 cb rfl)
  have HG := Lib.hid (HG0 gb rfl)
  clear HC0 HG0 hcb hgb
  obtain ⟨y, mo, d, hh, mi, ss⟩ := t
  unfold Hd.v Hd.cs
  unfold Tim.v at HG
  simp only at HG ⊢
  obtain ⟨L, hL⟩ : ∃ L, decide (M < 4611686018427387904) = L := ⟨_, rfl⟩
  obtain ⟨E1, hE1⟩ : ∃ E, (p == 0) = E := ⟨_, rfl⟩
  obtain ⟨E2, hE2⟩ : ∃ E, (z == 0) = E := ⟨_, rfl⟩
  rw [hL, hE1, hE2]
  rcases zchain cb gb L k E1 E2 with rfl | ⟨rfl, rfl⟩ | ⟨rfl, rfl, rfl⟩ | ⟨rfl, rfl, rfl, rfl⟩ | ⟨rfl, rfl, rfl, rfl, rfl⟩ | ⟨rfl, rfl, rfl, rfl, rfl, rfl⟩ | ⟨rfl, rfl, rfl, rfl, rfl, rfl⟩
  all_goals
    simp only [Bool.false_eq_true, if_false, if_true] at HC
    first
    | (have hL' := lim_t hL)
    | (have hL' := lim_f hL)
    | skip
    first
    | (have hp' := nought_t hE1)
    | (have hp' := nought_f hE1)
    | skip
    first
    | (have hz' := nought_t hE2)
    | (have hz' := nought_f hE2)
    | skip
    clear hL hE1 hE2
    clear hq2 hm2
    generalize (p : Int) = pI at *
    generalize (z : Int) = zI at *
    generalize (a : Int) = aI at *
    generalize (Q : Int) = QI at *
    generalize (M : Int) = MI at *
    go_enter Tryd.func35, Tryd.ntmps35
    go_wp2_with (first
      | (go_at_call 13; refine (HC.out _ (hT.kept ((Touch.refl _ _).alloc _))).mono ?_; rintro e w1 ⟨rfl, ht1⟩; have hb1 := ht1.held (heap_alloc_new w _) id; obtain ⟨⟨c0, c1, c2, c3, c4, c5⟩, c6, c7, c8, c9, c10, c11⟩ := row12 hb1; have hT1 := Lib.hid (((Touch.refl (fun _ => False) w).alloc _).trans ht1); have HB1 := Lib.hid hb1; clear hb1 ht1)
      | (go_at_call 65; refine (HG.out _).mono ?_; rintro e w2 ⟨rfl, ht2⟩; clear c0 c1 c2 c3 c4 c5 c6 c7 c8 c9 c10 c11; have hb2 := ht2.held HB1.out id; obtain ⟨⟨c0, c1, c2, c3, c4, c5⟩, c6, c7, c8, c9, c10, c11⟩ := row12 hb2; have hT2 := Lib.hid (hT1.out.trans ht2); clear hb2 ht2))
    go_ret
    refine ⟨ret_bool (by simp), ?_⟩
    first | exact hT2.out | exact hT1.out
end Go.Proofs.YtdohhmaggeocjaaDoor

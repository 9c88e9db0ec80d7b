/- Contracts of package zip: a header's version, lengths, extra field and manner. -/
import Derived.Test.YtdohhmaggeocjaaDoorZipA
namespace Go.Proofs.YtdohhmaggeocjaaDoor
open Go Go.RowKit
set_option maxRecDepth 100000

theorem strNil {a : ByteArray} (h : a.size = 0) : a.toList.isEmpty = true := by
  rw [ByteArray.toList_eq]
  have : a.data.toList.length = 0 := by rw [Array.length_toList]; exact h
  rw [List.eq_nil_of_length_eq_zero this]; rfl
theorem strFull {a : ByteArray} (h : a.size ≠ 0) : a.toList.isEmpty = false := by
  rw [ByteArray.toList_eq]
  have : a.data.toList.length ≠ 0 := by rw [Array.length_toList]; exact h
  cases hl : a.data.toList with
  | nil => rw [hl] at this; exact absurd rfl this
  | cons _ _ => rfl

theorem version_calls (x : ByteArray) (b : Bool) (hb : x.toList.isEmpty = b) (w : World) : Calls Tryd.prog 58 #[.string x] w fun e w' => e = .returned (.string (P 2 (if b then 20 else 45))) ∧ Touch (fun _ => False) w w' := by
  have H20 := Lib.hid (fun W => put_int 20 2 20 2 rfl rfl (by decide) (by decide) W)
  have H45 := Lib.hid (fun W => put_int 45 2 45 2 rfl rfl (by decide) (by decide) W)
  cases b
  · go_enter Tryd.func58, Tryd.ntmps58
    go_wp2_with (go_at_call 50; refine (H45.out _).mono ?_; rintro e w1 ⟨rfl, ht1⟩)
    go_ret
    exact ⟨rfl, ht1⟩
  · go_enter Tryd.func58, Tryd.ntmps58
    go_wp2_with (go_at_call 50; refine (H20.out _).mono ?_; rintro e w1 ⟨rfl, ht1⟩)
    go_ret
    exact ⟨rfl, ht1⟩

theorem wrap_u64_nat (n : Nat) (h : n < 18446744073709551616) : IntKind.u64.wrap (n : Int) = (n : Int) := by
  rw [IntKind.wrap_u64]; omega

theorem lengths_calls (a b : ByteArray) (ha : a.size ≤ 1000000) (hb : b.size ≤ 1000000) (w : World) : Calls Tryd.prog 60 #[.string a, .string b] w fun e w' => e = .returned (.string (P 2 a.size ++ P 2 b.size)) ∧ Touch (fun _ => False) w w' := by
  have H1 := Lib.hid (fun W => put_int a.size 2 a.size 2 rfl rfl (by decide) (by decide) W)
  have H2 := Lib.hid (fun W => put_int b.size 2 b.size 2 rfl rfl (by decide) (by decide) W)
  have hwa := wrap_u64_nat a.size (by omega)
  have hwb := wrap_u64_nat b.size (by omega)
  obtain ⟨A, hA⟩ : ∃ A, P 2 a.size = A := ⟨_, rfl⟩
  obtain ⟨B, hB⟩ : ∃ B, P 2 b.size = B := ⟨_, rfl⟩
  have hAs : (A.size : Int) = 2 := by rw [← hA, P_size]; rfl
  have hBs : (B.size : Int) = 2 := by rw [← hB, P_size]; rfl
  rw [hA] at H1
  rw [hB] at H2
  rw [hA, hB]
  clear hA hB
  go_enter Tryd.func60, Tryd.ntmps60
  go_wp2_with (first
    | (go_at_call 50; refine (H1.out _).mono ?_; rintro e w1 ⟨rfl, ht1⟩; clear H1)
    | (go_at_call 50; refine (H2.out _).mono ?_; rintro e w2 ⟨rfl, ht2⟩))
  go_ret
  exact ⟨rfl, ht1.trans ht2⟩

/-- Numbers as a slice has them. -/
def u64Vs (L : List Nat) : List Value := L.map fun n : Nat => Value.int .u64 (n : Int)
theorem u64Vs_length (L : List Nat) : (u64Vs L).length = L.length := by simp [u64Vs]
/-- Numbers of eight bytes, one behind the other. -/
def catP : List Nat → ByteArray
  | [] => ByteArray.empty
  | n :: L => P 8 n ++ catP L
theorem catP_size (L : List Nat) : (catP L).size = 8 * L.length := by
  induction L with
  | nil => rfl
  | cons n L ih => show (P 8 n ++ catP L).size = _; rw [ByteArray.size_append, P_size, ih, List.length_cons]; omega
theorem catP_snoc (L : List Nat) (n : Nat) : catP (L ++ [n]) = catP L ++ P 8 n := by
  induction L with
  | nil => show P 8 n ++ ByteArray.empty = ByteArray.empty ++ P 8 n; simp
  | cons m L ih => show P 8 m ++ catP (L ++ [n]) = P 8 m ++ catP L ++ P 8 n; rw [ih, ByteArray.append_assoc]
/-- An extra field of such numbers. -/
def fieldB (L : List Nat) : ByteArray := if L.isEmpty then ByteArray.empty else P 2 1 ++ P 2 (8 * L.length) ++ catP L
theorem fieldB_size (L : List Nat) : (fieldB L).size = if L.isEmpty then 0 else 4 + 8 * L.length := by
  unfold fieldB
  split
  · rfl
  · rw [ByteArray.size_append, ByteArray.size_append, P_size, P_size, catP_size]
theorem fieldB_empty (L : List Nat) : (fieldB L).toList.isEmpty = L.isEmpty := by
  have := fieldB_size L
  cases L with
  | nil => exact strNil (by rw [fieldB_size]; rfl)
  | cons n L =>
    rw [show (n :: L).isEmpty = false from rfl] at this ⊢
    apply strFull
    rw [this]
    simp

set_option maxHeartbeats 2000000 in
theorem field_calls (L : List Nat) (v : Value) (w : World) (hrow : Row w 39 v (u64Vs L)) (hl : L.length ≤ 8) : Calls Tryd.prog 57 #[v] w fun e w' => e = .returned (.string (fieldB L)) ∧ Touch (fun _ => False) w w' := by
  by_cases h0 : 0 < L.length
  · obtain ⟨g, off, cap, hv, hcap, hg, hcells⟩ := hrow.addr (by rw [u64Vs_length]; exact h0)
    rw [u64Vs_length] at hv hcap
    subst hv
    have HCE := Lib.hid hcells
    have hFB : fieldB L = P 2 1 ++ P 2 (8 * L.length) ++ catP L := by
      unfold fieldB
      rw [if_neg]
      cases L with
      | nil => exact absurd h0 (by simp)
      | cons _ _ => simp
    rw [hFB]
    clear hFB
    have HPU := Lib.hid (fun (n : Nat) W => put_int n 8 n 8 rfl rfl (by decide) (by decide) W)
    have H1 := Lib.hid (fun W => put_int 1 2 1 2 rfl rfl (by decide) (by decide) W)
    have H2 := Lib.hid (fun W => put_int (8 * (L.length : Int)) 2 (8 * L.length) 2 (by simp) rfl (by decide) (by decide) W)
    clear hcells
    go_enter Tryd.func57, Tryd.ntmps57
    go_wp2
    go_loopw [3, 8] (fun s i wr => ∃ q : Nat, q ≤ L.length ∧ i = .int .i64 (q : Int) ∧ s = .string (catP (L.take q)) ∧ Touch (fun _ => False) w wr) (fun _ i _ => L.length - (intOf i).toNat)
    case atStart => exact ⟨0, Nat.zero_le _, rfl, rfl, Touch.refl _ _⟩
    case round =>
      obtain ⟨q, hq, rfl, rfl, ht⟩ := hrel
      have HT := Lib.hid ht
      clear ht
      by_cases hlt : q < L.length
      · have hlt' : (q : Int) < (L.length : Int) := by omega
        have hcell := HT.out.cell (HCE.out q (.int .u64 (L[q] : Nat)) (by simp [u64Vs, hlt])) id
        have HS : RowKit.Hid (catP (L.take (q + 1)) = catP (L.take q) ++ P 8 L[q]) := Lib.hid (by rw [List.take_succ_eq_append_getElem hlt, catP_snoc])
        have HP := Lib.hid (HPU.out L[q])
        obtain ⟨C, hC⟩ : ∃ C, catP (L.take q) = C := ⟨_, rfl⟩
        have hCs : (C.size : Int) ≤ 64 := by rw [← hC, catP_size, List.length_take]; omega
        rw [hC] at HS ⊢
        clear hC
        obtain ⟨D, hD⟩ : ∃ D, P 8 L[q] = D := ⟨_, rfl⟩
        have hDs : (D.size : Int) = 8 := by rw [← hD, P_size]; rfl
        rw [hD] at HS HP
        clear hD
        go_wp2_with (go_at_call 50; refine (HP.out _).mono ?_; rintro e w1 ⟨rfl, ht1⟩)
        go_roundw
        case rel => exact ⟨q + 1, by omega, by go_num, by rw [HS.out], HT.out.trans ht1⟩
        case measure => simp [intOf]; omega
      · obtain rfl : q = L.length := by omega
        rw [List.take_length]
        have he : (catP L).toList.isEmpty = false := strFull (by rw [catP_size]; omega)
        have hw := wrap_u64_nat (8 * L.length) (by omega)
        have hCs : ((catP L).size : Int) = 8 * (L.length : Int) := by rw [catP_size]; omega
        obtain ⟨C, hC⟩ : ∃ C, catP L = C := ⟨_, rfl⟩
        rw [hC] at he hCs ⊢
        have HCC := Lib.hid hC
        obtain ⟨A, hA⟩ : ∃ A, P 2 1 = A := ⟨_, rfl⟩
        obtain ⟨B, hB⟩ : ∃ B, P 2 (8 * L.length) = B := ⟨_, rfl⟩
        have hAs : (A.size : Int) = 2 := by rw [← hA, P_size]; rfl
        have hBs : (B.size : Int) = 2 := by rw [← hB, P_size]; rfl
        have hwc : IntKind.u64.wrap (C.size : Int) = 8 * (L.length : Int) := by rw [hCs, IntKind.wrap_u64]; omega
        rw [hA] at H1
        rw [hB] at H2
        have HAA := Lib.hid hA
        have HBB := Lib.hid hB
        clear hA hB hC hw
        have hsz : C.size ≤ 64 := by omega
        clear hCs
        go_wp2_with (first
          | (go_at_call 50; refine (H1.out _).mono ?_; rintro e w1 ⟨rfl, ht1⟩; clear H1)
          | (go_at_call 50; refine (H2.out _).mono ?_; rintro e w2 ⟨rfl, ht2⟩))
        go_ret
        exact ⟨by rw [HAA.out, HBB.out, HCC.out]; rfl, HT.out.trans (ht1.trans ht2)⟩
  · obtain rfl : L = [] := List.eq_nil_of_length_eq_zero (by omega)
    obtain ⟨a, cap, hv, _⟩ := hrow.form
    subst hv
    go_enter Tryd.func57, Tryd.ntmps57
    go_wp2
    go_loop [3, 8] (fun s i => i = .int .i64 0 ∧ s = .string ⟨#[]⟩) (fun _ _ => 0)
    case atStart => exact ⟨rfl, rfl⟩
    case round =>
      obtain ⟨rfl, rfl⟩ := hrel
      have he : (ByteArray.mk #[]).toList.isEmpty = true := strNil rfl
      go_wp2
      go_ret
      exact ⟨rfl, Touch.refl _ _⟩

/-- Flags, method, time and date. -/
def flagN (k pl : Bool) : Nat := (if k then 0 else 8) + (if pl then 0 else 2048)
def manB (h : Hd) : ByteArray := P 2 (flagN h.k (plainB h.n.data.toList)) ++ P 2 (if h.k then 0 else 8) ++ P 2 (timeN h.t).toNat ++ P 2 (dateN h.t).toNat
theorem manB_size (h : Hd) : (manB h).size = 8 := by
  unfold manB
  rw [ByteArray.size_append, ByteArray.size_append, ByteArray.size_append, P_size, P_size, P_size, P_size]

set_option maxHeartbeats 4000000 in
theorem manner_calls (h : Hd) (ho : HdOk h) (hg : goodB h.t = true) (w : World) : Calls Tryd.prog 59 #[h.v] w fun e w' => e = .returned (.string (manB h)) ∧ Touch (fun _ => False) w w' := by
  obtain ⟨n, t, p, z, s, a, k⟩ := h
  obtain ⟨hn, hp, hz, hs, ha⟩ := ho
  simp only at hn hp hz hs ha hg
  obtain ⟨d, m, hd, hm, -, hd6, hm6⟩ := unp_pack t ((good_iff t).1 hg)
  have HP := Lib.hid (fun W => pack_good t W hg)
  rw [hd, hm] at HP
  have HPL := Lib.hid (fun W => plain_calls n W hn)
  unfold manB
  simp only
  rw [hd, hm, Int.toNat_natCast, Int.toNat_natCast]
  generalize plainB n.data.toList = pl at HPL ⊢
  have HF := Lib.hid (fun W => put_int (flagN k pl) 2 (flagN k pl) 2 rfl rfl (by decide) (by decide) W)
  have HM := Lib.hid (fun W => put_int ((if k then 0 else 8 : Nat) : Int) 2 (if k then 0 else 8) 2 rfl rfl (by decide) (by decide) W)
  have HD := Lib.hid (fun W => put_int d 2 d 2 rfl rfl (by decide) (by decide) W)
  have HT := Lib.hid (fun W => put_int m 2 m 2 rfl rfl (by decide) (by decide) W)
  clear hd hm hg
  obtain ⟨x1, hx1⟩ : ∃ x, P 2 (flagN k pl) = x := ⟨_, rfl⟩
  obtain ⟨x2, hx2⟩ : ∃ x, P 2 (if k then 0 else 8) = x := ⟨_, rfl⟩
  obtain ⟨x3, hx3⟩ : ∃ x, P 2 m = x := ⟨_, rfl⟩
  obtain ⟨x4, hx4⟩ : ∃ x, P 2 d = x := ⟨_, rfl⟩
  have s1 : (x1.size : Int) = 2 := by rw [← hx1, P_size]; rfl
  have s2 : (x2.size : Int) = 2 := by rw [← hx2, P_size]; rfl
  have s3 : (x3.size : Int) = 2 := by rw [← hx3, P_size]; rfl
  have s4 : (x4.size : Int) = 2 := by rw [← hx4, P_size]; rfl
  rw [hx1] at HF
  rw [hx2] at HM
  rw [hx3] at HT
  rw [hx4] at HD
  rw [hx1, hx2, hx3, hx4]
  clear hx1 hx2 hx3 hx4
  have o1 : bits .or .u64 0 2048 = 2048 := by decide +kernel
  have o2 : bits .or .u64 8 2048 = 2056 := by decide +kernel
  obtain ⟨y, mo, dd, hh, mi, ss⟩ := t
  unfold Hd.v Hd.cs
  unfold Tim.v at HP
  simp only at HP ⊢
  cases k <;> cases pl
  all_goals
    simp only [flagN, if_true, if_false, Bool.false_eq_true] at HF HM
    go_enter Tryd.func59, Tryd.ntmps59
    go_wp2_with (first
      | (go_at_call 15; refine (HPL.out _).mono ?_; rintro e w1 ⟨rfl, rfl⟩)
      | (go_at_call 81; refine (HP.out _).mono ?_; rintro e w2 ⟨rfl, ht2⟩; have HT2 := Lib.hid (((Touch.refl (fun _ => False) w).alloc _).trans ht2); clear ht2)
      | (go_at_call 50; refine (HF.out _).mono ?_; rintro e w3 ⟨rfl, ht3⟩; clear HF)
      | (go_at_call 50; refine (HM.out _).mono ?_; rintro e w4 ⟨rfl, ht4⟩; clear HM)
      | (go_at_call 50; refine (HT.out _).mono ?_; rintro e w5 ⟨rfl, ht5⟩; clear HT)
      | (go_at_call 50; refine (HD.out _).mono ?_; rintro e w6 ⟨rfl, ht6⟩; clear HD))
    go_ret
    exact ⟨rfl, HT2.out.trans ((ht3.trans ht4).trans (ht5.trans ht6))⟩
end Go.Proofs.YtdohhmaggeocjaaDoor

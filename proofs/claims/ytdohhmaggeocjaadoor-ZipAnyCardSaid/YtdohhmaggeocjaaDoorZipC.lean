/- Contracts of package zip: a local header, and a descriptor. -/
import Derived.Test.YtdohhmaggeocjaaDoorZipB
namespace Go.Proofs.YtdohhmaggeocjaaDoor
open Go Go.RowKit
set_option maxRecDepth 100000

def full32 : Nat := 4294967295
def locE (h : Hd) : ByteArray := if bigH h then fieldB [0, 0] else ByteArray.empty
/-- A local header of a head that may be. -/
def locB (h : Hd) : ByteArray :=
  ⟨#[80, 75, 3, 4]⟩ ++ P 2 (if bigH h then 45 else 20) ++ manB h ++ Z 4 ++ P 4 (if bigH h then full32 else 0) ++ P 4 (if bigH h then full32 else 0) ++ (P 2 h.n.size ++ P 2 (locE h).size) ++ h.n ++ locE h
def localB (h : Hd) : ByteArray := if goodH h then locB h else ByteArray.empty
def desB (h : Hd) : ByteArray := ⟨#[80, 75, 7, 8]⟩ ++ P 4 h.s ++ P (if bigH h then 8 else 4) h.p ++ P (if bigH h then 8 else 4) h.z
def descrB (h : Hd) : ByteArray := if goodH h && !h.k then desB h else ByteArray.empty

theorem row12w {w0 : World} {b : Nat} {x0 x1 x2 x3 x4 x5 x6 x7 x8 x9 x10 x11 : Value} {t : TypeId} (h : w0.heap[b]? = some (.cells #[x0, x1, x2, x3, x4, x5, x6, x7, x8, x9, x10, x11] t)) :
    ((∀ T : Wd (fun _ => False) w0, T.V.cell? ⟨b, 0, none⟩ = some x0) ∧ (∀ T : Wd (fun _ => False) w0, T.V.cell? ⟨b, 1, none⟩ = some x1) ∧ (∀ T : Wd (fun _ => False) w0, T.V.cell? ⟨b, 2, none⟩ = some x2) ∧
      (∀ T : Wd (fun _ => False) w0, T.V.cell? ⟨b, 3, none⟩ = some x3) ∧ (∀ T : Wd (fun _ => False) w0, T.V.cell? ⟨b, 4, none⟩ = some x4) ∧ (∀ T : Wd (fun _ => False) w0, T.V.cell? ⟨b, 5, none⟩ = some x5)) ∧
    (∀ T : Wd (fun _ => False) w0, T.V.cell? ⟨b, 6, none⟩ = some x6) ∧ (∀ T : Wd (fun _ => False) w0, T.V.cell? ⟨b, 7, none⟩ = some x7) ∧ (∀ T : Wd (fun _ => False) w0, T.V.cell? ⟨b, 8, none⟩ = some x8) ∧
      (∀ T : Wd (fun _ => False) w0, T.V.cell? ⟨b, 9, none⟩ = some x9) ∧ (∀ T : Wd (fun _ => False) w0, T.V.cell? ⟨b, 10, none⟩ = some x10) ∧ (∀ T : Wd (fun _ => False) w0, T.V.cell? ⟨b, 11, none⟩ = some x11) := by
  refine ⟨⟨fun T => ?_, fun T => ?_, fun T => ?_, fun T => ?_, fun T => ?_, fun T => ?_⟩, fun T => ?_, fun T => ?_, fun T => ?_, fun T => ?_, fun T => ?_, fun T => ?_⟩
  all_goals (rw [cell_of_row _ _ _ _ _ _ (T.ok.held h id)]; rfl)

theorem zgood_b (b : Bool) (h : Hd) (ho : HdOk h) (hb : goodH h = b) (w : World) (hT : Tabs w) : Calls Tryd.prog 35 #[h.v] w fun e w' => e = .returned (.bool b) ∧ Touch (fun _ => False) w w' := by
  subst hb
  exact zgood_calls h ho w hT
theorem big_b (b : Bool) (h : Hd) (hb : bigH h = b) (w : World) : Calls Tryd.prog 32 #[h.v] w fun e w' => e = .returned (.bool b) ∧ Touch (fun _ => False) w w' := by
  subst hb
  exact big_calls h w
theorem good_time {h : Hd} (hg : goodH h = true) : goodB h.t = true := by
  unfold goodH at hg
  simp only [Bool.and_eq_true] at hg
  exact hg.2.1
theorem row_u64 (w : World) (L : List Nat) (hl : L.length ≤ 100) : Row (w.alloc (.cells (u64Vs L).toArray 39)) 39 (.slice (some ⟨w.heap.size, 0, none⟩) L.length L.length) (u64Vs L) :=
  .inr ⟨w.heap.size, 0, L.length, _, by rw [u64Vs_length], heap_alloc_new w _, by rw [u64Vs_length]; exact Nat.le_refl _, by unfold maxLen; omega, by simp [u64Vs_length], by simp⟩

set_option maxHeartbeats 4000000 in
theorem local_calls (h : Hd) (ho : HdOk h) (w : World) (hT : Tabs w) : Calls Tryd.prog 29 #[h.v] w fun e w' => e = .returned (.string (localB h)) ∧ Touch (fun _ => False) w w' := by
  unfold localB
  cases hg : goodH h
  · have HG := Lib.hid (fun W (hT : Tabs W) => zgood_b false h ho hg W hT)
    clear hg
    obtain ⟨n, ⟨y, mo, d, hh, mi, ss⟩, p, z, s, a, k⟩ := h
    unfold Hd.v Hd.cs at HG ⊢
    simp only at HG ⊢
    go_enter Tryd.func29, Tryd.ntmps29
    go_wp2_with (go_at_call 35; refine (HG.out _ (hT.kept ((Touch.refl _ _).alloc _))).mono ?_; rintro e w1 ⟨rfl, ht1⟩)
    go_ret
    exact ⟨rfl, ((Touch.refl _ _).alloc _).trans ht1⟩
  · rw [if_pos rfl]
    unfold locB
    have HG := Lib.hid (fun W (hT : Tabs W) => zgood_b true h ho hg W hT)
    have HMN := Lib.hid (fun W => manner_calls h ho (good_time hg) W)
    have hmn := manB_size h
    have hns := ho.n
    obtain ⟨b, hb⟩ : ∃ b, bigH h = b := ⟨_, rfl⟩
    have HB := Lib.hid (fun W => big_b b h hb W)
    have hE : locE h = if b then fieldB [0, 0] else ByteArray.empty := by unfold locE; rw [hb]
    rw [hb]
    have he : (locE h).toList.isEmpty = !b := by
      rw [hE]
      cases b
      · exact strNil rfl
      · exact fieldB_empty [0, 0]
    have hEs : (locE h).size ≤ 20 := by
      rw [hE]
      cases b
      · exact Nat.zero_le _
      · rw [if_pos rfl, fieldB_size]; decide
    have HV := Lib.hid (fun W => version_calls (locE h) (!b) he W)
    have HZ := Lib.hid (fun W => noughts_int 4 4 rfl (by decide) W)
    have HPZ := Lib.hid (fun W => put_int ((if b then full32 else 0 : Nat) : Int) 4 (if b then full32 else 0) 4 rfl rfl (by decide) (by decide) W)
    have HLN := Lib.hid (fun W => lengths_calls h.n (locE h) hns (by omega) W)
    have HFL := Lib.hid (fun W => field_calls [0, 0] _ _ (row_u64 W [0, 0] (by decide)) (by decide))
    have hvb : (if (!b) = true then 20 else 45 : Nat) = if b = true then 45 else 20 := by cases b <;> rfl
    rw [hvb] at HV
    generalize locE h = E at *
    generalize manB h = MN at *
    obtain ⟨V, hV⟩ : ∃ V, P 2 (if b = true then 45 else 20) = V := ⟨_, rfl⟩
    obtain ⟨Z4, hZ4⟩ : ∃ V, Z 4 = V := ⟨_, rfl⟩
    obtain ⟨PZ, hPZ⟩ : ∃ V, P 4 (if b = true then full32 else 0) = V := ⟨_, rfl⟩
    obtain ⟨LN, hLN⟩ : ∃ V, P 2 h.n.size ++ P 2 E.size = V := ⟨_, rfl⟩
    have s1 : (V.size : Int) = 2 := by rw [← hV, P_size]; rfl
    have s2 : (Z4.size : Int) = 4 := by rw [← hZ4, Z_size]; rfl
    have s3 : (PZ.size : Int) = 4 := by rw [← hPZ, P_size]; rfl
    have s4 : (LN.size : Int) = 4 := by rw [← hLN, ByteArray.size_append, P_size, P_size]; rfl
    have s5 : (MN.size : Int) = 8 := by omega
    have s6 : (E.size : Int) ≤ 20 := by omega
    have s7 : (h.n.size : Int) ≤ 1000000 := by omega
    rw [hV] at HV
    rw [hZ4] at HZ
    rw [hPZ] at HPZ
    rw [hLN] at HLN
    rw [hV, hZ4, hPZ, hLN]
    clear hV hZ4 hPZ hLN hvb he hEs hmn hns hb hg ho
    obtain ⟨n, ⟨y, mo, d, hh, mi, ss⟩, p, z, s, a, k⟩ := h
    unfold Hd.v Hd.cs at *
    simp only at *
    cases b
    · simp only [Bool.false_eq_true, if_false] at hE HPZ
      subst hE
      go_enter Tryd.func29, Tryd.ntmps29
      go_upto_region 8 with (first
        | (go_at_call 35; refine (HG.out _ (hT.kept ((Touch.refl _ _).alloc _))).mono ?_; rintro e w1 ⟨rfl, ht1⟩; have hb1 := ht1.held (heap_alloc_new w _) id; obtain ⟨⟨c0, c1, c2, c3, c4, c5⟩, c6, c7, c8, c9, c10, c11⟩ := row12 hb1; have HT1 := Lib.hid (((Touch.refl (fun _ => False) w).alloc _).trans ht1); have HB1 := Lib.hid hb1; clear hb1 ht1)
        | (go_at_call 32; refine (HB.out _).mono ?_; rintro e w2 ⟨rfl, ht2⟩; clear c0 c1 c2 c3 c4 c5 c6 c7 c8 c9 c10 c11; have hb2 := ht2.held HB1.out id; have HT2 := Lib.hid (HT1.out.trans ht2); clear ht2))
      refine wp_region_quiet_touch (fun _ => False) (by kernel_rfl) (by kernel_rfl) ?_
      obtain ⟨⟨c0, c1, c2, c3, c4, c5⟩, c6, c7, c8, c9, c10, c11⟩ := row12w hb2
      clear hb2
      repeat (go_big_quiet_step (first
        | (go_at_call 58; exact quiet_touch (HV.out _))
        | (go_at_call 59; exact quiet_touch (HMN.out _))
        | (go_at_call 51; exact quiet_touch (HZ.out _))
        | (go_at_call 50; exact quiet_touch (HPZ.out _))
        | (go_at_call 60; exact quiet_touch (HLN.out _))))
      refine wpQuiet_nil ?_
      intro _ h1
      obtain ⟨T, h2⟩ := h1
      subst h2
      clear c0 c1 c2 c3 c4 c5 c6 c7 c8 c9 c10 c11
      go_wp2
      go_ret
      exact ⟨rfl, HT2.out.trans T.ok⟩
    · simp only [if_true] at hE HPZ
      rw [← hE] at HFL
      clear hE
      go_enter Tryd.func29, Tryd.ntmps29
      go_upto_region 8 with (first
        | (go_at_call 35; refine (HG.out _ (hT.kept ((Touch.refl _ _).alloc _))).mono ?_; rintro e w1 ⟨rfl, ht1⟩; have hb1 := ht1.held (heap_alloc_new w _) id; obtain ⟨⟨c0, c1, c2, c3, c4, c5⟩, c6, c7, c8, c9, c10, c11⟩ := row12 hb1; have HT1 := Lib.hid (((Touch.refl (fun _ => False) w).alloc _).trans ht1); have HB1 := Lib.hid hb1; clear hb1 ht1)
        | (go_at_call 32; refine (HB.out _).mono ?_; rintro e w2 ⟨rfl, ht2⟩; clear c0 c1 c2 c3 c4 c5 c6 c7 c8 c9 c10 c11; have hb2 := ht2.held HB1.out id; have HT2 := Lib.hid (HT1.out.trans ht2); have HB2 := Lib.hid hb2; clear ht2 hb2)
        | (go_at_call 57; refine (HFL.out _).mono ?_; rintro e w3 ⟨rfl, ht3⟩; have ht3' := ((Touch.refl (fun _ => False) w2).alloc _).trans ht3; have hb3 := ht3'.held HB2.out id; have HT3 := Lib.hid (HT2.out.trans ht3'); clear ht3 ht3'))
      refine wp_region_quiet_touch (fun _ => False) (by kernel_rfl) (by kernel_rfl) ?_
      obtain ⟨⟨c0, c1, c2, c3, c4, c5⟩, c6, c7, c8, c9, c10, c11⟩ := row12w hb3
      clear hb3
      repeat (go_big_quiet_step (first
        | (go_at_call 58; exact quiet_touch (HV.out _))
        | (go_at_call 59; exact quiet_touch (HMN.out _))
        | (go_at_call 51; exact quiet_touch (HZ.out _))
        | (go_at_call 50; exact quiet_touch (HPZ.out _))
        | (go_at_call 60; exact quiet_touch (HLN.out _))))
      refine wpQuiet_nil ?_
      intro _ h1
      obtain ⟨T, h2⟩ := h1
      subst h2
      clear c0 c1 c2 c3 c4 c5 c6 c7 c8 c9 c10 c11
      go_wp2
      go_ret
      exact ⟨rfl, HT3.out.trans T.ok⟩
end Go.Proofs.YtdohhmaggeocjaaDoor

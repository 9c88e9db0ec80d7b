/- Contracts of package zip: a descriptor, and an archive's end. -/
import Derived.Test.YtdohhmaggeocjaaDoorZipC
namespace Go.Proofs.YtdohhmaggeocjaaDoor
open Go Go.RowKit
set_option maxRecDepth 100000

set_option maxHeartbeats 4000000 in
theorem descr_calls (h : Hd) (ho : HdOk h) (w : World) (hT : Tabs w) : Calls Tryd.prog 36 #[h.v] w fun e w' => e = .returned (.string (descrB h)) ∧ Touch (fun _ => False) w w' := by
  unfold descrB
  cases hg : goodH h
  · have HG := Lib.hid (fun W (hT : Tabs W) => zgood_b false h ho hg W hT)
    clear hg
    obtain ⟨n, ⟨y, mo, d, hh, mi, ss⟩, p, z, s, a, k⟩ := h
    unfold Hd.v Hd.cs at HG ⊢
    simp only at HG ⊢
    go_enter Tryd.func36, Tryd.ntmps36
    go_wp2_with (go_at_call 35; refine (HG.out _ (hT.kept ((Touch.refl _ _).alloc _))).mono ?_; rintro e w1 ⟨rfl, ht1⟩)
    go_ret
    exact ⟨rfl, ((Touch.refl _ _).alloc _).trans ht1⟩
  · have HG := Lib.hid (fun W (hT : Tabs W) => zgood_b true h ho hg W hT)
    obtain ⟨b, hb⟩ : ∃ b, bigH h = b := ⟨_, rfl⟩
    have HB := Lib.hid (fun W => big_b b h hb W)
    unfold desB
    rw [hb]
    have H1 := Lib.hid (fun W => put_int h.s 4 h.s 4 rfl rfl (by decide) (by decide) W)
    have H2 := Lib.hid (fun W => put_int h.p ((if b then 8 else 4 : Nat) : Int) h.p (if b then 8 else 4) rfl rfl (by cases b <;> decide) (by cases b <;> decide) W)
    have H3 := Lib.hid (fun W => put_int h.z ((if b then 8 else 4 : Nat) : Int) h.z (if b then 8 else 4) rfl rfl (by cases b <;> decide) (by cases b <;> decide) W)
    have hws := wrap_u64_nat h.s (by have := ho.s; omega)
    obtain ⟨x1, hx1⟩ : ∃ x, P 4 h.s = x := ⟨_, rfl⟩
    obtain ⟨x2, hx2⟩ : ∃ x, P (if b then 8 else 4) h.p = x := ⟨_, rfl⟩
    obtain ⟨x3, hx3⟩ : ∃ x, P (if b then 8 else 4) h.z = x := ⟨_, rfl⟩
    have s1 : (x1.size : Int) = 4 := by rw [← hx1, P_size]; rfl
    have s2 : (x2.size : Int) ≤ 8 := by rw [← hx2, P_size]; cases b <;> decide
    have s3 : (x3.size : Int) ≤ 8 := by rw [← hx3, P_size]; cases b <;> decide
    rw [hx1] at H1
    rw [hx2] at H2
    rw [hx3] at H3
    rw [hx1, hx2, hx3]
    clear hx1 hx2 hx3 hb hg ho
    obtain ⟨n, ⟨y, mo, d, hh, mi, ss⟩, p, z, s, a, k⟩ := h
    unfold Hd.v Hd.cs at *
    simp only at *
    generalize (s : Int) = sI at *
    generalize (p : Int) = pI at *
    generalize (z : Int) = zI at *
    cases k
    · cases b
      all_goals
        simp only [Bool.false_eq_true, if_false, if_true] at H2 H3
        go_enter Tryd.func36, Tryd.ntmps36
        go_upto_region 6 with (first
          | (go_at_call 35; refine (HG.out _ (hT.kept ((Touch.refl _ _).alloc _))).mono ?_; rintro e w1 ⟨rfl, ht1⟩; have hb1 := ht1.held (heap_alloc_new w _) id; obtain ⟨⟨c0, c1, c2, c3, c4, c5⟩, c6, c7, c8, c9, c10, c11⟩ := row12 hb1; have HT1 := Lib.hid (((Touch.refl (fun _ => False) w).alloc _).trans ht1); have HB1 := Lib.hid hb1; clear hb1 ht1)
          | (go_at_call 32; refine (HB.out _).mono ?_; rintro e w2 ⟨rfl, ht2⟩; clear c0 c1 c2 c3 c4 c5 c6 c7 c8 c9 c10 c11; have hb2 := ht2.held HB1.out id; have HT2 := Lib.hid (HT1.out.trans ht2); clear ht2))
        refine wp_region_quiet_touch (fun _ => False) (by kernel_rfl) (by kernel_rfl) ?_
        obtain ⟨⟨c0, c1, c2, c3, c4, c5⟩, c6, c7, c8, c9, c10, c11⟩ := row12w hb2
        clear hb2
        repeat (go_big_quiet_step (first
          | (go_at_call 50; with_reducible exact quiet_touch (H1.out _))
          | (go_at_call 50; with_reducible exact quiet_touch (H2.out _))
          | (go_at_call 50; with_reducible exact quiet_touch (H3.out _))))
        refine wpQuiet_nil ?_
        intro _ h1
        obtain ⟨T, h2⟩ := h1
        subst h2
        clear c0 c1 c2 c3 c4 c5 c6 c7 c8 c9 c10 c11
        go_wp2
        go_ret
        exact ⟨rfl, HT2.out.trans T.ok⟩
    · go_enter Tryd.func36, Tryd.ntmps36
      go_wp2_with (go_at_call 35; refine (HG.out _ (hT.kept ((Touch.refl _ _).alloc _))).mono ?_; rintro e w1 ⟨rfl, ht1⟩; have hb1 := ht1.held (heap_alloc_new w _) id; obtain ⟨⟨c0, c1, c2, c3, c4, c5⟩, c6, c7, c8, c9, c10, c11⟩ := row12 hb1; have HT1 := Lib.hid (((Touch.refl (fun _ => False) w).alloc _).trans ht1); have HB1 := Lib.hid hb1; clear hb1 ht1)
      go_ret
      exact ⟨rfl, HT1.out⟩

def wideB (c z a : Nat) : ByteArray :=
  ⟨#[80, 75, 6, 6]⟩ ++ P 8 44 ++ P 2 45 ++ P 2 45 ++ Z 8 ++ P 8 c ++ P 8 c ++ P 8 z ++ P 8 a ++ ⟨#[80, 75, 6, 7]⟩ ++ Z 4 ++ P 8 (a + z) ++ P 4 1
theorem wideB_size (c z a : Nat) : (wideB c z a).size = 76 := by
  unfold wideB
  simp only [ByteArray.size_append, P_size, Z_size]
  rfl

set_option maxHeartbeats 2000000 in
theorem wideEnd_calls (c z a : Nat) (w : World) (_hc : c < 4611686018427387904) (hz : z < 4611686018427387904) (ha : a < 4611686018427387904) : Calls Tryd.prog 49 #[.int .u64 c, .int .u64 z, .int .u64 a] w fun e w' => e = .returned (.string (wideB c z a)) ∧ Touch (fun _ => False) w w' := by
  unfold wideB
  have hsum : IntKind.u64.wrap ((a : Int) + (z : Int)) = ((a + z : Nat) : Int) := by rw [IntKind.wrap_u64]; omega
  have Hc := Lib.hid (fun W => put_int c 8 c 8 rfl rfl (by decide) (by decide) W)
  have H44 := Lib.hid (fun W => put_int 44 8 44 8 rfl rfl (by decide) (by decide) W)
  have H45 := Lib.hid (fun W => put_int 45 2 45 2 rfl rfl (by decide) (by decide) W)
  have HZ8 := Lib.hid (fun W => noughts_int 8 8 rfl (by decide) W)
  have HZ4 := Lib.hid (fun W => noughts_int 4 4 rfl (by decide) W)
  have Hz := Lib.hid (fun W => put_int z 8 z 8 rfl rfl (by decide) (by decide) W)
  have Ha := Lib.hid (fun W => put_int a 8 a 8 rfl rfl (by decide) (by decide) W)
  have Hs := Lib.hid (fun W => put_int ((a + z : Nat) : Int) 8 (a + z) 8 rfl rfl (by decide) (by decide) W)
  have H1 := Lib.hid (fun W => put_int 1 4 1 4 rfl rfl (by decide) (by decide) W)
  generalize ((a + z : Nat) : Int) = S at hsum Hs
  obtain ⟨xc, hxc⟩ : ∃ x, P 8 c = x := ⟨_, rfl⟩
  obtain ⟨xz, hxz⟩ : ∃ x, P 8 z = x := ⟨_, rfl⟩
  obtain ⟨xa, hxa⟩ : ∃ x, P 8 a = x := ⟨_, rfl⟩
  obtain ⟨xs, hxs⟩ : ∃ x, P 8 (a + z) = x := ⟨_, rfl⟩
  obtain ⟨x44, hx44⟩ : ∃ x, P 8 44 = x := ⟨_, rfl⟩
  obtain ⟨x45, hx45⟩ : ∃ x, P 2 45 = x := ⟨_, rfl⟩
  obtain ⟨x1, hx1⟩ : ∃ x, P 4 1 = x := ⟨_, rfl⟩
  obtain ⟨z8, hz8⟩ : ∃ x, Z 8 = x := ⟨_, rfl⟩
  obtain ⟨z4, hz4⟩ : ∃ x, Z 4 = x := ⟨_, rfl⟩
  have sc : (xc.size : Int) = 8 := by rw [← hxc, P_size]; rfl
  have sz : (xz.size : Int) = 8 := by rw [← hxz, P_size]; rfl
  have sa : (xa.size : Int) = 8 := by rw [← hxa, P_size]; rfl
  have ss : (xs.size : Int) = 8 := by rw [← hxs, P_size]; rfl
  have s44 : (x44.size : Int) = 8 := by rw [← hx44, P_size]; rfl
  have s45 : (x45.size : Int) = 2 := by rw [← hx45, P_size]; rfl
  have s1 : (x1.size : Int) = 4 := by rw [← hx1, P_size]; rfl
  have s8 : (z8.size : Int) = 8 := by rw [← hz8, Z_size]; rfl
  have s4 : (z4.size : Int) = 4 := by rw [← hz4, Z_size]; rfl
  rw [hxc] at Hc
  rw [hxz] at Hz
  rw [hxa] at Ha
  rw [hxs] at Hs
  rw [hx44] at H44
  rw [hx45] at H45
  rw [hx1] at H1
  rw [hz8] at HZ8
  rw [hz4] at HZ4
  rw [hxc, hxz, hxa, hxs, hx44, hx45, hx1, hz8, hz4]
  clear hxc hxz hxa hxs hx44 hx45 hx1 hz8 hz4 hz ha
  generalize (c : Int) = cI at *
  generalize (z : Int) = zI at *
  generalize (a : Int) = aI at *
  have HT0 := Lib.hid (Touch.refl (fun _ => False) w)
  go_enter Tryd.func49, Tryd.ntmps49
  go_wp2_with (first
    | (go_at_call 50; first
        | (with_reducible refine (Hc.out _).mono ?_)
        | (with_reducible refine (Hz.out _).mono ?_)
        | (with_reducible refine (Ha.out _).mono ?_)
        | (with_reducible refine (Hs.out _).mono ?_)
        | (with_reducible refine (H44.out _).mono ?_)
        | (with_reducible refine (H45.out _).mono ?_)
        | (with_reducible refine (H1.out _).mono ?_)
       rintro e wn ⟨rfl, htn⟩; replace HT0 := Lib.hid (HT0.out.trans htn); clear htn)
    | (go_at_call 51; first
        | (with_reducible refine (HZ8.out _).mono ?_)
        | (with_reducible refine (HZ4.out _).mono ?_)
       rintro e wn ⟨rfl, htn⟩; replace HT0 := Lib.hid (HT0.out.trans htn); clear htn))
  go_ret
  exact ⟨rfl, HT0.out⟩

def isWide (c z a : Nat) : Bool := decide (65535 ≤ c) || (decide (4294967295 ≤ z) || decide (4294967295 ≤ a))
def endTail (c z a : Nat) (W : ByteArray) : ByteArray :=
  W ++ ⟨#[80, 75, 5, 6]⟩ ++ Z 4 ++ P 2 (min c 65535) ++ P 2 (min c 65535) ++ P 4 (min z 4294967295) ++ P 4 (min a 4294967295) ++ Z 2
def endB (c z a : Nat) : ByteArray :=
  if max (max c z) a < 4611686018427387904 then endTail c z a (if isWide c z a then wideB c z a else ByteArray.empty) else ByteArray.empty
end Go.Proofs.YtdohhmaggeocjaaDoor

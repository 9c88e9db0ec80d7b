/- The walk of layer 11's statement that any time is told by two numbers, or may not be, and back. -/
import Derived.Test.YtbhjeolhndpnfaaDosH
namespace Go.Proofs.Ytbhjeolhndpnfaa
open Go Go.RowKit
set_option maxRecDepth 100000

set_option maxHeartbeats 2000000 in
theorem dpacks_bad (t : Tim) (w : World) (hg : goodB t = false) : Calls Try.prog 3 #[t.v] w fun e w' => e = .returned (.bool true) ∧ Touch (fun _ => False) w w' := by
  have HR := Lib.hid (fun W => (refgood_calls t W).mono fun e w' (h : e = .returned (.bool (goodB t)) ∧ Touch (fun _ => False) W w') => (show e = .returned (.bool false) ∧ Touch (fun _ => False) W w' by rw [hg] at h; exact h))
  have HP := Lib.hid (fun W => pack_bad t W hg)
  have HG := Lib.hid (fun W => good_b false t W hg)
  have HN := Lib.hid (fun W => number_bad t W hg)
  clear hg
  obtain ⟨y, mo, d, hh, mi, s⟩ := t
  unfold Tim.v at *
  simp only at *
  go_enter Try.func3, Try.ntmps3
  go_upto_region 6 with (first
    | (go_at_call 7; refine (speaks11_calls _).mono ?_; rintro e w1 ⟨rfl, ht1⟩; obtain ⟨c0, c1, c2, c3, c4, c5, hx1, _⟩ := box6 ht1; have HX1 := Lib.hid hx1; clear hx1)
    | (go_at_call 8; refine (HR.out _).mono ?_; rintro e w2 ⟨rfl, ht2⟩; clear c0 c1 c2 c3 c4 c5; have hx2 := (((Touch.refl (fun _ => False) _).alloc _).trans ht2).held HX1.out id; obtain ⟨c0, c1, c2, c3, c4, c5⟩ := row6 hx2; obtain ⟨d0, d1, d2, d3, d4, d5, hb2, _⟩ := box6 ht2; have HX2 := Lib.hid hx2; have HB2 := Lib.hid hb2; clear hx2 hb2)
    | (go_at_call 9; refine (HP.out _).mono ?_; rintro e w3 ⟨rfl, ht3⟩; have hx3 := ht3.held HX2.out id; have hb3 := ht3.held HB2.out id; clear c0 c1 c2 c3 c4 c5 d0 d1 d2 d3 d4 d5))
  refine wp_region_quiet_touch (fun _ => False) (by kernel_rfl) (by kernel_rfl) ?_
  obtain ⟨k0, k1, -, -, -, -⟩ := row6w hx3
  obtain ⟨m0, m1, m2, m3, m4, m5⟩ := row6w hb3
  have HX3 := Lib.hid hx3
  have HB3 := Lib.hid hb3
  clear hx3 hb3
  have HT3 := Lib.hid (((((Touch.refl (fun _ => False) _).alloc _).trans ht1).alloc _).trans (ht2.trans ht3))
  clear ht1 ht2 ht3 HX1 HX2 HB2
  repeat (go_big_quiet_step (first
    | (go_at_call 10; exact quiet_touch (HG.out _))
    | (go_at_call 11; exact quiet_touch_same (days_calls _ _ _))
    | (go_at_call 12; exact quiet_touch (refdays_calls _ _ _))))
  refine wpQuiet_nil ?_
  intro _ hw1
  obtain ⟨T, hw2⟩ := hw1
  subst hw2
  clear k0 k1 m0 m1 m2 m3 m4 m5
  have hT := T.ok
  generalize T.V = w4 at hT ⊢
  clear T
  have hb4 := hT.held HB3.out id
  obtain ⟨d0, d1, d2, d3, d4, d5⟩ := row6 hb4
  clear hb4
  go_wp2_with (go_at_call 13; refine (HN.out _).mono ?_; rintro e w5 ⟨rfl, ht5⟩)
  go_ret
  exact ⟨rfl, (HT3.out.trans hT).trans ht5⟩

set_option maxHeartbeats 4000000 in
theorem dpacks_good (t : Tim) (w : World) (hg : goodB t = true) : Calls Try.prog 3 #[t.v] w fun e w' => e = .returned (.bool true) ∧ Touch (fun _ => False) w w' := by
  have hG := (good_iff t).1 hg
  have HR := Lib.hid (fun W => (refgood_calls t W).mono fun e w' (h : e = .returned (.bool (goodB t)) ∧ Touch (fun _ => False) W w') => (show e = .returned (.bool true) ∧ Touch (fun _ => False) W w' by rw [hg] at h; exact h))
  have HP := Lib.hid (fun W => pack_good t W hg)
  have HG := Lib.hid (fun W => good_b true t W hg)
  have HN := Lib.hid (fun W => number_good t W hG)
  have HO := Lib.hid (fun W => of_calls t W hG)
  have HU : RowKit.Hid (∀ W, Calls Try.prog 14 #[.int .u64 (dateN t), .int .u64 (timeN t)] W fun e w' => e = .returned (.tuple #[t.v, .bool true]) ∧ Touch (fun _ => False) W w') := Lib.hid (fun W => by
    obtain ⟨a, b, e1, e2, e3, h1, h2⟩ := unp_pack t hG
    have := unpack_good a b W (by omega) (by omega) (by rw [e3]; exact hg)
    rw [e3] at this
    rw [e1, e2]
    exact this)
  have hdm := dim_bd t.y t.mo
  obtain ⟨a1, a2, a3, a4, a5, a6, a7, a8, a9, a10, a11, a12, a13⟩ := hG
  have hd31 : t.d ≤ 31 := by omega
  clear hg hdm a6 a13
  generalize numI t = N at *
  unfold dateN timeN at *
  obtain ⟨y, mo, d, hh, mi, s⟩ := t
  unfold Tim.v at *
  simp only at *
  go_enter Try.func3, Try.ntmps3
  go_upto_region 6 with (first
    | (go_at_call 7; refine (speaks11_calls _).mono ?_; rintro e w1 ⟨rfl, ht1⟩; obtain ⟨c0, c1, c2, c3, c4, c5, hx1, _⟩ := box6 ht1; have HX1 := Lib.hid hx1; clear hx1)
    | (go_at_call 8; refine (HR.out _).mono ?_; rintro e w2 ⟨rfl, ht2⟩; clear c0 c1 c2 c3 c4 c5; have hx2 := (((Touch.refl (fun _ => False) _).alloc _).trans ht2).held HX1.out id; obtain ⟨c0, c1, c2, c3, c4, c5⟩ := row6 hx2; obtain ⟨d0, d1, d2, d3, d4, d5, hb2, _⟩ := box6 ht2; have HX2 := Lib.hid hx2; have HB2 := Lib.hid hb2; clear hx2 hb2)
    | (go_at_call 9; refine (HP.out _).mono ?_; rintro e w3 ⟨rfl, ht3⟩; have hx3 := ht3.held HX2.out id; have hb3 := ht3.held HB2.out id; clear c0 c1 c2 c3 c4 c5 d0 d1 d2 d3 d4 d5))
  refine wp_region_quiet_touch (fun _ => False) (by kernel_rfl) (by kernel_rfl) ?_
  obtain ⟨k0, k1, -, -, -, -⟩ := row6w hx3
  obtain ⟨m0, m1, m2, m3, m4, m5⟩ := row6w hb3
  have HX3 := Lib.hid hx3
  have HB3 := Lib.hid hb3
  clear hx3 hb3
  have HT3 := Lib.hid (((((Touch.refl (fun _ => False) _).alloc _).trans ht1).alloc _).trans (ht2.trans ht3))
  clear ht1 ht2 ht3 HX1 HX2 HB2
  repeat (go_big_quiet_step (first
    | (go_at_call 10; exact quiet_touch (HG.out _))
    | (go_at_call 11; exact quiet_touch_same (days_calls _ _ _))
    | (go_at_call 12; exact quiet_touch (refdays_calls _ _ _))))
  refine wpQuiet_nil ?_
  intro _ hw1
  obtain ⟨T, hw2⟩ := hw1
  subst hw2
  clear k0 k1 m0 m1 m2 m3 m4 m5
  have hT := T.ok
  generalize T.V = w4 at hT ⊢
  clear T
  have hb4 := hT.held HB3.out id
  have hx4 := hT.held HX3.out id
  obtain ⟨d0, d1, d2, d3, d4, d5⟩ := row6 hb4
  obtain ⟨c0, c1, c2, c3, c4, c5⟩ := row6 hx4
  have HX4 := Lib.hid hx4
  have HB4 := Lib.hid hb4
  have HT4 := Lib.hid (HT3.out.trans hT)
  clear hb4 hx4 hT
  go_wp2_with (first
    | (go_at_call 14; refine (HU.out _).mono ?_; rintro e w5 ⟨rfl, ht5⟩; clear c0 c1 c2 c3 c4 c5 d0 d1 d2 d3 d4 d5; have hx5 := ht5.held HX4.out id; have hb5 := ht5.held HB4.out id; obtain ⟨d0, d1, d2, d3, d4, d5⟩ := row6 hb5; have hl5 := row_lt hb5; have HX5 := Lib.hid hx5; have HB5 := Lib.hid hb5; have HT5 := Lib.hid (HT4.out.trans ht5); clear hx5 hb5 ht5)
    | (go_at_call 13; refine (HN.out _).mono ?_; rintro e w6 ⟨rfl, ht6⟩; clear d0 d1 d2 d3 d4 d5; have hta := ((Touch.refl (fun _ => False) _).alloc _).trans ht6; have hx6 := hta.held HX5.out id; have hb6 := hta.held HB5.out id; obtain ⟨_, _, _, _, _, _, hu6, _⟩ := box6 ht6; have HX6 := Lib.hid hx6; have HB6 := Lib.hid hb6; have HU6 := Lib.hid hu6; have HT6 := Lib.hid (HT5.out.trans hta); clear hx6 hb6 hu6 hta ht6)
    | (go_at_call 15; refine (HO.out _).mono ?_; rintro e w7 ⟨rfl, ht7⟩; obtain ⟨c0, c1, c2, c3, c4, c5⟩ := row6 (ht7.held HX6.out id); obtain ⟨d0, d1, d2, d3, d4, d5⟩ := row6 (ht7.held HB6.out id); obtain ⟨u0, u1, u2, u3, u4, u5⟩ := row6 (ht7.held HU6.out id); have l1 := row_lt (ht7.held HX6.out id); have l2 := row_lt (ht7.held HB6.out id); have l3 := row_lt (ht7.held HU6.out id); have HT7 := Lib.hid (HT6.out.trans ht7); clear ht7))
  all_goals go_ret
  all_goals exact ⟨rfl, HT7.out.alloc _⟩

theorem dpacks_calls (t : Tim) (w : World) : Calls Try.prog 3 #[t.v] w fun e w' => e = .returned (.bool true) ∧ Touch (fun _ => False) w w' := by
  cases h : goodB t
  · exact dpacks_bad t w h
  · exact dpacks_good t w h
end Go.Proofs.Ytbhjeolhndpnfaa

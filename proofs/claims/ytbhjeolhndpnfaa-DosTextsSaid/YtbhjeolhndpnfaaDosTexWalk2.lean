/- The walk of layer 11's statement that any time is told by a text, and any text as a time, or not: at a time that may be. -/
import Derived.Test.YtbhjeolhndpnfaaDosTexWalk
namespace Go.Proofs.Ytbhjeolhndpnfaa
open Go Go.RowKit
set_option maxRecDepth 100000

/-- The days of the week go on. -/
theorem week_next (t : Tim) (h : Good t) (g : Good (nextT t)) (e : numI (nextT t) = numI t + 43200) : (2 + daysA (nextT t)) % 7 = ((2 + daysA t) % 7 + 1) % 7 := by
  obtain ⟨-, -, e1, -⟩ := num_bd t h
  obtain ⟨-, -, e2, -⟩ := num_bd (nextT t) g
  rw [← e1, ← e2, e]
  omega

set_option maxHeartbeats 8000000 in
theorem dtexts_good (t : Tim) (s : ByteArray) (w : World) (hG : Good t) : Calls Try.prog 6 #[t.v, .string s] w fun e w' => e = .returned (.bool true) ∧ Touch (fun _ => False) w w' := by
  have hg := (good_iff t).2 hG
  have HR := Lib.hid (fun W => (refgood_calls t W).mono fun e w' (h : e = .returned (.bool (goodB t)) ∧ Touch (fun _ => False) W w') => (show e = .returned (.bool true) ∧ Touch (fun _ => False) W w' by rw [hg] at h; exact h))
  have HX := Lib.hid (fun W => text_good t W hG)
  have htx : txtB (parseT (textB t)) = textB t := by rw [parse_text t hG]; unfold txtB; rw [if_pos hg]
  have HQ : RowKit.Hid (∀ W, Calls Try.prog 19 #[.string (textB t)] W fun e w' => e = .returned (.tuple #[t.v, .bool true]) ∧ Touch (fun _ => False) W w') := Lib.hid (fun W => by
    have := parse_long (textB t) true W (textB_size t) (by simpa using htx)
    rwa [if_pos rfl, parse_text t hG] at this)
  have hxz : ((textB t).size : Int) = 19 := by rw [textB_size]; rfl
  have HN := Lib.hid (fun W => next_calls t W hG)
  have HD := Lib.hid (fun W => weekday_good t W hG)
  have HA := Lib.hid (fun W => ahead_self t W)
  obtain ⟨k, hk⟩ : ∃ k : Nat, k = min s.size 30 := ⟨_, rfl⟩
  have k0 : (if (30 : Int) < (s.size : Int) then (30 : Int) else (s.size : Int)) = (k : Int) := by split <;> omega
  have k1 : min (s.size : Int) 30 = (k : Int) := by omega
  have k2 : k ≤ s.size := by omega
  have k3 : (k : Int) ≤ (s.size : Int) := by omega
  obtain ⟨S, hS⟩ : ∃ S, s.extract 0 k = S := ⟨_, rfl⟩
  obtain ⟨u, ok, c, d, hT⟩ := told_any S
  have HP := Lib.hid hT.parse
  have HU := Lib.hid (fun W => text_calls u W)
  have hsame := hT.same
  have hemp := hT.empty
  have HKIND := Lib.hid hT.kind
  clear hT hk hg htx
  generalize txtB u = X at *
  generalize textB t = Xt at *
  -- what the next day is
  have hnx := next_good t hG
  have HW : RowKit.Hid ((goodB (nextT t) = false) ∨ (goodB (nextT t) = true ∧ Good (nextT t) ∧ numI (nextT t) = numI t + 43200 ∧ (2 + daysA (nextT t)) % 7 = ((2 + daysA t) % 7 + 1) % 7)) := Lib.hid (by
    rcases hnx with ⟨g, e⟩ | ⟨e, -⟩
    · exact .inr ⟨(good_iff _).2 g, g, e, week_next t hG g e⟩
    · refine .inl ?_
      cases h : goodB (nextT t)
      · rfl
      · have := ((good_iff _).1 h).y1
        omega)
  clear hnx
  have HE : RowKit.Hid ((∃ W' : Int, goodB (nextT t) = true ∧ (∀ W, Calls Try.prog 18 #[(nextT t).v] W fun e w' => e = .returned (.int .i64 (((2 + daysA t) % 7 + 1) % 7)) ∧ Touch (fun _ => False) W w') ∧
      (∀ W, Calls Try.prog 20 #[t.v, (nextT t).v] W fun e w' => e = .returned (.bool true) ∧ Touch (fun _ => False) W w') ∧
      (∀ W, Calls Try.prog 20 #[(nextT t).v, t.v] W fun e w' => e = .returned (.bool false) ∧ Touch (fun _ => False) W w')) ∨ goodB (nextT t) = false) := Lib.hid (by
    rcases HW.out with h | ⟨h1, h2, h3, h4⟩
    · exact .inr h
    · refine .inl ⟨0, h1, fun W => ?_, fun W => ahead_both _ _ _ W hG h2 (by simp; omega), fun W => ahead_both _ _ _ W h2 hG (by simp; omega)⟩
      have := weekday_good _ W h2
      rwa [h4] at this)
  clear HW hG
  have HGN := Lib.hid (fun b (h : goodB (nextT t) = b) W => good_b b (nextT t) W h)
  obtain ⟨dw, hdw⟩ : ∃ dw, (2 + daysA t) % 7 = dw := ⟨_, rfl⟩
  have hw0 : 0 ≤ dw := by omega
  have hw1 : dw < 7 := by omega
  rw [hdw] at HD HE
  clear hdw
  generalize nextT t = N at *
  obtain ⟨y, mo, dd, hh, mi, ss⟩ := t
  obtain ⟨y2, mo2, d2, h2, mi2, s2⟩ := N
  unfold Tim.v at *
  simp only at *
  go_enter Try.func6, Try.ntmps6
  go_upto_region 12 with (first
    | (go_at_call 7; refine (speaks11_calls _).mono ?_; rintro e w1 ⟨rfl, gt1⟩; obtain ⟨c0, c1, c2, c3, c4, c5, hx1, hl1⟩ := box6 gt1; have HX1 := Lib.hid hx1; clear hx1)
    | (go_at_call 17; with_reducible refine (HX.out _).mono ?_; rintro e v2 ⟨rfl, gt2⟩; clear c0 c1 c2 c3 c4 c5; have hx2 := (((Touch.refl (fun _ => False) _).alloc _).trans gt2).held HX1.out id; obtain ⟨c0, c1, c2, c3, c4, c5⟩ := row6 hx2; have HX2 := Lib.hid hx2; obtain ⟨-, -, -, -, -, -, hb2, hl2⟩ := box6 gt2; have HB2 := Lib.hid hb2; clear hb2 hx2)
    | (go_at_call 8; refine (HR.out _).mono ?_; rintro e v3 ⟨rfl, gt3⟩; clear c0 c1 c2 c3 c4 c5; have HB3 := Lib.hid (gt3.held HB2.out id); have HX3 := Lib.hid (gt3.held HX2.out id))
    | (go_at_call 19; with_reducible refine (HQ.out _).mono ?_; rintro e v4 ⟨rfl, gt4⟩; have hb4 := gt4.held HB3.out id; have hx4 := gt4.held HX3.out id; obtain ⟨c0, c1, c2, c3, c4, c5⟩ := row6 hb4; obtain ⟨x0, x1, x2, x3, x4, x5⟩ := row6 hx4; have hl4 := row_lt hb4; have hl4' := row_lt hx4; have HBV4 := Lib.hid hb4; clear hb4 hx4)
    | (go_at_call 16; refine (HN.out _).mono ?_; rintro e v5 ⟨rfl, gt5⟩; clear c0 c1 c2 c3 c4 c5 x0 x1 x2 x3 x4 x5; have HBV5 := Lib.hid ((((Touch.refl (fun _ => False) _).alloc _).trans gt5).held HBV4.out id)))
  have hT0 := ((((((Touch.refl (fun _ => False) w).alloc (.cells #[.int .i64 y, .int .i64 mo, .int .i64 dd, .int .i64 hh, .int .i64 mi, .int .i64 ss] 23)).trans gt1).alloc (.cells #[.int .i64 y, .int .i64 mo, .int .i64 dd, .int .i64 hh, .int .i64 mi, .int .i64 ss] 25)).trans (gt2.trans (gt3.trans gt4))).alloc (.cells #[.int .i64 y, .int .i64 mo, .int .i64 dd, .int .i64 hh, .int .i64 mi, .int .i64 ss] 25)).trans gt5
  have hT0 := hT0.alloc (.cells #[.int .i64 y2, .int .i64 mo2, .int .i64 d2, .int .i64 h2, .int .i64 mi2, .int .i64 s2] 25)
  have hnb := heap_alloc_new v5 (.cells #[.int .i64 y2, .int .i64 mo2, .int .i64 d2, .int .i64 h2, .int .i64 mi2, .int .i64 s2] 25)
  have htb := ((Touch.refl (fun _ => False) v5).alloc (.cells #[.int .i64 y2, .int .i64 mo2, .int .i64 d2, .int .i64 h2, .int .i64 mi2, .int .i64 s2] 25)).held HBV5.out id
  refine wp_region_quiet_touch (fun _ => False) (by kernel_rfl) (by kernel_rfl) ?_
  clear gt1 gt2 gt3 gt4 gt5 hxz
  generalize v5.alloc (.cells #[.int .i64 y2, .int .i64 mo2, .int .i64 d2, .int .i64 h2, .int .i64 mi2, .int .i64 s2] 25) = v6 at *
  obtain ⟨n0, n1, n2, n3, n4, n5⟩ := row6w hnb
  obtain ⟨m0, m1, m2, m3, m4, m5⟩ := row6w htb
  have HTB := Lib.hid htb
  have HT0 := Lib.hid hT0
  clear hnb htb hT0
  have hsum : (dw + 1) % 7 = (dw + 1) % 7 := rfl
  clear hsum
  rcases HE.out with ⟨-, hgn, hwd, ha1, ha2⟩ | hgn
  · have HGn := Lib.hid (fun W => HGN.out _ hgn W)
    have HWD := Lib.hid hwd
    have HA1 := Lib.hid ha1
    have HA2 := Lib.hid ha2
    clear hgn hwd ha1 ha2
    repeat (go_big_quiet_step (first
      | (go_at_call 10; exact quiet_touch (HGn.out _))
      | (go_at_call 18; first | with_reducible exact quiet_touch (HWD.out _) | with_reducible exact quiet_touch (HD.out _))
      | (go_at_call 20; first | with_reducible exact quiet_touch (HA1.out _) | with_reducible exact quiet_touch (HA2.out _))))
    refine wpQuiet_nil ?_
    intro _ hz1
    obtain ⟨T, hz2⟩ := hz1
    subst hz2
    clear n0 n1 n2 n3 n4 n5 m0 m1 m2 m3 m4 m5
    have hT := T.ok
    generalize T.V = w4 at hT ⊢
    clear T
    have HB4 := Lib.hid (hT.held HTB.out id)
    rcases HKIND.out with ⟨rfl, rfl, rfl⟩ | ⟨rfl, rfl, ⟨rfl, rfl⟩ | ⟨rfl, rfl⟩⟩
    · obtain ⟨y', mo', dd', hh', mi', ss'⟩ := u
      simp only at *
      go_wp2_with (first
        |  (go_at_call 19; with_reducible refine (HP.out _).mono ?_; rintro e w5 ⟨rfl, ht5⟩; have HB5 := Lib.hid (ht5.held HB4.out id); have hl5 := row_lt HB5.out)
        | (go_at_call 17; with_reducible refine (HU.out _).mono ?_; rintro e w6 ⟨rfl, ht6⟩; have HB6 := Lib.hid (((((Touch.refl (fun _ => False) _).alloc _).alloc _).trans ht6).held HB5.out id); obtain ⟨u0, u1, u2, u3, u4, u5, hu6, -⟩ := box6 (((Touch.refl (fun _ => False) _).alloc _).trans ht6); obtain ⟨f0, f1, f2, f3, f4, f5, hf6, -⟩ := box6b ht6; have HU6 := Lib.hid hu6; have HF6 := Lib.hid hf6; clear hu6 hf6)
        | (go_at_call 18; with_reducible refine (first_day _).mono ?_; rintro e w7 ⟨rfl, ht7⟩; clear f0 f1 f2 f3 f4 f5 u0 u1 u2 u3 u4 u5; obtain ⟨f0, f1, f2, f3, f4, f5⟩ := row6 (ht7.held HF6.out id))
        | (go_at_call 17; with_reducible refine (first_text _).mono ?_; rintro e w8 ⟨rfl, ht8⟩; clear f0 f1 f2 f3 f4 f5; obtain ⟨c0, c1, c2, c3, c4, c5⟩ := row6 (ht8.held (ht7.held HB6.out id) id))
        | (go_at_call 20; with_reducible refine (HA.out _).mono ?_; rintro e w9 ⟨rfl, ht9⟩))
      go_ret
      exact ⟨rfl, (((((((HT0.out.trans hT).trans ht5).alloc _).alloc _).trans ht6).trans ht7).trans ht8).trans ht9⟩
    all_goals
      unfold Tim.zero at *
      simp only at *
      go_wp2_with (first
        |  (go_at_call 19; with_reducible refine (HP.out _).mono ?_; rintro e w5 ⟨rfl, ht5⟩; have HB5 := Lib.hid (ht5.held HB4.out id); have hl5 := row_lt HB5.out)
        | (go_at_call 17; with_reducible refine (HU.out _).mono ?_; rintro e w6 ⟨rfl, ht6⟩; have HB6 := Lib.hid (((((Touch.refl (fun _ => False) _).alloc _).alloc _).trans ht6).held HB5.out id); obtain ⟨u0, u1, u2, u3, u4, u5, hu6, -⟩ := box6 (((Touch.refl (fun _ => False) _).alloc _).trans ht6); obtain ⟨f0, f1, f2, f3, f4, f5, hf6, -⟩ := box6b ht6; have HU6 := Lib.hid hu6; have HF6 := Lib.hid hf6; clear hu6 hf6)
        | (go_at_call 18; with_reducible refine (first_day _).mono ?_; rintro e w7 ⟨rfl, ht7⟩; clear f0 f1 f2 f3 f4 f5 u0 u1 u2 u3 u4 u5; obtain ⟨f0, f1, f2, f3, f4, f5⟩ := row6 (ht7.held HF6.out id))
        | (go_at_call 17; with_reducible refine (first_text _).mono ?_; rintro e w8 ⟨rfl, ht8⟩; clear f0 f1 f2 f3 f4 f5; obtain ⟨c0, c1, c2, c3, c4, c5⟩ := row6 (ht8.held (ht7.held HB6.out id) id))
        | (go_at_call 20; with_reducible refine (HA.out _).mono ?_; rintro e w9 ⟨rfl, ht9⟩))
      go_ret
      exact ⟨rfl, (((((((HT0.out.trans hT).trans ht5).alloc _).alloc _).trans ht6).trans ht7).trans ht8).trans ht9⟩
  · have HGn := Lib.hid (fun W => HGN.out _ hgn W)
    clear hgn
    repeat (go_big_quiet_step (first
      | (go_at_call 10; exact quiet_touch (HGn.out _))))
    refine wpQuiet_nil ?_
    intro _ hz1
    obtain ⟨T, hz2⟩ := hz1
    subst hz2
    clear n0 n1 n2 n3 n4 n5 m0 m1 m2 m3 m4 m5
    have hT := T.ok
    generalize T.V = w4 at hT ⊢
    clear T
    have HB4 := Lib.hid (hT.held HTB.out id)
    rcases HKIND.out with ⟨rfl, rfl, rfl⟩ | ⟨rfl, rfl, ⟨rfl, rfl⟩ | ⟨rfl, rfl⟩⟩
    · obtain ⟨y', mo', dd', hh', mi', ss'⟩ := u
      simp only at *
      go_wp2_with (first
        |  (go_at_call 19; with_reducible refine (HP.out _).mono ?_; rintro e w5 ⟨rfl, ht5⟩; have HB5 := Lib.hid (ht5.held HB4.out id); have hl5 := row_lt HB5.out)
        | (go_at_call 17; with_reducible refine (HU.out _).mono ?_; rintro e w6 ⟨rfl, ht6⟩; have HB6 := Lib.hid (((((Touch.refl (fun _ => False) _).alloc _).alloc _).trans ht6).held HB5.out id); obtain ⟨u0, u1, u2, u3, u4, u5, hu6, -⟩ := box6 (((Touch.refl (fun _ => False) _).alloc _).trans ht6); obtain ⟨f0, f1, f2, f3, f4, f5, hf6, -⟩ := box6b ht6; have HU6 := Lib.hid hu6; have HF6 := Lib.hid hf6; clear hu6 hf6)
        | (go_at_call 18; with_reducible refine (first_day _).mono ?_; rintro e w7 ⟨rfl, ht7⟩; clear f0 f1 f2 f3 f4 f5 u0 u1 u2 u3 u4 u5; obtain ⟨f0, f1, f2, f3, f4, f5⟩ := row6 (ht7.held HF6.out id))
        | (go_at_call 17; with_reducible refine (first_text _).mono ?_; rintro e w8 ⟨rfl, ht8⟩; clear f0 f1 f2 f3 f4 f5; obtain ⟨c0, c1, c2, c3, c4, c5⟩ := row6 (ht8.held (ht7.held HB6.out id) id))
        | (go_at_call 20; with_reducible refine (HA.out _).mono ?_; rintro e w9 ⟨rfl, ht9⟩))
      go_ret
      exact ⟨rfl, (((((((HT0.out.trans hT).trans ht5).alloc _).alloc _).trans ht6).trans ht7).trans ht8).trans ht9⟩
    all_goals
      unfold Tim.zero at *
      simp only at *
      go_wp2_with (first
        |  (go_at_call 19; with_reducible refine (HP.out _).mono ?_; rintro e w5 ⟨rfl, ht5⟩; have HB5 := Lib.hid (ht5.held HB4.out id); have hl5 := row_lt HB5.out)
        | (go_at_call 17; with_reducible refine (HU.out _).mono ?_; rintro e w6 ⟨rfl, ht6⟩; have HB6 := Lib.hid (((((Touch.refl (fun _ => False) _).alloc _).alloc _).trans ht6).held HB5.out id); obtain ⟨u0, u1, u2, u3, u4, u5, hu6, -⟩ := box6 (((Touch.refl (fun _ => False) _).alloc _).trans ht6); obtain ⟨f0, f1, f2, f3, f4, f5, hf6, -⟩ := box6b ht6; have HU6 := Lib.hid hu6; have HF6 := Lib.hid hf6; clear hu6 hf6)
        | (go_at_call 18; with_reducible refine (first_day _).mono ?_; rintro e w7 ⟨rfl, ht7⟩; clear f0 f1 f2 f3 f4 f5 u0 u1 u2 u3 u4 u5; obtain ⟨f0, f1, f2, f3, f4, f5⟩ := row6 (ht7.held HF6.out id))
        | (go_at_call 17; with_reducible refine (first_text _).mono ?_; rintro e w8 ⟨rfl, ht8⟩; clear f0 f1 f2 f3 f4 f5; obtain ⟨c0, c1, c2, c3, c4, c5⟩ := row6 (ht8.held (ht7.held HB6.out id) id))
        | (go_at_call 20; with_reducible refine (HA.out _).mono ?_; rintro e w9 ⟨rfl, ht9⟩))
      go_ret
      exact ⟨rfl, (((((((HT0.out.trans hT).trans ht5).alloc _).alloc _).trans ht6).trans ht7).trans ht8).trans ht9⟩

theorem dtexts_calls (t : Tim) (s : ByteArray) (w : World) : Calls Try.prog 6 #[t.v, .string s] w fun e w' => e = .returned (.bool true) ∧ Touch (fun _ => False) w w' := by
  cases h : goodB t
  · exact dtexts_bad t s w h
  · exact dtexts_good t s w ((good_iff t).1 h)
end Go.Proofs.Ytbhjeolhndpnfaa

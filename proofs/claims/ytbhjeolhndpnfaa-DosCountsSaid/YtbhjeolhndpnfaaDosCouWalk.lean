/- The walk of layer 11's statement that times are counted, two seconds by two, day by day. -/
import Derived.Test.YtbhjeolhndpnfaaDosH
import Derived.Laws.Bits128
namespace Go.Proofs.Ytbhjeolhndpnfaa
open Go Go.RowKit
set_option maxRecDepth 100000

theorem sec_next (t u : Tim) (h : Good t) (g : Good u) (e : numI u = numI t + 1) : (t.s + 2) % 60 = u.s := by
  have h1 := h.s0; have h2 := h.s1; have h3 := h.s2
  have g1 := g.s0; have g2 := g.s1; have g3 := g.s2
  unfold numI at e
  omega

set_option maxHeartbeats 1000000 in
theorem dcounts_none (n z : Int) (w : World) (h : n < 0 ∨ 2019643200 ≤ n) (hi : n ≤ 9223372036854775807) : Calls Try.prog 5 #[.int .i64 n, .int .i64 z] w fun e w' => e = .returned (.bool true) ∧ Touch (fun _ => False) w w' := by
  have HO : RowKit.Hid (∀ W, Calls Try.prog 15 #[.int .i64 n] W fun e w' => e = .returned (.tuple #[Tim.zero.v, .bool false]) ∧ Touch (fun _ => False) W w') := Lib.hid (fun W => by
    rcases h with h | h
    · exact of_neg n W h
    · exact of_big n W h hi)
  unfold Tim.zero Tim.v at HO
  simp only at HO
  rcases h with h | h
  · go_enter Try.func5, Try.ntmps5
    go_wp2_with (first
      | (go_at_call 7; refine (speaks11_calls _).mono ?_; rintro e w1 ⟨rfl, ht1⟩)
      | (go_at_call 15; refine (HO.out _).mono ?_; rintro e w2 ⟨rfl, ht2⟩))
    go_ret
    exact ⟨rfl, (ht1.trans ht2).alloc _⟩
  · have hn : ¬ n < 0 := by omega
    go_enter Try.func5, Try.ntmps5
    go_wp2_with (first
      | (go_at_call 7; refine (speaks11_calls _).mono ?_; rintro e w1 ⟨rfl, ht1⟩)
      | (go_at_call 15; refine (HO.out _).mono ?_; rintro e w2 ⟨rfl, ht2⟩))
    go_ret
    exact ⟨rfl, (ht1.trans ht2).alloc _⟩

set_option maxHeartbeats 4000000 in
theorem dcounts_some (t : Tim) (z : Int) (w : World) (h : Good t) : Calls Try.prog 5 #[.int .i64 (numI t), .int .i64 z] w fun e w' => e = .returned (.bool true) ∧ Touch (fun _ => False) w w' := by
  have HO := Lib.hid (fun W => of_calls t W h)
  have HN := Lib.hid (fun W => number_good t W h)
  have HG := Lib.hid (fun W => good_b true t W ((good_iff t).2 h))
  obtain ⟨n1, n2, -, -⟩ := num_bd t h
  have HS := Lib.hid (fun u (g : Good u) e => sec_next t u h g e)
  have hz := Go.i64_and127 z
  obtain ⟨N, hN⟩ : ∃ N : Nat, z % 128 = N := ⟨(z % 128).toNat, by omega⟩
  have hN' : N < 128 := by omega
  rw [hN] at hz
  clear hN
  have hs0 := h.s0
  have hs1 := h.s1
  generalize hn : numI t = n at *
  have HT := Lib.hid (And.intro h hn)
  clear h hn
  obtain ⟨y, mo, d, hh, mi, s⟩ := t
  unfold Tim.v at *
  simp only at *
  have hn0 : decide (n < 0) = false := by simp; omega
  have hn1 : ¬ 2019643200 ≤ n := by omega
  go_enter Try.func5, Try.ntmps5
  go_wp2_with (first
    | (go_at_call 7; refine (speaks11_calls _).mono ?_; rintro e w1 ⟨rfl, ht1⟩)
    | (go_at_call 15; refine (HO.out _).mono ?_; rintro e w2 ⟨rfl, ht2⟩)
    | (go_at_call 13; refine (HN.out _).mono ?_; rintro e w3 ⟨rfl, ht3⟩; obtain ⟨c0, c1, c2, c3, c4, c5, hb3, hl3⟩ := box6 ht3; have HB3 := Lib.hid hb3; clear hb3)
    | (go_at_call 10; refine (HG.out _).mono ?_; rintro e w4 ⟨rfl, ht4⟩; clear c0 c1 c2 c3 c4 c5; have hb4 := ht4.held HB3.out id; obtain ⟨c0, c1, c2, c3, c4, c5⟩ := row6 hb4; have hl4 := row_lt hb4; have HB4 := Lib.hid hb4; clear hb4))
  have hxb := heap_alloc_new w4 (.cells #[.int .i64 y, .int .i64 mo, .int .i64 d, .int .i64 hh, .int .i64 mi, .int .i64 s] 27)
  have htb := ((Touch.refl (fun _ => False) w4).alloc (.cells #[.int .i64 y, .int .i64 mo, .int .i64 d, .int .i64 hh, .int .i64 mi, .int .i64 s] 27)).held HB4.out id
  have hT := ((((ht1.trans ht2).alloc (.cells #[.int .i64 y, .int .i64 mo, .int .i64 d, .int .i64 hh, .int .i64 mi, .int .i64 s] 25)).trans ht3).trans ht4).alloc (.cells #[.int .i64 y, .int .i64 mo, .int .i64 d, .int .i64 hh, .int .i64 mi, .int .i64 s] 27)
  have hsz := (ht1.trans ht2).size
  have hsz4 : w.heap.size ≤ w4.heap.size := (((ht1.trans ht2).alloc _).trans (ht3.trans ht4)).size
  clear ht1 ht2 ht3 ht4 c0 c1 c2 c3 c4 c5 hl3 HB3 HB4 hn0 hn1
  generalize w4.alloc (.cells #[.int .i64 y, .int .i64 mo, .int .i64 d, .int .i64 hh, .int .i64 mi, .int .i64 s] 27) = wb at *
  obtain ⟨BT, hBT⟩ : ∃ B, w2.heap.size = B := ⟨_, rfl⟩
  obtain ⟨BX, hBX⟩ : ∃ B, w4.heap.size = B := ⟨_, rfl⟩
  rw [hBT] at htb hl4 hsz ⊢
  rw [hBX] at hxb hl4 hsz4 ⊢
  clear hBT hBX
  have HTB := Lib.hid htb
  have HXB := Lib.hid hxb
  have HTW := Lib.hid hT
  clear htb hxb hT
  go_loopw [8] (fun i wr => ∃ (k : Nat) (x : Tim), k ≤ N ∧ i = .int .i64 (k : Int) ∧ Good x ∧ numI x = n + 43200 * (k : Int) ∧ wr.heap[BX]? = some (.cells #[.int .i64 x.y, .int .i64 x.mo, .int .i64 x.d, .int .i64 x.h, .int .i64 x.mi, .int .i64 x.s] 27) ∧ Touch (fun b => b = BX) wb wr) (fun i _ => N - (intOf i).toNat)
  case atStart => exact ⟨0, _, Nat.zero_le _, rfl, HT.out.1, by rw [HT.out.2]; simp, HXB.out, Touch.refl _ _⟩
  case round =>
    obtain ⟨k, x, hk, rfl, hx, hnx, hrow, htr⟩ := hrel
    have HROW := Lib.hid hrow
    have HTR := Lib.hid htr
    clear hrow htr
    by_cases hlt : k < N
    · have hlt' : (k : Int) < (N : Int) := by omega
      have HNX := Lib.hid (fun W => next_calls x W hx)
      have hng := next_good x hx
      rw [hnx] at hng
      clear hx hnx
      generalize nextT x = X at *
      obtain ⟨y1, mo1, d1, h1, mi1, s1⟩ := x
      obtain ⟨c0, c1, c2, c3, c4, c5⟩ := row6 HROW.out
      rcases hng with ⟨hX, hnX⟩ | ⟨hX, hnX⟩
      · have HOX := Lib.hid (fun W => of_calls X W hX)
        have hX' := hX
        rw [show n + 43200 * (k : Int) + 43200 = n + 43200 * ((k : Int) + 1) by omega] at hnX
        have HX := Lib.hid (And.intro hX hnX)
        rw [hnX] at HOX
        have hy := hX.y1
        clear hX hX' hnX
        obtain ⟨y2, mo2, d2, h2, mi2, s2⟩ := X
        unfold Tim.v at *
        simp only at *
        go_wp2_with (first
          | (go_at_call 16; refine (HNX.out _).mono ?_; rintro e w5 ⟨rfl, ht5⟩; clear c0 c1 c2 c3 c4 c5; have hr5 := ht5.held HROW.out id; obtain ⟨c0, c1, c2, c3, c4, c5⟩ := row6 hr5; have hf5 := box_free hr5; have HR5 := Lib.hid hr5; clear hr5)
          | (go_at_call 15; refine (HOX.out _).mono ?_; rintro e w6 ⟨rfl, ht6⟩; clear c0 c1 c2 c3 c4 c5 hf5; have hr6 := ht6.held (box_set6 HR5.out) id; obtain ⟨c0, c1, c2, c3, c4, c5⟩ := row6 hr6; have hl6 := row_lt hr6; have HR6 := Lib.hid hr6; clear hr6))
        go_roundw
        case rel => exact ⟨k + 1, ⟨y2, mo2, d2, h2, mi2, s2⟩, by omega, by go_num, HX.out.1, by rw [HX.out.2]; simp, ((Touch.refl (fun _ => False) _).alloc _).held HR6.out id, (((HTR.out.trans (ht5.mono (fun _ h => h.elim))).set6 (.inl rfl) _ _ _ _ _ _).trans (ht6.mono (fun _ h => h.elim))).alloc _⟩
        case measure => simp [intOf]; omega
      · have HOX := Lib.hid (fun W => of_big (n + 43200 * ((k : Int) + 1)) W (by omega) (by omega))
        have hy : 2107 < X.y := by omega
        clear hX hnX
        obtain ⟨y2, mo2, d2, h2, mi2, s2⟩ := X
        unfold Tim.zero Tim.v at *
        simp only at *
        go_wp2_with (first
          | (go_at_call 16; refine (HNX.out _).mono ?_; rintro e w5 ⟨rfl, ht5⟩; clear c0 c1 c2 c3 c4 c5; have hr5 := ht5.held HROW.out id; obtain ⟨c0, c1, c2, c3, c4, c5⟩ := row6 hr5; have hf5 := box_free hr5; have HR5 := Lib.hid hr5; clear hr5)
          | (go_at_call 15; refine (HOX.out _).mono ?_; rintro e w6 ⟨rfl, ht6⟩; clear c0 c1 c2 c3 c4 c5 hf5; have hr6 := ht6.held (box_set6 HR5.out) id; obtain ⟨c0, c1, c2, c3, c4, c5⟩ := row6 hr6; have hl6 := row_lt hr6; have HR6 := Lib.hid hr6; clear hr6))
        go_ret
        exact ⟨rfl, HTW.out.trans' ((((HTR.out.trans (ht5.mono (fun _ h => h.elim))).set6 (.inl rfl) _ _ _ _ _ _).trans (ht6.mono (fun _ h => h.elim))).alloc _) (fun i e => by subst e; exact .inr hsz4)⟩
    · obtain rfl : k = N := by omega
      clear hx hnx
      obtain ⟨b0, b1, b2, b3, b4, b5⟩ := row6 (HTR.out.held HTB.out (by omega))
      have hl := row_lt (HTR.out.held HTB.out (by omega))
      by_cases hlast : n + 1 < 2019643200
      · obtain ⟨u, hu, hnu⟩ := num_surj (n + 1) (by omega) hlast
        have HOU := Lib.hid (fun W => of_calls u W hu)
        have HNU := Lib.hid (fun W => number_good u W hu)
        have hsec := HS.out u hu (by rw [hnu])
        rw [hnu] at HOU HNU
        clear hu hnu
        obtain ⟨y2, mo2, d2, h2, mi2, s2⟩ := u
        unfold Tim.v at *
        simp only at *
        go_wp2_with (first
          | (go_at_call 15; refine (HOU.out _).mono ?_; rintro e w6 ⟨rfl, ht6⟩; obtain ⟨d0, d1, d2, d3, d4, d5⟩ := row6 (ht6.held (HTR.out.held HTB.out (by omega)) id))
          | (go_at_call 13; refine (HNU.out _).mono ?_; rintro e w7 ⟨rfl, ht7⟩; obtain ⟨e0, e1, e2, e3, e4, e5, _, _⟩ := box6 ht7; clear d0 d1 d2 d3 d4 d5; obtain ⟨d0, d1, d2, d3, d4, d5⟩ := row6 ((((Touch.refl (fun _ => False) _).alloc _).trans ht7).held (ht6.held (HTR.out.held HTB.out (by omega)) id) id)))
        go_ret
        exact ⟨rfl, HTW.out.trans' (((HTR.out.trans (ht6.mono (fun _ h => h.elim))).alloc _).trans (ht7.mono (fun _ h => h.elim))) (fun i e => by subst e; exact .inr hsz4)⟩
      · have HOU := Lib.hid (fun W => of_big (n + 1) W (by omega) (by omega))
        unfold Tim.zero Tim.v at HOU
        simp only at HOU
        go_wp2_with (first
          | (go_at_call 15; refine (HOU.out _).mono ?_; rintro e w6 ⟨rfl, ht6⟩))
        go_ret
        exact ⟨rfl, HTW.out.trans' ((HTR.out.trans (ht6.mono (fun _ h => h.elim))).alloc _) (fun i e => by subst e; exact .inr hsz4)⟩

theorem dcounts_calls (n z : Int) (w : World) (h : -9223372036854775808 ≤ n ∧ n ≤ 9223372036854775807) : Calls Try.prog 5 #[.int .i64 n, .int .i64 z] w fun e w' => e = .returned (.bool true) ∧ Touch (fun _ => False) w w' := by
  by_cases h' : n < 0 ∨ 2019643200 ≤ n
  · exact dcounts_none n z w h' h.2
  · obtain ⟨t, ht, rfl⟩ := num_surj n (by omega) (by omega)
    exact dcounts_some t z w ht
end Go.Proofs.Ytbhjeolhndpnfaa

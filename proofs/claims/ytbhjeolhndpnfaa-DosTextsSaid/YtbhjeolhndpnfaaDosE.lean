/- Contracts of package dos: how many times come ahead of one. -/
import Derived.Test.YtbhjeolhndpnfaaDosB
import Derived.Test.YtbhjeolhndpnfaaDosM
namespace Go.Proofs.Ytbhjeolhndpnfaa
open Go Go.RowKit
set_option maxRecDepth 100000

set_option maxHeartbeats 2000000 in
theorem ahead_calls (t : Tim) (w : World) (h : Good t) : Calls Try.prog 23 #[t.v] w fun e w' => e = .returned (.int .i64 (daysA t)) ∧ Touch (fun _ => False) w w' := by
  obtain ⟨k, m, a1, a2, a3, a4, a5, _, _, _, _, _⟩ := days_of t h
  have hd1 := h.d0
  have hd2 := h.d1
  have hdm := dim_bd t.y t.mo
  rw [a5]
  obtain ⟨y, mo, d, hh, mi, s⟩ := t
  simp only at *
  unfold Tim.v
  simp only
  subst a1 a3
  clear a5 h
  have hd3 : d ≤ 31 := by omega
  clear hd2 hdm
  go_enter Try.func23, Try.ntmps23
  go_wp2
  go_loop [3, 4] (fun n i => ∃ j : Nat, j ≤ m ∧ i = .int .i64 ((j : Int) + 1) ∧ n = .int .i64 (d - 1 + mdays (1980 + (k : Int)) j)) (fun _ i => m - (intOf i - 1).toNat)
  case atStart => exact ⟨0, Nat.zero_le _, rfl, by simp [mdays]⟩
  case round =>
    obtain ⟨j, hj, rfl, rfl⟩ := hrel
    have b1 := mdays_le (1980 + (k : Int)) j
    have b2 := mdays_nn (1980 + (k : Int)) j
    have b3 := dim_bd (1980 + (k : Int)) ((j : Int) + 1)
    by_cases hlt : j < m
    · have HS := Lib.hid (show mdays (1980 + (k : Int)) (j + 1) = mdays (1980 + (k : Int)) j + dimI (1980 + (k : Int)) ((j : Int) + 1) from rfl)
      go_wp2_with (go_at_call 11; refine (days_calls _ _ _).mono ?_; rintro e w' ⟨rfl, rfl⟩)
      go_round
      case rel => exact ⟨j + 1, by omega, by go_num, by rw [HS.out]; congr 1; omega⟩
      case measure => simp [intOf]; omega
    · obtain rfl : j = m := by omega
      clear b3
      go_wp2
      go_loop [3, 5] (fun n i => ∃ q : Nat, q ≤ k ∧ i = .int .i64 (1980 + (q : Int)) ∧ n = .int .i64 (d - 1 + mdays (1980 + (k : Int)) j + ydays q)) (fun _ i => k - (intOf i - 1980).toNat)
      case atStart => exact ⟨0, Nat.zero_le _, rfl, by simp [ydays]⟩
      case round =>
        obtain ⟨q, hq, rfl, rfl⟩ := hrel
        have b4 := ydays_le q
        have b5 := ydays_nn q
        have b6 := yd_bd (1980 + (q : Int))
        by_cases hlt2 : q < k
        · have HS := Lib.hid (show ydays (q + 1) = ydays q + ydI (1980 + (q : Int)) from rfl)
          go_wp2_with (go_at_call 25; refine (yearDays_calls _ _).mono ?_; rintro e w' ⟨rfl, rfl⟩)
          go_round
          case rel => exact ⟨q + 1, by omega, by go_num, by rw [HS.out]; congr 1; omega⟩
          case measure => simp [intOf]; omega
        · obtain rfl : q = k := by omega
          clear b6
          go_wp2
          go_ret
          exact ⟨rfl, (Touch.refl _ _).alloc _⟩

theorem number_bad (t : Tim) (w : World) (hb : goodB t = false) : Calls Try.prog 13 #[t.v] w fun e w' => e = .returned (.int .i64 (-1)) ∧ Touch (fun _ => False) w w' := by
  have HG := Lib.hid (fun W => good_b false t W hb)
  clear hb
  unfold Tim.v at *
  go_enter Try.func13, Try.ntmps13
  go_wp2_with (go_at_call 10; refine (HG.out _).mono ?_; rintro e w1 ⟨rfl, ht1⟩)
  go_ret
  exact ⟨rfl, ((Touch.refl _ _).alloc _).trans ht1⟩

set_option maxHeartbeats 2000000 in
theorem number_good (t : Tim) (w : World) (h : Good t) : Calls Try.prog 13 #[t.v] w fun e w' => e = .returned (.int .i64 (numI t)) ∧ Touch (fun _ => False) w w' := by
  have HG := Lib.hid (fun W => good_b true t W ((good_iff t).2 h))
  have HA := Lib.hid (fun W => ahead_calls t W h)
  obtain ⟨n1, n2, -, -⟩ := num_bd t h
  obtain ⟨k, m, -, -, -, -, -, -, -, -, e1, e2⟩ := days_of t h
  obtain ⟨a1, a2, a3, a4, a5, a6, a7, a8, a9, a10, a11, a12, a13⟩ := h
  have HN : RowKit.Hid (numI t = daysA t * 43200 + t.h * 1800 + t.mi * 30 + t.s / 2) := Lib.hid rfl
  generalize numI t = N at *
  generalize daysA t = D at *
  obtain ⟨y, mo, d, hh, mi, s⟩ := t
  unfold Tim.v at *
  simp only at *
  go_enter Try.func13, Try.ntmps13
  go_upto_region 3 with (first
    | (go_at_call 10; refine (HG.out _).mono ?_; rintro e w1 ⟨rfl, ht1⟩; obtain ⟨c0, c1, c2, c3, c4, c5, hr, hz⟩ := box6 ht1))
  refine wp_region_quiet_touch (fun _ => False) (by kernel_rfl) (by kernel_rfl) ?_
  have k0 : ∀ T : Wd (fun _ => False) w1, T.V.cell? ⟨w.heap.size, 0, none⟩ = some (.int .i64 y) := fun T => T.ok.cell c0 id
  have k1 : ∀ T : Wd (fun _ => False) w1, T.V.cell? ⟨w.heap.size, 1, none⟩ = some (.int .i64 mo) := fun T => T.ok.cell c1 id
  have k2 : ∀ T : Wd (fun _ => False) w1, T.V.cell? ⟨w.heap.size, 2, none⟩ = some (.int .i64 d) := fun T => T.ok.cell c2 id
  have k3 : ∀ T : Wd (fun _ => False) w1, T.V.cell? ⟨w.heap.size, 3, none⟩ = some (.int .i64 hh) := fun T => T.ok.cell c3 id
  have k4 : ∀ T : Wd (fun _ => False) w1, T.V.cell? ⟨w.heap.size, 4, none⟩ = some (.int .i64 mi) := fun T => T.ok.cell c4 id
  have k5 : ∀ T : Wd (fun _ => False) w1, T.V.cell? ⟨w.heap.size, 5, none⟩ = some (.int .i64 s) := fun T => T.ok.cell c5 id
  repeat (go_big_quiet_step ((go_at_call 23; exact quiet_touch (HA.out _))))
  refine wpQuiet_nil ?_
  intro _ hw1
  obtain ⟨T, hw2⟩ := hw1
  subst hw2
  clear k0 k1 k2 k3 k4 k5
  go_wp2
  go_ret
  refine ⟨ret_int ?_, (((Touch.refl _ _).alloc _).trans ht1).trans T.ok⟩
  rw [HN.out]
end Go.Proofs.Ytbhjeolhndpnfaa

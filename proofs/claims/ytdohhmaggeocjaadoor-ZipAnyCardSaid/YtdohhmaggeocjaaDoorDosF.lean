
/- Contracts of package dos: the time of a number. -/
import Derived.Test.YtdohhmaggeocjaaDoorDosE
import Derived.Test.YtdohhmaggeocjaaDoorDosD
namespace Go.Proofs.YtdohhmaggeocjaaDoor
open Go Go.RowKit
set_option maxRecDepth 100000
set_option maxRecDepth 100000

set_option maxHeartbeats 2000000 in
theorem of_calls (t : Tim) (w : World) (h : Good t) : Calls Tryd.prog 55 #[.int .i64 (numI t)] w fun e w' => e = .returned (.tuple #[t.v, .bool true]) ∧ Touch (fun _ => False) w w' := by
  obtain ⟨n1, n2, n3, n4⟩ := num_bd t h
  obtain ⟨k, m, a1, a2, a3, a4, a5, -, -, a8, e1, e2⟩ := days_of t h
  obtain ⟨-, -, -, -, q5, q6, q7, q8, q9, q10, q11, q12, q13⟩ := h
  have hdm := dim_bd t.y t.mo
  have hsm : dimI t.y t.mo = mdays t.y (m + 1) - mdays t.y m := by
    have : mdays t.y (m + 1) = mdays t.y m + dimI t.y ((m : Int) + 1) := rfl
    rw [a3]; omega
  have hml := mdays_le t.y m
  have hmn := mdays_nn t.y m
  have hkl := ydays_le k
  have hkn := ydays_nn k
  rw [a5] at n3
  clear a5 e1 e2
  generalize numI t = N at *
  obtain ⟨y, mo, d, hh, mi, s⟩ := t
  unfold Tim.v
  simp only at *
  subst a1 a3
  have hR0 : 0 ≤ N % 43200 := by omega
  have hR1 : N % 43200 < 43200 := by omega
  have r1 : N % 43200 / 1800 = hh := by omega
  have r2 : N % 1800 / 30 = mi := by omega
  have r3 : 2 * (N % 30) = s := by omega
  have HR := Lib.hid (And.intro r1 (And.intro r2 r3))
  have HD := Lib.hid n3
  have hyd := yd_bd (1980 + (k : Int))
  have hN0 : decide (N < 0) = false := by simpa using n1
  have HM := Lib.hid hsm
  have HDM := Lib.hid q6
  clear r1 r2 r3 n4 q13 n3 hsm hdm q6
  go_enter Tryd.func55, Tryd.ntmps55
  go_wp2
  clear hN0
  have hr := heap_alloc_new w (.cells #[.int .i64 0, .int .i64 0, .int .i64 0, .int .i64 0, .int .i64 0, .int .i64 0] 46)
  have hA := (Touch.refl (fun _ => False) w).alloc (.cells #[.int .i64 0, .int .i64 0, .int .i64 0, .int .i64 0, .int .i64 0, .int .i64 0] 46)
  have hrf := box_free hr
  have hA' := Lib.hid hA
  have hr' := Lib.hid hr
  clear hA hr
  go_loop [4, 6] (fun a b => ∃ j : Nat, j ≤ k ∧ b = .int .i64 (1980 + (j : Int)) ∧ a = .int .i64 (d - 1 + mdays (1980 + (k : Int)) m + ydays k - ydays j)) (fun _ b => k - (intOf b - 1980).toNat)
  case atStart => exact ⟨0, Nat.zero_le _, rfl, by rw [HD.out]; simp [ydays]⟩
  case round =>
    obtain ⟨j, hj, rfl, rfl⟩ := hrel
    have b4 := ydays_le j
    have b5 := ydays_nn j
    have b6 := yd_bd (1980 + (j : Int))
    have b7 := ydays_mono j k hj
    by_cases hlt : j < k
    · have HS := Lib.hid (show ydays (j + 1) = ydays j + ydI (1980 + (j : Int)) from rfl)
      have b8 := ydays_mono (j + 1) k hlt
      have b9 : ydI (1980 + (j : Int)) ≤ d - 1 + mdays (1980 + (k : Int)) m + ydays k - ydays j := by have := HS.out; omega
      clear b8
      go_wp2_with (go_at_call 78; refine (yearDays_calls _ _).mono ?_; rintro e w' ⟨rfl, rfl⟩)
      go_round
      case rel => exact ⟨j + 1, by omega, by go_num, by rw [HS.out]; congr 1; omega⟩
      case measure => simp [intOf]; omega
    · obtain rfl : j = k := by omega
      have b9 : ¬ ydI (1980 + (j : Int)) ≤ d - 1 + mdays (1980 + (j : Int)) m + ydays j - ydays j := by omega
      go_wp2_with (go_at_call 78; refine (yearDays_calls _ _).mono ?_; rintro e w' ⟨rfl, rfl⟩)
      clear b9 b4 b5 b6 b7
      go_loop [4, 7] (fun a b => ∃ q : Nat, q ≤ m ∧ b = .int .i64 ((q : Int) + 1) ∧ a = .int .i64 (d - 1 + mdays (1980 + (j : Int)) m - mdays (1980 + (j : Int)) q)) (fun _ b => m - (intOf b - 1).toNat)
      case atStart => exact ⟨0, Nat.zero_le _, rfl, by simp [mdays]⟩
      case round =>
        obtain ⟨q, hq, rfl, rfl⟩ := hrel
        have b4 := mdays_le (1980 + (j : Int)) q
        have b5 := mdays_nn (1980 + (j : Int)) q
        have b6 := dim_bd (1980 + (j : Int)) ((q : Int) + 1)
        have b7 := mdays_mono (1980 + (j : Int)) q m hq
        by_cases hlt2 : q < m
        · have HS := Lib.hid (show mdays (1980 + (j : Int)) (q + 1) = mdays (1980 + (j : Int)) q + dimI (1980 + (j : Int)) ((q : Int) + 1) from rfl)
          have b8 := mdays_mono (1980 + (j : Int)) (q + 1) m hlt2
          have b9 : dimI (1980 + (j : Int)) ((q : Int) + 1) ≤ d - 1 + mdays (1980 + (j : Int)) m - mdays (1980 + (j : Int)) q := by have := HS.out; omega
          clear b8
          go_wp2_with (go_at_call 79; refine (days_calls _ _ _).mono ?_; rintro e w' ⟨rfl, rfl⟩)
          go_round
          case rel => exact ⟨q + 1, by omega, by go_num, by rw [HS.out]; congr 1; omega⟩
          case measure => simp [intOf]; omega
        · obtain rfl : q = m := by omega
          have b9 : ¬ dimI (1980 + (j : Int)) ((q : Int) + 1) ≤ d - 1 + mdays (1980 + (j : Int)) q - mdays (1980 + (j : Int)) q := by have := HDM.out; omega
          go_wp2_with (go_at_call 79; refine (days_calls _ _ _).mono ?_; rintro e w' ⟨rfl, rfl⟩)
          obtain ⟨r1, r2, r3⟩ := HR.out
          rw [r1, r2, r3]
          exact bodyPost_ret (results_cell_slot rfl _ _ w.heap.size _ _ _ _ rfl (heap_alloc_new w _) Tryd.underlying46 rfl Tryd.sizeT) rfl ⟨rfl, (Touch.refl _ _).alloc _⟩

theorem of_neg (n : Int) (w : World) (h : n < 0) : Calls Tryd.prog 55 #[.int .i64 n] w fun e w' => e = .returned (.tuple #[Tim.zero.v, .bool false]) ∧ Touch (fun _ => False) w w' := by
  unfold Tim.zero Tim.v
  go_enter Tryd.func55, Tryd.ntmps55
  go_wp2
  exact bodyPost_ret (results_cell_slot rfl _ _ w.heap.size _ _ _ _ rfl (heap_alloc_new w _) Tryd.underlying46 rfl Tryd.sizeT) rfl ⟨rfl, (Touch.refl _ _).alloc _⟩

set_option maxHeartbeats 2000000 in
theorem of_big (n : Int) (w : World) (h : 2019643200 ≤ n) (hi : n ≤ 9223372036854775807) : Calls Tryd.prog 55 #[.int .i64 n] w fun e w' => e = .returned (.tuple #[Tim.zero.v, .bool false]) ∧ Touch (fun _ => False) w w' := by
  have n1 : 0 ≤ n := by omega
  have hN0 : decide (n < 0) = false := by simpa using n1
  obtain ⟨D, hD⟩ : ∃ D, n / 43200 = D := ⟨_, rfl⟩
  have hD0 : 46751 ≤ D := by omega
  have hD1 : D ≤ 9223372036854775807 := by omega
  have HD := Lib.hid hD
  clear hD
  unfold Tim.zero Tim.v
  go_enter Tryd.func55, Tryd.ntmps55
  go_wp2
  clear hN0
  go_loop [4, 6] (fun a b => ∃ j : Nat, j < 128 ∧ b = .int .i64 (1980 + (j : Int)) ∧ a = .int .i64 (D - ydays j)) (fun _ b => 128 - (intOf b - 1980).toNat)
  case atStart => exact ⟨0, by decide, rfl, by rw [HD.out]; simp [ydays]⟩
  case round =>
    obtain ⟨j, hj, rfl, rfl⟩ := hrel
    have b4 := ydays_le j
    have b5 := ydays_nn j
    have b6 := yd_bd (1980 + (j : Int))
    have HS := Lib.hid (show ydays (j + 1) = ydays j + ydI (1980 + (j : Int)) from rfl)
    have b9 : ydI (1980 + (j : Int)) ≤ D - ydays j := by
      have := HS.out
      have h128 := ydays_mono (j + 1) 128 (by omega)
      rw [ydays_128] at h128
      omega
    by_cases hlt : j = 127
    · have hj2 : (127 : Int) ≤ (j : Int) := by omega
      clear hlt
      go_wp2_with (go_at_call 78; refine (yearDays_calls _ _).mono ?_; rintro e w' ⟨rfl, rfl⟩)
      exact bodyPost_ret (results_cell_slot rfl _ _ w.heap.size _ _ _ _ rfl (heap_alloc_new w _) Tryd.underlying46 rfl Tryd.sizeT) rfl ⟨rfl, (Touch.refl _ _).alloc _⟩
    · have hj2 : (j : Int) < 127 := by omega
      go_wp2_with (go_at_call 78; refine (yearDays_calls _ _).mono ?_; rintro e w' ⟨rfl, rfl⟩)
      go_round
      case rel => exact ⟨j + 1, by omega, by go_num, by rw [HS.out]; congr 1; omega⟩
      case measure => simp [intOf]; omega

end Go.Proofs.YtdohhmaggeocjaaDoor

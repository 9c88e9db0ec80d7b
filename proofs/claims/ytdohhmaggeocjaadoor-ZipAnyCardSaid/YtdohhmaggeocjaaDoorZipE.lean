/- Contract of package zip: an archive's end. -/
import Derived.Test.YtdohhmaggeocjaaDoorZipD
namespace Go.Proofs.YtdohhmaggeocjaaDoor
open Go Go.RowKit
set_option maxRecDepth 100000

/-- Three tests in a row, each as a Bool. -/
theorem or3_ways (a b c : Bool) : (a = true) ∨ (a = false ∧ b = true) ∨ (a = false ∧ b = false ∧ c = true) ∨ (a = false ∧ b = false ∧ c = false) := by
  cases a <;> cases b <;> cases c <;> simp
theorem dec_cast (k n : Nat) {b : Bool} (h : decide (k ≤ n) = b) : decide ((k : Int) ≤ (n : Int)) = b := by
  rw [← h, decide_eq_decide]; omega
theorem wide_nil_size : ByteArray.empty.size = 0 := rfl

set_option maxHeartbeats 4000000 in
theorem end_big (c z a : Nat) (w : World) (h : ¬ max (max c z) a < 4611686018427387904) : Calls Tryd.prog 25 #[.int .u64 c, .int .u64 z, .int .u64 a] w fun e w' => e = .returned (.string ByteArray.empty) ∧ Touch (fun _ => False) w w' := by
  obtain ⟨Q, hQ⟩ : ∃ Q, Q = max c z := ⟨_, rfl⟩
  obtain ⟨M, hM⟩ : ∃ M, M = max Q a := ⟨_, rfl⟩
  rw [← hQ, ← hM] at h
  have hq : (if (c : Int) < (z : Int) then (z : Int) else (c : Int)) = (Q : Int) := by split <;> omega
  have hm : (if (Q : Int) < (a : Int) then (a : Int) else (Q : Int)) = (M : Int) := by split <;> omega
  have hd : decide ((4611686018427387904 : Int) ≤ (M : Int)) = true := by apply decide_eq_true; omega
  clear hQ hM h
  generalize (c : Int) = cI at *
  generalize (z : Int) = zI at *
  generalize (a : Int) = aI at *
  generalize (Q : Int) = QI at *
  generalize (M : Int) = MI at *
  go_enter Tryd.func25, Tryd.ntmps25
  go_wp2
  go_ret
  exact ⟨rfl, Touch.refl _ _⟩

set_option maxHeartbeats 4000000 in
theorem end_small (c z a : Nat) (w : World) (h : max (max c z) a < 4611686018427387904) : Calls Tryd.prog 25 #[.int .u64 c, .int .u64 z, .int .u64 a] w fun e w' => e = .returned (.string (endTail c z a (if isWide c z a then wideB c z a else ByteArray.empty))) ∧ Touch (fun _ => False) w w' := by
  have HW := Lib.hid (fun W => wideEnd_calls c z a W (by omega) (by omega) (by omega))
  have hws := wideB_size c z a
  obtain ⟨b1, hb1⟩ : ∃ b, decide (65535 ≤ c) = b := ⟨_, rfl⟩
  obtain ⟨b2, hb2⟩ : ∃ b, decide (4294967295 ≤ z) = b := ⟨_, rfl⟩
  obtain ⟨b3, hb3⟩ : ∃ b, decide (4294967295 ≤ a) = b := ⟨_, rfl⟩
  have d1 : decide ((65535 : Int) ≤ (c : Int)) = b1 := dec_cast 65535 c hb1
  have d2 : decide ((4294967295 : Int) ≤ (z : Int)) = b2 := dec_cast 4294967295 z hb2
  have d3 : decide ((4294967295 : Int) ≤ (a : Int)) = b3 := dec_cast 4294967295 a hb3
  have hiw : isWide c z a = (b1 || (b2 || b3)) := by unfold isWide; rw [hb1, hb2, hb3]
  rw [hiw]
  unfold endTail
  clear hiw hb1 hb2 hb3
  obtain ⟨Q, hQ⟩ : ∃ Q, Q = max c z := ⟨_, rfl⟩
  obtain ⟨M, hM⟩ : ∃ M, M = max Q a := ⟨_, rfl⟩
  rw [← hQ, ← hM] at h
  obtain ⟨C, hC⟩ : ∃ C, min c 65535 = C := ⟨_, rfl⟩
  obtain ⟨D, hD⟩ : ∃ D, min z 4294967295 = D := ⟨_, rfl⟩
  obtain ⟨E, hE⟩ : ∃ E, min a 4294967295 = E := ⟨_, rfl⟩
  have hq : (if (c : Int) < (z : Int) then (z : Int) else (c : Int)) = (Q : Int) := by split <;> omega
  have hm : (if (Q : Int) < (a : Int) then (a : Int) else (Q : Int)) = (M : Int) := by split <;> omega
  have hd : decide ((4611686018427387904 : Int) ≤ (M : Int)) = false := by apply decide_eq_false; omega
  have hc1 : min (c : Int) 65535 = (C : Int) := by omega
  have hz1 : min (z : Int) 4294967295 = (D : Int) := by omega
  have ha1 : min (a : Int) 4294967295 = (E : Int) := by omega
  have HC := Lib.hid (fun W => put_int C 2 C 2 rfl rfl (by decide) (by decide) W)
  have HD := Lib.hid (fun W => put_int D 4 D 4 rfl rfl (by decide) (by decide) W)
  have HE := Lib.hid (fun W => put_int E 4 E 4 rfl rfl (by decide) (by decide) W)
  have HZ4 := Lib.hid (fun W => noughts_int 4 4 rfl (by decide) W)
  have HZ2 := Lib.hid (fun W => noughts_int 2 2 rfl (by decide) W)
  rw [hC, hD, hE]
  clear hQ hM h hC hD hE
  obtain ⟨xc, hxc⟩ : ∃ x, P 2 C = x := ⟨_, rfl⟩
  obtain ⟨xd, hxd⟩ : ∃ x, P 4 D = x := ⟨_, rfl⟩
  obtain ⟨xe, hxe⟩ : ∃ x, P 4 E = x := ⟨_, rfl⟩
  obtain ⟨z4, hz4⟩ : ∃ x, Z 4 = x := ⟨_, rfl⟩
  obtain ⟨z2, hz2⟩ : ∃ x, Z 2 = x := ⟨_, rfl⟩
  have sc : (xc.size : Int) = 2 := by rw [← hxc, P_size]; rfl
  have sd : (xd.size : Int) = 4 := by rw [← hxd, P_size]; rfl
  have se : (xe.size : Int) = 4 := by rw [← hxe, P_size]; rfl
  have s4 : (z4.size : Int) = 4 := by rw [← hz4, Z_size]; rfl
  have s2 : (z2.size : Int) = 2 := by rw [← hz2, Z_size]; rfl
  rw [hxc] at HC
  rw [hxd] at HD
  rw [hxe] at HE
  rw [hz4] at HZ4
  rw [hz2] at HZ2
  rw [hxc, hxd, hxe, hz4, hz2]
  clear hxc hxd hxe hz4 hz2
  obtain ⟨W, hW⟩ : ∃ W, wideB c z a = W := ⟨_, rfl⟩
  have sw : (W.size : Int) = 76 := by rw [← hW]; omega
  rw [hW] at HW
  rw [hW]
  clear hW hws
  have hne : (ByteArray.empty.size : Int) = 0 := rfl
  generalize (c : Int) = cI at *
  generalize (z : Int) = zI at *
  generalize (a : Int) = aI at *
  generalize (Q : Int) = QI at *
  generalize (M : Int) = MI at *
  generalize (C : Int) = CI at *
  generalize (D : Int) = DI at *
  generalize (E : Int) = EI at *
  have HT0 := Lib.hid (Touch.refl (fun _ => False) w)
  rcases or3_ways b1 b2 b3 with rfl | ⟨rfl, rfl⟩ | ⟨rfl, rfl, rfl⟩ | ⟨rfl, rfl, rfl⟩
  all_goals
    simp only [Bool.true_or, Bool.or_true, Bool.false_or, Bool.or_self, Bool.false_eq_true, if_true, if_false]
    go_enter Tryd.func25, Tryd.ntmps25
    go_wp2_with (first
      | (go_at_call 50; first
          | (with_reducible refine (HC.out _).mono ?_)
          | (with_reducible refine (HD.out _).mono ?_)
          | (with_reducible refine (HE.out _).mono ?_)
         rintro e wn ⟨rfl, htn⟩; replace HT0 := Lib.hid (HT0.out.trans htn); clear htn)
      | (go_at_call 51; first
          | (with_reducible refine (HZ4.out _).mono ?_)
          | (with_reducible refine (HZ2.out _).mono ?_)
         rintro e wn ⟨rfl, htn⟩; replace HT0 := Lib.hid (HT0.out.trans htn); clear htn)
      | (go_at_call 49; refine (HW.out _).mono ?_; rintro e wn ⟨rfl, htn⟩; replace HT0 := Lib.hid (HT0.out.trans htn); clear htn))
    go_ret
    exact ⟨rfl, HT0.out⟩

theorem end_calls (c z a : Nat) (w : World) : Calls Tryd.prog 25 #[.int .u64 c, .int .u64 z, .int .u64 a] w fun e w' => e = .returned (.string (endB c z a)) ∧ Touch (fun _ => False) w w' := by
  unfold endB
  by_cases h : max (max c z) a < 4611686018427387904
  · rw [if_pos h]; exact end_small c z a w h
  · rw [if_neg h]; exact end_big c z a w h
end Go.Proofs.YtdohhmaggeocjaaDoor

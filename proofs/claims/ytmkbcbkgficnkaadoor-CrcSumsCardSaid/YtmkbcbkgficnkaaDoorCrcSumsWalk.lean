/- The walk of the statement CrcSums over the translated program. -/
import Derived.Test.YtmkbcbkgficnkaaDoorCrcS
import Derived.Deep.RegionWith
namespace Go.Proofs.YtmkbcbkgficnkaaDoor
open Go Go.RowKit

theorem sums_cut (s : ByteArray) (k : Nat) : moreN (moreN 0 (s.extract 0 k).data.toList) (s.extract k s.size).data.toList = moreN 0 s.data.toList := by
  rw [← moreN_append]
  congr 1
  have hl := data_length s
  simp only [ByteArray.data_extract, Array.toList_extract, List.extract_eq_take_drop, List.drop_zero, Nat.sub_zero]
  rw [List.take_of_length_le (l := s.data.toList.drop k) (by rw [List.length_drop, hl]; exact Nat.le_refl _), List.take_append_drop]

theorem cut_val (cut : Int) (n : Nat) : ∃ (r : Int) (k : Nat), cut.tmod ((n : Int) + 1) = r ∧ -(n : Int) ≤ r ∧ r ≤ n ∧ (r + n + 1) % ((n : Int) + 1) = k ∧ k ≤ n := by
  have h1 := Int.tmod_lt_of_pos cut (show (0 : Int) < (n : Int) + 1 by omega)
  have h2 : -((n : Int) + 1) < cut.tmod ((n : Int) + 1) := Int.lt_tmod_of_pos cut (by omega)
  refine ⟨cut.tmod ((n : Int) + 1), ((cut.tmod ((n : Int) + 1) + n + 1) % ((n : Int) + 1)).toNat, rfl, by omega, by omega, ?_, ?_⟩
  · have := Int.emod_nonneg (cut.tmod ((n : Int) + 1) + n + 1) (show (n : Int) + 1 ≠ 0 by omega)
    omega
  · have := Int.emod_lt_of_pos (cut.tmod ((n : Int) + 1) + n + 1) (show (0 : Int) < (n : Int) + 1 by omega)
    omega

set_option maxHeartbeats 800000 in
theorem sums_core (s : ByteArray) (cut : Int) (b : Nat) (w : World) (hp : PowAt w) (hb : b < 256) (hs : s.size ≤ 2000) :
    Calls Tryd.prog 3 #[.string s, .int .i64 cut, .int .u8 b] w fun e w' => e = .returned (.bool true) ∧ Touch (fun _ => False) w w' := by
  obtain ⟨r, k, hr, hr1, hr2, hk, hk2⟩ := cut_val cut s.size
  go_enter Tryd.func3, Tryd.ntmps3
  go_wp2_with fail
  refine (speaks_calls _ hp).mono ?_
  rintro e w1 ⟨rfl, hT1⟩
  go_wp2_with fail
  refine (make_calls _).mono ?_
  rintro e w2 ⟨rfl, ht2, hT2⟩
  generalize w1.heap.size = B at ht2 ⊢
  go_wp2_with fail
  have hcell := ht2.cell hb
  have hmore := fun (W : World) (h : TabAt W B) => tmore_calls B (moreN 0 (s.extract 0 k).data.toList) (s.extract k s.size) W h (moreN_lt _ _ (by decide)) (by simp; omega)
  rw [sums_cut] at hmore
  have hsum := fun (W : World) (h : TabAt W B) => sum_calls B (s.extract 0 k) W h (by simp; omega)
  have hall := fun (W : World) (h : TabAt W B) => sum_calls B s W h (by omega)
  have href := fun W : World => (refmore_calls 0 s W (by decide) (by omega)).mono (R' := fun e w' => e = .returned (.int .u32 (moreN 0 s.data.toList)) ∧ w' = W) fun _ _ h => ⟨h.1, h.2.symm⟩
  generalize moreN 0 (s.extract 0 k).data.toList = u at hmore hsum
  generalize moreN 0 s.data.toList = v at hmore hall href
  have HM := Lib.hid hmore
  have q8 := Lib.hid hall
  have q8' := Lib.hid hsum
  have q9 := Lib.hid href
  have q11 := Lib.hid (fun W : World => (refturn_calls b W (by omega)).mono (R' := fun e w' => e = .returned (.int .u32 (Tn 8 b)) ∧ w' = W) fun _ _ h => ⟨h.1, h.2.symm⟩)
  have HT := Lib.hid ht2
  clear hmore ht2 hr hk hsum hall href
  go_quiet (first
    | (go_at_call_of 8 (s.extract 0 k); with_reducible refine Calls.quiet_of (q8'.out _ ?_); exact HT.out.drewN _)
    | (go_at_call 8; with_reducible refine Calls.quiet_of (q8.out _ ?_); exact HT.out.drewN _)
    | (go_at_call 9; with_reducible exact Calls.quiet_of_same (q9.out _))
    | (go_at_call 10; with_reducible refine Calls.quiet_of (HM.out _ ?_); exact HT.out.drewN _)
    | (go_at_call 11; with_reducible exact Calls.quiet_of_same (q11.out _)))
  go_wp2_with fail
  go_ret
  exact ⟨rfl, (hT1.trans hT2).drewN _⟩
set_option maxHeartbeats 800000 in
theorem sums_long (s : ByteArray) (cut : Int) (b : Nat) (w : World) (hp : PowAt w) (hb : b < 256) (hs : 2000 < s.size) (hs2 : s.size ≤ 9223372036854775807) :
    Calls Tryd.prog 3 #[.string s, .int .i64 cut, .int .u8 b] w fun e w' => e = .returned (.bool true) ∧ Touch (fun _ => False) w w' := by
  obtain ⟨r, k, hr, hr1, hr2, hk, hk2⟩ := cut_val cut 2000
  have hr : cut.tmod 2001 = r := by simpa using hr
  have hk : (r + 2000 + 1) % 2001 = k := by simpa using hk
  have hs' : (s.extract 0 2000).size = 2000 := by simp; omega
  go_enter Tryd.func3, Tryd.ntmps3
  go_wp2_with fail
  refine (speaks_calls _ hp).mono ?_
  rintro e w1 ⟨rfl, hT1⟩
  go_wp2_with fail
  refine (make_calls _).mono ?_
  rintro e w2 ⟨rfl, ht2, hT2⟩
  generalize w1.heap.size = B at ht2 ⊢
  generalize s.extract 0 2000 = s' at hs' ⊢
  have hs1 : s'.size ≤ 2000 := by omega
  have hs3 : 2000 ≤ s'.size := by omega
  have HSE := Lib.hid hs'
  go_wp2_with fail
  clear hs'
  have hcell := ht2.cell hb
  have hmore := fun (W : World) (h : TabAt W B) => tmore_calls B (moreN 0 (s'.extract 0 k).data.toList) (s'.extract k s'.size) W h (moreN_lt _ _ (by decide)) (by simp; omega)
  rw [sums_cut] at hmore
  have hsum := fun (W : World) (h : TabAt W B) => sum_calls B (s'.extract 0 k) W h (by simp; omega)
  have hall := fun (W : World) (h : TabAt W B) => sum_calls B s' W h (by omega)
  have href := fun W : World => (refmore_calls 0 s' W (by decide) (by omega)).mono (R' := fun e w' => e = .returned (.int .u32 (moreN 0 s'.data.toList)) ∧ w' = W) fun _ _ h => ⟨h.1, h.2.symm⟩
  generalize moreN 0 (s'.extract 0 k).data.toList = u at hmore hsum
  generalize moreN 0 s'.data.toList = v at hmore hall href
  have HM := Lib.hid hmore
  have q8 := Lib.hid hall
  have q8' := Lib.hid hsum
  have q9 := Lib.hid href
  have q11 := Lib.hid (fun W : World => (refturn_calls b W (by omega)).mono (R' := fun e w' => e = .returned (.int .u32 (Tn 8 b)) ∧ w' = W) fun _ _ h => ⟨h.1, h.2.symm⟩)
  have HT := Lib.hid ht2
  clear hmore ht2 hr hk hsum hall href
  go_quiet (first
    | (go_at_call_of 8 (s'.extract 0 k); with_reducible refine Calls.quiet_of (q8'.out _ ?_); exact HT.out.drewN _)
    | (go_at_call 8; with_reducible refine Calls.quiet_of (q8.out _ ?_); exact HT.out.drewN _)
    | (go_at_call 9; with_reducible exact Calls.quiet_of_same (q9.out _))
    | (go_at_call 10; with_reducible refine Calls.quiet_of (HM.out _ ?_); exact HT.out.drewN _)
    | (go_at_call 11; with_reducible exact Calls.quiet_of_same (q11.out _)))
  go_wp2_with fail
  go_ret
  exact ⟨rfl, (hT1.trans hT2).drewN _⟩

end Go.Proofs.YtmkbcbkgficnkaaDoor

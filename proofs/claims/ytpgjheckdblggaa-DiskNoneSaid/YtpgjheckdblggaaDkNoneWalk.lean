/- The statement DiskNone over the translated program. -/
import Derived.Test.YtpgjheckdblggaaDkK
namespace Go.Proofs.Ytpgjheckdblggaa
open Go Go.RowKit Go.Maps
set_option maxRecDepth 100000

set_option maxHeartbeats 1000000 in
theorem dnone_low (z : Int) (hz : z < 1) (s : ByteArray) (w : World) : Calls Try.prog 5 #[.int .i64 z, .string s] w fun e w' => e = .returned (.bool true) ∧ Touch (fun _ => False) w w' := by
  have d1 : decide (4000 < z) = false := decide_eq_false (by omega)
  have d2 : decide (1 ≤ z) = false := decide_eq_false (by omega)
  go_enter Try.func5, Try.ntmps5
  go_wp2_with (first
    | (go_at_call 11; refine (speaks17_calls _).mono ?_; rintro e w1 ⟨rfl, hT1⟩)
    | (go_at_call 12; refine (new_bad _ _ (Or.inl hz)).mono ?_; rintro e w' ⟨rfl, rfl⟩)
    | (go_at_call 13; with_reducible refine (write_nil _ _ _).mono ?_; rintro e w' ⟨rfl, rfl⟩)
    | (go_at_call 19; with_reducible refine (read_nil _ _).mono ?_; rintro e w' ⟨rfl, rfl⟩)
    | (go_at_call 17; with_reducible refine (crash_nil _ _).mono ?_; rintro e w' ⟨rfl, rfl⟩)
    | (go_at_call 21; with_reducible refine (fuse_nil _ _).mono ?_; rintro e w' ⟨rfl, rfl⟩)
    | (go_at_call 18; with_reducible refine (start_nil _).mono ?_; rintro e w' ⟨rfl, rfl⟩)
    | (go_at_call 15; with_reducible refine (sync_nil _).mono ?_; rintro e w' ⟨rfl, rfl⟩)
    | (go_at_call 22; with_reducible refine (on_nil _).mono ?_; rintro e w' ⟨rfl, rfl⟩)
    | (go_at_call 23; with_reducible refine (sectors_nil _).mono ?_; rintro e w' ⟨rfl, rfl⟩)
    | (go_at_call 16; with_reducible refine (copyd_nil _).mono ?_; rintro e w' ⟨rfl, rfl⟩)
    | (go_at_call 20; with_reducible refine (samed_nil1 _ _).mono ?_; rintro e w' ⟨rfl, rfl⟩))
  go_ret
  exact ⟨rfl, hT1⟩
set_option maxHeartbeats 1000000 in
theorem dnone_high (z : Int) (hz : 65536 < z) (s : ByteArray) (w : World) : Calls Try.prog 5 #[.int .i64 z, .string s] w fun e w' => e = .returned (.bool true) ∧ Touch (fun _ => False) w w' := by
  have d1 : decide (4000 < z) = true := decide_eq_true (by omega)
  have d2 : decide (1 ≤ z) = true := decide_eq_true (by omega)
  have d3 : decide (z ≤ 65536) = false := decide_eq_false (by omega)
  go_enter Try.func5, Try.ntmps5
  go_wp2_with (first
    | (go_at_call 11; refine (speaks17_calls _).mono ?_; rintro e w1 ⟨rfl, hT1⟩)
    | (go_at_call 12; refine (new_bad _ _ (Or.inr hz)).mono ?_; rintro e w' ⟨rfl, rfl⟩)
    | (go_at_call 13; with_reducible refine (write_nil _ _ _).mono ?_; rintro e w' ⟨rfl, rfl⟩)
    | (go_at_call 19; with_reducible refine (read_nil _ _).mono ?_; rintro e w' ⟨rfl, rfl⟩)
    | (go_at_call 17; with_reducible refine (crash_nil _ _).mono ?_; rintro e w' ⟨rfl, rfl⟩)
    | (go_at_call 21; with_reducible refine (fuse_nil _ _).mono ?_; rintro e w' ⟨rfl, rfl⟩)
    | (go_at_call 18; with_reducible refine (start_nil _).mono ?_; rintro e w' ⟨rfl, rfl⟩)
    | (go_at_call 15; with_reducible refine (sync_nil _).mono ?_; rintro e w' ⟨rfl, rfl⟩)
    | (go_at_call 22; with_reducible refine (on_nil _).mono ?_; rintro e w' ⟨rfl, rfl⟩)
    | (go_at_call 23; with_reducible refine (sectors_nil _).mono ?_; rintro e w' ⟨rfl, rfl⟩)
    | (go_at_call 16; with_reducible refine (copyd_nil _).mono ?_; rintro e w' ⟨rfl, rfl⟩)
    | (go_at_call 20; with_reducible refine (samed_nil1 _ _).mono ?_; rintro e w' ⟨rfl, rfl⟩))
  go_ret
  exact ⟨rfl, hT1⟩
set_option maxHeartbeats 1000000 in
theorem dnone_mid (n : Nat) (h1 : 1 ≤ n) (h2 : n ≤ 4000) (s : ByteArray) (w : World) : Calls Try.prog 5 #[.int .i64 (n : Int), .string s] w fun e w' => e = .returned (.bool true) ∧ Touch (fun _ => False) w w' := by
  have d1 : decide ((4000 : Int) < (n : Int)) = false := decide_eq_false (by omega)
  have d2 : decide ((1 : Int) ≤ (n : Int)) = true := decide_eq_true (by omega)
  have d3 : decide ((n : Int) ≤ 65536) = true := decide_eq_true (by omega)
  by_cases hs : s.size = 64
  · have ds : ((s.size : Int) != 64) = false := by rw [hs]; rfl
    have HS := Lib.hid hs
    clear hs
    go_enter Try.func5, Try.ntmps5
    go_wp2_with (first
      | (go_at_call 11; refine (speaks17_calls _).mono ?_; rintro e w1 ⟨rfl, hT1⟩)
      | (go_at_call 12; refine (new_calls n _ h1 (by omega)).mono ?_; rintro e w2 ⟨b, lb, mb, rfl, hD, hN, hT2⟩; have HD := Lib.hid hD; clear hD)
      | (go_at_call 13; with_reducible refine (write_nil _ _ _).mono ?_; rintro e w' ⟨rfl, rfl⟩)
      | (go_at_call 19; with_reducible refine (read_nil _ _).mono ?_; rintro e w' ⟨rfl, rfl⟩)
      | (go_at_call 17; with_reducible refine (crash_nil _ _).mono ?_; rintro e w' ⟨rfl, rfl⟩)
      | (go_at_call 21; with_reducible refine (fuse_nil _ _).mono ?_; rintro e w' ⟨rfl, rfl⟩)
      | (go_at_call 18; with_reducible refine (start_nil _).mono ?_; rintro e w' ⟨rfl, rfl⟩)
      | (go_at_call 15; with_reducible refine (sync_nil _).mono ?_; rintro e w' ⟨rfl, rfl⟩)
      | (go_at_call 22; with_reducible refine (on_nil _).mono ?_; rintro e w' ⟨rfl, rfl⟩)
      | (go_at_call 23; with_reducible refine (sectors_nil _).mono ?_; rintro e w' ⟨rfl, rfl⟩)
      | (go_at_call 16; with_reducible refine (copyd_nil _).mono ?_; rintro e w' ⟨rfl, rfl⟩)
      | (go_at_call 20; with_reducible refine (samed_nil1 _ _).mono ?_; rintro e w' ⟨rfl, rfl⟩))
    go_ret
    exact ⟨rfl, hT1.trans hT2⟩
  · have ds : ((s.size : Int) != 64) = true := by rw [bne_iff_ne]; omega
    have HS := Lib.hid hs
    clear hs
    go_enter Try.func5, Try.ntmps5
    go_wp2_with (first
      | (go_at_call 11; refine (speaks17_calls _).mono ?_; rintro e w1 ⟨rfl, hT1⟩)
      | (go_at_call 12; refine (new_calls n _ h1 (by omega)).mono ?_; rintro e w2 ⟨b, lb, mb, rfl, hD, hN, hT2⟩; have HD := Lib.hid hD; clear hD)
      | (go_at_call 13; with_reducible refine (write_nil _ _ _).mono ?_; rintro e w' ⟨rfl, rfl⟩)
      | (go_at_call 13; with_reducible refine (write_len _ _ _ HS.out _).mono ?_; rintro e w' ⟨rfl, rfl⟩)
      | (go_at_call 19; with_reducible refine (read_nil _ _).mono ?_; rintro e w' ⟨rfl, rfl⟩)
      | (go_at_call 17; with_reducible refine (crash_nil _ _).mono ?_; rintro e w' ⟨rfl, rfl⟩)
      | (go_at_call 21; with_reducible refine (fuse_nil _ _).mono ?_; rintro e w' ⟨rfl, rfl⟩)
      | (go_at_call 18; with_reducible refine (start_nil _).mono ?_; rintro e w' ⟨rfl, rfl⟩)
      | (go_at_call 15; with_reducible refine (sync_nil _).mono ?_; rintro e w' ⟨rfl, rfl⟩)
      | (go_at_call 22; with_reducible refine (on_nil _).mono ?_; rintro e w' ⟨rfl, rfl⟩)
      | (go_at_call 23; with_reducible refine (sectors_nil _).mono ?_; rintro e w' ⟨rfl, rfl⟩)
      | (go_at_call 16; with_reducible refine (copyd_nil _).mono ?_; rintro e w' ⟨rfl, rfl⟩)
      | (go_at_call 20; with_reducible refine (samed_nil1 _ _).mono ?_; rintro e w' ⟨rfl, rfl⟩))
    go_ret
    exact ⟨rfl, hT1.trans hT2⟩
set_option maxHeartbeats 1000000 in
theorem dnone_big (z : Int) (h1 : 4000 < z) (h2 : z ≤ 65536) (s : ByteArray) (w : World) : Calls Try.prog 5 #[.int .i64 z, .string s] w fun e w' => e = .returned (.bool true) ∧ Touch (fun _ => False) w w' := by
  have d1 : decide (4000 < z) = true := decide_eq_true (by omega)
  have d3 : decide (z ≤ 65536) = true := decide_eq_true (by omega)
  by_cases hs : s.size = 64
  · have ds : ((s.size : Int) != 64) = false := by rw [hs]; rfl
    have HS := Lib.hid hs
    clear hs
    go_enter Try.func5, Try.ntmps5
    go_wp2_with (first
      | (go_at_call 11; refine (speaks17_calls _).mono ?_; rintro e w1 ⟨rfl, hT1⟩)
      | (go_at_call 12; refine (new_calls 4000 _ (by omega) (by omega)).mono ?_; rintro e w2 ⟨b, lb, mb, rfl, hD, hN, hT2⟩; have HD := Lib.hid hD; clear hD)
      | (go_at_call 13; with_reducible refine (write_nil _ _ _).mono ?_; rintro e w' ⟨rfl, rfl⟩)
      | (go_at_call 19; with_reducible refine (read_nil _ _).mono ?_; rintro e w' ⟨rfl, rfl⟩)
      | (go_at_call 17; with_reducible refine (crash_nil _ _).mono ?_; rintro e w' ⟨rfl, rfl⟩)
      | (go_at_call 21; with_reducible refine (fuse_nil _ _).mono ?_; rintro e w' ⟨rfl, rfl⟩)
      | (go_at_call 18; with_reducible refine (start_nil _).mono ?_; rintro e w' ⟨rfl, rfl⟩)
      | (go_at_call 15; with_reducible refine (sync_nil _).mono ?_; rintro e w' ⟨rfl, rfl⟩)
      | (go_at_call 22; with_reducible refine (on_nil _).mono ?_; rintro e w' ⟨rfl, rfl⟩)
      | (go_at_call 23; with_reducible refine (sectors_nil _).mono ?_; rintro e w' ⟨rfl, rfl⟩)
      | (go_at_call 16; with_reducible refine (copyd_nil _).mono ?_; rintro e w' ⟨rfl, rfl⟩)
      | (go_at_call 20; with_reducible refine (samed_nil1 _ _).mono ?_; rintro e w' ⟨rfl, rfl⟩))
    go_ret
    exact ⟨rfl, hT1.trans hT2⟩
  · have ds : ((s.size : Int) != 64) = true := by rw [bne_iff_ne]; omega
    have HS := Lib.hid hs
    clear hs
    go_enter Try.func5, Try.ntmps5
    go_wp2_with (first
      | (go_at_call 11; refine (speaks17_calls _).mono ?_; rintro e w1 ⟨rfl, hT1⟩)
      | (go_at_call 12; refine (new_calls 4000 _ (by omega) (by omega)).mono ?_; rintro e w2 ⟨b, lb, mb, rfl, hD, hN, hT2⟩; have HD := Lib.hid hD; clear hD)
      | (go_at_call 13; with_reducible refine (write_nil _ _ _).mono ?_; rintro e w' ⟨rfl, rfl⟩)
      | (go_at_call 13; with_reducible refine (write_len _ _ _ HS.out _).mono ?_; rintro e w' ⟨rfl, rfl⟩)
      | (go_at_call 19; with_reducible refine (read_nil _ _).mono ?_; rintro e w' ⟨rfl, rfl⟩)
      | (go_at_call 17; with_reducible refine (crash_nil _ _).mono ?_; rintro e w' ⟨rfl, rfl⟩)
      | (go_at_call 21; with_reducible refine (fuse_nil _ _).mono ?_; rintro e w' ⟨rfl, rfl⟩)
      | (go_at_call 18; with_reducible refine (start_nil _).mono ?_; rintro e w' ⟨rfl, rfl⟩)
      | (go_at_call 15; with_reducible refine (sync_nil _).mono ?_; rintro e w' ⟨rfl, rfl⟩)
      | (go_at_call 22; with_reducible refine (on_nil _).mono ?_; rintro e w' ⟨rfl, rfl⟩)
      | (go_at_call 23; with_reducible refine (sectors_nil _).mono ?_; rintro e w' ⟨rfl, rfl⟩)
      | (go_at_call 16; with_reducible refine (copyd_nil _).mono ?_; rintro e w' ⟨rfl, rfl⟩)
      | (go_at_call 20; with_reducible refine (samed_nil1 _ _).mono ?_; rintro e w' ⟨rfl, rfl⟩))
    go_ret
    exact ⟨rfl, hT1.trans hT2⟩

theorem dnone_calls (z : Int) (s : ByteArray) (w : World) : Calls Try.prog 5 #[.int .i64 z, .string s] w fun e w' => e = .returned (.bool true) ∧ Touch (fun _ => False) w w' := by
  by_cases h1 : z < 1
  · exact dnone_low z h1 s w
  · by_cases h2 : 65536 < z
    · exact dnone_high z h2 s w
    · by_cases h3 : 4000 < z
      · exact dnone_big z h3 (by omega) s w
      · obtain ⟨n, rfl⟩ := Int.eq_ofNat_of_zero_le (show 0 ≤ z by omega)
        exact dnone_mid n (by omega) (by omega) s w

end Go.Proofs.Ytpgjheckdblggaa

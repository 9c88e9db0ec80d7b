/- The walks of layer 11's statements: what every one of them asks first; numbers as times. -/
import Derived.Test.YtbhjeolhndpnfaaDosG
import Derived.Test.YtbhjeolhndpnfaaBase
namespace Go.Proofs.Ytbhjeolhndpnfaa
open Go Go.RowKit
set_option maxRecDepth 100000

theorem pack_first (w : World) : Calls Try.prog 9 #[.agg #[.int .i64 1980, .int .i64 1, .int .i64 1, .int .i64 0, .int .i64 0, .int .i64 0]] w fun e w' => e = .returned (.tuple #[.int .u64 33, .int .u64 0, .bool true]) ∧ Touch (fun _ => False) w w' :=
  pack_good ⟨1980, 1, 1, 0, 0, 0⟩ w (by decide)
theorem of_second (w : World) : Calls Try.prog 15 #[.int .i64 43200] w fun e w' => e = .returned (.tuple #[.agg #[.int .i64 1980, .int .i64 1, .int .i64 2, .int .i64 0, .int .i64 0, .int .i64 0], .bool true]) ∧ Touch (fun _ => False) w w' := by
  have h := of_calls ⟨1980, 1, 2, 0, 0, 0⟩ w ((good_iff _).1 (by decide))
  exact h
theorem days_2000 (w : World) : Calls Try.prog 11 #[.int .i64 2000, .int .i64 2] w fun e w' => e = .returned (.int .i64 29) ∧ w = w' := days_calls 2000 2 w

set_option maxHeartbeats 1000000 in
theorem speaks11_calls (w : World) : Calls Try.prog 7 #[] w fun e w' => e = .returned (.bool true) ∧ Touch (fun _ => False) w w' := by
  go_enter Try.func7, Try.ntmps7
  go_wp2_with (first
    | (go_at_call 9; refine (pack_first _).mono ?_; rintro e w1 ⟨rfl, ht1⟩)
    | (go_at_call 15; refine (of_second _).mono ?_; rintro e w2 ⟨rfl, ht2⟩)
    | (go_at_call 11; refine (days_2000 _).mono ?_; rintro e w3 ⟨rfl, rfl⟩))
  go_ret
  exact ⟨rfl, (ht1.trans ht2).alloc _⟩

set_option maxHeartbeats 1000000 in
theorem dnumbers_calls (d n : Nat) (w : World) (hd : d < 18446744073709551616) (hn : n < 18446744073709551616) : Calls Try.prog 4 #[.int .u64 d, .int .u64 n] w fun e w' => e = .returned (.bool true) ∧ Touch (fun _ => False) w w' := by
  cases hg : goodB (unp d n)
  · have HU := Lib.hid (fun W => unpack_bad d n W hd hn hg)
    clear hg
    unfold Tim.zero Tim.v at HU
    simp only at HU
    go_enter Try.func4, Try.ntmps4
    go_wp2_with (first
      | (go_at_call 7; refine (speaks11_calls _).mono ?_; rintro e w1 ⟨rfl, ht1⟩)
      | (go_at_call 14; refine (HU.out _).mono ?_; rintro e w2 ⟨rfl, ht2⟩))
    go_ret
    exact ⟨rfl, (ht1.trans ht2).alloc _⟩
  · have HU := Lib.hid (fun W => unpack_good d n W hd hn hg)
    have HP := Lib.hid (fun W => pack_good (unp d n) W hg)
    clear hg
    rw [unp_date, unp_time] at HP
    generalize unp d n = t at *
    obtain ⟨y, mo, dd, hh, mi, s⟩ := t
    unfold Tim.v at HU HP
    simp only at HU HP
    go_enter Try.func4, Try.ntmps4
    go_wp2_with (first
      | (go_at_call 7; refine (speaks11_calls _).mono ?_; rintro e w1 ⟨rfl, ht1⟩)
      | (go_at_call 14; refine (HU.out _).mono ?_; rintro e w2 ⟨rfl, ht2⟩)
      | (go_at_call 9; refine (HP.out _).mono ?_; rintro e w3 ⟨rfl, ht3⟩))
    go_ret
    exact ⟨rfl, ((ht1.trans ht2).alloc _).trans ht3⟩

theorem dnumbers_int (d n : Int) (w : World) (hd : (Lit.int .u64 d).wf = true) (hn : (Lit.int .u64 n).wf = true) : Calls Try.prog 4 #[.int .u64 d, .int .u64 n] w fun e w' => e = .returned (.bool true) ∧ Touch (fun _ => False) w w' := by
  obtain ⟨a, rfl, ha⟩ := wf_u64 hd
  obtain ⟨b, rfl, hb⟩ := wf_u64 hn
  exact dnumbers_calls a b w ha hb
end Go.Proofs.Ytbhjeolhndpnfaa

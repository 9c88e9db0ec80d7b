/- The walk of the statement BitsNumbers over the translated program: it returns true, and writes nothing that was there. -/
import Derived.Test.YtmkbcbkgficnkaaBitsS
namespace Go.Proofs.Ytmkbcbkgficnkaa
open Go Go.RowKit

def getV (s : ByteArray) : Nat := if s.size ≤ 8 then getN s.data.toList else 0
def putV (n : Nat) (size : Int) : ByteArray := if 1 ≤ size ∧ size ≤ 8 then ⟨(leB size.toNat n).toArray⟩ else ⟨#[]⟩

theorem get_any (s : ByteArray) (w : World) (hm : s.size ≤ 9223372036854775807) : Calls Try.prog 25 #[.string s] w fun e w' => e = .returned (.int .u64 (getV s)) ∧ w = w' := by
  unfold getV
  by_cases h : s.size ≤ 8
  · rw [if_pos h]; exact get_small s w h
  · rw [if_neg h]; exact get_big s w (by omega) hm
theorem refget_any (s : ByteArray) (w : World) (hm : s.size ≤ 9223372036854775807) : Calls Try.prog 26 #[.string s] w fun e w' => e = .returned (.int .u64 (getV s)) ∧ w = w' := by
  unfold getV
  by_cases h : s.size ≤ 8
  · rw [if_pos h]; exact refget_small s w h
  · rw [if_neg h]; exact refget_big s w (by omega) hm
theorem put_any (n : Nat) (size : Int) (w : World) : Calls Try.prog 23 #[.int .u64 n, .int .i64 size] w fun e w' => e = .returned (.string (putV n size)) ∧ Touch (fun _ => False) w w' := by
  unfold putV
  by_cases h : 1 ≤ size ∧ size ≤ 8
  · rw [if_pos h]
    obtain ⟨k, rfl⟩ := Int.eq_ofNat_of_zero_le (show 0 ≤ size by omega)
    exact put_small n k w (by omega) (by omega)
  · rw [if_neg h]
    exact (put_none n size w (by omega)).mono fun e w' ⟨h1, h2⟩ => ⟨h1, by rw [h2]; exact Touch.refl _ _⟩
theorem refput_any (n : Nat) (size : Int) (w : World) (hn : n < 18446744073709551616) : Calls Try.prog 24 #[.int .u64 n, .int .i64 size] w fun e w' => e = .returned (.string (putV n size)) ∧ Touch (fun _ => False) w w' := by
  unfold putV
  by_cases h : 1 ≤ size ∧ size ≤ 8
  · rw [if_pos h]
    obtain ⟨k, rfl⟩ := Int.eq_ofNat_of_zero_le (show 0 ≤ size by omega)
    exact refput_small n k w (by omega) hn
  · rw [if_neg h]
    exact (refput_none n size w (by omega)).mono fun e w' ⟨h1, h2⟩ => ⟨h1, by rw [h2]; exact Touch.refl _ _⟩
theorem putV_size (n : Nat) (size : Int) : (putV n size).size ≤ 8 := by
  unfold putV
  split
  · show (leB size.toNat n).toArray.size ≤ 8
    rw [List.size_toArray, leB_length]; omega
  · decide

set_option maxHeartbeats 1600000 in
theorem numbers_calls (n : Nat) (size : Int) (s : ByteArray) (w : World) (hn : n < 18446744073709551616) (hs : s.size ≤ 9223372036854775807) :
    Calls Try.prog 6 #[.int .u64 n, .int .i64 size, .string s] w fun e w' => e = .returned (.bool true) ∧ Touch (fun _ => False) w w' := by
  by_cases h1 : 1 ≤ size
  · by_cases h8 : size ≤ 8
    · have hp8 := putV_size n size
      have hp8' : (putV n size).size ≤ 9223372036854775807 := by omega
      clear hp8
      go_enter Try.func6, Try.ntmps6
      go_wp2_with fail
      refine (speaks_calls _).mono ?_
      rintro e w1 ⟨rfl, ht1⟩
      go_wp2_with fail
      all_goals
        refine (put_any n size _).mono ?_
        rintro e w2 ⟨rfl, ht2⟩
        go_wp2_with fail
        refine (refput_any n size _ hn).mono ?_
        rintro e w3 ⟨rfl, ht3⟩
        go_wp2_with fail
        refine (get_any _ _ (by first | exact hs | (simp; omega))).mono ?_
        rintro e w4 ⟨rfl, rfl⟩
        go_wp2_with fail
        refine (refget_any _ _ (by first | exact hs | (simp; omega))).mono ?_
        rintro e w5 ⟨rfl, rfl⟩
        go_wp2_with fail
        refine (get_any _ _ hp8').mono ?_
        rintro e w6 ⟨rfl, rfl⟩
        go_wp2_with fail
        refine (refget_any _ _ hp8').mono ?_
        rintro e w7 ⟨rfl, rfl⟩
        go_wp2_with (first
      | (go_at_call 8; refine (write_none none _ _ _ (Or.inl rfl)).mono ?_; rintro e w' ⟨rfl, rfl⟩)
      | (go_at_call 10; refine (add_nil _ _).mono ?_; rintro e w' ⟨rfl, rfl⟩)
      | (go_at_call 15; refine (walign_nil _).mono ?_; rintro e w' ⟨rfl, rfl⟩)
      | (go_at_call 16; refine (feed_nil _ _).mono ?_; rintro e w' ⟨rfl, rfl⟩)
      | (go_at_call 20; refine (ralign_nil _).mono ?_; rintro e w' ⟨rfl, rfl⟩)
      | (go_at_call 19; refine (read_out none _ _ (Or.inl rfl)).mono ?_; rintro e w' ⟨rfl, rfl⟩)
      | (go_at_call 17; refine (peek_out none _ _ (Or.inl rfl)).mono ?_; rintro e w' ⟨rfl, rfl⟩)
      | (go_at_call 14; refine (wlen_nil _).mono ?_; rintro e w' ⟨rfl, rfl⟩)
      | (go_at_call 12; refine (drain_nil _).mono ?_; rintro e w' ⟨rfl, rfl⟩)
      | (go_at_call 22; refine (left_nil _).mono ?_; rintro e w' ⟨rfl, rfl⟩)
      | (go_at_call 21; refine (take_nil _ _).mono ?_; rintro e w' ⟨rfl, rfl⟩))
        go_ret
        exact ⟨rfl, (ht1.trans ht2).trans ht3⟩
    · go_enter Try.func6, Try.ntmps6
      go_wp2_with fail
      refine (speaks_calls _).mono ?_
      rintro e w1 ⟨rfl, ht1⟩
      go_wp2_with fail
      all_goals
        refine (put_any n size _).mono ?_
        rintro e w2 ⟨rfl, ht2⟩
        go_wp2_with fail
        refine (refput_any n size _ hn).mono ?_
        rintro e w3 ⟨rfl, ht3⟩
        go_wp2_with fail
        refine (get_any _ _ (by first | exact hs | (simp; omega))).mono ?_
        rintro e w4 ⟨rfl, rfl⟩
        go_wp2_with fail
        refine (refget_any _ _ (by first | exact hs | (simp; omega))).mono ?_
        rintro e w5 ⟨rfl, rfl⟩
        go_wp2_with (first
      | (go_at_call 8; refine (write_none none _ _ _ (Or.inl rfl)).mono ?_; rintro e w' ⟨rfl, rfl⟩)
      | (go_at_call 10; refine (add_nil _ _).mono ?_; rintro e w' ⟨rfl, rfl⟩)
      | (go_at_call 15; refine (walign_nil _).mono ?_; rintro e w' ⟨rfl, rfl⟩)
      | (go_at_call 16; refine (feed_nil _ _).mono ?_; rintro e w' ⟨rfl, rfl⟩)
      | (go_at_call 20; refine (ralign_nil _).mono ?_; rintro e w' ⟨rfl, rfl⟩)
      | (go_at_call 19; refine (read_out none _ _ (Or.inl rfl)).mono ?_; rintro e w' ⟨rfl, rfl⟩)
      | (go_at_call 17; refine (peek_out none _ _ (Or.inl rfl)).mono ?_; rintro e w' ⟨rfl, rfl⟩)
      | (go_at_call 14; refine (wlen_nil _).mono ?_; rintro e w' ⟨rfl, rfl⟩)
      | (go_at_call 12; refine (drain_nil _).mono ?_; rintro e w' ⟨rfl, rfl⟩)
      | (go_at_call 22; refine (left_nil _).mono ?_; rintro e w' ⟨rfl, rfl⟩)
      | (go_at_call 21; refine (take_nil _ _).mono ?_; rintro e w' ⟨rfl, rfl⟩))
        go_ret
        exact ⟨rfl, (ht1.trans ht2).trans ht3⟩
  · go_enter Try.func6, Try.ntmps6
    go_wp2_with fail
    refine (speaks_calls _).mono ?_
    rintro e w1 ⟨rfl, ht1⟩
    go_wp2_with fail
    all_goals
      refine (put_any n size _).mono ?_
      rintro e w2 ⟨rfl, ht2⟩
      go_wp2_with fail
      refine (refput_any n size _ hn).mono ?_
      rintro e w3 ⟨rfl, ht3⟩
      go_wp2_with fail
      refine (get_any _ _ (by first | exact hs | (simp; omega))).mono ?_
      rintro e w4 ⟨rfl, rfl⟩
      go_wp2_with fail
      refine (refget_any _ _ (by first | exact hs | (simp; omega))).mono ?_
      rintro e w5 ⟨rfl, rfl⟩
      go_wp2_with (first
      | (go_at_call 8; refine (write_none none _ _ _ (Or.inl rfl)).mono ?_; rintro e w' ⟨rfl, rfl⟩)
      | (go_at_call 10; refine (add_nil _ _).mono ?_; rintro e w' ⟨rfl, rfl⟩)
      | (go_at_call 15; refine (walign_nil _).mono ?_; rintro e w' ⟨rfl, rfl⟩)
      | (go_at_call 16; refine (feed_nil _ _).mono ?_; rintro e w' ⟨rfl, rfl⟩)
      | (go_at_call 20; refine (ralign_nil _).mono ?_; rintro e w' ⟨rfl, rfl⟩)
      | (go_at_call 19; refine (read_out none _ _ (Or.inl rfl)).mono ?_; rintro e w' ⟨rfl, rfl⟩)
      | (go_at_call 17; refine (peek_out none _ _ (Or.inl rfl)).mono ?_; rintro e w' ⟨rfl, rfl⟩)
      | (go_at_call 14; refine (wlen_nil _).mono ?_; rintro e w' ⟨rfl, rfl⟩)
      | (go_at_call 12; refine (drain_nil _).mono ?_; rintro e w' ⟨rfl, rfl⟩)
      | (go_at_call 22; refine (left_nil _).mono ?_; rintro e w' ⟨rfl, rfl⟩)
      | (go_at_call 21; refine (take_nil _ _).mono ?_; rintro e w' ⟨rfl, rfl⟩))
      go_ret
      exact ⟨rfl, (ht1.trans ht2).trans ht3⟩
end Go.Proofs.Ytmkbcbkgficnkaa

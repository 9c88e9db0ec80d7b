/- The walk of layer 6's statement on no window, and on what is too far back. -/
import Derived.Test.YtdbpjkpbmfjcnaaWinC
namespace Go.Proofs.Ytdbpjkpbmfjcnaa
open Go Go.RowKit
set_option maxRecDepth 100000

set_option maxHeartbeats 1000000 in
theorem wnone_calls (n d : Int) (w : World) (_hn : -9223372036854775808 ≤ n ∧ n ≤ 9223372036854775807) (hd : -9223372036854775808 ≤ d ∧ d ≤ 9223372036854775807) :
    Calls Try.prog 12 #[.int .i64 n, .int .i64 d] w fun e w' => e = .returned (.bool true) ∧ Touch (fun _ => False) w w' := by
  have hx : d < 1 ∨ (0 : Int) < d := by omega
  have HX := Lib.hid hx
  clear hx hd
  go_enter Try.func12, Try.ntmps12
  go_wp2_with (go_at_call 34; refine (speaks6_calls _).mono ?_; rintro e w1 ⟨rfl, ht1⟩)
  go_wp2_with (first
    | (go_at_call 36; refine (put_nil _ _).mono ?_; rintro e w2 ⟨rfl, rfl⟩)
    | (go_at_call 35; refine (add_nil _ _ (by decide)).mono ?_; rintro e w2 ⟨rfl, rfl⟩))
  refine (back_nil d _).mono ?_
  rintro e w2 ⟨rfl, rfl⟩
  go_wp2_with fail
  refine (copy_nil n d _).mono ?_
  rintro e w2 ⟨rfl, ht2⟩
  go_wp2_with fail
  have hF := fresh_win w w2 66 (ht1.trans ht2)
  refine (back_out _ d [] w _ hF (by have := HX.out; simp; omega)).mono ?_
  rintro e w3 ⟨rfl, ht3⟩
  have hF3 := hF.still ht3
  have hlt := hF3.lt
  clear hF ht3
  generalize w2.heap.size = b at hF3 hlt ⊢
  go_wp2_with fail
  refine (copy_out b n d [] w _ hF3 (by have := HX.out; simp; omega)).mono ?_
  rintro e w4 ⟨rfl, ht4⟩
  have hF4 := hF3.still ht4
  clear hF3 ht4 hlt
  have HL : RowKit.Hid (∀ W, FrW w W b [] → Calls Try.prog 41 #[.pointer (some ⟨b, 0, none⟩)] W fun e w' => e = .returned (.int .i64 0) ∧ W = w') := Lib.hid (fun W h => by
    obtain ⟨row, hW, _⟩ := h
    exact len_calls b 0 _ row W hW)
  have HF := Lib.hid hF4
  clear hF4
  go_wp2_with fail
  refine (len_nil _).mono ?_
  rintro e w5 ⟨rfl, rfl⟩
  go_wp2_with fail
  refine (total_nil _).mono ?_
  rintro e w5 ⟨rfl, rfl⟩
  go_wp2_with fail
  refine (text_nil _).mono ?_
  rintro e w5 ⟨rfl, rfl⟩
  go_wp2_with fail
  refine (HL.out _ HF.out).mono ?_
  rintro e w5 ⟨rfl, rfl⟩
  go_wp2_with fail
  go_ret
  exact ⟨rfl, HF.out.touch⟩
end Go.Proofs.Ytdbpjkpbmfjcnaa

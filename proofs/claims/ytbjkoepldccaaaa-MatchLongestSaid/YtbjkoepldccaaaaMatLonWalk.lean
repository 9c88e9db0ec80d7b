/- The statement MatchLongest over the translated program. -/
import Derived.Test.YtbjkoepldccaaaaMatS
namespace Go.Proofs.Ytbjkoepldccaaaa
open Go Go.RowKit Go.Maps
set_option maxRecDepth 100000

set_option maxHeartbeats 1000000 in
theorem mlong_calls (a s : ByteArray) (w : World) :
    Calls Try.prog 3 #[.string a, .string s] w fun e w' => e = .returned (.bool true) ∧ Touch (fun _ => False) w w' := by
  obtain ⟨k, hk⟩ : ∃ k, k = min a.size 600 := ⟨_, rfl⟩
  obtain ⟨m, hm⟩ : ∃ m, m = min s.size 600 := ⟨_, rfl⟩
  obtain ⟨A, hA⟩ : ∃ A, a.extract 0 k = A := ⟨_, rfl⟩
  obtain ⟨S, hS⟩ : ∃ S, s.extract 0 m = S := ⟨_, rfl⟩
  have hk1 : min (a.size : Int) 600 = (k : Int) := by omega
  have hm1 : min (s.size : Int) 600 = (m : Int) := by omega
  have hk3 : (if (600 : Int) < (a.size : Int) then (600 : Int) else (a.size : Int)) = (k : Int) := by split <;> omega
  have hm3 : (if (600 : Int) < (s.size : Int) then (600 : Int) else (s.size : Int)) = (m : Int) := by split <;> omega
  have hk2 : (k : Int) ≤ (a.size : Int) := by omega
  have hm2 : (m : Int) ≤ (s.size : Int) := by omega
  have hk0 : (0 : Int) ≤ (k : Int) := by omega
  have hm0 : (0 : Int) ≤ (m : Int) := by omega
  have hAs : A.size ≤ 600 := by rw [← hA]; simp; omega
  have hSs : S.size ≤ 600 := by rw [← hS]; simp; omega
  have HSP := Lib.hid (speaks8_calls w)
  have HL := Lib.hid (fun W => Longest_calls A S (A ++ S) W (by omega) (by omega) rfl)
  have HR := Lib.hid (fun W => refL A S (A ++ S) W (by omega) (by omega) rfl)
  clear hk hm
  go_enter Try.func3, Try.ntmps3
  go_wp2_with fail
  refine HSP.out.mono ?_
  rintro e w1 ⟨rfl, ht⟩
  have HT := Lib.hid ht
  clear ht
  go_wp2_with fail
  go_quiet (fail)
  go_wp2_with fail
  refine (HL.out _).mono ?_
  rintro e w2 ⟨⟨z, d, rfl, hL⟩, ht⟩
  have HLL := Lib.hid hL
  have HT2 := Lib.hid ((HT.out.drewN _).trans ht)
  clear ht hL
  go_wp2_with fail
  refine (HR.out _).mono ?_
  rintro e w3 ⟨⟨z', d', rfl, hR⟩, ht⟩
  obtain ⟨rfl, rfl⟩ := HLL.out.one hR
  have HT3 := Lib.hid (HT2.out.trans ht)
  clear ht hR HLL
  go_wp2_with fail
  go_ret
  exact ⟨rfl, HT3.out⟩
end Go.Proofs.Ytbjkoepldccaaaa

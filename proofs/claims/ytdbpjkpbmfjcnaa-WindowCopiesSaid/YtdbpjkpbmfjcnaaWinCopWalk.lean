/- The walk of layer 6's statement that what is copied can be copied again. -/
import Derived.Test.YtdbpjkpbmfjcnaaWinC
namespace Go.Proofs.Ytdbpjkpbmfjcnaa
open Go Go.RowKit
set_option maxRecDepth 100000

theorem copyL_prefix (k d : Nat) (T : List UInt8) : copyL k d T = T ++ (copyL k d T).drop T.length := by
  induction k with
  | zero => simp [copyL]
  | succ k ih =>
    have hl := copyL_length k d T
    rw [copyL_snoc, List.drop_append_of_le_length (by omega), ← List.append_assoc, ← ih]
theorem copyL_again (T A : List UInt8) (k : Nat) (hk : k ≤ A.length) : copyL k A.length (T ++ A) = T ++ A ++ A.take k := by
  induction k with
  | zero => simp [copyL]
  | succ k ih =>
    rw [copyL_snoc, ih (by omega), List.take_succ_eq_append_getElem (by omega), ← List.append_assoc]
    congr 2
    have hlen : (T ++ A ++ A.take k).length - A.length = T.length + k := by
      simp only [List.length_append, List.length_take]
      omega
    rw [hlen, List.getD, List.getElem?_append_left (by simp; omega), List.getElem?_append_right (by omega), show T.length + k - T.length = k by omega, List.getElem?_eq_getElem (by omega)]
    rfl

theorem i64_and127' (n : Int) : bits .and .i64 n 127 = n % 128 := by
  have hk : (BitVec.ofInt 64 127).toNat = 2 ^ 7 - 1 := by decide
  have key : (BitVec.ofInt 64 n &&& BitVec.ofInt 64 127).toNat = (n % ((2 ^ 64 : Nat) : Int)).toNat % 2 ^ 7 := by
    rw [BitVec.toNat_and, BitVec.toNat_ofInt, hk, Nat.and_two_pow_sub_one_eq_mod]
  show IntKind.i64.wrap ((BitVec.ofInt 64 n &&& BitVec.ofInt 64 127).toNat : Nat) = n % 128
  rw [key, IntKind.wrap_i64]
  omega

/-- A remainder that is never below 0. -/
theorem rem_val (z : Int) (n : Nat) (hn : 0 < n) : ∃ (r : Int) (k : Nat), z.tmod (n : Int) = r ∧ -(n : Int) < r ∧ r < n ∧ (r + n) % (n : Int) = k ∧ k < n := by
  have h1 := Int.tmod_lt_of_pos z (show (0 : Int) < (n : Int) by omega)
  have h2 : -(n : Int) < z.tmod (n : Int) := Int.lt_tmod_of_pos z (by omega)
  have h3 := Int.emod_nonneg (z.tmod (n : Int) + n) (show (n : Int) ≠ 0 by omega)
  have h4 := Int.emod_lt_of_pos (z.tmod (n : Int) + n) (show (0 : Int) < (n : Int) by omega)
  exact ⟨z.tmod (n : Int), ((z.tmod (n : Int) + n) % (n : Int)).toNat, rfl, h2, h1, by omega, by omega⟩

theorem str_list (t : ByteArray) : t = ⟨t.data.toList.toArray⟩ := by
  apply ByteArray.ext
  simp

/-- All that is copied of a text: what was copied, twice. -/
theorem copies_facts (t : ByteArray) (n d : Nat) (h1 : 1 ≤ d) (hd : d ≤ t.size) (ht : t.size ≤ 303) (hn : n ≤ 128) :
    ∃ (sa sx : ByteArray) (A : List UInt8), sa = ⟨A.toArray⟩ ∧ sa.size = n ∧ copyL n d t.data.toList = t.data.toList ++ A ∧ (t.data.toList ++ A).length = t.size + n ∧ ((copyL n d t.data.toList).drop t.data.toList.length) = A ∧
      (copyL n n (t.data.toList ++ A)).drop (t.data.toList ++ A).length = A ∧ copyL n n (t.data.toList ++ A) = t.data.toList ++ A ++ A ∧ lastL (t.data.toList ++ A ++ A) = sx.data.toList ∧ t ++ sa ++ sa = sx := by
  have hT : t.data.toList.length = t.size := data_length t
  obtain ⟨A, hA⟩ : ∃ A, A = (copyL n d t.data.toList).drop t.data.toList.length := ⟨_, rfl⟩
  have hp := copyL_prefix n d t.data.toList
  rw [← hA] at hp
  have hAl : A.length = n := by
    have := copyL_length n d t.data.toList
    rw [hA, List.length_drop]
    omega
  have hag := copyL_again t.data.toList A n (by omega)
  rw [hAl, List.take_of_length_le (by omega)] at hag
  refine ⟨⟨A.toArray⟩, ⟨(t.data.toList ++ A ++ A).toArray⟩, A, rfl, ?_, hp, by rw [List.length_append, hT, hAl], hA.symm, ?_, hag, ?_, ?_⟩
  · show A.toArray.size = n
    simpa using hAl
  · rw [hag, List.drop_left]
  · unfold lastL
    rw [Nat.sub_eq_zero_of_le (by simp only [List.length_append]; omega)]
    simp
  · conv => lhs; rw [str_list t]
    rw [str_append, str_append]

set_option maxHeartbeats 1000000 in
theorem wcopies_s (s : ByteArray) (n d : Int) (w : World) (hs : s.size ≤ 300) :
    Calls Try.prog 11 #[.string s, .int .i64 n, .int .i64 d] w fun e w' => e = .returned (.bool true) ∧ Touch (fun _ => False) w w' := by
  have hand := i64_and127' n
  obtain ⟨m, hm⟩ : ∃ m : Nat, n % 128 = m := ⟨(n % 128).toNat, by omega⟩
  have hm2 : m < 128 := by omega
  rw [hm] at hand
  clear hm
  go_enter Try.func11, Try.ntmps11
  go_wp2_with (go_at_call 34; refine (speaks6_calls _).mono ?_; rintro e w1 ⟨rfl, ht1⟩)
  have hsz : (s ++ ⟨#[120, 121, 122]⟩ : ByteArray).size = s.size + 3 := by simp [ByteArray.size_append]; rfl
  generalize (s ++ ⟨#[120, 121, 122]⟩ : ByteArray) = t at hsz ⊢
  have ht3 : 3 ≤ t.size := by omega
  have ht303 : t.size ≤ 303 := by omega
  clear hsz
  obtain ⟨r, k, hr, hr1, hr2, hk, hk2⟩ := rem_val d t.size (by omega)
  go_region
  go_wp2_with fail
  obtain ⟨sa, sx, A, hsa, hsz, hc1, hl1, hc2, hc3, hc4, hla, hsum⟩ := copies_facts t (m + 1) (k + 1) (by omega) (by omega) ht303 (by omega)
  refine (add_fr w _ t [] _ (fresh_win w w1.drew 66 ht1.drew) (by simp; omega)).mono ?_
  rintro e w2 ⟨rfl, h2⟩
  change FrW w w2 w1.heap.size _ at h2
  rw [List.nil_append] at h2
  generalize w1.heap.size = b at h2 ⊢
  have hT : t.data.toList.length = t.size := data_length t
  have H1 : RowKit.Hid (Calls Try.prog 37 #[.pointer (some ⟨b, 0, none⟩), .int .i64 (1 + (m : Int)), .int .i64 (1 + (k : Int))] w2 fun e w' => e = .returned (.tuple #[.string sa, .bool true]) ∧ FrW w w' b (t.data.toList ++ A)) := Lib.hid (by
    have := copy_in b (m + 1) (k + 1) t.data.toList w w2 h2 (by omega) (by omega) (by rw [hT]; omega) (by rw [hT]; omega)
    rw [hc2, hc1, ← hsa] at this
    rw [show (1 + (m : Int)) = ((m + 1 : Nat) : Int) by omega, show (1 + (k : Int)) = ((k + 1 : Nat) : Int) by omega]
    exact this)
  have H2 : RowKit.Hid (∀ W, FrW w W b (t.data.toList ++ A) → Calls Try.prog 37 #[.pointer (some ⟨b, 0, none⟩), .int .i64 (1 + (m : Int)), .int .i64 (1 + (m : Int))] W fun e w' => e = .returned (.tuple #[.string sa, .bool true]) ∧ FrW w w' b (t.data.toList ++ A ++ A)) := Lib.hid (fun W h => by
    have := copy_in b (m + 1) (m + 1) (t.data.toList ++ A) w W h (by omega) (by omega) (by rw [hl1]; omega) (by rw [hl1]; omega)
    rw [hc3, hc4, ← hsa] at this
    rw [show (1 + (m : Int)) = ((m + 1 : Nat) : Int) by omega]
    exact this)
  have H3 : RowKit.Hid (∀ W, FrW w W b (t.data.toList ++ A ++ A) → Calls Try.prog 43 #[.pointer (some ⟨b, 0, none⟩)] W fun e w' => e = .returned (.string sx) ∧ Touch (fun _ => False) W w') := Lib.hid (fun W h => by
    have hAl : A.length = m + 1 := by have := hl1; rw [List.length_append, hT] at this; omega
    have := text_calls b (t.data.toList ++ A ++ A) w W h (by simp only [List.length_append]; omega)
    rw [hla] at this
    rw [str_list sx]
    exact this)
  have hsz2 : (sa.size : Int) = 1 + (m : Int) := by omega
  have hsz3 : sa.size ≤ 128 := by omega
  have HSUM := Lib.hid hsum
  clear hc1 hl1 hc2 hc3 hc4 hla hsa hsz hT h2 hr hr1 hr2 hk hk2 hand ht3 hsum
  go_wp2_with fail
  refine H1.out.mono ?_
  rintro e w3 ⟨rfl, h3⟩
  have HF3 := Lib.hid h3
  clear h3
  go_wp2_with fail
  refine (H2.out _ HF3.out).mono ?_
  rintro e w4 ⟨rfl, h4⟩
  have HF4 := Lib.hid h4
  clear h4
  go_wp2_with fail
  refine (H3.out _ HF4.out).mono ?_
  rintro e w5 ⟨rfl, ht5⟩
  have hsum := HSUM.out
  clear H1 H2 H3
  go_wp2_with fail
  go_ret
  exact ⟨rfl, HF4.out.touch.trans ht5⟩

set_option maxHeartbeats 1000000 in
theorem wcopies_l (s : ByteArray) (n d : Int) (w : World) (hsl : 300 < s.size) (hsm : s.size ≤ 9223372036854775807) :
    Calls Try.prog 11 #[.string s, .int .i64 n, .int .i64 d] w fun e w' => e = .returned (.bool true) ∧ Touch (fun _ => False) w w' := by
  have hand := i64_and127' n
  obtain ⟨m, hm⟩ : ∃ m : Nat, n % 128 = m := ⟨(n % 128).toNat, by omega⟩
  have hm2 : m < 128 := by omega
  rw [hm] at hand
  clear hm
  go_enter Try.func11, Try.ntmps11
  go_wp2_with (go_at_call 34; refine (speaks6_calls _).mono ?_; rintro e w1 ⟨rfl, ht1⟩)
  have hs : (s.extract 0 300).size ≤ 300 := by simp; omega
  generalize s.extract 0 300 = s at hs ⊢
  have hsz : (s ++ ⟨#[120, 121, 122]⟩ : ByteArray).size = s.size + 3 := by simp [ByteArray.size_append]; rfl
  generalize (s ++ ⟨#[120, 121, 122]⟩ : ByteArray) = t at hsz ⊢
  have ht3 : 3 ≤ t.size := by omega
  have ht303 : t.size ≤ 303 := by omega
  clear hsz
  obtain ⟨r, k, hr, hr1, hr2, hk, hk2⟩ := rem_val d t.size (by omega)
  go_region
  go_wp2_with fail
  obtain ⟨sa, sx, A, hsa, hsz, hc1, hl1, hc2, hc3, hc4, hla, hsum⟩ := copies_facts t (m + 1) (k + 1) (by omega) (by omega) ht303 (by omega)
  refine (add_fr w _ t [] _ (fresh_win w w1.drew 66 ht1.drew) (by simp; omega)).mono ?_
  rintro e w2 ⟨rfl, h2⟩
  change FrW w w2 w1.heap.size _ at h2
  rw [List.nil_append] at h2
  generalize w1.heap.size = b at h2 ⊢
  have hT : t.data.toList.length = t.size := data_length t
  have H1 : RowKit.Hid (Calls Try.prog 37 #[.pointer (some ⟨b, 0, none⟩), .int .i64 (1 + (m : Int)), .int .i64 (1 + (k : Int))] w2 fun e w' => e = .returned (.tuple #[.string sa, .bool true]) ∧ FrW w w' b (t.data.toList ++ A)) := Lib.hid (by
    have := copy_in b (m + 1) (k + 1) t.data.toList w w2 h2 (by omega) (by omega) (by rw [hT]; omega) (by rw [hT]; omega)
    rw [hc2, hc1, ← hsa] at this
    rw [show (1 + (m : Int)) = ((m + 1 : Nat) : Int) by omega, show (1 + (k : Int)) = ((k + 1 : Nat) : Int) by omega]
    exact this)
  have H2 : RowKit.Hid (∀ W, FrW w W b (t.data.toList ++ A) → Calls Try.prog 37 #[.pointer (some ⟨b, 0, none⟩), .int .i64 (1 + (m : Int)), .int .i64 (1 + (m : Int))] W fun e w' => e = .returned (.tuple #[.string sa, .bool true]) ∧ FrW w w' b (t.data.toList ++ A ++ A)) := Lib.hid (fun W h => by
    have := copy_in b (m + 1) (m + 1) (t.data.toList ++ A) w W h (by omega) (by omega) (by rw [hl1]; omega) (by rw [hl1]; omega)
    rw [hc3, hc4, ← hsa] at this
    rw [show (1 + (m : Int)) = ((m + 1 : Nat) : Int) by omega]
    exact this)
  have H3 : RowKit.Hid (∀ W, FrW w W b (t.data.toList ++ A ++ A) → Calls Try.prog 43 #[.pointer (some ⟨b, 0, none⟩)] W fun e w' => e = .returned (.string sx) ∧ Touch (fun _ => False) W w') := Lib.hid (fun W h => by
    have hAl : A.length = m + 1 := by have := hl1; rw [List.length_append, hT] at this; omega
    have := text_calls b (t.data.toList ++ A ++ A) w W h (by simp only [List.length_append]; omega)
    rw [hla] at this
    rw [str_list sx]
    exact this)
  have hsz2 : (sa.size : Int) = 1 + (m : Int) := by omega
  have hsz3 : sa.size ≤ 128 := by omega
  have HSUM := Lib.hid hsum
  clear hc1 hl1 hc2 hc3 hc4 hla hsa hsz hT h2 hr hr1 hr2 hk hk2 hand ht3 hsum
  go_wp2_with fail
  refine H1.out.mono ?_
  rintro e w3 ⟨rfl, h3⟩
  have HF3 := Lib.hid h3
  clear h3
  go_wp2_with fail
  refine (H2.out _ HF3.out).mono ?_
  rintro e w4 ⟨rfl, h4⟩
  have HF4 := Lib.hid h4
  clear h4
  go_wp2_with fail
  refine (H3.out _ HF4.out).mono ?_
  rintro e w5 ⟨rfl, ht5⟩
  have hsum := HSUM.out
  clear H1 H2 H3
  go_wp2_with fail
  go_ret
  exact ⟨rfl, HF4.out.touch.trans ht5⟩

theorem wcopies_calls (s : ByteArray) (n d : Int) (w : World) (hs : s.size ≤ maxLen) :
    Calls Try.prog 11 #[.string s, .int .i64 n, .int .i64 d] w fun e w' => e = .returned (.bool true) ∧ Touch (fun _ => False) w w' := by
  by_cases h : s.size ≤ 300
  · exact wcopies_s s n d w h
  · exact wcopies_l s n d w (by omega) (by unfold maxLen at hs; omega)
end Go.Proofs.Ytdbpjkpbmfjcnaa

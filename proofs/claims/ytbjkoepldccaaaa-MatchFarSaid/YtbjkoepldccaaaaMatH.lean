/- The program's longest match and the reference's are the same. -/
import Derived.Test.YtbjkoepldccaaaaMatG
namespace Go.Proofs.Ytbjkoepldccaaaa
open Go Go.RowKit Go.Maps
set_option maxRecDepth 100000

theorem mlen_congr (X Y : List UInt8) (p a n : Nat) (hp : p ≤ a) (h : ∀ k, k < a + n → X.getD k 0 = Y.getD k 0) : mlen X p a n = mlen Y p a n := by
  induction n generalizing p a with
  | zero => rfl
  | succ n ih =>
    rw [mlen, mlen, h p (by omega), h a (by omega), ih (p + 1) (a + 1) (by omega) (fun k hk => h k (by omega))]
theorem LongestR.congr {X Y : List UInt8} {a M z d : Nat} (h : LongestR X a M z d) (he : ∀ k, k < a + M → X.getD k 0 = Y.getD k 0) : LongestR Y a M z d := by
  have hm : ∀ q, q < a → mlen Y q a M = mlen X q a M := fun q hq => (mlen_congr X Y q a M (by omega) he).symm
  rcases h with ⟨h1, h2, h3⟩ | ⟨h1, p, h2, h3, h4, h5, h6⟩
  · exact .inl ⟨h1, h2, fun q hq hw => by rw [hm q hq]; exact h3 q hq hw⟩
  · exact .inr ⟨h1, p, h2, h3, h4, by rw [hm p h2]; exact h5, fun q hq hw => by rw [hm q hq]; exact h6 q hq hw⟩
theorem LongestR.few {X : List UInt8} {a M z d : Nat} (h : LongestR X a M z d) (hM : M < 3) : z = 0 ∧ d = 0 := by
  rcases h with ⟨h1, h2, _⟩ | ⟨h1, p, _, _, _, h5, _⟩
  · exact ⟨h1, h2⟩
  · have := mlen_le X p a M; omega
theorem app_take (A s : ByteArray) (k : Nat) (h : k < A.size + (s.extract 0 258).size) : (A ++ s.extract 0 258).data.toList.getD k 0 = (A ++ s).data.toList.getD k 0 := by
  have e : (s.extract 0 258).data.toList = s.data.toList.take 258 := by simp [ByteArray.data_extract]
  have hA := data_length A
  have hl : (s.extract 0 258).size = min 258 s.size := by simp
  rw [ByteArray.data_append, ByteArray.data_append, Array.toList_append, Array.toList_append, e]
  simp only [List.getD_eq_getElem?_getD]
  rcases Nat.lt_or_ge k A.size with h1 | h1
  · rw [List.getElem?_append_left (by omega), List.getElem?_append_left (by omega)]
  · rw [List.getElem?_append_right (by omega), List.getElem?_append_right (by omega), List.getElem?_take_of_lt (by omega)]

/-- Package match's Longest, of a text behind no more than a window. -/
theorem Longest_calls (ahead s T : ByteArray) (w : World) (hah : ahead.size ≤ 32768) (hs : s.size ≤ 32768) (hT : ahead ++ s = T) :
    Calls Try.prog 8 #[.string ahead, .string s] w fun e w' => (∃ z d : Nat, e = .returned (.tuple #[.int .i64 (z : Nat), .int .i64 (d : Nat)]) ∧ LongestR T.data.toList ahead.size (min s.size 258) z d) ∧ Touch (fun _ => False) w w' := by
  have hA : ahead.extract (ahead.size - 32768) ahead.size = ahead := by
    rw [show ahead.size - 32768 = 0 by omega]; simp
  rcases Nat.lt_or_ge s.size 3 with h3 | h3
  · refine (Longest_few ahead s w h3).mono ?_
    rintro e w' ⟨rfl, rfl⟩
    refine ⟨⟨0, 0, rfl, .inl ⟨rfl, rfl, fun q hq _ => ?_⟩⟩, Touch.refl _ _⟩
    have := mlen_le T.data.toList q ahead.size (min s.size 258)
    omega
  · rcases Nat.lt_or_ge 258 s.size with hl | hl
    · refine (Longest_long ahead s ahead (s.extract 0 258) (ahead ++ s.extract 0 258) w hl (by omega) (by omega) hA.symm rfl rfl).mono ?_
      rintro e w' ⟨⟨z, d, rfl, hR⟩, ht⟩
      have hl2 : (s.extract 0 258).size = min s.size 258 := by simp; omega
      rw [← hl2]
      exact ⟨⟨z, d, rfl, hR.congr (fun k hk => by rw [← hT]; exact app_take ahead s k hk)⟩, ht⟩
    · refine (Longest_short ahead s ahead T w h3 hl (by omega) hA.symm hT.symm).mono ?_
      rintro e w' ⟨⟨z, d, rfl, hR⟩, ht⟩
      rw [show min s.size 258 = s.size by omega]
      exact ⟨⟨z, d, rfl, hR⟩, ht⟩
end Go.Proofs.Ytbjkoepldccaaaa

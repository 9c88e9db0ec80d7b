
/- The walk of layer 5's statement that each length and distance is told by its symbol and as many bits as that has. -/
import Derived.Test.YtnjgalalnnldiaaLzN
namespace Go.Proofs.Ytnjgalalnnldiaa
open Go Go.RowKit
set_option maxRecDepth 100000
set_option maxRecDepth 100000

theorem exp_ab : expV (⟨#[97, 98]⟩ : ByteArray).size (expandL (⟨#[97, 98]⟩ : ByteArray).data.toList [⟨0, 3, 2⟩]) = .tuple #[.string ⟨#[97, 98, 97]⟩, .bool true] := by rfl
theorem toks_new (w : World) (t : TypeId) (b n d : Value) (T : Tok) (hb : b = .int .u8 (T.b.toNat : Nat)) (hn : n = .int .i64 T.n) (hd : d = .int .i64 T.d) : Toks (w.alloc (.cells #[b, n, d] t)) (.slice (some ⟨w.heap.size, 0, none⟩) 1 1) [T] := by
  subst hb hn hd
  refine ⟨_, 1, rfl, Nat.le_refl _, by unfold maxLen; omega, .inr ⟨w.heap.size, 0, rfl, fun j u hu => ?_⟩⟩
  have hj : j = 0 := by
    have := (List.getElem?_eq_some_iff.1 hu).1
    simp at this
    exact this
  subst hj
  obtain rfl : T = u := by simpa using hu
  obtain ⟨c0, c1, c2, _, _, _⟩ := box_cells (heap_alloc_new w (.cells #[.int .u8 (T.b.toNat : Nat), .int .i64 T.n, .int .i64 T.d] t))
  exact ⟨c0, c1, c2⟩

theorem length_258 (w : World) : Calls Try.prog 29 #[.int .i64 258] w fun e w' => e = .returned (.agg #[.int .i64 285, .int .i64 0, .int .u64 0]) ∧ Touch (fun _ => False) w w' := length_in 258 w (by decide) (by decide)
theorem dist_6 (w : World) : Calls Try.prog 30 #[.int .i64 6] w fun e w' => e = .returned (.agg #[.int .i64 4, .int .i64 1, .int .u64 1]) ∧ Touch (fun _ => False) w w' := dist_in 6 w (by decide) (by decide)

set_option maxHeartbeats 1000000 in
theorem speaks5_calls (w : World) : Calls Try.prog 13 #[] w fun e w' => e = .returned (.bool true) ∧ Touch (fun _ => False) w w' := by
  go_enter Try.func13, Try.ntmps13
  go_wp2_with fail
  refine (expand_calls ⟨#[97, 98]⟩ [⟨0, 3, 2⟩] _ _ (toks_new w _ _ _ _ ⟨0, 3, 2⟩ rfl rfl rfl) (by decide) (by decide)).mono ?_
  rintro e w1 ⟨rfl, ht1⟩
  rw [exp_ab]
  have hT1 := ((Touch.refl (fun _ => False) w).alloc _).trans ht1
  clear ht1
  go_wp2_with fail
  refine (length_258 _).mono ?_
  rintro e w2 ⟨rfl, ht2⟩
  go_wp2_with fail
  refine (dist_6 _).mono ?_
  rintro e w3 ⟨rfl, ht3⟩
  go_wp2_with fail
  go_ret
  exact ⟨rfl, (hT1.trans ht2).trans ht3⟩

theorem len_facts (k : Nat) (h3 : 3 ≤ k) (h : k ≤ 258) : ∃ s, s < 29 ∧ lenS k = s + 257 ∧ lenL s + lenV k = k ∧ lenE s = lenB k ∧ lenV k < 2 ^ lenB k ∧ lenB k ≤ 5 ∧ lenL s ≤ 258 := by
  by_cases h8 : k = 258
  · subst h8
    exact ⟨28, by decide, by decide, by decide, by decide, by decide, by decide, by decide⟩
  · obtain ⟨h4, h5, h6, h7⟩ := told_facts 2 (k - 3) (.inr rfl) (by omega)
    have hb : blen (k - 3) ≤ 8 := Lib.bitLen_le _ 8 (by decide) (by omega)
    have hb2 : bitN 2 (k - 3) ≤ 5 := by unfold bitN; omega
    have e1 : lenS k = 257 + symN 2 (k - 3) := if_neg h8
    have e2 : lenB k = bitN 2 (k - 3) := if_neg h8
    have e3 : lenV k = valN 2 (k - 3) := if_neg h8
    have hs : symN 2 (k - 3) < 28 := by omega
    have e4 : lenL (symN 2 (k - 3)) = leastN 2 (symN 2 (k - 3)) + 3 := if_neg (by omega)
    have e5 : lenE (symN 2 (k - 3)) = extN 2 (symN 2 (k - 3)) := if_neg (by omega)
    exact ⟨symN 2 (k - 3), by omega, by omega, by omega, by omega, by rw [e3, e2]; exact h6, by omega, by omega⟩

theorem dist_facts (k : Nat) (h1 : 1 ≤ k) (h : k ≤ 32768) : ∃ s, s < 30 ∧ symN 1 (k - 1) = s ∧ leastN 1 s + 1 + valN 1 (k - 1) = k ∧ extN 1 s = bitN 1 (k - 1) ∧ valN 1 (k - 1) < 2 ^ bitN 1 (k - 1) ∧ bitN 1 (k - 1) ≤ 13 := by
  obtain ⟨h4, h5, h6, h7⟩ := told_facts 1 (k - 1) (.inl rfl) (by omega)
  have hb := blen_le (k - 1) (by omega)
  have hb2 : bitN 1 (k - 1) ≤ 13 := by unfold bitN; omega
  exact ⟨_, by omega, rfl, by omega, h4, h6, hb2⟩

theorem shr_zero (v e : Nat) (h : v < 2 ^ e) : (v : Int) / 2 ^ e = 0 := by
  rw [show (2 : Int) ^ e = ((2 ^ e : Nat) : Int) by simp, show (v : Int) / ((2 ^ e : Nat) : Int) = ((v / 2 ^ e : Nat) : Int) by simp, Nat.div_eq_of_lt h]
  rfl

end Go.Proofs.Ytnjgalalnnldiaa

/- The walk of layer 5's statement that each length and distance is told by its symbol and as many bits as that has. -/
import Derived.Test.YtdbpjkpbmfjcnaaLzN
namespace Go.Proofs.Ytdbpjkpbmfjcnaa
open Go Go.RowKit
set_option maxRecDepth 100000

theorem exp_ab : expV (⟨#[97, 98]⟩ : ByteArray).size (expandL (⟨#[97, 98]⟩ : ByteArray).data.toList [⟨0, 3, 2⟩]) = .tuple #[.string ⟨#[97, 98, 97]⟩, .bool true] := by rfl
theorem toks_new (w : World) (t : TypeId) (b n d : Value) (T : Tok) (hb : b = .int .u8 (T.b.toNat : Nat)) (hn : n = .int .i64 T.n) (hd : d = .int .i64 T.d) : Toks (w.alloc (.cells #[b, n, d] t)) (.slice (some ⟨w.heap.size, 0, none⟩) 1 1) [T] := by
  subst hb hn hd
  refine ⟨_, 1, rfl, Nat.le_refl _, by unfold maxLen; omega, .inr ⟨w.heap.size, 0, rfl, fun j u hu => ?_⟩⟩
  have hj : j = 0 := by
    have := (List.getElem?_eq_some_iff.1 hu).1
    simp at this
    exact this
  subst hj
  obtain rfl : T = u := by simpa using hu
  obtain ⟨c0, c1, c2, _, _, _⟩ := box_cells (heap_alloc_new w (.cells #[.int .u8 (T.b.toNat : Nat), .int .i64 T.n, .int .i64 T.d] t))
  exact ⟨c0, c1, c2⟩

theorem length_258 (w : World) : Calls Try.prog 23 #[.int .i64 258] w fun e w' => e = .returned (.agg #[.int .i64 285, .int .i64 0, .int .u64 0]) ∧ Touch (fun _ => False) w w' := length_in 258 w (by decide) (by decide)
theorem dist_6 (w : World) : Calls Try.prog 24 #[.int .i64 6] w fun e w' => e = .returned (.agg #[.int .i64 4, .int .i64 1, .int .u64 1]) ∧ Touch (fun _ => False) w w' := dist_in 6 w (by decide) (by decide)

set_option maxHeartbeats 1000000 in
theorem speaks5_calls (w : World) : Calls Try.prog 20 #[] w fun e w' => e = .returned (.bool true) ∧ Touch (fun _ => False) w w' := by
  go_enter Try.func20, Try.ntmps20
  go_wp2_with fail
  refine (expand_calls ⟨#[97, 98]⟩ [⟨0, 3, 2⟩] _ _ (toks_new w _ _ _ _ ⟨0, 3, 2⟩ rfl rfl rfl) (by decide) (by decide)).mono ?_
  rintro e w1 ⟨rfl, ht1⟩
  rw [exp_ab]
  have hT1 := ((Touch.refl (fun _ => False) w).alloc _).trans ht1
  clear ht1
  go_wp2_with fail
  refine (length_258 _).mono ?_
  rintro e w2 ⟨rfl, ht2⟩
  go_wp2_with fail
  refine (dist_6 _).mono ?_
  rintro e w3 ⟨rfl, ht3⟩
  go_wp2_with fail
  go_ret
  exact ⟨rfl, (hT1.trans ht2).trans ht3⟩

theorem len_facts (k : Nat) (h3 : 3 ≤ k) (h : k ≤ 258) : ∃ s, s < 29 ∧ lenS k = s + 257 ∧ lenL s + lenV k = k ∧ lenE s = lenB k ∧ lenV k < 2 ^ lenB k ∧ lenB k ≤ 5 ∧ lenL s ≤ 258 := by
  by_cases h8 : k = 258
  · subst h8
    exact ⟨28, by decide, by decide, by decide, by decide, by decide, by decide, by decide⟩
  · obtain ⟨h4, h5, h6, h7⟩ := told_facts 2 (k - 3) (.inr rfl) (by omega)
    have hb : blen (k - 3) ≤ 8 := Lib.bitLen_le _ 8 (by decide) (by omega)
    have hb2 : bitN 2 (k - 3) ≤ 5 := by unfold bitN; omega
    have e1 : lenS k = 257 + symN 2 (k - 3) := if_neg h8
    have e2 : lenB k = bitN 2 (k - 3) := if_neg h8
    have e3 : lenV k = valN 2 (k - 3) := if_neg h8
    have hs : symN 2 (k - 3) < 28 := by omega
    have e4 : lenL (symN 2 (k - 3)) = leastN 2 (symN 2 (k - 3)) + 3 := if_neg (by omega)
    have e5 : lenE (symN 2 (k - 3)) = extN 2 (symN 2 (k - 3)) := if_neg (by omega)
    exact ⟨symN 2 (k - 3), by omega, by omega, by omega, by omega, by rw [e3, e2]; exact h6, by omega, by omega⟩

theorem dist_facts (k : Nat) (h1 : 1 ≤ k) (h : k ≤ 32768) : ∃ s, s < 30 ∧ symN 1 (k - 1) = s ∧ leastN 1 s + 1 + valN 1 (k - 1) = k ∧ extN 1 s = bitN 1 (k - 1) ∧ valN 1 (k - 1) < 2 ^ bitN 1 (k - 1) ∧ bitN 1 (k - 1) ≤ 13 := by
  obtain ⟨h4, h5, h6, h7⟩ := told_facts 1 (k - 1) (.inl rfl) (by omega)
  have hb := blen_le (k - 1) (by omega)
  have hb2 : bitN 1 (k - 1) ≤ 13 := by unfold bitN; omega
  exact ⟨_, by omega, rfl, by omega, h4, h6, hb2⟩

theorem shr_zero (v e : Nat) (h : v < 2 ^ e) : (v : Int) / 2 ^ e = 0 := by
  rw [show (2 : Int) ^ e = ((2 ^ e : Nat) : Int) by simp, show (v : Int) / ((2 ^ e : Nat) : Int) = ((v / 2 ^ e : Nat) : Int) by simp, Nat.div_eq_of_lt h]
  rfl

set_option maxHeartbeats 1000000 in
theorem whole_calls (n : Int) (w : World) : Calls Try.prog 8 #[.int .i64 n] w fun e w' => e = .returned (.bool true) ∧ Touch (fun _ => False) w w' := by
  obtain ⟨m, hm⟩ : ∃ m : Nat, n % 256 = m := ⟨(n % 256).toNat, by omega⟩
  obtain ⟨q, hq⟩ : ∃ q : Nat, n % 32768 = q := ⟨(n % 32768).toNat, by omega⟩
  have ha := i64_and255 n
  have hb := i64_and32767 n
  rw [hm] at ha
  rw [hq] at hb
  have hm' : m ≤ 255 := by omega
  have hq' : q ≤ 32767 := by omega
  clear hm hq
  obtain ⟨s, hs, e1, e2, e3, e4, e5, e6⟩ := len_facts (m + 3) (by omega) (by omega)
  obtain ⟨z, hz, d1, d2, d3, d4, d5⟩ := dist_facts (q + 1) (by omega) (by omega)
  have HL : RowKit.Hid (∀ W, Calls Try.prog 23 #[.int .i64 (3 + (m : Int))] W fun e w' => e = .returned (.agg #[.int .i64 ((s : Int) + 257), .int .i64 (lenB (m + 3) : Nat), .int .u64 (lenV (m + 3) : Nat)]) ∧ Touch (fun _ => False) W w') := Lib.hid (fun W => by
    have := length_in (m + 3) W (by omega) (by omega)
    unfold extraV at this
    rw [e1] at this
    rw [show (3 + (m : Int)) = ((m + 3 : Nat) : Int) by omega]
    exact this)
  have HLO := Lib.hid (fun W => lengthof_in s W hs)
  have HD : RowKit.Hid (∀ W, Calls Try.prog 24 #[.int .i64 (1 + (q : Int))] W fun e w' => e = .returned (.agg #[.int .i64 (z : Nat), .int .i64 (bitN 1 q : Nat), .int .u64 (valN 1 q : Nat)]) ∧ Touch (fun _ => False) W w') := Lib.hid (fun W => by
    have := dist_in (q + 1) W (by omega) (by omega)
    unfold extraV at this
    rw [d1, Nat.add_sub_cancel] at this
    rw [show (1 + (q : Int)) = ((q + 1 : Nat) : Int) by omega]
    exact this)
  have HDO := Lib.hid (fun W => distof_in z W hz)
  rw [Nat.add_sub_cancel] at d2 d3 d4 d5
  rw [e3] at HLO
  rw [d3] at HDO
  have x1 := shr_zero _ _ e4
  have x2 := shr_zero _ _ d4
  have y1 : (lenV (m + 3)) < 65536 := by omega
  have y2 : (valN 1 q) < 65536 := by omega
  clear e1 e3 e4 d1 d3 d4
  generalize lenB (m + 3) = B at HL HLO x1 e5
  generalize lenV (m + 3) = V at HL x1 e2 y1
  generalize lenL s = L at HLO e2 e6
  generalize bitN 1 q = B2 at HD HDO x2 d5
  generalize valN 1 q = V2 at HD x2 d2 y2
  generalize leastN 1 s = L2 at *
  go_enter Try.func8, Try.ntmps8
  go_wp2_with (first
    | (go_at_call 20; refine (speaks5_calls _).mono ?_; rintro e w1 ⟨rfl, ht1⟩)
    | (go_at_call 23; refine (HL.out _).mono ?_; rintro e w2 ⟨rfl, ht2⟩)
    | (go_at_call 26; refine (HLO.out _).mono ?_; rintro e w3 ⟨rfl, rfl⟩)
    | (go_at_call 24; refine (HD.out _).mono ?_; rintro e w4 ⟨rfl, ht4⟩)
    | (go_at_call 27; refine (HDO.out _).mono ?_; rintro e w5 ⟨rfl, rfl⟩))
  go_ret
  exact ⟨rfl, (((ht1.trans ht2).alloc _).trans ht4).alloc _⟩
end Go.Proofs.Ytdbpjkpbmfjcnaa

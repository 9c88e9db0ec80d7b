/- The walk of the statement BitsBack over the translated program. -/
import Derived.Test.YtmkbcbkgficnkaaBitsWrWalk
import Derived.StillTailTactics
namespace Go.Proofs.Ytmkbcbkgficnkaa
open Go Go.RowKit

/-- What the pairs of numbers are, in memory. -/
structure PairsAt (w : World) (v : Value) (n : Nat) (A B : Nat → Nat) : Prop where
  form : ∃ a cap, v = .slice a n cap
  addr : 0 < n → ∃ g off cap, v = .slice (some ⟨g, off, none⟩) n cap ∧ g < w.heap.size ∧ n ≤ cap ∧ ∀ i, i < n →
    w.cell? ⟨g, off + i * 2, none⟩ = some (.int .u64 (A i)) ∧ w.cell? ⟨g, off + i * 2 + 1, none⟩ = some (.int .u64 (B i))
  max : n ≤ 9223372036854775807
  wf : ∀ i, i < n → A i < 18446744073709551616 ∧ B i < 18446744073709551616

/-- The bits of the first k pairs. -/
def pairBits (A B : Nat → Nat) : Nat → List Nat
  | 0 => []
  | k + 1 => pairBits A B k ++ bitsN (1 + B k % 32) (A k)
theorem pairBits_length (A B : Nat → Nat) (k : Nat) : (pairBits A B k).length ≤ 32 * k := by
  induction k with
  | zero => exact Nat.le_refl _
  | succ k ih => rw [pairBits, List.length_append, bitsN_length]; omega
theorem pairBits_split (A B : Nat → Nat) (K i : Nat) (hi : i < K) : ∃ rest, pairBits A B K = pairBits A B i ++ (bitsN (1 + B i % 32) (A i) ++ rest) := by
  induction K with
  | zero => omega
  | succ K ih =>
    rcases Nat.lt_or_ge i K with h | h
    · obtain ⟨rest, hr⟩ := ih h
      exact ⟨rest ++ bitsN (1 + B K % 32) (A K), by rw [pairBits, hr, List.append_assoc, List.append_assoc]⟩
    · obtain rfl : i = K := by omega
      exact ⟨[], by rw [pairBits, List.append_nil]⟩

/-- The bits that have been fed of bytes, behind so many that are gone. -/
def fedBits (xs : List UInt8) (a c : Nat) : List Nat := (bitsL (xs.take a)).drop c
theorem fedBits_length (xs : List UInt8) (a c : Nat) : (fedBits xs a c).length = 8 * min a xs.length - c := by
  unfold fedBits; rw [List.length_drop, bitsL_length, List.length_take]
theorem fedBits_drop (xs : List UInt8) (a c n : Nat) : (fedBits xs a c).drop n = fedBits xs a (c + n) := by
  unfold fedBits; rw [List.drop_drop]
theorem fed_step (xs : List UInt8) (a p c : Nat) (ha : a ≤ xs.length) (hc : c ≤ 8 * a) : fedBits xs a c ++ bitsL ((xs.drop a).take p) = fedBits xs (a + p) c := by
  unfold fedBits
  rw [List.take_add, bitsL_append, List.drop_append_of_le_length]
  rw [bitsL_length, List.length_take]; omega
theorem fed_step' (xs : List UInt8) (a e p c : Nat) (ha : a ≤ xs.length) (hc : c ≤ 8 * a) (he : e = a + p ∨ xs.length ≤ e ∧ xs.length ≤ a + p) : fedBits xs a c ++ bitsL ((xs.drop a).take (e - a)) = fedBits xs (a + p) c := by
  rw [← fed_step xs a p c ha hc]
  rcases he with rfl | ⟨h1, h2⟩
  · rw [Nat.add_sub_cancel_left]
  · rw [List.take_of_length_le (by rw [List.length_drop]; omega), List.take_of_length_le (by rw [List.length_drop]; omega)]
theorem fed_val (A B : Nat → Nat) (K i a : Nat) (xs : List UInt8) (r : List Nat) (hL : bitsL xs = pairBits A B K ++ r) (hi : i < K) (h : (pairBits A B i).length + (1 + B i % 32) ≤ 8 * a) :
    numN ((fedBits xs a (pairBits A B i).length).take (1 + B i % 32)) = A i % 2 ^ (1 + B i % 32) := by
  obtain ⟨rest, hr⟩ := pairBits_split A B K i hi
  unfold fedBits
  have e : ((bitsL (xs.take a)).drop (pairBits A B i).length).take (1 + B i % 32) = bitsN (1 + B i % 32) (A i) := by
    rw [← bitsL_take, List.drop_take, List.take_take, Nat.min_eq_left (by omega), hL, hr, List.append_assoc, List.drop_left, List.append_assoc, List.take_left' (bitsN_length _ _)]
  rw [e, numN_bitsN]

theorem and31_u64 (b : Nat) (hb : b < 18446744073709551616) : bits .and .u64 (b : Int) 31 = ((b % 32 : Nat) : Int) := by
  rw [show (31 : Int) = ((31 : Nat) : Int) from rfl, u64_and_nat b 31 hb (by decide), show (31 : Nat) = 2 ^ 5 - 1 from rfl, Nat.and_two_pow_sub_one_eq_mod]

set_option maxRecDepth 100000 in
set_option maxHeartbeats 3200000 in
theorem back_calls (n : Nat) (v : Value) (A B : Nat → Nat) (piece : Int) (w : World) (ha : PairsAt w v n A B) :
    Calls Try.prog 5 #[v, .int .i64 piece] w fun e w' => e = .returned (.bool true) ∧ Touch (fun _ => False) w w' := by
  obtain ⟨av, acap, hv⟩ := ha.form
  have hmax := ha.max
  have h15 := and15_i64 piece
  obtain ⟨pc, hpc⟩ : ∃ pc : Nat, piece % 16 = pc := ⟨(piece % 16).toNat, by omega⟩
  rw [hpc] at h15
  have hpl : pc < 16 := by omega
  clear hpc
  go_enter Try.func5, Try.ntmps5
  go_wp2_with fail
  refine (speaks_calls _).mono ?_
  rintro e w1 ⟨rfl, ht1⟩
  subst hv
  go_wp2_with fail
  have hnew := FrW.new w1
  generalize hBB : w1.heap.size = b at hnew ⊢
  have HBB := Lib.hid hBB
  clear hBB
  go_loopw [6] (fun i wr => ∃ (k : Nat) (row : Option Nat), i = .int .i64 k ∧ k ≤ n ∧ k ≤ 100 ∧ FrW w1 wr b (pairBits A B k) row) (fun i _ => n - (intOf i).toNat)
  case atStart => exact ⟨0, none, rfl, Nat.zero_le _, Nat.zero_le _, hnew⟩
  case round =>
    clear hnew
    obtain ⟨k, row, rfl, hk, hk1, hW⟩ := hrel
    by_cases hlt : k < n ∧ k < 100
    · obtain ⟨hlt, hlt1⟩ := hlt
      obtain ⟨g, off, cap, hv, hg, hcap, hcell⟩ := ha.addr (by omega)
      injection hv with hv1 hv2 hv3
      subst hv1; subst hv3
      obtain ⟨q0, q1⟩ := hcell k hlt
      obtain ⟨b0, b1⟩ := ha.wf k hlt
      have hTw := ht1.trans hW.touch
      have p0 := hTw.cell q0 id
      have p1 := hTw.cell q1 id
      clear q0 q1 hcell hTw
      have h31 := and31_u64 (B k) b1
      obtain ⟨m, hm⟩ : ∃ m : Nat, m = B k % 32 := ⟨_, rfl⟩
      rw [← hm] at h31
      have hml : m < 32 := by omega
      have HM := Lib.hid hm
      clear hm
      have k1 : IntKind.i64.wrap (m : Int) = (m : Int) := IntWalk.i64_in _ (by omega)
      have k2 : IntKind.i64.wrap (1 + (m : Int)) = ((1 + m : Nat) : Int) := by rw [IntWalk.i64_in _ (by omega)]; omega
      have hplen := pairBits_length A B k
      go_wp2_with fail
      go_still_tail 13, (by kernel_rfl)
      clear k1 k2
      have hW1 := hW.kept (Touch.refl (fun _ => False) _).drew
      change wpList _ _ _ _ _ wr.drew
      generalize wr.drew = w2 at hW1 ⊢
      go_wp2_with fail
      refine (write_calls b 0 (A k) (1 + m) (pairBits A B k) row _ hW1.at_ (by omega) (by omega) b0 (by omega)).mono ?_
      rintro e w3 ⟨rfl, row3, hw3, hs3, ht3⟩
      have hW3 := hW1.step hw3 hs3 ht3
      clear hW1 hw3 hs3 ht3
      go_wp2_with fail
      go_roundw
      case rel => exact ⟨k + 1, row3, by go_num, by omega, by omega, by rw [HM.out] at hW3; exact hW3⟩
      case measure => simp [intOf]; omega
    · by_cases hkn : k < n
      · have hk100 : ¬ k < 100 := by omega
        clear hlt
        have hkK : k ≤ n ∧ k ≤ 100 ∧ (k = n ∨ k = 100) := by omega
        have HKK := Lib.hid hkK
        clear hkK
        have hplen := pairBits_length A B k
        go_wp2_with fail
        refine (walign_calls b 0 _ row _ hW.at_ (by omega)).mono ?_
        rintro e w2 ⟨rfl, row2, hw2, hs2, ht2⟩
        have hW2 := hW.step hw2 hs2 ht2
        clear hW hw2 hs2 ht2
        go_wp2_with fail
        refine (drain_calls b 0 _ row2 _ hW2.at_).mono ?_
        rintro e w3 ⟨rfl, hw3, ht3⟩
        have hT3 := ht1.trans (fresh_step1 hW2.touch hW2.fresh ht3)
        obtain ⟨xs, hxs, hbx⟩ : ∃ xs, bitsL xs = pairBits A B k ++ List.replicate (padN (pairBits A B k).length) 0 ∧ bytesL (pairBits A B k ++ List.replicate (padN (pairBits A B k).length) 0) = xs := by
          obtain ⟨xs, p, s, v, _, _, hs8, _, hl⟩ := hW2.at_
          have hlen := congrArg List.length hl
          rw [List.length_append, List.length_append, List.length_replicate, bitsL_length, bitsN_length] at hlen
          have hs0 : s = 0 := by unfold padN at hlen; omega
          subst hs0
          refine ⟨xs, by rw [hl]; simp [bitsN], ?_⟩
          rw [hl]
          exact bytesL_bits xs _ (by rw [bitsN_length]; decide)
        rw [hbx]
        have hxl : 8 * xs.length = (pairBits A B k).length + padN (pairBits A B k).length := by rw [← bitsL_length, hxs, List.length_append, List.length_replicate]
        have hpad : padN (pairBits A B k).length < 8 := by unfold padN; omega
        clear hW2 hw3 ht3 hbx
        have hsz : (⟨xs.toArray⟩ : ByteArray).size = xs.length := by show xs.toArray.size = _; simp
        have hdata : (⟨xs.toArray⟩ : ByteArray).data.toList = xs := by simp
        generalize (⟨xs.toArray⟩ : ByteArray) = s at hsz hdata ⊢
        have hD : ∀ a e, a ≤ e → (s.extract a e).data.toList = (xs.drop a).take (e - a) := fun a e hae => by
          rw [ByteArray.data_extract, Array.toList_extract, hdata, List.extract_eq_take_drop]
        have HD := Lib.hid hD
        have HXS := Lib.hid hxs
        have hsl1 : s.size ≤ xs.length := by omega
        have hsl2 : xs.length ≤ s.size := by omega
        have hsl3 : s.size ≤ 500 := by omega
        have HSZ := Lib.hid (⟨hsz, hxl⟩ : _ ∧ _)
        clear hdata hxs hD hsz hxl
        go_wp2_with fail
        have hnew := FrR.new w3
        generalize hB2 : w3.heap.size = b2 at hnew ⊢
        clear hB2
        go_loopw [9, 10, 12, 13] (fun a i _ _ wr => ∃ (j at0 : Nat) (row : Option Nat), j ≤ k ∧ i = .int .i64 j ∧ a = .int .i64 at0 ∧ at0 ≤ s.size + 16 ∧ (pairBits A B j).length ≤ 8 * min at0 xs.length ∧ FrR w3 wr b2 (fedBits xs at0 (pairBits A B j).length) row) (fun _ i _ _ _ => k - (intOf i).toNat)
        case atStart => exact ⟨0, 0, none, Nat.zero_le _, rfl, rfl, by omega, by simp [pairBits], hnew⟩
        case round =>
          clear hnew
          obtain ⟨j, at0, row, hj, rfl, rfl, hat, hcj, hR⟩ := hrel
          by_cases hlt : j < k
          · have hjn : j < n := by have := HKK.out; omega
            have hj100 : j < 100 := by have := HKK.out; omega
            obtain ⟨g, off, cap, hv, hg, hcap, hcell⟩ := ha.addr (by omega)
            injection hv with hv1 hv2 hv3
            subst hv1; subst hv3
            obtain ⟨q0, q1⟩ := hcell j hjn
            obtain ⟨b0, b1⟩ := ha.wf j hjn
            have P0 := Lib.hid (hT3.cell q0 id)
            have P1 := Lib.hid (hT3.cell q1 id)
            have p1 := (hR.touch).cell P1.out id
            clear q0 q1 hcell
            have h31 := and31_u64 (B j) b1
            obtain ⟨m, hm⟩ : ∃ m : Nat, m = B j % 32 := ⟨_, rfl⟩
            rw [← hm] at h31
            have hml : m < 32 := by omega
            have hc1 : (pairBits A B (j + 1)).length = (pairBits A B j).length + (1 + m) := by rw [pairBits, List.length_append, bitsN_length, hm]
            have hck : (pairBits A B (j + 1)).length ≤ (pairBits A B k).length := by
              obtain ⟨rest, hr⟩ := pairBits_split A B k j hlt
              rw [hr, List.length_append, List.length_append, bitsN_length, hc1, hm]; omega
            have hval : ∀ a, (pairBits A B j).length + (1 + m) ≤ 8 * a → numN ((fedBits xs a (pairBits A B j).length).take (1 + m)) = A j % 2 ^ (1 + m) := fun a h => by
              rw [hm] at h ⊢; exact fed_val A B k j a xs _ HXS.out hlt h
            have hlen8 := HSZ.out.2
            have hlj := pairBits_length A B j
            have HC := Lib.hid (⟨hc1, hck, hval, hlen8, hlj⟩ : _ ∧ _ ∧ _ ∧ _ ∧ _)
            have hcjl : (pairBits A B j).length + (1 + m) ≤ 8 * xs.length := by omega
            generalize hcc : (pairBits A B j).length = c at hcj hcjl hR HC
            have HCC := Lib.hid hcc
            clear hm hc1 hck hval hlen8 hlj hcc
            have hcast := Lib.hid (show (1 : Int) + (m : Int) = ((1 + m : Nat) : Int) by omega)
            have hfl := fedBits_length xs at0 c
            have HFL := Lib.hid hfl
            clear hfl
            go_wp2_with fail
            rw [hcast.out]
            by_cases hr : 1 + m ≤ (fedBits xs at0 c).length
            · have hr' := hr
              rw [HFL.out] at hr'
              refine (read_some b2 0 (1 + m) _ row _ hR.at_ (by rw [HFL.out]; omega) (by omega) hr).mono ?_
              rintro e w4 ⟨rfl, hr4, ht4⟩
              have hR4 := hR.step1 hr4 ht4
              rw [fedBits_drop] at hR4
              rw [HC.out.2.2.1 at0 (by omega)]
              clear hr hr4 ht4 hR p1
              go_wp2_with fail
              go_loopw [9, 12, 13] (fun a v o wr => a = .int .i64 at0 ∧ v = .int .u64 (A j % 2 ^ (1 + m) : Nat) ∧ o = .bool true ∧ FrR w3 wr b2 (fedBits xs at0 (c + (1 + m))) row) (fun _ _ _ _ => 0)
              case atStart => exact ⟨rfl, rfl, rfl, hR4⟩
              case round =>
                clear hR4
                obtain ⟨rfl, rfl, rfl, hR4⟩ := hrel
                have P0' := (hR4.touch).cell P0.out id
                have hand := peek_and (A j) (1 + m) b0 (by omega)
                go_wp2_with fail
                go_quiet (fail)
                go_wp2_with fail
                go_roundw
                case rel =>
                  obtain ⟨h1, h2, h3, h4, h5⟩ := HC.out
                  exact ⟨j + 1, _, _, by omega, by go_num, rfl, by omega, by rw [h1]; omega, by rw [h1]; exact hR4.kept ((Touch.refl (fun _ => False) _).drewN _)⟩
                case measure => simp [intOf]; omega
            · have hr' := hr
              rw [HFL.out] at hr'
              refine (read_less b2 0 (1 + m) _ row _ hR.at_ (by rw [HFL.out]; omega) (by omega) (by omega)).mono ?_
              rintro e w4 ⟨rfl, rfl⟩
              have hR4 := hR.kept ((Touch.refl (fun _ => False) _).drew)
              clear hr hR p1
              go_wp2_with fail
              go_loopw [9, 12, 13] (fun a v o wr => ∃ (a1 : Nat) (okb : Bool) (row1 : Option Nat), .int .i64 (a1 : Nat) = a ∧ .bool okb = o ∧ a1 ≤ s.size + 16 ∧ (okb = true → v = .int .u64 (A j % 2 ^ (1 + m) : Nat) ∧ c + (1 + m) ≤ 8 * min a1 xs.length ∧ FrR w3 wr b2 (fedBits xs a1 (c + (1 + m))) row1) ∧ (okb = false → v = .int .u64 0 ∧ c ≤ 8 * min a1 xs.length ∧ 8 * min a1 xs.length < c + (1 + m) ∧ FrR w3 wr b2 (fedBits xs a1 c) row1)) (fun a _ _ _ => s.size + 17 - (intOf a).toNat)
              case atStart => exact ⟨at0, false, row, rfl, rfl, hat, (fun h => by cases h), fun _ => ⟨rfl, hcj, by omega, hR4⟩⟩
              case round =>
                clear hR4
                obtain ⟨a1, okb, row1, rfl, rfl, ha1, ht, hf⟩ := hrel
                cases okb with
                | true =>
                  obtain ⟨rfl, hca, hR4⟩ := ht rfl
                  clear ht hf
                  have P0' := (hR4.touch).cell P0.out id
                  have hand := peek_and (A j) (1 + m) b0 (by omega)
                  go_wp2_with fail
                  go_quiet (fail)
                  go_wp2_with fail
                  go_roundw
                  case rel =>
                    obtain ⟨h1, h2, h3, h4, h5⟩ := HC.out
                    exact ⟨j + 1, _, _, by omega, by go_num, rfl, by omega, by rw [h1]; omega, by rw [h1]; exact hR4.kept ((Touch.refl (fun _ => False) _).drewN _)⟩
                  case measure => simp [intOf]; omega
                | false =>
                  obtain ⟨rfl, hca, hcb, hR4⟩ := hf rfl
                  clear ht hf
                  have hals : a1 < s.size := by omega
                  by_cases hend : a1 + (1 + pc) ≤ s.size
                  · go_wp2_with fail
                    have hdt := HD.out a1 (a1 + (1 + pc)) (by omega)
                    have hdl : (s.extract a1 (a1 + (1 + pc))).size ≤ 500 := by simp; omega
                    generalize s.extract a1 (a1 + (1 + pc)) = t at hdt hdl ⊢
                    have hfl1 := fedBits_length xs a1 c
                    refine (feed_calls b2 0 t _ row1 _ hR4.at_ (by rw [hfl1]; omega)).mono ?_
                    rintro e w5 ⟨rfl, row5, hr5, hs5, ht5⟩
                    have hR5 := hR4.step hr5 hs5 ht5
                    rw [hdt, fed_step' xs a1 (a1 + (1 + pc)) (1 + pc) c (by omega) (by omega) (by omega)] at hR5
                    clear hR4 hr5 hs5 ht5 hdt hfl1
                    have hfl5 := fedBits_length xs (a1 + (1 + pc)) c
                    have HFL5 := Lib.hid hfl5
                    clear hfl5
                    go_wp2_with fail
                    rw [hcast.out]
                    by_cases hr : 1 + m ≤ (fedBits xs (a1 + (1 + pc)) c).length
                    · have hr' := hr
                      rw [HFL5.out] at hr'
                      refine (read_some b2 0 (1 + m) _ row5 _ hR5.at_ (by rw [HFL5.out]; omega) (by omega) hr).mono ?_
                      rintro e w6 ⟨rfl, hr6, ht6⟩
                      have hR6 := hR5.step1 hr6 ht6
                      rw [fedBits_drop] at hR6
                      rw [HC.out.2.2.1 (a1 + (1 + pc)) (by omega)]
                      clear hr hr6 ht6 hR5
                      go_wp2_with fail
                      go_roundw
                      case rel => exact ⟨a1 + (1 + pc), true, row5, by go_num, rfl, by omega, fun _ => ⟨rfl, by omega, hR6⟩, fun h => by cases h⟩
                      case measure => simp [intOf]; omega
                    · have hr' := hr
                      rw [HFL5.out] at hr'
                      refine (read_less b2 0 (1 + m) _ row5 _ hR5.at_ (by rw [HFL5.out]; omega) (by omega) (by omega)).mono ?_
                      rintro e w6 ⟨rfl, rfl⟩
                      have hR6 := hR5.kept ((Touch.refl (fun _ => False) _).drew)
                      clear hr hR5
                      go_wp2_with fail
                      go_roundw
                      case rel => exact ⟨a1 + (1 + pc), false, row5, by go_num, rfl, by omega, (fun h => by cases h), fun _ => ⟨rfl, by omega, by omega, hR6⟩⟩
                      case measure => simp [intOf]; omega
                  · go_wp2_with fail
                    have hdt := HD.out a1 (s.size) (by omega)
                    have hdl : (s.extract a1 (s.size)).size ≤ 500 := by simp; omega
                    generalize s.extract a1 (s.size) = t at hdt hdl ⊢
                    have hfl1 := fedBits_length xs a1 c
                    refine (feed_calls b2 0 t _ row1 _ hR4.at_ (by rw [hfl1]; omega)).mono ?_
                    rintro e w5 ⟨rfl, row5, hr5, hs5, ht5⟩
                    have hR5 := hR4.step hr5 hs5 ht5
                    rw [hdt, fed_step' xs a1 (s.size) (1 + pc) c (by omega) (by omega) (by omega)] at hR5
                    clear hR4 hr5 hs5 ht5 hdt hfl1
                    have hfl5 := fedBits_length xs (a1 + (1 + pc)) c
                    have HFL5 := Lib.hid hfl5
                    clear hfl5
                    go_wp2_with fail
                    rw [hcast.out]
                    by_cases hr : 1 + m ≤ (fedBits xs (a1 + (1 + pc)) c).length
                    · have hr' := hr
                      rw [HFL5.out] at hr'
                      refine (read_some b2 0 (1 + m) _ row5 _ hR5.at_ (by rw [HFL5.out]; omega) (by omega) hr).mono ?_
                      rintro e w6 ⟨rfl, hr6, ht6⟩
                      have hR6 := hR5.step1 hr6 ht6
                      rw [fedBits_drop] at hR6
                      rw [HC.out.2.2.1 (a1 + (1 + pc)) (by omega)]
                      clear hr hr6 ht6 hR5
                      go_wp2_with fail
                      go_roundw
                      case rel => exact ⟨a1 + (1 + pc), true, row5, by go_num, rfl, by omega, fun _ => ⟨rfl, by omega, hR6⟩, fun h => by cases h⟩
                      case measure => simp [intOf]; omega
                    · have hr' := hr
                      rw [HFL5.out] at hr'
                      refine (read_less b2 0 (1 + m) _ row5 _ hR5.at_ (by rw [HFL5.out]; omega) (by omega) (by omega)).mono ?_
                      rintro e w6 ⟨rfl, rfl⟩
                      have hR6 := hR5.kept ((Touch.refl (fun _ => False) _).drew)
                      clear hr hR5
                      go_wp2_with fail
                      go_roundw
                      case rel => exact ⟨a1 + (1 + pc), false, row5, by go_num, rfl, by omega, (fun h => by cases h), fun _ => ⟨rfl, by omega, by omega, hR6⟩⟩
                      case measure => simp [intOf]; omega
          · obtain rfl : j = k := by omega
            have hfl := fedBits_length xs at0 (pairBits A B j).length
            have hxl2 := HSZ.out.2
            by_cases hq8 : (fedBits xs at0 (pairBits A B j).length).length < 8
            · go_wp2_with fail
              refine (left_calls b2 0 _ row _ hR.at_ (by omega)).mono ?_
              rintro e w4 ⟨rfl, rfl⟩
              generalize (fedBits xs at0 (pairBits A B j).length).length = q at hq8 ⊢
              clear hfl
              go_wp2_with fail
              go_ret
              exact ⟨rfl, (hT3.trans hR.touch).drew⟩
            · exfalso
              omega
      · clear hlt
        have hkK : k ≤ n ∧ k ≤ 100 ∧ (k = n ∨ k = 100) := by omega
        have HKK := Lib.hid hkK
        clear hkK
        have hplen := pairBits_length A B k
        go_wp2_with fail
        refine (walign_calls b 0 _ row _ hW.at_ (by omega)).mono ?_
        rintro e w2 ⟨rfl, row2, hw2, hs2, ht2⟩
        have hW2 := hW.step hw2 hs2 ht2
        clear hW hw2 hs2 ht2
        go_wp2_with fail
        refine (drain_calls b 0 _ row2 _ hW2.at_).mono ?_
        rintro e w3 ⟨rfl, hw3, ht3⟩
        have hT3 := ht1.trans (fresh_step1 hW2.touch hW2.fresh ht3)
        obtain ⟨xs, hxs, hbx⟩ : ∃ xs, bitsL xs = pairBits A B k ++ List.replicate (padN (pairBits A B k).length) 0 ∧ bytesL (pairBits A B k ++ List.replicate (padN (pairBits A B k).length) 0) = xs := by
          obtain ⟨xs, p, s, v, _, _, hs8, _, hl⟩ := hW2.at_
          have hlen := congrArg List.length hl
          rw [List.length_append, List.length_append, List.length_replicate, bitsL_length, bitsN_length] at hlen
          have hs0 : s = 0 := by unfold padN at hlen; omega
          subst hs0
          refine ⟨xs, by rw [hl]; simp [bitsN], ?_⟩
          rw [hl]
          exact bytesL_bits xs _ (by rw [bitsN_length]; decide)
        rw [hbx]
        have hxl : 8 * xs.length = (pairBits A B k).length + padN (pairBits A B k).length := by rw [← bitsL_length, hxs, List.length_append, List.length_replicate]
        have hpad : padN (pairBits A B k).length < 8 := by unfold padN; omega
        clear hW2 hw3 ht3 hbx
        have hsz : (⟨xs.toArray⟩ : ByteArray).size = xs.length := by show xs.toArray.size = _; simp
        have hdata : (⟨xs.toArray⟩ : ByteArray).data.toList = xs := by simp
        generalize (⟨xs.toArray⟩ : ByteArray) = s at hsz hdata ⊢
        have hD : ∀ a e, a ≤ e → (s.extract a e).data.toList = (xs.drop a).take (e - a) := fun a e hae => by
          rw [ByteArray.data_extract, Array.toList_extract, hdata, List.extract_eq_take_drop]
        have HD := Lib.hid hD
        have HXS := Lib.hid hxs
        have hsl1 : s.size ≤ xs.length := by omega
        have hsl2 : xs.length ≤ s.size := by omega
        have hsl3 : s.size ≤ 500 := by omega
        have HSZ := Lib.hid (⟨hsz, hxl⟩ : _ ∧ _)
        clear hdata hxs hD hsz hxl
        go_wp2_with fail
        have hnew := FrR.new w3
        generalize hB2 : w3.heap.size = b2 at hnew ⊢
        clear hB2
        go_loopw [9, 10, 12, 13] (fun a i _ _ wr => ∃ (j at0 : Nat) (row : Option Nat), j ≤ k ∧ i = .int .i64 j ∧ a = .int .i64 at0 ∧ at0 ≤ s.size + 16 ∧ (pairBits A B j).length ≤ 8 * min at0 xs.length ∧ FrR w3 wr b2 (fedBits xs at0 (pairBits A B j).length) row) (fun _ i _ _ _ => k - (intOf i).toNat)
        case atStart => exact ⟨0, 0, none, Nat.zero_le _, rfl, rfl, by omega, by simp [pairBits], hnew⟩
        case round =>
          clear hnew
          obtain ⟨j, at0, row, hj, rfl, rfl, hat, hcj, hR⟩ := hrel
          by_cases hlt : j < k
          · have hjn : j < n := by have := HKK.out; omega
            have hj100 : j < 100 := by have := HKK.out; omega
            obtain ⟨g, off, cap, hv, hg, hcap, hcell⟩ := ha.addr (by omega)
            injection hv with hv1 hv2 hv3
            subst hv1; subst hv3
            obtain ⟨q0, q1⟩ := hcell j hjn
            obtain ⟨b0, b1⟩ := ha.wf j hjn
            have P0 := Lib.hid (hT3.cell q0 id)
            have P1 := Lib.hid (hT3.cell q1 id)
            have p1 := (hR.touch).cell P1.out id
            clear q0 q1 hcell
            have h31 := and31_u64 (B j) b1
            obtain ⟨m, hm⟩ : ∃ m : Nat, m = B j % 32 := ⟨_, rfl⟩
            rw [← hm] at h31
            have hml : m < 32 := by omega
            have hc1 : (pairBits A B (j + 1)).length = (pairBits A B j).length + (1 + m) := by rw [pairBits, List.length_append, bitsN_length, hm]
            have hck : (pairBits A B (j + 1)).length ≤ (pairBits A B k).length := by
              obtain ⟨rest, hr⟩ := pairBits_split A B k j hlt
              rw [hr, List.length_append, List.length_append, bitsN_length, hc1, hm]; omega
            have hval : ∀ a, (pairBits A B j).length + (1 + m) ≤ 8 * a → numN ((fedBits xs a (pairBits A B j).length).take (1 + m)) = A j % 2 ^ (1 + m) := fun a h => by
              rw [hm] at h ⊢; exact fed_val A B k j a xs _ HXS.out hlt h
            have hlen8 := HSZ.out.2
            have hlj := pairBits_length A B j
            have HC := Lib.hid (⟨hc1, hck, hval, hlen8, hlj⟩ : _ ∧ _ ∧ _ ∧ _ ∧ _)
            have hcjl : (pairBits A B j).length + (1 + m) ≤ 8 * xs.length := by omega
            generalize hcc : (pairBits A B j).length = c at hcj hcjl hR HC
            have HCC := Lib.hid hcc
            clear hm hc1 hck hval hlen8 hlj hcc
            have hcast := Lib.hid (show (1 : Int) + (m : Int) = ((1 + m : Nat) : Int) by omega)
            have hfl := fedBits_length xs at0 c
            have HFL := Lib.hid hfl
            clear hfl
            go_wp2_with fail
            rw [hcast.out]
            by_cases hr : 1 + m ≤ (fedBits xs at0 c).length
            · have hr' := hr
              rw [HFL.out] at hr'
              refine (read_some b2 0 (1 + m) _ row _ hR.at_ (by rw [HFL.out]; omega) (by omega) hr).mono ?_
              rintro e w4 ⟨rfl, hr4, ht4⟩
              have hR4 := hR.step1 hr4 ht4
              rw [fedBits_drop] at hR4
              rw [HC.out.2.2.1 at0 (by omega)]
              clear hr hr4 ht4 hR p1
              go_wp2_with fail
              go_loopw [9, 12, 13] (fun a v o wr => a = .int .i64 at0 ∧ v = .int .u64 (A j % 2 ^ (1 + m) : Nat) ∧ o = .bool true ∧ FrR w3 wr b2 (fedBits xs at0 (c + (1 + m))) row) (fun _ _ _ _ => 0)
              case atStart => exact ⟨rfl, rfl, rfl, hR4⟩
              case round =>
                clear hR4
                obtain ⟨rfl, rfl, rfl, hR4⟩ := hrel
                have P0' := (hR4.touch).cell P0.out id
                have hand := peek_and (A j) (1 + m) b0 (by omega)
                go_wp2_with fail
                go_quiet (fail)
                go_wp2_with fail
                go_roundw
                case rel =>
                  obtain ⟨h1, h2, h3, h4, h5⟩ := HC.out
                  exact ⟨j + 1, _, _, by omega, by go_num, rfl, by omega, by rw [h1]; omega, by rw [h1]; exact hR4.kept ((Touch.refl (fun _ => False) _).drewN _)⟩
                case measure => simp [intOf]; omega
            · have hr' := hr
              rw [HFL.out] at hr'
              refine (read_less b2 0 (1 + m) _ row _ hR.at_ (by rw [HFL.out]; omega) (by omega) (by omega)).mono ?_
              rintro e w4 ⟨rfl, rfl⟩
              have hR4 := hR.kept ((Touch.refl (fun _ => False) _).drew)
              clear hr hR p1
              go_wp2_with fail
              go_loopw [9, 12, 13] (fun a v o wr => ∃ (a1 : Nat) (okb : Bool) (row1 : Option Nat), .int .i64 (a1 : Nat) = a ∧ .bool okb = o ∧ a1 ≤ s.size + 16 ∧ (okb = true → v = .int .u64 (A j % 2 ^ (1 + m) : Nat) ∧ c + (1 + m) ≤ 8 * min a1 xs.length ∧ FrR w3 wr b2 (fedBits xs a1 (c + (1 + m))) row1) ∧ (okb = false → v = .int .u64 0 ∧ c ≤ 8 * min a1 xs.length ∧ 8 * min a1 xs.length < c + (1 + m) ∧ FrR w3 wr b2 (fedBits xs a1 c) row1)) (fun a _ _ _ => s.size + 17 - (intOf a).toNat)
              case atStart => exact ⟨at0, false, row, rfl, rfl, hat, (fun h => by cases h), fun _ => ⟨rfl, hcj, by omega, hR4⟩⟩
              case round =>
                clear hR4
                obtain ⟨a1, okb, row1, rfl, rfl, ha1, ht, hf⟩ := hrel
                cases okb with
                | true =>
                  obtain ⟨rfl, hca, hR4⟩ := ht rfl
                  clear ht hf
                  have P0' := (hR4.touch).cell P0.out id
                  have hand := peek_and (A j) (1 + m) b0 (by omega)
                  go_wp2_with fail
                  go_quiet (fail)
                  go_wp2_with fail
                  go_roundw
                  case rel =>
                    obtain ⟨h1, h2, h3, h4, h5⟩ := HC.out
                    exact ⟨j + 1, _, _, by omega, by go_num, rfl, by omega, by rw [h1]; omega, by rw [h1]; exact hR4.kept ((Touch.refl (fun _ => False) _).drewN _)⟩
                  case measure => simp [intOf]; omega
                | false =>
                  obtain ⟨rfl, hca, hcb, hR4⟩ := hf rfl
                  clear ht hf
                  have hals : a1 < s.size := by omega
                  by_cases hend : a1 + (1 + pc) ≤ s.size
                  · go_wp2_with fail
                    have hdt := HD.out a1 (a1 + (1 + pc)) (by omega)
                    have hdl : (s.extract a1 (a1 + (1 + pc))).size ≤ 500 := by simp; omega
                    generalize s.extract a1 (a1 + (1 + pc)) = t at hdt hdl ⊢
                    have hfl1 := fedBits_length xs a1 c
                    refine (feed_calls b2 0 t _ row1 _ hR4.at_ (by rw [hfl1]; omega)).mono ?_
                    rintro e w5 ⟨rfl, row5, hr5, hs5, ht5⟩
                    have hR5 := hR4.step hr5 hs5 ht5
                    rw [hdt, fed_step' xs a1 (a1 + (1 + pc)) (1 + pc) c (by omega) (by omega) (by omega)] at hR5
                    clear hR4 hr5 hs5 ht5 hdt hfl1
                    have hfl5 := fedBits_length xs (a1 + (1 + pc)) c
                    have HFL5 := Lib.hid hfl5
                    clear hfl5
                    go_wp2_with fail
                    rw [hcast.out]
                    by_cases hr : 1 + m ≤ (fedBits xs (a1 + (1 + pc)) c).length
                    · have hr' := hr
                      rw [HFL5.out] at hr'
                      refine (read_some b2 0 (1 + m) _ row5 _ hR5.at_ (by rw [HFL5.out]; omega) (by omega) hr).mono ?_
                      rintro e w6 ⟨rfl, hr6, ht6⟩
                      have hR6 := hR5.step1 hr6 ht6
                      rw [fedBits_drop] at hR6
                      rw [HC.out.2.2.1 (a1 + (1 + pc)) (by omega)]
                      clear hr hr6 ht6 hR5
                      go_wp2_with fail
                      go_roundw
                      case rel => exact ⟨a1 + (1 + pc), true, row5, by go_num, rfl, by omega, fun _ => ⟨rfl, by omega, hR6⟩, fun h => by cases h⟩
                      case measure => simp [intOf]; omega
                    · have hr' := hr
                      rw [HFL5.out] at hr'
                      refine (read_less b2 0 (1 + m) _ row5 _ hR5.at_ (by rw [HFL5.out]; omega) (by omega) (by omega)).mono ?_
                      rintro e w6 ⟨rfl, rfl⟩
                      have hR6 := hR5.kept ((Touch.refl (fun _ => False) _).drew)
                      clear hr hR5
                      go_wp2_with fail
                      go_roundw
                      case rel => exact ⟨a1 + (1 + pc), false, row5, by go_num, rfl, by omega, (fun h => by cases h), fun _ => ⟨rfl, by omega, by omega, hR6⟩⟩
                      case measure => simp [intOf]; omega
                  · go_wp2_with fail
                    have hdt := HD.out a1 (s.size) (by omega)
                    have hdl : (s.extract a1 (s.size)).size ≤ 500 := by simp; omega
                    generalize s.extract a1 (s.size) = t at hdt hdl ⊢
                    have hfl1 := fedBits_length xs a1 c
                    refine (feed_calls b2 0 t _ row1 _ hR4.at_ (by rw [hfl1]; omega)).mono ?_
                    rintro e w5 ⟨rfl, row5, hr5, hs5, ht5⟩
                    have hR5 := hR4.step hr5 hs5 ht5
                    rw [hdt, fed_step' xs a1 (s.size) (1 + pc) c (by omega) (by omega) (by omega)] at hR5
                    clear hR4 hr5 hs5 ht5 hdt hfl1
                    have hfl5 := fedBits_length xs (a1 + (1 + pc)) c
                    have HFL5 := Lib.hid hfl5
                    clear hfl5
                    go_wp2_with fail
                    rw [hcast.out]
                    by_cases hr : 1 + m ≤ (fedBits xs (a1 + (1 + pc)) c).length
                    · have hr' := hr
                      rw [HFL5.out] at hr'
                      refine (read_some b2 0 (1 + m) _ row5 _ hR5.at_ (by rw [HFL5.out]; omega) (by omega) hr).mono ?_
                      rintro e w6 ⟨rfl, hr6, ht6⟩
                      have hR6 := hR5.step1 hr6 ht6
                      rw [fedBits_drop] at hR6
                      rw [HC.out.2.2.1 (a1 + (1 + pc)) (by omega)]
                      clear hr hr6 ht6 hR5
                      go_wp2_with fail
                      go_roundw
                      case rel => exact ⟨a1 + (1 + pc), true, row5, by go_num, rfl, by omega, fun _ => ⟨rfl, by omega, hR6⟩, fun h => by cases h⟩
                      case measure => simp [intOf]; omega
                    · have hr' := hr
                      rw [HFL5.out] at hr'
                      refine (read_less b2 0 (1 + m) _ row5 _ hR5.at_ (by rw [HFL5.out]; omega) (by omega) (by omega)).mono ?_
                      rintro e w6 ⟨rfl, rfl⟩
                      have hR6 := hR5.kept ((Touch.refl (fun _ => False) _).drew)
                      clear hr hR5
                      go_wp2_with fail
                      go_roundw
                      case rel => exact ⟨a1 + (1 + pc), false, row5, by go_num, rfl, by omega, (fun h => by cases h), fun _ => ⟨rfl, by omega, by omega, hR6⟩⟩
                      case measure => simp [intOf]; omega
          · obtain rfl : j = k := by omega
            have hfl := fedBits_length xs at0 (pairBits A B j).length
            have hxl2 := HSZ.out.2
            by_cases hq8 : (fedBits xs at0 (pairBits A B j).length).length < 8
            · go_wp2_with fail
              refine (left_calls b2 0 _ row _ hR.at_ (by omega)).mono ?_
              rintro e w4 ⟨rfl, rfl⟩
              generalize (fedBits xs at0 (pairBits A B j).length).length = q at hq8 ⊢
              clear hfl
              go_wp2_with fail
              go_ret
              exact ⟨rfl, (hT3.trans hR.touch).drew⟩
            · exfalso
              omega
end Go.Proofs.Ytmkbcbkgficnkaa

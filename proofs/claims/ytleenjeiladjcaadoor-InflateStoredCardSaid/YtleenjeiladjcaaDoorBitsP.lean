/- Contracts of package bits' Reader over the translated program: Peek, Read, Take. -/
import Derived.Test.YtleenjeiladjcaaDoorBitsR
namespace Go.Proofs.YtleenjeiladjcaaDoor
open Go Go.RowKit
set_option maxRecDepth 100000
variable {φ : TypeId × (Nat → Option Value)}

theorem peek_or (x : Nat) (c k : Nat) (hx : x < 2 ^ (8 * k)) (hc : c < 256) (hk : k ≤ 4) :
    bits .or .u64 (x : Int) (IntKind.u64.wrap ((c : Int) * 2 ^ (8 * k))) = ((x ||| c * 2 ^ (8 * k) : Nat) : Int) := by
  have h1 : 2 ^ (8 * k) ≤ 2 ^ 32 := Nat.pow_le_pow_right (by decide) (by omega)
  have h2 : c * 2 ^ (8 * k) ≤ 255 * 2 ^ 32 := Nat.mul_le_mul (by omega) h1
  have e2 : ((2 : Int) ^ (8 * k)) = ((2 ^ (8 * k) : Nat) : Int) := by simp
  rw [e2, show (c : Int) * ((2 ^ (8 * k) : Nat) : Int) = ((c * 2 ^ (8 * k) : Nat) : Int) by simp, wrap_u64_in _ (by omega), u64_or_nat _ _ (by omega) (by omega)]

theorem peek_and (x n : Nat) (hx : x < 18446744073709551616) (hn : n ≤ 32) :
    bits .and .u64 (x : Int) (IntKind.u64.wrap (IntKind.u64.wrap (2 ^ n) - 1)) = ((x % 2 ^ n : Nat) : Int) := by
  have hn1 : 2 ^ n ≤ 2 ^ 32 := Nat.pow_le_pow_right (by decide) hn
  have hn0 := Nat.two_pow_pos n
  have e1 : ((2 : Int) ^ n) = ((2 ^ n : Nat) : Int) := by simp
  rw [e1, wrap_u64_in _ (by omega), show ((2 ^ n : Nat) : Int) - 1 = ((2 ^ n - 1 : Nat) : Int) by omega, wrap_u64_in _ (by omega), u64_and_nat _ _ hx (by omega), Nat.and_two_pow_sub_one_eq_mod]

theorem peek_last (x g n : Nat) (hx : x < 18446744073709551616) (hn : n ≤ 32) :
    bits .and .u64 ((x : Int) / 2 ^ g) (IntKind.u64.wrap (IntKind.u64.wrap (2 ^ n) - 1)) = ((x / 2 ^ g % 2 ^ n : Nat) : Int) := by
  have e : (x : Int) / 2 ^ g = ((x / 2 ^ g : Nat) : Int) := by simp
  rw [e]
  exact peek_and _ n (Nat.lt_of_le_of_lt (Nat.div_le_self _ _) hx) hn

theorem ret2 {a b c d : Value} (h : a = c) (k : b = d) : Ending.returned (.tuple #[a, b]) = .returned (.tuple #[c, d]) := by rw [h, k]
theorem val_u64 {a b : Int} (h : a = b) : Value.int .u64 a = .int .u64 b := by rw [h]

set_option maxHeartbeats 800000 in
theorem peek_some (b o n : Nat) (l : List Nat) (row : Option Nat) (w : World) (h : RdAt φ w b o l row) (hl : l.length < 562949953421312) (hn : n ≤ 32) (hle : n ≤ l.length) :
    Calls Tryd.prog 33 #[.pointer (some ⟨b, o, none⟩), .int .i64 n] w fun e w' => e = .returned (.tuple #[.int .u64 (numN (l.take n)), .bool true]) ∧ Touch (fun _ => False) w w' := by
  have h0 := h
  obtain ⟨ys, g, v, ⟨c0, c1, f0, f1⟩, hrow, hap, hv, hg, hgy, hlist⟩ := h
  have hlen : l.length = 8 * ys.length - g := by rw [hlist, rd_length]
  have hval := Lib.hid (show numN (l.take n) = getN (ys.take ((g + n + 7) / 8)) / 2 ^ g % 2 ^ n by rw [hlist]; exact peek_val ys g n _ (by omega))
  have hyl : ys.length < 70368744177665 := by omega
  have hcy : (g + n + 7) / 8 ≤ ys.length := by omega
  clear hlist hv
  by_cases hc : 0 < (g + n + 7) / 8
  · obtain ⟨gb, off, cap, hv', hcap, hgb, hcells⟩ := hrow.addr (by rw [byteVs_length]; omega)
    rw [byteVs_length] at hv' hcap
    subst hv'
    go_enter Tryd.func33, Tryd.ntmps33
    go_wp2_with fail
    refine (left_calls b o l row _ h0 hl).mono ?_
    rintro e w' ⟨rfl, rfl⟩
    go_wp2_with fail
    go_loop [6, 32] (fun t i => ∃ k : Nat, k ≤ (g + n + 7) / 8 ∧ i = .int .i64 k ∧ t = .int .u64 (getN (ys.take k))) (fun _ i => (g + n + 7) / 8 - (intOf i).toNat)
    case atStart => exact ⟨0, Nat.zero_le _, rfl, rfl⟩
    case round =>
      obtain ⟨k, hk, rfl, rfl⟩ := hrel
      by_cases hlt : k < (g + n + 7) / 8
      · have hky : k < ys.length := by omega
        have hcell := hcells k (.int .u8 (ys[k].toNat)) (by simp [byteVs, hky])
        have hx := Lib.hid (peek_or (getN (ys.take k)) ys[k].toNat k (getN_take_lt ys k k (Nat.le_refl _)) ys[k].toNat_lt (by omega))
        have hs := Lib.hid (getN_take_succ ys k hky)
        have hb1 := ys[k].toNat_lt
        clear hcells
        go_wp2_with fail
        go_round
        case rel => exact ⟨k + 1, by omega, by go_num, by rw [hx.out, hs.out]⟩
        case measure => simp [intOf]; omega
      · obtain rfl : k = (g + n + 7) / 8 := by omega
        have hx := getN_take_lt ys ((g + n + 7) / 8) 5 (by omega)
        have hand := Lib.hid (peek_last (getN (ys.take ((g + n + 7) / 8))) g n (by omega) hn)
        clear hx
        clear hcells
        go_wp2_with fail
        go_region
        go_wp2_with fail
        go_ret2
        exact ⟨ret2 (val_u64 (hand.out.trans (by rw [hval.out]))) rfl, ((Touch.refl _ _).drew).drew⟩
  · obtain rfl : n = 0 := by omega
    obtain rfl : g = 0 := by omega
    go_enter Tryd.func33, Tryd.ntmps33
    go_wp2_with fail
    refine (left_calls b o l row _ h0 hl).mono ?_
    rintro e w' ⟨rfl, rfl⟩
    go_wp2_with fail
    go_loop [6, 32] (fun t i => i = .int .i64 0 ∧ t = .int .u64 0) (fun _ i => 0)
    case atStart => exact ⟨rfl, rfl⟩
    case round =>
      obtain ⟨rfl, rfl⟩ := hrel
      go_wp2_with fail
      go_region
      go_wp2_with fail
      go_ret2
      exact ⟨ret2 (val_u64 (by simp [numN]; decide)) rfl, ((Touch.refl _ _).drew).drew⟩

theorem peek_calls (b o n : Nat) (l : List Nat) (row : Option Nat) (w : World) (h : RdAt φ w b o l row) (hl : l.length < 562949953421312) (hn : n ≤ 32) :
    Calls Tryd.prog 33 #[.pointer (some ⟨b, o, none⟩), .int .i64 n] w fun e w' => e = .returned (.tuple #[.int .u64 (if n ≤ l.length then numN (l.take n) else 0 : Nat), .bool (decide (n ≤ l.length))]) ∧ Touch (fun _ => False) w w' := by
  by_cases hle : n ≤ l.length
  · rw [if_pos hle]
    simp only [hle, decide_true]
    exact peek_some b o n l row w h hl hn hle
  · rw [if_neg hle]
    simp only [hle, decide_false]
    exact (peek_less b o n l row w h hl hn (by omega)).mono fun e w' ⟨h1, h2⟩ => ⟨h1, by rw [h2]; exact (Touch.refl _ _).drew⟩

set_option maxHeartbeats 400000 in
theorem read_out (q : Option Addr) (n : Int) (w : World) (h : q = none ∨ n < 0 ∨ 32 < n) :
    Calls Tryd.prog 34 #[.pointer q, .int .i64 n] w fun e w' => e = .returned (.tuple #[.int .u64 0, .bool false]) ∧ w = w' := by
  have h := Lib.hid h
  go_enter Tryd.func34, Tryd.ntmps34
  go_wp2_with fail
  refine (peek_out q n _ h.out).mono ?_
  rintro e w' ⟨rfl, rfl⟩
  go_wp2_with fail
  go_ret2
  exact ⟨rfl, rfl⟩

set_option maxHeartbeats 400000 in
theorem read_less (b o n : Nat) (l : List Nat) (row : Option Nat) (w : World) (h : RdAt φ w b o l row) (hl : l.length < 562949953421312) (hn : n ≤ 32) (hle : l.length < n) :
    Calls Tryd.prog 34 #[.pointer (some ⟨b, o, none⟩), .int .i64 n] w fun e w' => e = .returned (.tuple #[.int .u64 0, .bool false]) ∧ w' = w.drew := by
  go_enter Tryd.func34, Tryd.ntmps34
  go_wp2_with fail
  refine (peek_less b o n l row _ h hl hn hle).mono ?_
  rintro e w' ⟨rfl, rfl⟩
  go_wp2_with fail
  go_ret2
  exact ⟨rfl, rfl⟩

set_option maxHeartbeats 400000 in
theorem read_some (b o n : Nat) (l : List Nat) (row : Option Nat) (w : World) (h : RdAt φ w b o l row) (hl : l.length < 562949953421312) (hn : n ≤ 32) (hle : n ≤ l.length) :
    Calls Tryd.prog 34 #[.pointer (some ⟨b, o, none⟩), .int .i64 n] w fun e w' => e = .returned (.tuple #[.int .u64 (numN (l.take n)), .bool true]) ∧ RdAt φ w' b o (l.drop n) row ∧ Touch (fun k => k = b) w w' := by
  go_enter Tryd.func34, Tryd.ntmps34
  go_wp2_with fail
  refine (peek_some b o n l row _ h hl hn hle).mono ?_
  rintro e w1 ⟨rfl, ht⟩
  go_wp2_with fail
  refine (drop_calls b o n l row _ (h.kept ht id (fun _ _ => id)) hl hle).mono ?_
  rintro e w2 ⟨rfl, hq⟩
  have HQ := Lib.hid hq
  clear hq
  go_wp2_with fail
  go_ret2
  exact ⟨rfl, HQ.out.1, (ht.mono (fun _ h => h.elim)).trans HQ.out.2⟩

theorem take_nil (n : Int) (w : World) : Calls Tryd.prog 31 #[.pointer none, .int .i64 n] w fun e w' => e = .returned (.string ⟨#[]⟩) ∧ w = w' := by
  go_enter Tryd.func31, Tryd.ntmps31
  go_wp2
  go_ret
  exact ⟨rfl, rfl⟩

set_option maxHeartbeats 400000 in
theorem take_calls (b o : Nat) (n : Int) (l : List Nat) (row : Option Nat) (w : World) (h : RdAt φ w b o l row) (hl : l.length < 562949953421312) (hn1 : -9223372036854775808 ≤ n) (hn2 : n ≤ 9223372036854775807) (m : Nat) (hm : (m : Int) = max 0 (min n ((l.length / 8 : Nat) : Int))) :
    Calls Tryd.prog 31 #[.pointer (some ⟨b, o, none⟩), .int .i64 n] w fun e w' => e = .returned (.string ⟨(bytesL ((l.drop (l.length % 8)).take (8 * m))).toArray⟩) ∧
      RdAt φ w' b o ((l.drop (l.length % 8)).drop (8 * m)) row ∧ Touch (fun k => k = b) w w' := by
  go_enter Tryd.func31, Tryd.ntmps31
  go_wp2_with fail
  refine (ralign_calls b o l row _ h hl).mono ?_
  rintro e w1 ⟨rfl, hr, ht⟩
  have hr0 := hr
  obtain ⟨ys, g, v, ⟨c0, c1, f0, f1⟩, hrow, hap, hv, hg, hgy, hlist⟩ := hr
  have hlen : (l.drop (l.length % 8)).length = 8 * ys.length - g := by rw [hlist, rd_length]
  rw [List.length_drop] at hlen
  obtain rfl : g = 0 := by omega
  have hyl : l.length / 8 = ys.length := by omega
  rw [hyl] at hm
  have hmy : m ≤ ys.length := by omega
  have HL := Lib.hid hlist
  have HM := Lib.hid hm
  clear hlist hm hv
  obtain ⟨a, cap, hv', hc1, hc2⟩ := hrow.form
  rw [byteVs_length] at hv' hc1
  subst hv'
  unfold maxLen at hc2
  have hyl2 : ys.length < 70368744177665 := by omega
  have hres := Lib.hid (show bytesL ((l.drop (l.length % 8)).take (8 * m)) = ys.take m by
    rw [HL.out, List.drop_zero, bitsL_take, ← List.append_nil (bitsL (ys.take m)), bytesL_bits _ [] (by decide)])
  have h8 : 8 * m ≤ (l.drop (l.length % 8)).length := by rw [List.length_drop]; omega
  have h8l : (l.drop (l.length % 8)).length < 562949953421312 := by rw [List.length_drop]; omega
  have H8 := Lib.hid (show (8 : Int) * (m : Int) = ((8 * m : Nat) : Int) by simp)
  have hrm := hrow.upto hmy
  rw [byteVs_take] at hrm
  have hconv := run_bytes_row (P := Tryd.prog) w1 39 5 9 Tryd.underlying39 Tryd.underlying5 Tryd.underlying9 hrm
  clear hlen hyl
  by_cases h1 : n < 0
  · obtain rfl : m = 0 := by have := HM.out; omega
    clear HM H8
    go_wp2_with fail
    refine (drop_calls b o 0 _ row _ hr0 h8l h8).mono ?_
    rintro e w2 ⟨rfl, hq⟩
    have HQ := Lib.hid hq
    clear hq
    go_wp2_with fail
    go_ret
    exact ⟨by rw [hres.out]; rfl, HQ.out.1, ht.trans HQ.out.2⟩
  · by_cases h2 : n ≤ (ys.length : Int)
    · obtain rfl : n = (m : Int) := by have := HM.out; omega
      clear HM
      by_cases hm0 : m = 0
      · subst hm0
        clear H8
        go_wp2_with fail
        refine (drop_calls b o 0 _ row _ hr0 h8l h8).mono ?_
        rintro e w2 ⟨rfl, hq⟩
        have HQ := Lib.hid hq
        clear hq
        go_wp2_with fail
        go_ret
        exact ⟨by rw [hres.out]; rfl, HQ.out.1, ht.trans HQ.out.2⟩
      · have hm1 : 0 < m := by omega
        clear hm0
        go_wp2_with fail
        rw [H8.out]
        refine (drop_calls b o _ _ row _ hr0 h8l h8).mono ?_
        rintro e w2 ⟨rfl, hq⟩
        have HQ := Lib.hid hq
        clear hq
        go_wp2_with fail
        go_ret
        exact ⟨by rw [hres.out]; rfl, HQ.out.1, ht.trans HQ.out.2⟩
    · by_cases hy0 : ys.length = 0
      · obtain rfl : ys = [] := List.eq_nil_of_length_eq_zero hy0
        obtain rfl : m = 0 := by simpa using hmy
        have hn0 : 0 < n := by simpa using h2
        clear HM H8 h2
        go_wp2_with fail
        refine (drop_calls b o 0 _ row _ hr0 h8l h8).mono ?_
        rintro e w2 ⟨rfl, hq⟩
        have HQ := Lib.hid hq
        clear hq
        go_wp2_with fail
        go_ret
        exact ⟨by rw [hres.out]; rfl, HQ.out.1, ht.trans HQ.out.2⟩
      · obtain rfl : m = ys.length := by have := HM.out; omega
        have hy1 : 0 < ys.length := by omega
        clear HM hy0
        go_wp2_with fail
        rw [H8.out]
        refine (drop_calls b o _ _ row _ hr0 h8l h8).mono ?_
        rintro e w2 ⟨rfl, hq⟩
        have HQ := Lib.hid hq
        clear hq
        go_wp2_with fail
        go_ret
        exact ⟨by rw [hres.out, List.take_length]; rfl, HQ.out.1, ht.trans HQ.out.2⟩

end Go.Proofs.YtleenjeiladjcaaDoor

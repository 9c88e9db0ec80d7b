
/- Contracts of package dos: times as numbers of bits, and back. -/
import Derived.Test.YtdohhmaggeocjaaDoorDosB
import Derived.Laws.BitsAllLaws
namespace Go.Proofs.YtdohhmaggeocjaaDoor
open Go Go.RowKit
set_option maxRecDepth 100000
set_option maxRecDepth 100000

theorem i64_or_nat (a b : Nat) (ha : a < 2 ^ 62) (hb : b < 2 ^ 62) : bits .or .i64 (a : Int) (b : Int) = ((a ||| b : Nat) : Int) := by
  have h1 : a ||| b < 2 ^ 62 := Nat.or_lt_two_pow ha hb
  have key : (BitVec.ofInt 64 (a : Int) ||| BitVec.ofInt 64 (b : Int)).toNat = a ||| b := by
    rw [BitVec.toNat_or, BitVec.toNat_ofInt, BitVec.toNat_ofInt]
    congr 1 <;> omega
  show IntKind.i64.wrap ((BitVec.ofInt 64 (a : Int) ||| BitVec.ofInt 64 (b : Int)).toNat : Nat) = _
  rw [key, IntKind.wrap_i64]
  omega

theorem or_add (s p x : Nat) (hp : p < 2 ^ s) : p ||| x * 2 ^ s = p + x * 2 ^ s := or_join s p x hp

theorem or3 (a b c p q : Int) (ha : 0 ≤ a) (ha' : a < 32) (hb : 0 ≤ b) (hb' : b < 64) (hc : 0 ≤ c) (hc' : c < 128) (h : (p = 32 ∧ q = 512 ∧ b < 16) ∨ (p = 32 ∧ q = 2048 ∧ b < 64)) :
    IntKind.u64.wrap (bits .or .i64 (bits .or .i64 a (b * p)) (c * q)) = a + b * p + c * q := by
  obtain ⟨a, rfl⟩ : ∃ n : Nat, a = n := ⟨a.toNat, by omega⟩
  obtain ⟨b, rfl⟩ : ∃ n : Nat, b = n := ⟨b.toNat, by omega⟩
  obtain ⟨c, rfl⟩ : ∃ n : Nat, c = n := ⟨c.toNat, by omega⟩
  have e1 : bits .or .i64 (a : Int) ((b * 32 : Nat) : Int) = ((a + b * 32 : Nat) : Int) := by
    rw [i64_or_nat _ _ (by omega) (by omega), or_add 5 a b (by omega)]
  rcases h with ⟨rfl, rfl, h⟩ | ⟨rfl, rfl, h⟩
  · have e2 : bits .or .i64 ((a + b * 32 : Nat) : Int) ((c * 512 : Nat) : Int) = ((a + b * 32 + c * 512 : Nat) : Int) := by
      rw [i64_or_nat _ _ (by omega) (by omega), or_add 9 _ c (by omega)]
    rw [show (b : Int) * 32 = ((b * 32 : Nat) : Int) by omega, show (c : Int) * 512 = ((c * 512 : Nat) : Int) by omega, e1, e2, IntKind.wrap_u64]
    omega
  · have e2 : bits .or .i64 ((a + b * 32 : Nat) : Int) ((c * 2048 : Nat) : Int) = ((a + b * 32 + c * 2048 : Nat) : Int) := by
      rw [i64_or_nat _ _ (by omega) (by omega), or_add 11 _ c (by omega)]
    rw [show (b : Int) * 32 = ((b * 32 : Nat) : Int) by omega, show (c : Int) * 2048 = ((c * 2048 : Nat) : Int) by omega, e1, e2, IntKind.wrap_u64]
    omega

theorem Tryd.sizeT : (Tryd.prog.info? 46).map (·.size) = some 6 := by kernel_rfl

/-- The two numbers of a time. -/
def dateN (t : Tim) : Int := t.d + 32 * t.mo + 512 * (t.y - 1980)
def timeN (t : Tim) : Int := t.s / 2 + 32 * t.mi + 2048 * t.h

def unp (d n : Nat) : Tim := ⟨1980 + (d / 512 : Nat), (d / 32 % 16 : Nat), (d % 32 : Nat), (n / 2048 : Nat), (n / 32 % 64 : Nat), 2 * (n % 32 : Nat)⟩

theorem unp_date (d n : Nat) : dateN (unp d n) = d := by
  unfold dateN unp; simp only; omega
theorem unp_time (d n : Nat) : timeN (unp d n) = n := by
  unfold timeN unp; simp only; omega
theorem unp_pack (t : Tim) (h : Good t) : ∃ d n : Nat, dateN t = d ∧ timeN t = n ∧ unp d n = t ∧ d < 65536 ∧ n < 65536 := by
  obtain ⟨y, mo, d, h', mi, s⟩ := t
  obtain ⟨a, b, c, e, f, g, i, j, k, l, m, o, p⟩ := h
  have := dim_bd y mo
  simp only at *
  refine ⟨(dateN ⟨y, mo, d, h', mi, s⟩).toNat, (timeN ⟨y, mo, d, h', mi, s⟩).toNat, ?_, ?_, ?_, ?_, ?_⟩
  all_goals simp only [unp, dateN, timeN, Tim.mk.injEq]
  all_goals omega

set_option maxHeartbeats 1000000 in
theorem low_calls (x b m : Int) (w : World) (h0 : 0 ≤ x) (h1 : x < 18446744073709551616) (hb : (b = 4 ∧ m = 16) ∨ (b = 5 ∧ m = 32) ∨ (b = 6 ∧ m = 64)) : Calls Tryd.prog 119 #[.int .u64 x, .int .i64 b] w fun e w' => e = .returned (.int .i64 (x % m)) ∧ w = w' := by
  obtain ⟨n, rfl⟩ : ∃ n : Nat, x = n := ⟨x.toNat, by omega⟩
  have hn : n < 18446744073709551616 := by omega
  rcases hb with ⟨rfl, rfl⟩ | ⟨rfl, rfl⟩ | ⟨rfl, rfl⟩
  all_goals
    go_enter Tryd.func119, Tryd.ntmps119
    go_wp2
    go_ret
    refine ⟨ret_int ?_, rfl⟩
  · have h := u64_and_nat n 15 hn (by decide)
    rw [show n &&& 15 = n % 2 ^ 4 from Nat.and_two_pow_sub_one_eq_mod n 4, show ((15 : Nat) : Int) = 15 from rfl] at h
    rw [h]
    unfold wrap64
    omega
  · have h := u64_and_nat n 31 hn (by decide)
    rw [show n &&& 31 = n % 2 ^ 5 from Nat.and_two_pow_sub_one_eq_mod n 5, show ((31 : Nat) : Int) = 31 from rfl] at h
    rw [h]
    unfold wrap64
    omega
  · have h := u64_and_nat n 63 hn (by decide)
    rw [show n &&& 63 = n % 2 ^ 6 from Nat.and_two_pow_sub_one_eq_mod n 6, show ((63 : Nat) : Int) = 63 from rfl] at h
    rw [h]
    unfold wrap64
    omega

set_option maxHeartbeats 1000000 in
theorem pack_bad (t : Tim) (w : World) (hb : goodB t = false) : Calls Tryd.prog 81 #[t.v] w fun e w' => e = .returned (.tuple #[.int .u64 0, .int .u64 0, .bool false]) ∧ Touch (fun _ => False) w w' := by
  have HG := Lib.hid (fun W => good_b false t W hb)
  clear hb
  unfold Tim.v at *
  go_enter Tryd.func81, Tryd.ntmps81
  go_wp2_with (go_at_call 65; refine (HG.out _).mono ?_; rintro e w1 ⟨rfl, ht1⟩)
  go_ret3
  exact ⟨rfl, ((Touch.refl _ _).alloc _).trans ht1⟩

set_option maxHeartbeats 1000000 in
theorem pack_good (t : Tim) (w : World) (hb : goodB t = true) : Calls Tryd.prog 81 #[t.v] w fun e w' => e = .returned (.tuple #[.int .u64 (dateN t), .int .u64 (timeN t), .bool true]) ∧ Touch (fun _ => False) w w' := by
  have HG := Lib.hid (fun W => good_b true t W hb)
  obtain ⟨y, mo, d, h, mi, s⟩ := t
  obtain ⟨a1, a2, a3, a4, a5, a6, a7, a8, a9, a10, a11, a12, a13⟩ := (good_iff _).1 hb
  have hdm := dim_bd y mo
  clear hb
  unfold Tim.v at *
  simp only at *
  go_enter Tryd.func81, Tryd.ntmps81
  go_wp2_with (go_at_call 65; refine (HG.out _).mono ?_; rintro e w1 ⟨rfl, ht1⟩; obtain ⟨c0, c1, c2, c3, c4, c5, _, _⟩ := box6 ht1)
  go_ret3
  refine ⟨?_, ((Touch.refl _ _).alloc _).trans ht1⟩
  show Ending.returned (.tuple #[.int .u64 (IntKind.u64.wrap (bits .or .i64 (bits .or .i64 d (mo * 32)) ((y - 1980) * 512))), .int .u64 (IntKind.u64.wrap (bits .or .i64 (bits .or .i64 (s / 2) (mi * 32)) (h * 2048))), .bool true]) = _
  rw [or3 d mo (y - 1980) 32 512 (by omega) (by omega) (by omega) (by omega) (by omega) (by omega) (.inl ⟨rfl, rfl, by omega⟩), or3 (s / 2) mi h 32 2048 (by omega) (by omega) (by omega) (by omega) (by omega) (by omega) (.inr ⟨rfl, rfl, by omega⟩)]
  unfold dateN timeN
  rw [Int.mul_comm 32 mo, Int.mul_comm 512 (y - 1980), Int.mul_comm 32 mi, Int.mul_comm 2048 h]

set_option maxHeartbeats 1000000 in
theorem unpack_good (d n : Nat) (w : World) (hd : d < 18446744073709551616) (hn : n < 18446744073709551616) (hb : goodB (unp d n) = true) : Calls Tryd.prog 106 #[.int .u64 d, .int .u64 n] w fun e w' => e = .returned (.tuple #[(unp d n).v, .bool true]) ∧ Touch (fun _ => False) w w' := by
  have HG := Lib.hid (fun W => good_b true _ W hb)
  clear hb
  unfold Tim.v unp at *
  simp only [Int.natCast_ediv, Int.natCast_emod, Int.cast_ofNat_Int] at *
  have hd0 : (0 : Int) ≤ (d : Int) := by omega
  have hd1 : (d : Int) < 18446744073709551616 := by omega
  have hn0 : (0 : Int) ≤ (n : Int) := by omega
  have hn1 : (n : Int) < 18446744073709551616 := by omega
  generalize (d : Int) = D at *
  generalize (n : Int) = N at *
  go_enter Tryd.func106, Tryd.ntmps106
  go_wp2_with (first
    | (go_at_call 119; refine (low_calls _ _ _ _ (by omega) (by omega) (by first | exact .inl ⟨rfl, rfl⟩ | exact .inr (.inl ⟨rfl, rfl⟩) | exact .inr (.inr ⟨rfl, rfl⟩))).mono ?_; rintro e w1 ⟨rfl, rfl⟩)
    | (go_at_call 65; refine (HG.out _).mono ?_; rintro e w2 ⟨rfl, ht2⟩; have hT2 := (((Touch.refl (fun _ => False) w).alloc _).alloc _).trans ht2; obtain ⟨r0, r1, r2, r3, r4, r5, hr, _⟩ := box6 (((Touch.refl (fun _ => False) _).alloc _).trans ht2); have hrf := box_free hr; obtain ⟨c0, c1, c2, c3, c4, c5, _, hz⟩ := box6b ht2))
  refine bodyPost_ret (results_cell_slot rfl _ _ w.heap.size _ _ _ _ rfl (box_set6 hr) Tryd.underlying46 rfl Tryd.sizeT) rfl ⟨rfl, ?_⟩
  exact hT2.set6 (.inr (Nat.le_refl _)) _ _ _ _ _ _

set_option maxHeartbeats 1000000 in
theorem unpack_bad (d n : Nat) (w : World) (hd : d < 18446744073709551616) (hn : n < 18446744073709551616) (hb : goodB (unp d n) = false) : Calls Tryd.prog 106 #[.int .u64 d, .int .u64 n] w fun e w' => e = .returned (.tuple #[Tim.zero.v, .bool false]) ∧ Touch (fun _ => False) w w' := by
  have HG := Lib.hid (fun W => good_b false _ W hb)
  clear hb
  unfold Tim.zero Tim.v unp at *
  simp only [Int.natCast_ediv, Int.natCast_emod, Int.cast_ofNat_Int] at *
  have hd0 : (0 : Int) ≤ (d : Int) := by omega
  have hd1 : (d : Int) < 18446744073709551616 := by omega
  have hn0 : (0 : Int) ≤ (n : Int) := by omega
  have hn1 : (n : Int) < 18446744073709551616 := by omega
  generalize (d : Int) = D at *
  generalize (n : Int) = N at *
  go_enter Tryd.func106, Tryd.ntmps106
  go_wp2_with (first
    | (go_at_call 119; refine (low_calls _ _ _ _ (by omega) (by omega) (by first | exact .inl ⟨rfl, rfl⟩ | exact .inr (.inl ⟨rfl, rfl⟩) | exact .inr (.inr ⟨rfl, rfl⟩))).mono ?_; rintro e w1 ⟨rfl, rfl⟩)
    | (go_at_call 65; refine (HG.out _).mono ?_; rintro e w2 ⟨rfl, ht2⟩; have hT2 := (((Touch.refl (fun _ => False) w).alloc _).alloc _).trans ht2; obtain ⟨r0, r1, r2, r3, r4, r5, hr, _⟩ := box6 (((Touch.refl (fun _ => False) _).alloc _).trans ht2); have hrf := box_free hr; obtain ⟨c0, c1, c2, c3, c4, c5, _, hz⟩ := box6b ht2))
  refine bodyPost_ret (results_cell_slot rfl _ _ w.heap.size _ _ _ _ rfl (box_set6 hr) Tryd.underlying46 rfl Tryd.sizeT) rfl ⟨rfl, ?_⟩
  exact hT2.set6 (.inr (Nat.le_refl _)) _ _ _ _ _ _
end Go.Proofs.YtdohhmaggeocjaaDoor

/- The statement RecvBack over the translated program. -/
import Derived.Test.YtblngiglfggjfaaRvC
namespace Go.Proofs.Ytblngiglfggjfaa
open Go Go.RowKit Go.Maps Go.MapKept Go.ChangeMaps
set_option maxRecDepth 100000

theorem rv_mask (k : Nat) (hk : k ≤ 62) (m : Int) (hm : m = 2 ^ k - 1) (n : Int) : bits .and .i64 n m = n % 2 ^ k := by
  have h62 : 2 ^ k ≤ 2 ^ 62 := Nat.pow_le_pow_right (by decide) hk
  have hpos : 0 < 2 ^ k := Nat.pow_pos (by decide)
  have hm' : m = ((2 ^ k - 1 : Nat) : Int) := by
    rw [hm]
    have : ((2 : Int) ^ k) = ((2 ^ k : Nat) : Int) := by norm_cast
    rw [this]; omega
  have hkk : (BitVec.ofInt 64 m).toNat = 2 ^ k - 1 := by rw [hm', BitVec.toNat_ofInt]; omega
  have key : (BitVec.ofInt 64 n &&& BitVec.ofInt 64 m).toNat = (n % ((2 ^ 64 : Nat) : Int)).toNat % 2 ^ k := by
    rw [BitVec.toNat_and, BitVec.toNat_ofInt, hkk, Nat.and_two_pow_sub_one_eq_mod]
  show IntKind.i64.wrap ((BitVec.ofInt 64 n &&& BitVec.ofInt 64 m).toNat : Nat) = n % 2 ^ k
  have hd : ((2 ^ k : Nat) : Int) ∣ ((2 ^ 64 : Nat) : Int) := Int.natCast_dvd_natCast.2 (Nat.pow_dvd_pow 2 (by omega))
  have hlt : (n % ((2 ^ 64 : Nat) : Int)).toNat % 2 ^ k < 2 ^ k := Nat.mod_lt _ hpos
  have e : (((n % ((2 ^ 64 : Nat) : Int)).toNat % 2 ^ k : Nat) : Int) = n % ((2 ^ k : Nat) : Int) := by
    rw [Int.natCast_emod, Int.toNat_of_nonneg (Int.emod_nonneg _ (by decide)), Int.emod_emod_of_dvd _ hd]
  rw [key, IntWalk.i64_in _ (by omega), e]
  norm_cast

theorem one_byte (W : World) (k : Nat) (hk : k < 256) : (convert 56 9 (.slice (some ⟨W.heap.size, 0, none⟩) 1 1)).run Try.prog (W.alloc (.cells #[.int .u8 (k : Nat)] 5)) = .ok (.string ⟨#[UInt8.ofNat k]⟩) (W.alloc (.cells #[.int .u8 (k : Nat)] 5)) := by
  have hb : Value.int .u8 (k : Nat) = .int .u8 ((UInt8.ofNat k).toNat : Nat) := by
    congr 1
    rw [UInt8.toNat_ofNat']; omega
  refine run_bytes_row _ 56 5 9 Try.underlying56 Try.underlying5 Try.underlying9 (xs := [UInt8.ofNat k]) ?_
  exact .inr ⟨W.heap.size, 0, 1, _, rfl, heap_alloc_new W _, Nat.le_refl _, by decide, by simp, by simp [byteVs]; omega⟩
/-- The texts of RecvBack from the place k on. -/
def bkT (S : ByteArray) (k : Nat) : ByteArray := S ++ ⟨#[UInt8.ofNat k]⟩
def bkA (S : ByteArray) (sz k : Nat) : Nat → Option ByteArray := fun i => if k ≤ i ∧ i < sz then some (bkT S i) else none

theorem rv_zero {f : Nat} (hf : f < 4294967296) : numU f 0 = f := by unfold numU; omega
theorem bkA_set (S : ByteArray) (sz k : Nat) (hk : k < sz) (i : Nat) : setT (bkA S sz (k + 1)) (0 + k) (bkT S k) i = bkA S sz k i := by
  unfold setT bkA
  by_cases e : i = 0 + k
  · rw [if_pos e, if_pos (by omega), show i = k by omega]
  · rw [if_neg e]
    by_cases h : k + 1 ≤ i ∧ i < sz
    · rw [if_pos h, if_pos (by omega)]
    · rw [if_neg h, if_neg (by omega)]
theorem bkA_off (S : ByteArray) (sz k i : Nat) : offT (bkA S sz k) k i = bkA S sz (k + 1) i := by
  unfold offT bkA
  by_cases e : i = k
  · rw [if_pos e, if_neg (by omega)]
  · rw [if_neg e]
    by_cases h : k + 1 ≤ i ∧ i < sz
    · rw [if_pos h, if_pos (by omega)]
    · rw [if_neg h, if_neg (by omega)]
theorem packF_ones (y m : Nat) (h : y ≤ m) : packF (fun k => decide (k < y)) m = 2 ^ y - 1 := by
  induction m with
  | zero =>
    obtain rfl : y = 0 := by omega
    rfl
  | succ m ih =>
    show packF (fun k => decide (k < y)) m + (if decide (m < y) = true then 2 ^ m else 0) = _
    by_cases e : y = m + 1
    · subst e
      rw [if_pos (by simp), packF_congr (g' := fun k => decide (k < m)) (fun k hk => by rw [decide_eq_true hk, decide_eq_true (by omega)]), Nat.pow_succ]
      have h1 : packF (fun k => decide (k < m)) m = 2 ^ m - 1 := by
        clear ih h
        induction m with
        | zero => rfl
        | succ m ih =>
          show packF (fun k => decide (k < m + 1)) m + (if decide (m < m + 1) = true then 2 ^ m else 0) = _
          rw [if_pos (by simp), packF_congr (g' := fun k => decide (k < m)) (fun k hk => by rw [decide_eq_true hk, decide_eq_true (by omega)]), ih, Nat.pow_succ]
          have := Nat.two_pow_pos m
          omega
      rw [h1]
      have := Nat.two_pow_pos m
      omega
    · rw [ih (by omega), if_neg (by simp; omega), Nat.add_zero]
theorem sumF_but (c y : Nat) (g : Nat → Nat) (h0 : g 0 = 0) (h1 : ∀ j, 1 ≤ j → j ≤ y → g j = c) : sumF g (y + 1) = y * c := by
  induction y with
  | zero => show 0 + g 0 = _; rw [h0]; simp
  | succ y ih =>
    show sumF g (y + 1) + g (y + 1) = _
    rw [ih fun j a b => h1 j a (by omega), h1 (y + 1) (by omega) (by omega), Nat.succ_mul]
theorem bk_bits (S : ByteArray) (sz y : Nat) (hy : sz = y + 1) (hl : y ≤ 31) : ackM (bkA S sz 1) 0 = 2 ^ y - 1 := by
  unfold ackM
  rw [← packF_ones y 32 (by omega)]
  refine packF_congr fun k _ => ?_
  unfold bkA
  by_cases h : k < y
  · rw [if_pos (by omega), decide_eq_true h]; rfl
  · rw [if_neg (by omega), decide_eq_false h]; rfl
theorem bk_held (S : ByteArray) (sz y : Nat) (hy : sz = y + 1) : heldM (bkA S sz 1) 0 sz = y * (S.size + 1) := by
  unfold heldM
  rw [hy]
  refine sumF_but _ _ _ ?_ fun j h1 h2 => ?_
  · unfold bkA; rw [if_neg (by omega)]; rfl
  · unfold bkA; rw [if_pos (by omega)]
    show (bkT S (0 + j)).size = _
    unfold bkT
    rw [ByteArray.size_append]; rfl
theorem bk_none (S : ByteArray) (sz : Nat) : ackM (bkA S sz sz) sz = 0 ∧ heldM (bkA S sz sz) sz sz = 0 := by
  constructor
  · unfold ackM
    rw [packF_congr (g' := fun _ => false) (fun k _ => by unfold bkA; rw [if_neg (by omega)]; rfl)]
    rfl
  · unfold heldM
    have := sumF_le (g := fun j => sizeT (bkA S sz sz (sz + j))) (m := sz) (c := 0) (fun k _ => by unfold bkA; rw [if_neg (by omega)]; exact Nat.le_refl _)
    omega

set_option maxHeartbeats 4000000 in
theorem rback_calls (f : Nat) (z1 : Int) (s : ByteArray) (hf : f < 4294967296) (w : World) : Calls Try.prog 6 #[.int .u32 (f : Nat), .int .i64 z1, .string s] w fun e w' => e = .returned (.bool true) ∧ Touch (fun _ => False) w w' := by
  obtain ⟨z, hz⟩ : ∃ r : Nat, z1 % 32 = (r : Int) := ⟨(z1 % 32).toNat, by omega⟩
  have hand2 : bits .and .i64 z1 31 = (z : Int) := by rw [rv_mask 5 (by omega) 31 (by decide) z1, ← hz]; rfl
  have hzl : z ≤ 31 := by omega
  obtain ⟨sz, hsz⟩ : ∃ sz, sz = z + 1 := ⟨_, rfl⟩
  clear hz
  go_enter Try.func6, Try.ntmps6
  go_wp2_with fail
  refine (speaks25_calls _).mono ?_
  rintro e w1 ⟨rfl, hT1⟩
  have HT1 := Lib.hid hT1
  clear hT1
  go_upto_region 4 with fail
  have hs1 : (1 : Int) + (z : Int) = (sz : Int) := by omega
  have hs2 : (z : Int) + (1 : Int) = (sz : Int) := by omega
  first | simp only [hs1] | simp only [hs2]
  have hsz1 : 1 ≤ sz := by omega
  have hsz2 : sz ≤ 32 := by omega
  clear hs1 hs2 hand2 hsz hzl
  obtain ⟨k, hk⟩ : ∃ k, k = min s.size 50 := ⟨_, rfl⟩
  obtain ⟨S, hS⟩ : ∃ S, s.extract 0 k = S := ⟨_, rfl⟩
  have hk1 : min (s.size : Int) 50 = (k : Int) := by omega
  have hk3 : (if (50 : Int) < (s.size : Int) then (50 : Int) else (s.size : Int)) = (k : Int) := by split <;> omega
  have hk2 : (k : Int) ≤ (s.size : Int) := by omega
  have hk0 : (0 : Int) ≤ (k : Int) := by omega
  have hSs : S.size ≤ 50 := by rw [← hS]; simp; omega
  clear hk
  have HSS := Lib.hid hSs
  clear hSs
  go_upto_region 5 with fail
  clear hk1 hk3 hk2 hk0 hS
  have hSs := HSS.out
  have HT2 := Lib.hid (HT1.out)
  generalize w1 = w2 at *
  clear HT1
  have hmm := @run_makeMap Try.prog
  go_wp2_with fail
  refine (rnew_calls f sz hf hsz1 hsz2 w2).mono ?_
  rintro e w3 ⟨p, mb, rfl, h3, hpm, hT3⟩
  have HP : Hid (w.heap.size ≤ p ∧ w.heap.size ≤ mb) := Lib.hid ⟨Nat.le_trans HT2.out.size hpm.1, Nat.le_trans HT2.out.size hpm.2⟩
  have H3 := Lib.hid h3
  have HT3 := Lib.hid (HT2.out.trans hT3)
  clear h3 hpm hT3 HT2 hmm
  obtain ⟨y, hy⟩ : ∃ y, sz = y + 1 := ⟨sz - 1, by omega⟩
  have hyI : (sz : Int) - 1 = (y : Int) := by omega
  have hyl : y ≤ 31 := by omega
  have HY := Lib.hid hy
  clear hy
  go_wp2_with fail
  go_loopw [9] (fun kv wy => ∃ k : Nat, k ≤ y ∧ kv = .int .i64 (k : Nat) ∧ RowKit.Hid (RcvAt wy p mb (y - k) f 0 sz (bkA S sz (k + 1))) ∧ RowKit.Hid (Touch (fun j => j = mb) w3 wy)) (fun kv _ => (intOf kv).toNat)
  case atStart => exact ⟨y, Nat.le_refl _, rfl, Lib.hid (by rw [Nat.sub_self]; exact H3.out.congr fun i => by unfold bkA; rw [if_neg (by omega)]), Lib.hid (Touch.refl _ _)⟩
  case round =>
    obtain ⟨k, hk, rfl, HR, HT⟩ := hrel
    by_cases hk0 : 0 < k
    · have hk0I : (0 : Int) < (k : Int) := by omega
      have hnum : ((f : Int) + (k : Int)) % 4294967296 = ((numU f (0 + k) : Nat) : Int) := by unfold numU; omega
      have hkk : (k : Int) % 256 = (k : Int) := by omega
      have hk31 : k ≤ 31 := by omega
      have hob := one_byte wr k (by omega)
      obtain ⟨B, hB⟩ : ∃ B : ByteArray, B = ⟨#[UInt8.ofNat k]⟩ := ⟨_, rfl⟩
      rw [← hB] at hob
      have hBs : B.size = 1 := by rw [hB]; rfl
      obtain ⟨SB, hSB⟩ : ∃ SB, SB = S ++ B := ⟨_, rfl⟩
      have hSBs : SB.size ≤ 51 := by rw [hSB, ByteArray.size_append]; omega
      have HB := Lib.hid (⟨hB, hSB⟩ : _ ∧ _)
      clear hyI hB
      go_upto_region 11 with fail
      go_wp2_with fail
      have hta : Touch (fun _ => False) wr (wr.alloc (.cells #[.int .u8 (k : Nat)] 5)) := (Touch.refl _ _).alloc _
      have hno : bkA S sz (k + 1) (0 + k) = none := by unfold bkA; rw [if_neg (by omega)]
      have hnew := rtake_new (HR.out.still hta) k (by have := HY.out; omega) SB (by omega) hno (by omega)
      rw [Nat.zero_add, HB.out.2] at hnew
      refine hnew.mono ?_
      rintro e w4 ⟨rfl, h4, hT4⟩
      have H4 : Hid (RcvAt w4 p mb (y - k + 1) f 0 sz (bkA S sz k)) := Lib.hid (h4.congr fun i => by
        have := bkA_set S sz k (by have := HY.out; omega) i
        unfold bkT at this
        rw [← HB.out.1, Nat.zero_add] at this
        exact this)
      have HT4 := Lib.hid (HT.out.trans ((hta.mono (fun _ e => e.elim)).trans hT4))
      clear h4 hT4 hnew hno hta hob hnum hkk
      go_wp2_with fail
      refine (rnext_none H4.out (by unfold bkA; rw [if_neg (by omega)])).mono ?_
      rintro e w5 ⟨rfl, hT5⟩
      have H5 := Lib.hid (H4.out.still hT5)
      have HT5 := Lib.hid (HT4.out.trans (hT5.mono (fun _ e => e.elim)))
      clear hT5 H4 HT4 HT HR
      obtain ⟨k', hk'⟩ : ∃ k', k = k' + 1 := ⟨k - 1, by omega⟩
      have hkI : (k : Int) - 1 = (k' : Int) := by omega
      have HK := Lib.hid hk'
      clear hk'
      go_wp2_with fail
      go_roundw
      case rel =>
        refine ⟨k', by have := HK.out; omega, by go_num, Lib.hid ?_, HT5⟩
        rw [← HK.out, show y - k' = y - k + 1 by have := HK.out; omega]
        exact H5.out
      case measure => have := HK.out; simp [intOf]; omega
    · have hk0I : ¬ (0 : Int) < (k : Int) := by omega
      obtain rfl : k = 0 := by omega
      have hsb : (sz : Int) - 1 = (y : Int) := by have := HY.out; omega
      have hf0 : numU f 0 = f := rv_zero hf
      obtain ⟨P, hP⟩ : ∃ P, P = 2 ^ y := ⟨_, rfl⟩
      have hPl : P ≤ 2 ^ 31 := by rw [hP]; exact Nat.pow_le_pow_right (by decide) hyl
      have hP1 : 1 ≤ P := by rw [hP]; exact Nat.two_pow_pos y
      have hP2 : (2 : Int) ^ y = (P : Int) := by rw [hP]; norm_cast
      have hack := rack_calls HR.out
      have hheld := fun W hT => rheld_calls (HR.out.still (w' := W) hT)
      rw [Nat.zero_add, bk_bits S sz y HY.out hyl, ← hP, hf0] at hack
      rw [Nat.zero_add, bk_held S sz y HY.out] at hheld
      obtain ⟨M, hM⟩ : ∃ M, M = P - 1 := ⟨_, rfl⟩
      have hMP : (P : Int) - 1 = (M : Int) := by omega
      have hMl : M < 4294967296 := by omega
      rw [← hM] at hack
      obtain ⟨T, hT⟩ : ∃ T, T = S.size + 1 := ⟨_, rfl⟩
      have hTI : (S.size : Int) + 1 = (T : Int) := by omega
      have hTl : T ≤ 51 := by omega
      obtain ⟨Q, hQ⟩ : ∃ Q, Q = y * T := ⟨_, rfl⟩
      have hQI : (y : Int) * (T : Int) = (Q : Int) := by rw [hQ]; norm_cast
      have hQl : Q ≤ 31 * 51 := by rw [hQ]; exact Nat.mul_le_mul hyl hTl
      rw [← hT, ← hQ] at hheld
      have HH := Lib.hid hheld
      have HA := Lib.hid hack
      clear hheld hack hM hT hQ hP hyI
      go_wp2_with fail
      refine HA.out.mono ?_
      rintro e w4 ⟨rfl, hT4⟩
      have HR4 := Lib.hid (HR.out.still hT4)
      have HT4 := Lib.hid (HT.out.trans (hT4.mono (fun _ e => e.elim)))
      have HT4' := Lib.hid hT4
      clear hT4 HA
      go_wp2_with fail
      refine (HH.out _ HT4'.out).mono ?_
      rintro e w5 ⟨rfl, hT5⟩
      have HR5 := Lib.hid (HR4.out.still hT5)
      have HT5 := Lib.hid (HT4.out.trans (hT5.mono (fun _ e => e.elim)))
      clear hT5 HT4' HH
      obtain ⟨S0, hS0⟩ : ∃ S0, S0 = S ++ (⟨#[0]⟩ : ByteArray) := ⟨_, rfl⟩
      have hSS0 : S0.size ≤ 51 := by rw [hS0, ByteArray.size_append]; show S.size + 1 ≤ 51; omega
      have HS0 := Lib.hid hS0
      clear hS0
      go_wp2_with fail
      have hno : bkA S sz (0 + 1) (0 + 0) = none := by unfold bkA; rw [if_neg (by omega)]
      have hnew := rtake_new HR5.out 0 (by omega) S0 (by omega) hno (by omega)
      rw [Nat.zero_add, hf0, HS0.out] at hnew
      refine hnew.mono ?_
      rintro e w6 ⟨rfl, h6, hT6⟩
      have H6 : Hid (RcvAt w6 p mb 32 f 0 sz (bkA S sz 0)) := Lib.hid ((h6.mono (by omega) (by omega)).congr fun i => bkA_set S sz 0 (by omega) i)
      have HT6 := Lib.hid (HT5.out.trans hT6)
      clear h6 hT6 hnew hno HR4 HT4 HR5 HT5 HR HT hMP hMl hP2 hPl hP1 hQI hQl hTI hTl hsb hSS0
      go_wp2_with fail
      go_loopw [14] (fun kv wy => ∃ k : Nat, k ≤ sz ∧ kv = .int .i64 (k : Nat) ∧ RowKit.Hid (RcvAt wy p mb 32 f k sz (bkA S sz k)) ∧ RowKit.Hid (Touch (fun j => j = p ∨ j = mb) w3 wy)) (fun kv _ => sz - (intOf kv).toNat)
      case atStart => exact ⟨0, Nat.zero_le _, rfl, H6, Lib.hid (HT6.out.mono (fun _ e => Or.inr e))⟩
      case round =>
        obtain ⟨k, hk, rfl, HR, HT⟩ := hrel
        by_cases hkz : k < sz
        · have hkI : (k : Int) < (sz : Int) := by omega
          have hk31 : k ≤ 31 := by omega
          have hob := one_byte
          obtain ⟨B, hB⟩ : ∃ B : ByteArray, B = ⟨#[UInt8.ofNat k]⟩ := ⟨_, rfl⟩
          have hBs : B.size = 1 := by rw [hB]; rfl
          have hsome : bkA S sz k k = some (S ++ B) := by unfold bkA bkT; rw [if_pos (by omega), hB]
          have HOB : Hid (∀ W : World, (convert 56 9 (.slice (some ⟨W.heap.size, 0, none⟩) 1 1)).run Try.prog (W.alloc (.cells #[.int .u8 (k : Nat)] 5)) = .ok (.string B) (W.alloc (.cells #[.int .u8 (k : Nat)] 5))) := Lib.hid (fun W => by rw [hB]; exact one_byte W k (by omega))
          clear hB hob
          go_wp2_with fail
          refine (rnext_some HR.out hsome (by omega)).mono ?_
          rintro e w7 ⟨rfl, h7, hT7⟩
          have H7 : Hid (RcvAt w7 p mb 32 f (k + 1) sz (bkA S sz (k + 1))) := Lib.hid (h7.congr fun i => bkA_off S sz k i)
          have hob := HOB.out w7
          have HT7 := Lib.hid ((HT.out.trans hT7).alloc (.cells #[.int .u8 (k : Nat)] 5))
          have H7' := Lib.hid (H7.out.still ((Touch.refl (fun _ => False) w7).alloc (.cells #[.int .u8 (k : Nat)] 5)))
          clear h7 hT7 hsome HOB
          go_wp2_with fail
          go_roundw
          case rel => exact ⟨k + 1, by omega, by go_num, H7', HT7⟩
          case measure => simp [intOf]; omega
        · obtain rfl : k = sz := by omega
          have hkI : ¬ (k : Int) < (k : Int) := by omega
          have hack := rack_calls HR.out
          have hheld := fun W hT => rheld_calls (HR.out.still (w' := W) hT)
          rw [(bk_none S k).1] at hack
          rw [(bk_none S k).2] at hheld
          obtain ⟨nk, hnk⟩ : ∃ nk, nk = numU f k := ⟨_, rfl⟩
          have hadd : ((f : Int) + (k : Int)) % 4294967296 = (nk : Int) := by rw [hnk]; unfold numU; omega
          rw [← hnk] at hack
          have HH := Lib.hid hheld
          have HA := Lib.hid hack
          clear hheld hack hnk
          go_wp2_with fail
          refine HA.out.mono ?_
          rintro e w7 ⟨rfl, hT7⟩
          have HT7' := Lib.hid hT7
          have HT7 := Lib.hid (HT.out.trans (hT7.mono (fun _ e => e.elim)))
          clear hT7
          go_wp2_with fail
          refine (HH.out _ HT7'.out).mono ?_
          rintro e w8 ⟨rfl, hT8⟩
          have HT8 := Lib.hid (HT7.out.trans (hT8.mono (fun _ e => e.elim)))
          clear hT8
          go_wp2_with fail
          go_ret
          exact ⟨rfl, HT3.out.trans' HT8.out (fun i e => Or.inr (by have := HP.out; omega))⟩
end Go.Proofs.Ytblngiglfggjfaa

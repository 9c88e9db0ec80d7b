/- The statement InflateStored over the translated program. -/
import Derived.Test.YtleenjeiladjcaaDoorInfSi
import Derived.Test.YtleenjeiladjcaaDoorActLit
import Derived.Deep.Cut
import Derived.Deep.DeepCutAuto
namespace Go.Proofs.YtleenjeiladjcaaDoor
open Go Go.RowKit
set_option maxRecDepth 100000

theorem i64_mask (k : Nat) (hk : k ≤ 62) (m : Int) (hm : m = 2 ^ k - 1) (n : Int) : bits .and .i64 n m = n % 2 ^ k := by
  have h62 : 2 ^ k ≤ 2 ^ 62 := Nat.pow_le_pow_right (by decide) hk
  have hpos : 0 < 2 ^ k := Nat.pow_pos (by decide)
  have hm' : m = ((2 ^ k - 1 : Nat) : Int) := by rw [hm]; have : ((2 : Int) ^ k) = ((2 ^ k : Nat) : Int) := by norm_cast
                                                 rw [this]; omega
  have hkk : (BitVec.ofInt 64 m).toNat = 2 ^ k - 1 := by rw [hm', BitVec.toNat_ofInt]; omega
  have key : (BitVec.ofInt 64 n &&& BitVec.ofInt 64 m).toNat = (n % ((2 ^ 64 : Nat) : Int)).toNat % 2 ^ k := by
    rw [BitVec.toNat_and, BitVec.toNat_ofInt, hkk, Nat.and_two_pow_sub_one_eq_mod]
  show IntKind.i64.wrap ((BitVec.ofInt 64 n &&& BitVec.ofInt 64 m).toNat : Nat) = n % 2 ^ k
  have hd : ((2 ^ k : Nat) : Int) ∣ ((2 ^ 64 : Nat) : Int) := Int.natCast_dvd_natCast.2 (Nat.pow_dvd_pow 2 (by omega))
  have hlt : (n % ((2 ^ 64 : Nat) : Int)).toNat % 2 ^ k < 2 ^ k := Nat.mod_lt _ hpos
  have e : (((n % ((2 ^ 64 : Nat) : Int)).toNat % 2 ^ k : Nat) : Int) = n % ((2 ^ k : Nat) : Int) := by
    rw [Int.natCast_emod, Int.toNat_of_nonneg (Int.emod_nonneg _ (by decide)), Int.emod_emod_of_dvd _ hd]
  rw [key, IntWalk.i64_in _ (by omega), e]
  norm_cast
def putB (k : Nat) : ByteArray := ⟨(leB 2 k).toArray⟩
theorem putB_size (k : Nat) : (putB k).size = 2 := by rw [← data_length]; exact leB_length _ _
theorem put_two (k : Nat) (W : World) (hk : k < 65536) : Calls Tryd.prog 6 #[.int .u64 (IntKind.u64.wrap (k : Int)), .int .i64 2] W fun e w' => e = .returned (.string (putB k)) ∧ Touch (fun _ => False) W w' := by
  rw [wrap_u64_in k (by omega)]
  exact put_small k 2 W (by decide) (by decide)
/-- The blocks that are laid so far. -/
def Laid (T : ByteArray) (a : Nat) (S : ByteArray) : Prop := ∃ Bs : List (List UInt8), S.data.toList = bytesN Bs ∧ Bs.flatten = T.data.toList.take a ∧ (∀ b ∈ Bs, b.length < 65536) ∧ S.size ≤ 6 * a
theorem laid_end {T S : ByteArray} {a : Nat} (hL : Laid T a S) (ha : T.size ≤ a) (hS : S.size ≤ 10000) : ∃ d Q, (S ++ ⟨#[1, 0, 0, 255, 255]⟩ ++ ⟨#[114, 101, 115, 116]⟩ : ByteArray).data.toList = bytesQ (d :: Q) ++ [114, 101, 115, 116] ∧ SmallQ (d :: Q) ∧ (S ++ ⟨#[1, 0, 0, 255, 255]⟩ ++ ⟨#[114, 101, 115, 116]⟩ : ByteArray).size ≤ 100000 ∧ (⟨(d :: Q).flatten.toArray⟩ : ByteArray) = T := by
  obtain ⟨Bs, l1, l2, l3, l4⟩ := hL
  obtain ⟨d, Q, hQe⟩ : ∃ d Q, Bs ++ [[]] = d :: Q := by
    cases Bs with
    | nil => exact ⟨[], [], rfl⟩
    | cons x Bs => exact ⟨x, Bs ++ [[]], rfl⟩
  refine ⟨d, Q, ?_, ?_, ?_, ?_⟩
  · rw [← hQe, bytesQ_end, ← l1, ByteArray.data_append, ByteArray.data_append, Array.toList_append, Array.toList_append]
  · intro b hb
    rw [← hQe] at hb
    rcases List.mem_append.1 hb with hb | hb
    · exact l3 b hb
    · rw [List.mem_singleton.1 hb]; decide
  · rw [ByteArray.size_append, ByteArray.size_append]
    show S.size + 5 + 4 ≤ _
    omega
  · apply ByteArray.ext
    apply Array.ext'
    show (d :: Q).flatten = T.data.toList
    rw [← hQe, List.flatten_append, l2, List.take_of_length_le (by rw [data_length]; exact ha)]
    simp
theorem stored_ends {T S : ByteArray} {a : Nat} (hL : Laid T a S) (ha : T.size ≤ a) (hS : S.size ≤ 10000) (P : Nat) (hP : 1 ≤ P ∧ P ≤ 100) : ∃ TS : ByteArray, TS = S ++ ⟨#[1, 0, 0, 255, 255]⟩ ++ ⟨#[114, 101, 115, 116]⟩ ∧
    (∀ W, Calls Tryd.prog 7 #[.string TS] W fun e w' => e = .returned (.tuple #[.string T, .string ⟨#[114, 101, 115, 116]⟩, .int .i64 0]) ∧ Touch (fun _ => False) W w') ∧
    (∀ W, Calls Tryd.prog 8 #[.string TS, .int .i64 (P : Nat)] W fun e w' => e = .returned (.bool true) ∧ Touch (fun _ => False) W w') := by
  obtain ⟨d, Q, h1, h2, h3, h4⟩ := laid_end hL ha hS
  refine ⟨_, rfl, fun W => ?_, fun W => same_stored _ d Q _ h1 h2 h3 (by decide) P hP.1 (by omega) W⟩
  have key := iall_stored _ d Q _ h1 h2 h3 W
  rw [h4] at key
  exact key
def stI (S T : ByteArray) (a n n2 : Nat) (i : Nat) (v : Value) (_ : World) : Prop := match i with
  | 0 => v = .string S
  | 1 => v = .int .i64 (n : Nat)
  | 2 => v = .int .u64 (IntKind.u64.wrap (n : Int))
  | 3 => v = .string (putB n)
  | 4 => v = .string ((⟨#[0]⟩ : ByteArray) ++ putB n)
  | 5 => v = .int .i64 (n : Nat)
  | 6 => v = .int .i64 (n2 : Nat)
  | 7 => v = .int .u64 (IntKind.u64.wrap (n2 : Int))
  | 8 => v = .string (putB n2)
  | 9 => v = .string (((⟨#[0]⟩ : ByteArray) ++ putB n) ++ putB n2)
  | 10 => v = .string T
  | 11 => v = .int .i64 (a : Nat)
  | 12 => v = .int .i64 (a : Nat)
  | 13 => v = .int .i64 (n : Nat)
  | 14 => v = .int .i64 ((a : Int) + (n : Int))
  | 15 => v = .string (T.extract a (a + n))
  | 16 => v = .string ((((⟨#[0]⟩ : ByteArray) ++ putB n) ++ putB n2) ++ T.extract a (a + n))
  | 17 => v = .string (S ++ ((((⟨#[0]⟩ : ByteArray) ++ putB n) ++ putB n2) ++ T.extract a (a + n)))
  | 18 => v = .string (S ++ ((((⟨#[0]⟩ : ByteArray) ++ putB n) ++ putB n2) ++ T.extract a (a + n)))
  | _ => True
set_option maxHeartbeats 4000000 in
theorem stored_calls (s : ByteArray) (z1 z2 : Int) (w : World) (hs : s.size ≤ 9223372036854775807) :
    Calls Tryd.prog 3 #[.string s, .int .i64 z1, .int .i64 z2] w fun e w' => e = .returned (.bool true) ∧ Touch (fun _ => False) w w' := by
  go_enter Tryd.func3, Tryd.ntmps3
  go_wp2_with fail
  refine (speaks7_calls _).mono ?_
  rintro e w1 ⟨rfl, hT1⟩
  have HT1 := Lib.hid hT1
  clear hT1
  go_upto_region 3 with fail
  go_cut [0] (fun v wx => (∃ T : ByteArray, v = .string T ∧ T.size ≤ 500) ∧ wx = w1)
  case first =>
    by_cases hle : (s.size : Int) ≤ 500
    · go_wp2_with fail
      go_meet
      exact ⟨⟨_, rfl, by first | omega | (simp; omega)⟩, rfl⟩
    · go_wp2_with fail
      go_meet
      exact ⟨⟨_, rfl, by first | omega | (simp; omega)⟩, rfl⟩
  case rest =>
    obtain ⟨⟨T, hv0, hT500⟩, rfl⟩ := hcut
    subst hv0
    obtain ⟨m, hm⟩ : ∃ m : Nat, z1 % 2 ^ 6 = m := ⟨(z1 % 2 ^ 6).toNat, by omega⟩
    have hm8 : m < 64 := by omega
    have hand : bits .and .i64 z1 63 = (m : Int) := by rw [i64_mask 6 (by decide) 63 (by decide), hm]
    have hm1 : (1 : Int) + (m : Int) = ((1 + m : Nat) : Int) := by omega
    obtain ⟨C, hC⟩ : ∃ C, C = 1 + m := ⟨_, rfl⟩
    have hC1 : 1 ≤ C ∧ C ≤ 64 := by omega
    rw [← hC] at hm1
    clear hm hC hm8
    go_wp2_with fail
    go_loopw [7, 8] (fun vs iv wr => ∃ (a : Nat) (S : ByteArray), iv = .int .i64 (a : Nat) ∧ vs = .string S ∧ a ≤ T.size + 64 ∧ S.size ≤ 10000 ∧ RowKit.Hid (Laid T a S ∧ Touch (fun _ => False) w wr)) (fun _ iv _ => T.size + 64 - (intOf iv).toNat)
    case atStart => exact ⟨0, ⟨#[]⟩, rfl, rfl, Nat.zero_le _, by decide, Lib.hid ⟨⟨[], rfl, rfl, (fun _ h => by cases h), by decide⟩, HT1.out⟩⟩
    case round =>
      clear HT1 hand hm1
      obtain ⟨a, S, rfl, rfl, ha, hS, HL⟩ := hrel
      by_cases hlt : a < T.size
      · have hltI : (a : Int) < (T.size : Int) := by omega
        go_upto_region 9 with fail
        go_cut [9] (fun v wx => (∃ n : Nat, v = .int .i64 (n : Nat) ∧ (1 ≤ n ∧ n ≤ 64) ∧ a + n ≤ T.size ∧ (T.data.toList.drop a).take C = (T.data.toList.drop a).take n) ∧ wx = wr)
        case first =>
          by_cases hle : (C : Int) ≤ (T.size : Int) - (a : Int)
          · go_wp2_with fail
            go_meet
            exact ⟨⟨C, rfl, hC1, by omega, rfl⟩, rfl⟩
          · obtain ⟨n, hn⟩ : ∃ n, n = T.size - a := ⟨_, rfl⟩
            have hnI : (T.size : Int) - (a : Int) = (n : Int) := by omega
            have HN := Lib.hid hn
            clear hn
            go_wp2_with fail
            go_meet
            exact ⟨⟨n, rfl, by have := HN.out; omega, by have := HN.out; omega, by rw [List.take_of_length_le (by rw [List.length_drop, data_length]; omega), List.take_of_length_le (by rw [List.length_drop, data_length]; have := HN.out; omega)]⟩, rfl⟩
        case rest =>
          obtain ⟨⟨n, hv9, hn64, hna, hcn⟩, rfl⟩ := hcut
          subst hv9
          have HN := Lib.hid hcn
          clear hcn
          obtain ⟨wr, hwr⟩ : ∃ W, W = wc := ⟨_, rfl⟩
          rw [← hwr] at HL ⊢
          clear hwr
          obtain ⟨n2, hn2⟩ : ∃ n2, n2 = 65535 - n := ⟨_, rfl⟩
          have hsub : (65535 : Int) - (n : Int) = (n2 : Int) := by omega
          have hz1 := putB_size n
          have hz2 := putB_size n2
          have hle2 : (a : Int) + (n : Int) ≤ (T.size : Int) := by omega
          have HB := Lib.hid hn2
          have hn2b : n2 ≤ 65535 := by omega
          have hnb : n < 65536 := by omega
          clear hn2
          go_upto_region 10 with fail
          refine wp_region_inv5 (fun _ W => Touch (fun _ => False) wr W) (stI S T a n n2) (by kernel_rfl) (by kernel_rfl) (by kernel_rfl) (Touch.refl _ _).drew ?_ ?_
          · intro i o hio ls a' W hun hcl hdl hC hbase hkeep hdone
            have hlt9 := op_lt hio
            obtain ⟨hbd, hbs, hbb⟩ := hbase
            have b9 : a'.tmps[9]?.getD undef = .int .i64 (n : Nat) := by rw [(hbb 9 (noDst_spec (by kernel_rfl)))]; rfl
            have b0 : a'.tmps[0]?.getD undef = .string T := by rw [(hbb 0 (noDst_spec (by kernel_rfl)))]; rfl
            have b8 : a'.tmps[8]?.getD undef = .int .i64 (a : Nat) := by rw [(hbb 8 (noDst_spec (by kernel_rfl)))]; rfl
            rcases (by simp at hlt9; omega : i = 0 ∨ i = 1 ∨ i = 2 ∨ i = 3 ∨ i = 4 ∨ i = 5 ∨ i = 6 ∨ i = 7 ∨ i = 8 ∨ i = 9 ∨ i = 10 ∨ i = 11 ∨ i = 12 ∨ i = 13 ∨ i = 14 ∨ i = 15 ∨ i = 16 ∨ i = 17 ∨ i = 18) with rfl | rfl | rfl | rfl | rfl | rfl | rfl | rfl | rfl | rfl | rfl | rfl | rfl | rfl | rfl | rfl | rfl | rfl | rfl
            · simp only [List.getElem?_toArray, List.getElem?_cons_zero, Option.some.injEq] at hio
              subst hio
              refine ⟨rfl, ?_⟩
              have hl18 : ls.getD 18 true = false := by
                cases hls : ls.getD 18 true with
                | false => rfl
                | true => exact absurd (r4_edge 0 (by kernel_rfl) (hcl 17 _ rfl (r4_edge 17 (by kernel_rfl) (hcl 18 _ rfl hls)))) (by rw [hun]; decide)
              have b7 : a'.tmps[7]?.getD undef = .string S := by rw [hkeep 18 _ 7 rfl hl18 rfl]; rfl
              refine r4_val (v := .string S) ?_ ⟨_, rfl, rfl, hC, fun _ _ h => h⟩
              simp [execOp, Act.eval, b7]
            · simp only [List.getElem?_toArray, List.getElem?_cons_zero, List.getElem?_cons_succ, Option.some.injEq] at hio
              subst hio
              refine ⟨rfl, ?_⟩
              refine r4_val (v := .int .i64 (n : Nat)) ?_ ⟨_, rfl, rfl, hC, fun _ _ h => h⟩
              simp [execOp, Act.eval, b9]
            · simp only [List.getElem?_toArray, List.getElem?_cons_zero, List.getElem?_cons_succ, Option.some.injEq] at hio
              subst hio
              have t37 : a'.tmps[37]?.getD undef = .int .i64 (n : Nat) := by simpa [valOf, stI] using hdone 1 _ rfl (r4_edge 1 (by kernel_rfl) hdl)
              refine ⟨rfl, ?_⟩
              refine r4_val (v := .int .u64 (IntKind.u64.wrap (n : Int))) ?_ ⟨_, rfl, rfl, hC, fun _ _ h => h⟩
              simp [execOp, Act.eval, t37]
              try go_simp
            · simp only [List.getElem?_toArray, List.getElem?_cons_zero, List.getElem?_cons_succ, Option.some.injEq] at hio
              subst hio
              have t38 : a'.tmps[38]?.getD undef = .int .u64 (IntKind.u64.wrap (n : Int)) := by simpa [valOf, stI] using hdone 2 _ rfl (r4_edge 2 (by kernel_rfl) hdl)
              refine ⟨rfl, ?_⟩
              refine r4_call (R := fun r W' => r = .string (putB n) ∧ Touch (fun _ => False) W W') (f := 6) (args := #[.int .u64 (IntKind.u64.wrap (n : Int)), .int .i64 2]) ?_ ((put_two n W (by omega)).mono fun e W' h => ⟨_, h.1, ⟨rfl, h.2⟩⟩) (fun v W' hw => ⟨_, rfl, hw.1, hC.trans hw.2, fun _ _ h => h⟩)
              simp [execOp, resolve, invoke, Act.eval, t38]
              try rfl
            · simp only [List.getElem?_toArray, List.getElem?_cons_zero, List.getElem?_cons_succ, Option.some.injEq] at hio
              subst hio
              have t39 : a'.tmps[39]?.getD undef = .string (putB n) := by simpa [valOf, stI] using hdone 3 _ rfl (r4_edge 3 (by kernel_rfl) hdl)
              refine ⟨rfl, ?_⟩
              refine r4_val (v := .string ((⟨#[0]⟩ : ByteArray) ++ putB n)) ?_ ⟨_, rfl, rfl, hC, fun _ _ h => h⟩
              simp [execOp, Act.eval, t39]
              try go_simp
            · simp only [List.getElem?_toArray, List.getElem?_cons_zero, List.getElem?_cons_succ, Option.some.injEq] at hio
              subst hio
              refine ⟨rfl, ?_⟩
              refine r4_val (v := .int .i64 (n : Nat)) ?_ ⟨_, rfl, rfl, hC, fun _ _ h => h⟩
              simp [execOp, Act.eval, b9]
            · simp only [List.getElem?_toArray, List.getElem?_cons_zero, List.getElem?_cons_succ, Option.some.injEq] at hio
              subst hio
              have t41 : a'.tmps[41]?.getD undef = .int .i64 (n : Nat) := by simpa [valOf, stI] using hdone 5 _ rfl (r4_edge 5 (by kernel_rfl) hdl)
              refine ⟨rfl, ?_⟩
              refine r4_val (v := .int .i64 (n2 : Nat)) ?_ ⟨_, rfl, rfl, hC, fun _ _ h => h⟩
              simp [execOp, Act.eval, t41]
              go_simp
              exact IntWalk.i64_in _ (by omega)
            · simp only [List.getElem?_toArray, List.getElem?_cons_zero, List.getElem?_cons_succ, Option.some.injEq] at hio
              subst hio
              have t42 : a'.tmps[42]?.getD undef = .int .i64 (n2 : Nat) := by simpa [valOf, stI] using hdone 6 _ rfl (r4_edge 6 (by kernel_rfl) hdl)
              refine ⟨rfl, ?_⟩
              refine r4_val (v := .int .u64 (IntKind.u64.wrap (n2 : Int))) ?_ ⟨_, rfl, rfl, hC, fun _ _ h => h⟩
              simp [execOp, Act.eval, t42]
              try go_simp
            · simp only [List.getElem?_toArray, List.getElem?_cons_zero, List.getElem?_cons_succ, Option.some.injEq] at hio
              subst hio
              have t43 : a'.tmps[43]?.getD undef = .int .u64 (IntKind.u64.wrap (n2 : Int)) := by simpa [valOf, stI] using hdone 7 _ rfl (r4_edge 7 (by kernel_rfl) hdl)
              refine ⟨rfl, ?_⟩
              refine r4_call (R := fun r W' => r = .string (putB n2) ∧ Touch (fun _ => False) W W') (f := 6) (args := #[.int .u64 (IntKind.u64.wrap (n2 : Int)), .int .i64 2]) ?_ ((put_two n2 W (by omega)).mono fun e W' h => ⟨_, h.1, ⟨rfl, h.2⟩⟩) (fun v W' hw => ⟨_, rfl, hw.1, hC.trans hw.2, fun _ _ h => h⟩)
              simp [execOp, resolve, invoke, Act.eval, t43]
              try rfl
            · simp only [List.getElem?_toArray, List.getElem?_cons_zero, List.getElem?_cons_succ, Option.some.injEq] at hio
              subst hio
              have t40 : a'.tmps[40]?.getD undef = .string ((⟨#[0]⟩ : ByteArray) ++ putB n) := by simpa [valOf, stI] using hdone 4 _ rfl (r4_edge 4 (by kernel_rfl) hdl)
              have t44 : a'.tmps[44]?.getD undef = .string (putB n2) := by simpa [valOf, stI] using hdone 8 _ rfl (r4_edge 8 (by kernel_rfl) hdl)
              refine ⟨rfl, ?_⟩
              refine r4_val (v := .string (((⟨#[0]⟩ : ByteArray) ++ putB n) ++ putB n2)) ?_ ⟨_, rfl, rfl, hC, fun _ _ h => h⟩
              simp [execOp, Act.eval, t40, t44]
              try go_simp
            · simp only [List.getElem?_toArray, List.getElem?_cons_zero, List.getElem?_cons_succ, Option.some.injEq] at hio
              subst hio
              refine ⟨rfl, ?_⟩
              refine r4_val (v := .string T) ?_ ⟨_, rfl, rfl, hC, fun _ _ h => h⟩
              simp [execOp, Act.eval, b0]
            · simp only [List.getElem?_toArray, List.getElem?_cons_zero, List.getElem?_cons_succ, Option.some.injEq] at hio
              subst hio
              refine ⟨rfl, ?_⟩
              refine r4_val (v := .int .i64 (a : Nat)) ?_ ⟨_, rfl, rfl, hC, fun _ _ h => h⟩
              simp [execOp, Act.eval, b8]
            · simp only [List.getElem?_toArray, List.getElem?_cons_zero, List.getElem?_cons_succ, Option.some.injEq] at hio
              subst hio
              refine ⟨rfl, ?_⟩
              refine r4_val (v := .int .i64 (a : Nat)) ?_ ⟨_, rfl, rfl, hC, fun _ _ h => h⟩
              simp [execOp, Act.eval, b8]
            · simp only [List.getElem?_toArray, List.getElem?_cons_zero, List.getElem?_cons_succ, Option.some.injEq] at hio
              subst hio
              refine ⟨rfl, ?_⟩
              refine r4_val (v := .int .i64 (n : Nat)) ?_ ⟨_, rfl, rfl, hC, fun _ _ h => h⟩
              simp [execOp, Act.eval, b9]
            · simp only [List.getElem?_toArray, List.getElem?_cons_zero, List.getElem?_cons_succ, Option.some.injEq] at hio
              subst hio
              have t48 : a'.tmps[48]?.getD undef = .int .i64 (a : Nat) := by simpa [valOf, stI] using hdone 12 _ rfl (r4_edge 12 (by kernel_rfl) hdl)
              have t49 : a'.tmps[49]?.getD undef = .int .i64 (n : Nat) := by simpa [valOf, stI] using hdone 13 _ rfl (r4_edge 13 (by kernel_rfl) hdl)
              refine ⟨rfl, ?_⟩
              refine r4_val (v := .int .i64 ((a : Int) + (n : Int))) ?_ ⟨_, rfl, rfl, hC, fun _ _ h => h⟩
              simp [execOp, Act.eval, t48, t49]
              go_simp
              exact IntWalk.i64_in _ (by omega)
            · simp only [List.getElem?_toArray, List.getElem?_cons_zero, List.getElem?_cons_succ, Option.some.injEq] at hio
              subst hio
              have t46 : a'.tmps[46]?.getD undef = .string T := by simpa [valOf, stI] using hdone 10 _ rfl (r4_edge 10 (by kernel_rfl) hdl)
              have t47 : a'.tmps[47]?.getD undef = .int .i64 (a : Nat) := by simpa [valOf, stI] using hdone 11 _ rfl (r4_edge 11 (by kernel_rfl) hdl)
              have t50 : a'.tmps[50]?.getD undef = .int .i64 ((a : Int) + (n : Int)) := by simpa [valOf, stI] using hdone 14 _ rfl (r4_edge 14 (by kernel_rfl) hdl)
              refine ⟨rfl, ?_⟩
              refine r4_val (v := .string (T.extract a (a + n))) ?_ ⟨_, rfl, rfl, hC, fun _ _ h => h⟩
              simp [execOp, Act.eval, t46, t47, t50]
              go_simp
              rw [if_pos (by omega), if_pos (by omega), show ((a : Int) + (n : Int)).toNat = a + n by omega]
            · simp only [List.getElem?_toArray, List.getElem?_cons_zero, List.getElem?_cons_succ, Option.some.injEq] at hio
              subst hio
              have t45 : a'.tmps[45]?.getD undef = .string (((⟨#[0]⟩ : ByteArray) ++ putB n) ++ putB n2) := by simpa [valOf, stI] using hdone 9 _ rfl (r4_edge 9 (by kernel_rfl) hdl)
              have t51 : a'.tmps[51]?.getD undef = .string (T.extract a (a + n)) := by simpa [valOf, stI] using hdone 15 _ rfl (r4_edge 15 (by kernel_rfl) hdl)
              refine ⟨rfl, ?_⟩
              refine r4_val (v := .string ((((⟨#[0]⟩ : ByteArray) ++ putB n) ++ putB n2) ++ T.extract a (a + n))) ?_ ⟨_, rfl, rfl, hC, fun _ _ h => h⟩
              simp [execOp, Act.eval, t45, t51]
              go_simp
              omega
            · simp only [List.getElem?_toArray, List.getElem?_cons_zero, List.getElem?_cons_succ, Option.some.injEq] at hio
              subst hio
              have t36 : a'.tmps[36]?.getD undef = .string S := by simpa [valOf, stI] using hdone 0 _ rfl (r4_edge 0 (by kernel_rfl) hdl)
              have t52 : a'.tmps[52]?.getD undef = .string ((((⟨#[0]⟩ : ByteArray) ++ putB n) ++ putB n2) ++ T.extract a (a + n)) := by simpa [valOf, stI] using hdone 16 _ rfl (r4_edge 16 (by kernel_rfl) hdl)
              refine ⟨rfl, ?_⟩
              refine r4_val (v := .string (S ++ ((((⟨#[0]⟩ : ByteArray) ++ putB n) ++ putB n2) ++ T.extract a (a + n)))) ?_ ⟨_, rfl, rfl, hC, fun _ _ h => h⟩
              simp [execOp, Act.eval, t36, t52]
              go_simp
              omega
            · simp only [List.getElem?_toArray, List.getElem?_cons_zero, List.getElem?_cons_succ, Option.some.injEq] at hio
              subst hio
              have t53 : a'.tmps[53]?.getD undef = .string (S ++ ((((⟨#[0]⟩ : ByteArray) ++ putB n) ++ putB n2) ++ T.extract a (a + n))) := by simpa [valOf, stI] using hdone 17 _ rfl (r4_edge 17 (by kernel_rfl) hdl)
              refine ⟨rfl, ?_⟩
              refine r4_val (v := .string (S ++ ((((⟨#[0]⟩ : ByteArray) ++ putB n) ++ putB n2) ++ T.extract a (a + n)))) ?_ ⟨_, rfl, rfl, hC, fun _ _ h => h⟩
              simp [execOp, Act.eval, t53]
          · intro ls a' W hall hC hbase hdone
            have HW := Lib.hid hC
            have h7 : a'.tmps[7]?.getD undef = .string (S ++ ((((⟨#[0]⟩ : ByteArray) ++ putB n) ++ putB n2) ++ T.extract a (a + n))) := by simpa [valOf, stI] using hdone 18 _ rfl
            have hact := act_lit hbase [7, 36, 37, 38, 39, 40, 41, 42, 43, 44, 45, 46, 47, 48, 49, 50, 51, 52, 53] (by decide) (by kernel_rfl)
            obtain ⟨v36x, h36⟩ : ∃ v, a'.tmps[36]?.getD undef = v := ⟨_, rfl⟩
            obtain ⟨v37x, h37⟩ : ∃ v, a'.tmps[37]?.getD undef = v := ⟨_, rfl⟩
            obtain ⟨v38x, h38⟩ : ∃ v, a'.tmps[38]?.getD undef = v := ⟨_, rfl⟩
            obtain ⟨v39x, h39⟩ : ∃ v, a'.tmps[39]?.getD undef = v := ⟨_, rfl⟩
            obtain ⟨v40x, h40⟩ : ∃ v, a'.tmps[40]?.getD undef = v := ⟨_, rfl⟩
            obtain ⟨v41x, h41⟩ : ∃ v, a'.tmps[41]?.getD undef = v := ⟨_, rfl⟩
            obtain ⟨v42x, h42⟩ : ∃ v, a'.tmps[42]?.getD undef = v := ⟨_, rfl⟩
            obtain ⟨v43x, h43⟩ : ∃ v, a'.tmps[43]?.getD undef = v := ⟨_, rfl⟩
            obtain ⟨v44x, h44⟩ : ∃ v, a'.tmps[44]?.getD undef = v := ⟨_, rfl⟩
            obtain ⟨v45x, h45⟩ : ∃ v, a'.tmps[45]?.getD undef = v := ⟨_, rfl⟩
            obtain ⟨v46x, h46⟩ : ∃ v, a'.tmps[46]?.getD undef = v := ⟨_, rfl⟩
            obtain ⟨v47x, h47⟩ : ∃ v, a'.tmps[47]?.getD undef = v := ⟨_, rfl⟩
            obtain ⟨v48x, h48⟩ : ∃ v, a'.tmps[48]?.getD undef = v := ⟨_, rfl⟩
            obtain ⟨v49x, h49⟩ : ∃ v, a'.tmps[49]?.getD undef = v := ⟨_, rfl⟩
            obtain ⟨v50x, h50⟩ : ∃ v, a'.tmps[50]?.getD undef = v := ⟨_, rfl⟩
            obtain ⟨v51x, h51⟩ : ∃ v, a'.tmps[51]?.getD undef = v := ⟨_, rfl⟩
            obtain ⟨v52x, h52⟩ : ∃ v, a'.tmps[52]?.getD undef = v := ⟨_, rfl⟩
            obtain ⟨v53x, h53⟩ : ∃ v, a'.tmps[53]?.getD undef = v := ⟨_, rfl⟩
            clear hall hdone hC hbase
            dsimp only [layL, Nat.reduceAdd, Nat.reduceBEq, cond_true, cond_false] at hact
            simp only [h7, h36, h37, h38, h39, h40, h41, h42, h43, h44, h45, h46, h47, h48, h49, h50, h51, h52, h53] at hact
            clear h7 h36 h37 h38 h39 h40 h41 h42 h43 h44 h45 h46 h47 h48 h49 h50 h51 h52 h53
            subst hact
            dsimp only [Exit.inBlock, Exit.then]
            go_wp2_with fail
            go_roundw
            case rel =>
              have hl0 := data_length T
              have hcl : ((T.data.toList.drop a).take n).length = n := by rw [List.length_take, List.length_drop]; omega
              have hnC : n ≤ C := by
                have h1 := congrArg List.length HN.out
                rw [hcl, List.length_take, List.length_drop] at h1
                omega
              obtain ⟨⟨Bs, l1, l2, l3, l4⟩, hTl⟩ := HL.out
              have hsz : (S ++ (((⟨#[0]⟩ : ByteArray) ++ putB n ++ putB n2) ++ T.extract a (a + n))).size = S.size + (5 + n) := by
                simp only [ByteArray.size_append, hz1, hz2]
                have : (⟨#[0]⟩ : ByteArray).size = 1 := rfl
                rw [this]
                have : (T.extract a (a + n)).size = n := by simp; omega
                omega
              refine ⟨a + C, _, by go_num, rfl, by omega, by rw [hsz]; omega, Lib.hid ⟨⟨Bs ++ [(T.data.toList.drop a).take n], ?_, ?_, ?_, by rw [hsz]; omega⟩, hTl.trans HW.out⟩⟩
              · rw [bytesN_snoc, ← l1]
                unfold blkN sz4
                rw [hcl, ← HB.out]
                simp only [ByteArray.data_append, Array.toList_append]
                have e1 : (T.extract a (a + n)).data.toList = (T.data.toList.drop a).take n := by rw [ex_list2, show a + n - a = n by omega]
                rw [e1]
                simp [putB]
              · rw [List.flatten_append, l2, List.take_add, ← HN.out]
                simp
              · intro b hb
                rcases List.mem_append.1 hb with hb | hb
                · exact l3 b hb
                · rw [List.mem_singleton.1 hb, hcl]; omega
            case measure => simp [intOf]; omega
      · have hltI : ¬ (a : Int) < (T.size : Int) := by omega
        obtain ⟨m2, hm2⟩ : ∃ m2 : Nat, z2 % 2 ^ 4 = m2 := ⟨(z2 % 2 ^ 4).toNat, by omega⟩
        have hm2b : m2 < 16 := by omega
        have hand2 : bits .and .i64 z2 15 = (m2 : Int) := by rw [i64_mask 4 (by decide) 15 (by decide), hm2]
        have hp1 : (1 : Int) + (m2 : Int) = ((1 + m2 : Nat) : Int) := by omega
        obtain ⟨P, hP⟩ : ∃ P, P = 1 + m2 := ⟨_, rfl⟩
        rw [← hP] at hp1
        obtain ⟨TS, hTS, hall, hsame⟩ := stored_ends HL.out.1 (by omega) hS P (by omega)
        have HA := Lib.hid (⟨hall, hsame⟩ : _ ∧ _)
        have HTL := Lib.hid HL.out.2
        have HTS := Lib.hid hTS
        have hPb : P ≤ 100 := by omega
        clear hall hsame HL hm2 hP hm2b hTS
        go_wp2_with fail
        rw [← HTS.out]
        refine (HA.out.1 wr).mono ?_
        rintro e w2 ⟨rfl, hT2⟩
        have HT2 := Lib.hid (HTL.out.trans hT2)
        clear hT2
        go_wp2_with fail
        rw [← HTS.out]
        refine (HA.out.2 w2).mono ?_
        rintro e w3 ⟨rfl, hT3⟩
        have HT3 := Lib.hid (HT2.out.trans hT3)
        clear hT3
        go_wp2_with fail
        go_ret
        exact ⟨rfl, HT3.out⟩
end Go.Proofs.YtleenjeiladjcaaDoor

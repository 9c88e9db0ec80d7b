/- The statement MatchRuns over the translated program. -/
import Derived.Test.YtbjkoepldccaaaaMatRun
namespace Go.Proofs.Ytbjkoepldccaaaa
open Go Go.RowKit Go.Maps
set_option maxRecDepth 100000

theorem run_one_b (m : Nat) (hm : m < 256) (W : World) :
    (convert 35 9 (.slice (some ⟨W.heap.size, 0, none⟩) 1 1)).run Try.prog (W.alloc (.cells #[.int .u8 (m : Int)] 5)) = .ok (.string ⟨#[UInt8.ofNat m]⟩) (W.alloc (.cells #[.int .u8 (m : Int)] 5)) := by
  have := run_convert_bytes_back (P := Try.prog) (W.alloc (.cells #[.int .u8 (m : Int)] 5)) 35 9 5 ⟨W.heap.size, 0, none⟩ 1 [UInt8.ofNat m] Try.underlying35 Try.underlying5 Try.underlying9 (fun j hj => by
    have hj0 : j = 0 := by simp at hj; omega
    subst hj0
    have h1 : (⟨W.heap.size, 0, none⟩ : Addr).add 0 = ⟨W.heap.size, 0, none⟩ := by simp [Addr.add]
    rw [h1, cell_of_row _ _ _ _ _ _ (heap_alloc_new W _)]
    simp [Nat.mod_eq_of_lt hm])
  exact this
theorem i64_and2047 (n : Int) : bits .and .i64 n 2047 = n % 2048 := by
  have hk : (BitVec.ofInt 64 2047).toNat = 2 ^ 11 - 1 := by decide
  have key : (BitVec.ofInt 64 n &&& BitVec.ofInt 64 2047).toNat = (n % ((2 ^ 64 : Nat) : Int)).toNat % 2 ^ 11 := by
    rw [BitVec.toNat_and, BitVec.toNat_ofInt, hk, Nat.and_two_pow_sub_one_eq_mod]
  show IntKind.i64.wrap ((BitVec.ofInt 64 n &&& BitVec.ofInt 64 2047).toNat : Nat) = n % 2048
  rw [key, IntKind.wrap_i64]
  omega
theorem i64_and15' (n : Int) : bits .and .i64 n 15 = n % 16 := by
  have hk : (BitVec.ofInt 64 15).toNat = 2 ^ 4 - 1 := by decide
  have key : (BitVec.ofInt 64 n &&& BitVec.ofInt 64 15).toNat = (n % ((2 ^ 64 : Nat) : Int)).toNat % 2 ^ 4 := by
    rw [BitVec.toNat_and, BitVec.toNat_ofInt, hk, Nat.and_two_pow_sub_one_eq_mod]
  show IntKind.i64.wrap ((BitVec.ofInt 64 n &&& BitVec.ofInt 64 15).toNat : Nat) = n % 16
  rw [key, IntKind.wrap_i64]
  omega
def repS (b : UInt8) (n : Nat) : ByteArray := ⟨(List.replicate n b).toArray⟩
theorem repS_size (b : UInt8) (n : Nat) : (repS b n).size = n := by show (List.replicate n b).toArray.size = n; simp
theorem repS_snoc (b : UInt8) (n : Nat) : repS b n ++ ⟨#[b]⟩ = repS b (n + 1) := by
  apply ByteArray.ext
  apply Array.toList_inj.1
  rw [ByteArray.data_append, Array.toList_append]
  show (List.replicate n b).toArray.toList ++ [b] = (List.replicate (n + 1) b).toArray.toList
  rw [List.toList_toArray, List.toList_toArray, List.replicate_succ']

set_option maxHeartbeats 1000000 in
theorem mrun_calls (z n lv : Int) (w : World) (hz : (Lit.int .u8 z).wf = true) :
    Calls Try.prog 5 #[.int .u8 z, .int .i64 n, .int .i64 lv] w fun e w' => e = .returned (.bool true) ∧ Touch (fun _ => False) w w' := by
  have hz2 : 0 ≤ z ∧ z < 256 := by
    simp [Lit.wf, IntKind.min, IntKind.max, IntKind.signed, IntKind.bits] at hz
    omega
  obtain ⟨x, rfl⟩ : ∃ x : UInt8, z = (x.toNat : Nat) := ⟨UInt8.ofNat z.toNat, by
    have : z.toNat % 256 = z.toNat := Nat.mod_eq_of_lt (by omega)
    simp [this]; omega⟩
  obtain ⟨N, hN⟩ : ∃ N : Nat, 4 + n % 2048 = (N : Int) := ⟨(4 + n % 2048).toNat, by omega⟩
  obtain ⟨V, hV⟩ : ∃ V : Nat, 1 + (lv % 16) % 9 = (V : Int) := ⟨(1 + (lv % 16) % 9).toNat, by omega⟩
  have hN1 : 4 ≤ N ∧ N ≤ 2051 := by omega
  have hV1 : 1 ≤ V ∧ V ≤ 9 := by omega
  have hN2 : 4 + bits .and .i64 n 2047 = (N : Int) := by rw [i64_and2047, hN]
  have hV2 : 1 + (bits .and .i64 lv 15).tmod 9 = (V : Int) := by rw [i64_and15', ← hV, Int.tmod_eq_emod_of_nonneg (by omega)]
  have HSP := Lib.hid (speaks8_calls w)
  have HTK := Lib.hid (fun W => Tokens_calls ⟨#[]⟩ (repS x N) ⟨#[]⟩ (repS x N) V W hV1.2 (by rw [repS_size]; omega) (by decide) (by rfl) (by apply ByteArray.ext; simp [repS]))
  have hlen := runs_tokL x N V hN1.1 hV1.1
  have hlen2 : (tokL (repS x N).data.toList (⟨#[]⟩ : ByteArray).size V).length ≤ 3 + N / 258 := by
    show (tokL (List.replicate N x).toArray.toList 0 V).length ≤ _
    rw [List.toList_toArray]
    exact hlen
  generalize tokL (repS x N).data.toList (⟨#[]⟩ : ByteArray).size V = L at HTK hlen2
  clear hlen hN hV hz hz2
  go_enter Try.func5, Try.ntmps5
  go_wp2_with fail
  refine HSP.out.mono ?_
  rintro e w1 ⟨rfl, ht⟩
  have HT := Lib.hid ht
  clear ht
  go_wp2_with fail
  go_loopw [7, 8] (fun s i wr => ∃ (k : Nat) (q : ByteArray), k ≤ N ∧ s = .string q ∧ i = .int .i64 (k : Nat) ∧ RowKit.Hid (q = repS x k) ∧ q.size ≤ 2051 ∧ RowKit.Hid (Touch (fun _ => False) w wr)) (fun _ i _ => N - (intOf i).toNat)
  case atStart => exact ⟨0, ⟨#[]⟩, Nat.zero_le _, rfl, rfl, Lib.hid rfl, by decide, HT⟩
  case round =>
    obtain ⟨k, q, hk, rfl, rfl, HQ, hq, HT2⟩ := hrel
    clear HT
    by_cases hlt : k < N
    · have hki : (k : Int) < (N : Int) := by omega
      have hx2 := UInt8.toNat_lt x
      have hconv := run_one_b x.toNat hx2 wr
      have hof : (⟨#[UInt8.ofNat x.toNat]⟩ : ByteArray) = ⟨#[x]⟩ := by simp
      rw [hof] at hconv
      obtain ⟨o, ho⟩ : ∃ o : ByteArray, o = ⟨#[x]⟩ := ⟨_, rfl⟩
      have hos : o.size = 1 := by rw [ho]; rfl
      rw [← ho] at hconv
      have HO := Lib.hid ho
      clear ho hof
      go_wp2_with fail
      go_roundw
      case rel =>
        refine ⟨k + 1, q ++ o, by omega, rfl, by go_num, Lib.hid (by rw [HQ.out, HO.out, repS_snoc]), ?_, Lib.hid (HT2.out.alloc _)⟩
        rw [HQ.out, HO.out, repS_snoc, repS_size]
        omega
      case measure => simp [intOf]; omega
    · obtain rfl : k = N := by omega
      have hq2 := HQ.out
      subst hq2
      go_wp2_with fail
      refine (HTK.out _).mono ?_
      rintro e w3 ⟨⟨v, rfl, hv, _⟩, ht⟩
      obtain ⟨ad, cap, rfl, h1, h2, _⟩ := hv
      have HT3 := Lib.hid (HT2.out.trans ht)
      clear ht
      obtain ⟨r, hr⟩ : ∃ r : Nat, r = k / 258 := ⟨_, rfl⟩
      have hr1 : (k : Int).tdiv 258 = (r : Int) := by rw [Int.tdiv_eq_ediv_of_nonneg (by omega)]; omega
      have hr2 : (k : Int) / 258 = (r : Int) := by omega
      have hr3 : (L.length : Int) ≤ 3 + (r : Int) := by omega
      clear hr hlen2
      go_wp2_with fail
      go_ret
      exact ⟨rfl, HT3.out⟩
end Go.Proofs.Ytbjkoepldccaaaa

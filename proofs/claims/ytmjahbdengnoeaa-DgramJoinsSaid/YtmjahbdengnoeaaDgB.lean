/- Contracts of package dgram: words, seals; the reference's n4. -/
import Derived.Test.YtmjahbdengnoeaaDgA
import Derived.Test.YtmjahbdengnoeaaArr
import Derived.Great.BuildSlice
namespace Go.Proofs.Ytmjahbdengnoeaa
open Go Go.RowKit
set_option maxRecDepth 100000

def u32V (l : List Nat) : List Value := l.map fun (n : Nat) => Value.int .u32 (n : Int)
theorem u32V_length (l : List Nat) : (u32V l).length = l.length := by simp [u32V]
theorem u32V_get (l : List Nat) (k : Nat) (h : k < l.length) : (u32V l)[k]? = some (.int .u32 (l[k] : Nat)) := by simp [u32V, h]
def wordsL (l : List Nat) : List UInt8 := l.flatMap (leB 4)
def wordsB (l : List Nat) : ByteArray := ⟨(wordsL l).toArray⟩
theorem wordsL_length (l : List Nat) : (wordsL l).length = 4 * l.length := by
  unfold wordsL
  induction l with
  | nil => rfl
  | cons a r ih => simp [leB_length, ih]; omega
theorem wordsB_size (l : List Nat) : (wordsB l).size = 4 * l.length := by
  show (wordsL l).toArray.size = _
  rw [List.size_toArray, wordsL_length]
theorem wordsB_step (l : List Nat) (k : Nat) (h : k < l.length) : wordsB (l.take k) ++ lB 4 l[k] = wordsB (l.take (k + 1)) := by
  apply ByteArray.ext
  apply Array.toList_inj.1
  rw [ByteArray.data_append, Array.toList_append]
  show wordsL (l.take k) ++ leB 4 l[k] = wordsL (l.take (k + 1))
  rw [List.take_succ_eq_append_getElem h]
  unfold wordsL
  simp only [List.flatMap_append, List.flatMap_cons, List.flatMap_nil, List.append_nil]

set_option maxHeartbeats 1000000 in
theorem words_calls (l : List Nat) (v : Value) (w : World) (hl : ∀ n ∈ l, n < 4294967296) (h3 : l.length ≤ 3) (h0 : 0 < l.length) (hv : Reads w v (u32V l)) :
    Calls Try.prog 45 #[v] w fun e w' => e = .returned (.string (wordsB l)) ∧ Touch (fun _ => False) w w' := by
  obtain ⟨g, off, cap, rfl, hc1, hc2, hlt, hcell⟩ := hv.addr (by rw [u32V_length]; exact h0)
  rw [u32V_length] at hc1 ⊢
  have HC := Lib.hid hcell
  have HL := Lib.hid hl
  clear hcell hl hv
  go_enter Try.func45, Try.ntmps45
  go_wp2_with fail
  go_loopw [3, 5, 8] (fun s _ i wr => ∃ (k : Nat) (sb : ByteArray), k ≤ l.length ∧ i = .int .i64 (k : Nat) ∧ s = .string sb ∧ RowKit.Hid (sb = wordsB (l.take k)) ∧ Touch (fun _ => False) w wr) (fun _ _ i _ => l.length - (intOf i).toNat)
  case atStart => exact ⟨0, ⟨#[]⟩, Nat.zero_le _, rfl, rfl, Lib.hid rfl, Touch.refl _ _⟩
  case round =>
    obtain ⟨k, sb, hk, rfl, rfl, HS, hT⟩ := hrel
    have hsz : sb.size ≤ 12 := by rw [HS.out, wordsB_size]; have := List.length_take_le k l; omega
    by_cases hlt2 : k < l.length
    · have hc := hT.cell (HC.out k _ (u32V_get l k hlt2)) id
      have hn := HL.out l[k] (List.getElem_mem hlt2)
      have HST := Lib.hid (wordsB_step l k hlt2)
      obtain ⟨n, hnn⟩ : ∃ n, n = l[k] := ⟨_, rfl⟩
      rw [← hnn] at hc hn HST
      clear hnn
      have HP := Lib.hid (fun W => wput_calls n 4 W (by omega) (by omega))
      have hq := lB_size 4 n
      generalize lB 4 n = q at HP hq HST
      go_wp2_with (go_at_call 39; refine (HP.out _).mono ?_; rintro e w2 ⟨rfl, ht2⟩)
      go_roundw
      case rel => exact ⟨k + 1, sb ++ q, by omega, by go_num, rfl, Lib.hid (by rw [HS.out]; exact HST.out), hT.trans ht2⟩
      case measure => simp [intOf]; omega
    · have HF : RowKit.Hid (sb = wordsB l) := Lib.hid (by have := HS.out; rwa [List.take_of_length_le (by omega)] at this)
      have hge : (l.length : Int) ≤ (k : Int) := by omega
      clear hlt2 HS
      go_wp2_with fail
      go_ret
      exact ⟨by rw [HF.out]; rfl, hT⟩

theorem sum_calls (b : Nat) (s : ByteArray) (w : World) (ht : TabAt w b) (hz : s.size ≤ 9223372036854775807) :
    Calls Try.prog 47 #[.pointer (some ⟨b, 0, none⟩), .string s] w fun e w' => e = .returned (.int .u32 (moreN 0 s.data.toList)) ∧ Touch (fun _ => False) w w' := by
  go_enter Try.func47, Try.ntmps47
  go_wp2_with fail
  refine (tmore_calls b 0 s _ ht (by decide) hz).mono ?_
  rintro e w' ⟨rfl, nq, hT⟩
  have HT := Lib.hid hT
  clear hT
  go_wp2_with fail
  go_ret
  exact ⟨rfl, by rw [HT.out]; exact (Touch.refl _ _).drewN nq⟩

/-- What stands behind a body. -/
def sealB (s : ByteArray) : ByteArray := lB 4 (moreN 0 s.data.toList)
theorem sealB_size (s : ByteArray) : (sealB s).size = 4 := lB_size _ _
theorem wordsB_one (n : Nat) : wordsB [n] = lB 4 n := by unfold wordsB wordsL lB; simp

theorem reads_new (w : World) (l : List Nat) (h : l.length ≤ 3) : Reads (w.alloc (.cells (u32V l).toArray 22)) (.slice (some ⟨w.heap.size, 0, none⟩) l.length l.length) (u32V l) := by
  refine ⟨_, l.length, by rw [u32V_length], by rw [u32V_length]; exact Nat.le_refl _, by unfold maxLen; omega, .inr ⟨_, 0, rfl, fun j u hu => ?_⟩⟩
  rw [cell_of_row _ w.heap.size (0 + j) _ _ _ (heap_alloc_new w _), Nat.zero_add, List.getElem?_toArray]
  exact hu

set_option maxHeartbeats 1000000 in
theorem seal_calls (s : ByteArray) (w : World) (hz : s.size ≤ 9223372036854775807) :
    Calls Try.prog 34 #[.string s] w fun e w' => e = .returned (.string (sealB s)) ∧ Touch (fun _ => False) w w' := by
  have HS := Lib.hid (fun b W ht => sum_calls b s W ht hz)
  have hn : moreN 0 s.data.toList < 4294967296 := moreN_lt 0 _ (by decide)
  unfold sealB
  generalize moreN 0 s.data.toList = n at hn HS ⊢
  go_enter Try.func34, Try.ntmps34
  go_wp2_with fail
  refine (make_calls _).mono ?_
  rintro e w1 ⟨rfl, ht1, hT1⟩
  go_wp2_with fail
  refine (HS.out _ _ ht1).mono ?_
  rintro e w2 ⟨rfl, hT2⟩
  have hT := hT1.trans hT2
  go_wp2_with fail
  refine (words_calls [n] _ _ (by simpa using hn) (by simp) (by simp) (reads_new w2 [n] (by simp))).mono ?_
  rintro e w3 ⟨rfl, hT3⟩
  rw [wordsB_one]
  go_wp2_with fail
  go_ret
  exact ⟨rfl, (hT.alloc _).trans hT3⟩

set_option maxHeartbeats 400000 in
theorem n4_calls (n : Nat) (w : World) (hn : n < 4294967296) : Calls Try.prog 35 #[.int .u32 n] w fun e w' => e = .returned (.string (lB 4 n)) ∧ Touch (fun _ => False) w w' := by
  go_enter Try.func35, Try.ntmps35
  go_wp2_with fail
  refine (refput_small n 4 _ (by omega) (by omega)).mono ?_
  rintro e w1 ⟨rfl, hT1⟩
  go_wp2_with fail
  go_ret
  exact ⟨rfl, hT1⟩
theorem rput_calls (n k : Nat) (w : World) (hk : k ≤ 8) (hn : n < 18446744073709551616) : Calls Try.prog 25 #[.int .u64 n, .int .i64 k] w fun e w' => e = .returned (.string (lB k n)) ∧ Touch (fun _ => False) w w' := refput_small n k w hk hn
end Go.Proofs.Ytmjahbdengnoeaa


/- Contracts of the check's functions over the translated program: the table, sums by it, products. -/
import Derived.Test.YtmjahbdengnoeaaCrcA
namespace Go.Proofs.Ytmjahbdengnoeaa
open Go Go.RowKit
set_option maxRecDepth 100000

/-- The table in memory. -/
def TabAt (w : World) (b : Nat) : Prop := ∃ cs : Array Value, w.heap[b]? = some (.cells cs 98 (0, 0)) ∧ cs.size = 256 ∧ ∀ j, j < 256 → cs[j]? = some (.int .u32 (Tn 8 j : Nat))
theorem TabAt.kept {S : Nat → Prop} {w w' : World} {b : Nat} (h : TabAt w b) (ht : Touch S w w') (hn : ¬ S b) : TabAt w' b := by
  obtain ⟨cs, h1, h2⟩ := h
  exact ⟨cs, (ht.block b (Array.getElem?_eq_some_iff.1 h1).1 hn).trans h1, h2⟩
theorem TabAt.cell {w : World} {b j : Nat} (h : TabAt w b) (hj : j < 256) : w.cell? ⟨b, j, none⟩ = some (.int .u32 (Tn 8 j : Nat)) := by
  obtain ⟨cs, h1, _, h3⟩ := h
  rw [cell_of_row w b j cs _ (0, 0) h1, h3 j hj]

def zs256 : Array Value := Array.replicate 256 (.int .u32 0)
theorem zeroTable (w : World) : (zeroValue 98).run Try.prog w = .ok (.agg zs256) w := by kernel_rfl

/-- What holds while the table is filled. -/
def TabInv (w : World) (B : Nat) (i : Value) (wr : World) : Prop :=
  ∃ (k : Nat) (cs : Array Value), k ≤ 256 ∧ i = .int .i64 (k : Nat) ∧ wr.heap[B]? = some (.cells cs 98 (0, 0)) ∧ cs.size = 256 ∧ (∀ j, j < k → cs[j]? = some (.int .u32 (Tn 8 j : Nat))) ∧ Touch (fun _ => False) w wr

set_option maxRecDepth 100000 in
set_option maxHeartbeats 800000 in
theorem make_calls (w : World) : Calls Try.prog 46 #[] w fun e w' => e = .returned (.pointer (some ⟨w.heap.size, 0, none⟩)) ∧ TabAt w' w.heap.size ∧ Touch (fun _ => False) w w' := by
  have hz := zeroTable
  have hzs : zs256.size = 256 := by simp [zs256]
  generalize zs256 = zs at hz hzs
  have HZS := Lib.hid hzs
  clear hzs
  go_enter Try.func46, Try.ntmps46
  go_wp2_with fail
  have hnew := heap_alloc_new w (.cells zs 98)
  have ht := (Touch.refl (fun _ => False) w).alloc (.cells zs 98)
  generalize hB : w.heap.size = B at hnew ⊢
  have HB := Lib.hid hB
  have HN := Lib.hid (⟨hnew, ht⟩ : _ ∧ _)
  clear hB hnew ht
  go_loopw [5] (TabInv w B) (fun i _ => 256 - (intOf i).toNat)
  case atStart => exact ⟨0, zs, Nat.zero_le _, rfl, HN.out.1, HZS.out, fun j h => by omega, HN.out.2⟩
  case round =>
    obtain ⟨k, cs, hk, rfl, hh, hsz, hcs, ht⟩ := hrel
    by_cases hlt : k < 256
    · have hcell : wr.cell? ⟨B, k, none⟩ = some (cs[k]'(by omega)) := by rw [cell_of_row wr B k cs _ (0, 0) hh]; exact Array.getElem?_eq_getElem (by omega)
      have hfree : wr.frozen? ⟨B, k, none⟩ = false := by simp [World.frozen?, hh]
      generalize cs[k]'(by omega) = x at hcell
      have HC := Lib.hid (⟨hh, hsz, hcs⟩ : _ ∧ _ ∧ _)
      clear hh hsz hcs
      have hdec : decide ((k : Int) < 256) = true := by simp; omega
      go_wp2_with fail
      go_loop [3, 10] (fun s i => ∃ j m : Nat, j ≤ 8 ∧ m = Tn j k ∧ s = .int .u32 m ∧ i = .int .i64 j) (fun _ i => 8 - (intOf i).toNat)
      case atStart => exact ⟨0, k, Nat.zero_le _, rfl, rfl, rfl⟩
      case round =>
        obtain ⟨j, m, hj, hm, rfl, rfl⟩ := hrel
        have hml : m < 4294967296 := by rw [hm]; exact Tn_lt j k (by omega)
        have HM := Lib.hid hm
        clear hm
        by_cases hlj : j < 8
        · go_wp2_with fail
          refine (turn_calls m _ hml).mono ?_
          rintro e w' ⟨rfl, rfl⟩
          go_wp2_with fail
          go_round
          case rel => exact ⟨j + 1, _, by omega, by rw [Tn_succ, HM.out], rfl, by go_num⟩
          case measure => simp [intOf]; omega
        · obtain rfl : j = 8 := by omega
          go_wp2_with fail
          go_roundw
          case rel =>
            obtain ⟨hh, hsz, hcs⟩ := HC.out
            refine ⟨k + 1, cs.setIfInBounds k (.int .u32 m), by omega, by go_num, heap_setCell_same _ hh, by simpa using hsz, fun j hj => ?_, ht.setCell (Or.inr (by rw [HB.out]; exact Nat.le_refl _)) _⟩
            rw [Array.getElem?_setIfInBounds]
            by_cases hjk : k = j
            · subst hjk
              rw [if_pos rfl, if_pos (by omega), HM.out]
            · rw [if_neg hjk]
              exact hcs j (by omega)
          case measure => simp [intOf]; omega
    · obtain rfl : k = 256 := by omega
      go_wp2_with fail
      go_ret
      rw [HB.out]
      exact ⟨rfl, ⟨cs, hh, hsz, hcs⟩, ht⟩

theorem flip_bits (s : Nat) (h : s < 4294967296) : bits .xor .u32 IntKind.u32.max (s : Int) = ((flip s : Nat) : Int) := by
  rw [show IntKind.u32.max = ((4294967295 : Nat) : Int) from rfl, u32_xor_nat _ s (by decide) h, Nat.xor_comm]
  rfl
theorem idx_bits (m c : Nat) (hc : c < 256) : bits .xor .u8 ((m : Int) % 256) (c : Int) = ((m % 256 ^^^ c : Nat) : Int) := by
  rw [show (m : Int) % 256 = ((m % 256 : Nat) : Int) by omega, u8_xor_nat _ c (Nat.mod_lt _ (by decide)) hc]
theorem step_bits (m x c : Nat) (hm : m < 4294967296) (hx : x = m % 256 ^^^ c) (hc : c < 256) : bits .xor .u32 ((Tn 8 x : Nat) : Int) ((m : Int) / 256) = ((Tn 8 (m ^^^ c) : Nat) : Int) := by
  have hx2 : x < 256 := by rw [hx]; exact Nat.xor_lt_two_pow (n := 8) (Nat.mod_lt _ (by decide)) hc
  rw [show (m : Int) / 256 = ((m / 256 : Nat) : Int) by omega, u32_xor_nat _ _ (Tn_lt 8 x (by omega)) (by omega), T8_split (m ^^^ c)]
  have e1 : (m ^^^ c) % 256 = x := by
    rw [hx, show (256 : Nat) = 2 ^ 8 from rfl]
    apply Nat.eq_of_testBit_eq
    intro i
    rw [Nat.testBit_mod_two_pow, Nat.testBit_xor, Nat.testBit_xor, Nat.testBit_mod_two_pow]
    by_cases hi : i < 8
    · simp [hi]
    · have : c.testBit i = false := Nat.testBit_lt_two_pow (Nat.lt_of_lt_of_le hc (Nat.pow_le_pow_right (n := 2) (i := 8) (by decide) (by omega)))
      simp [hi, this]
  have e2 : (m ^^^ c) / 256 = m / 256 := by
    have h1 : (m ^^^ c) >>> 8 = m >>> 8 ^^^ c >>> 8 := Nat.shiftRight_xor_distrib
    simp only [Nat.shiftRight_eq_div_pow] at h1
    rw [show (2 : Nat) ^ 8 = 256 from rfl, show c / 256 = 0 by omega, Nat.xor_zero] at h1
    exact h1
  rw [e1, e2]

set_option maxHeartbeats 800000 in
theorem tmore_calls (b sum : Nat) (s : ByteArray) (w : World) (ht : TabAt w b) (hs : sum < 4294967296) (hz : s.size ≤ 9223372036854775807) :
    Calls Try.prog 62 #[.pointer (some ⟨b, 0, none⟩), .int .u32 sum, .string s] w fun e w' => e = .returned (.int .u32 (moreN sum s.data.toList)) ∧ ∃ nq, w' = w.drewN nq := by
  have hfl := flip_lt sum hs
  have hfb := flip_bits sum hs
  have HSZ := Lib.hid (data_lengthc s)
  go_enter Try.func62, Try.ntmps62
  go_wp2_with fail
  go_loopw [7, 15] (fun x i wr => ∃ k m : Nat, k ≤ s.size ∧ m = crcSt (s.data.toList.take k) (flip sum) ∧ x = .int .u32 m ∧ i = .int .i64 k ∧ ∃ nq, wr = w.drewN nq) (fun _ i _ => s.size - (intOf i).toNat)
  case atStart => exact ⟨0, flip sum, Nat.zero_le _, rfl, rfl, rfl, 0, rfl⟩
  case round =>
    clear hfb
    obtain ⟨k, m, hk, hm, rfl, rfl, nq, hnq⟩ := hrel
    have hT : Touch (fun _ => False) w wr := by rw [hnq]; exact (Touch.refl _ _).drewN nq
    have HNQ := Lib.hid hnq
    clear hnq
    have hml : m < 4294967296 := by rw [hm]; exact crcSt_lt _ _ hfl
    have HM := Lib.hid hm
    clear hm
    by_cases hlt : k < s.size
    · have hky : k < s.data.toList.length := by rw [HSZ.out]; exact hlt
      have hc := s[k].toNat_lt
      have HTT := Lib.hid (show crcSt (s.data.toList.take (k + 1)) (flip sum) = Tn 8 (crcSt (s.data.toList.take k) (flip sum) ^^^ s[k].toNat) by
        rw [List.take_succ_eq_append_getElem hky, crcSt_append]; rfl)
      obtain ⟨x, hx⟩ : ∃ x : Nat, x = m % 256 ^^^ s[k].toNat := ⟨_, rfl⟩
      have hx2 : x < 256 := by rw [hx]; exact Nat.xor_lt_two_pow (n := 8) (Nat.mod_lt _ (by decide)) hc
      have hidx := idx_bits m s[k].toNat hc
      rw [← hx] at hidx
      have hst := Lib.hid (step_bits m x s[k].toNat hml hx hc)
      have hcell := (ht.kept hT id).cell hx2
      clear hx
      go_wp2_with fail
      go_region
      rw [hst.out]
      go_wp2_with fail
      go_roundw
      case rel => exact ⟨k + 1, _, by omega, by rw [HTT.out, ← HM.out], rfl, by go_num, nq + 1, by rw [HNQ.out]; rfl⟩
      case measure => simp [intOf]; omega
    · obtain rfl : k = s.size := by omega
      have hF := flip_bits m hml
      go_wp2
      go_ret
      exact ⟨ret1c (val_u32 (by unfold moreN; rw [← HSZ.out, List.take_length] at HM; rw [HM.out])), nq, HNQ.out⟩

end Go.Proofs.Ytmjahbdengnoeaa


/- Contracts of package disk, last part: Load; the statements' own sector; and that the program speaks. -/
import Derived.Test.YtjjpknmjkhaahaaDkI
namespace Go.Proofs.Ytjjpknmjkhaahaa
open Go Go.RowKit Go.Maps
set_option maxRecDepth 100000

set_option maxHeartbeats 400000 in
theorem load_ok (n : Nat) (h1 : 1 ≤ n) (h2 : n ≤ 65536) (s : ByteArray) (hs : s.size = n * 64) (w : World) :
    Calls Try.prog 16 #[.string s] w fun e w' => ∃ b lb mb, e = .returned (.tuple #[.pointer (some ⟨b, 0, none⟩), .int .i64 0]) ∧
      DkAt w' b lb mb (n * 64) n s.data.toList [] 0 (-1) true ∧ (w.heap.size ≤ b ∧ w.heap.size ≤ lb ∧ w.heap.size ≤ mb) ∧ Touch (fun _ => False) w w' := by
  have e1 : (s.size : Int) % 64 = 0 := by omega
  have e2 : (s.size : Int) / 64 = (n : Int) := by omega
  have hb : (s.size : Int) ≤ 4194304 := by omega
  have HS := Lib.hid hs
  clear hs
  go_enter Try.func16, Try.ntmps16
  go_wp2_with fail
  refine (new_calls n w h1 h2).mono ?_
  rintro e w1 ⟨b, lb, mb, rfl, hD, hN, hT⟩
  have c0 := hD.cells.1
  have hrw := hD.row
  rw [hD.len] at hrw
  obtain ⟨cs, hcp, hrow⟩ := Row.put hrw 0 s (by rw [hD.len, HS.out]; omega)
  have hcp1 := hcp w1 rfl 3 (n * 64) (n * 64) (by rw [HS.out]; omega)
  have HR := Lib.hid (hrow w1 rfl)
  have HD := Lib.hid hD
  clear hD hrw hcp hrow
  go_wp2_with fail
  go_ret2
  have hT2 : Touch (fun k => k = lb) w1 (w1.setRow lb cs) := (Touch.refl (fun k => k = lb) w1).setRow (Or.inl rfl) _
  have hsl : s.data.toList.length = n * 64 := by rw [Array.length_toList]; exact HS.out
  have hp : putB (List.replicate (n * 64) 0) 0 s.data.toList = s.data.toList := by
    unfold putB
    rw [hsl, List.take_zero, List.nil_append, List.drop_eq_nil_of_le (by simp), List.append_nil]
  have hr := HR.out
  rw [hp] at hr
  exact ⟨b, lb, mb, rfl, HD.out.setL hr hsl hT2, hN, hT.trans' hT2 (fun i hi => .inr (by omega))⟩
theorem load_bad (s : ByteArray) (w : World) (hs : s.size ≤ 4194304) (h : s.size % 64 ≠ 0 ∨ s.size = 0) :
    Calls Try.prog 16 #[.string s] w fun e w' => e = .returned (.tuple #[.pointer none, .int .i64 1]) ∧ w = w' := by
  by_cases h0 : s.size % 64 = 0
  · have hz : s.size = 0 := by omega
    have e1 : (s.size : Int) % 64 = 0 := by omega
    have e2 : (s.size : Int) / 64 = 0 := by omega
    have hb : (s.size : Int) ≤ 4194304 := by omega
    clear h hz h0 hs
    go_enter Try.func16, Try.ntmps16
    go_wp2_with (go_at_call 5; refine (new_bad _ _ (Or.inl (by omega))).mono ?_; rintro e w' ⟨rfl, rfl⟩)
    go_ret2
    exact ⟨rfl, rfl⟩
  · have d1 : (((s.size : Int) % 64) != 0) = true := by rw [bne_iff_ne]; omega
    have hb : (s.size : Int) ≤ 4194304 := by omega
    clear h h0 hs
    go_enter Try.func16, Try.ntmps16
    go_wp2
    go_ret2
    exact ⟨rfl, rfl⟩

/-- A sector of one byte. -/
def secB (b : UInt8) : ByteArray := ⟨(List.replicate 64 b).toArray⟩
theorem secB_size (b : UInt8) : (secB b).size = 64 := by show (List.replicate 64 b).toArray.size = 64; simp
theorem secB_list (b : UInt8) : (secB b).data.toList = List.replicate 64 b := rfl

theorem byteVs_set' (R : List UInt8) (k : Nat) (c : UInt8) : (byteVs R).set k (.int .u8 (c.toNat : Nat)) = byteVs (R.set k c) := by simp [byteVs, List.map_set]
set_option maxHeartbeats 400000 in
theorem lsector_calls (b : UInt8) (w : World) : Calls Try.prog 6 #[.int .u8 (b.toNat : Nat)] w fun e w' => e = .returned (.string (secB b)) ∧ Touch (fun _ => False) w w' := by
  obtain ⟨i0, hi, hz0, hz1, hz2⟩ := info_parts Try.infoB
  obtain ⟨N, hN⟩ : ∃ N : Nat, N = 64 := ⟨_, rfl⟩
  have hNI : (64 : Int) = (N : Int) := by omega
  have HN := Lib.hid hN
  have HNI := Lib.hid hNI
  have hb := b.toNat_lt
  clear hN hNI
  go_enter Try.func6, Try.ntmps6
  go_wp2_with (at_make; refine wpList_make_full _ rfl (.const (.int .i64 64)) (.const (.int .i64 64)) 53 rfl w.heap.size 5 i0 _ 1 Try.underlying53 hi hz0 hz1 .i64 .i64 _ _ N rfl rfl HNI.out HNI.out (by rw [hz2, HN.out]; omega) (by unfold maxLen; rw [HN.out]; omega) (Nat.le_refl _) ?_; intro w2 hown hgrow; rw [made_bytes] at hown)
  have hrow := Row.of_own hown
  have hT := (Touch.refl (fun _ => False) w).grown hgrow (fun k h => by cases h)
  have hlt := hrow.lt w.heap.size rfl
  generalize hG : w.heap.size = G at *
  have HG := Lib.hid hG
  clear hG hown hgrow
  go_loopw [4] (fun i wr => ∃ k : Nat, k ≤ 64 ∧ i = .int .i64 k ∧ Row wr 5 (.slice (some ⟨G, 0, none⟩) N N) (byteVs (List.replicate k b ++ List.replicate (64 - k) 0)) ∧ Touch (fun _ => False) w wr) (fun i _ => 64 - (intOf i).toNat)
  case atStart => exact ⟨0, Nat.zero_le _, rfl, by simpa [HN.out] using hrow, hT⟩
  case round =>
    obtain ⟨k, hk, rfl, hR, hTr⟩ := hrel
    by_cases hlt : k < 64
    · have hkN : k < N := by rw [HN.out]; exact hlt
      have hkN2 : (k : Int) < (N : Int) := by omega
      have hlt2 : (k : Int) < 64 := by omega
      have hset := hR.set hkN (.int .u8 (b.toNat : Nat))
      rw [byteVs_set'] at hset
      have hcell := hR.cells.2 k (.int .u8 0) (by simp [byteVs, List.getElem?_append]; rw [List.getElem?_replicate]; simp; omega)
      have hfree := hR.free (k := k)
      rw [Nat.zero_add] at hcell hfree hset
      have HR := Lib.hid hset
      clear hset hR
      go_wp2
      go_roundw
      case rel =>
        refine ⟨k + 1, by omega, by go_num, ?_, hTr.setCell (Or.inr (by rw [HG.out]; exact Nat.le_refl _)) _⟩
        have h := HR.out
        rw [List.set_append_right _ _ (by simp), List.length_replicate, Nat.sub_self, show 64 - k = (64 - (k + 1)) + 1 by omega, List.replicate_succ, List.set_cons_zero] at h
        rw [List.replicate_succ', List.append_assoc]
        exact h
      case measure => simp [intOf]; omega
    · obtain rfl : k = 64 := by omega
      have hcv := run_bytes_row (P := Try.prog) wr 53 5 9 Try.underlying53 Try.underlying5 Try.underlying9 hR
      clear hR
      go_wp2
      go_ret
      exact ⟨by simp [secB], hTr⟩

end Go.Proofs.Ytjjpknmjkhaahaa


/- A decoder: Feed. -/
import Derived.Test.YtoaeffinjpkahaaDoorInfM
namespace Go.Proofs.YtoaeffinjpkahaaDoor
set_option linter.unusedSimpArgs false
set_option linter.unusedVariables false
open Go Go.RowKit
set_option maxRecDepth 100000

set_option maxHeartbeats 2000000 in
theorem ifeed_end {U : Nat → Prop} {w0 w : World} {b : Nat} {s : PS} (h : DecR U w0 w b s) (hst : s.st < 11) (t : ByteArray) (s2 : PS) (hz : s.bits.length + 8 * t.size < 1000000000) (hz2 : s.came + t.size < 1000000000) (hz3 : s2.told + s2.out.length < 1000000000)
    (hrun : ∀ W, DecR U w0 W b { s with came := s.came + t.size, bits := s.bits ++ bitsL t.data.toList } → Calls Tryd.prog 36 #[.pointer (some ⟨b, 0, none⟩)] W fun e w' => e = .returned (.int .i64 0) ∧ DecR U w0 w' b s2) :
    Calls Tryd.prog 10 #[.pointer (some ⟨b, 0, none⟩), .string t] w fun e w' => e = .returned (.tuple #[.string ⟨s2.out.toArray⟩, .int .i64 0]) ∧ DecE w' b s2.came (s2.told + s2.out.length) (bytesL (s2.bits.drop (s2.bits.length % 8))) ∧ Touch U w0 w' := by
  obtain ⟨c1, c2, _, hf, _⟩ := h.cells
  have f2 := hf 2
  have hadd : (s.came : Int) + (t.size : Int) = ((s.came + t.size : Nat) : Int) := by omega
  obtain ⟨N, hN⟩ : ∃ N, N = s.came + t.size := ⟨_, rfl⟩
  rw [← hN] at hadd hrun hz2
  have HA := Lib.hid (h.set2 N hz2)
  have HR := Lib.hid hrun
  have HZ := Lib.hid (⟨hz, hz3⟩ : _ ∧ _)
  have HST := Lib.hid hst
  obtain ⟨n, hn⟩ : ∃ n, n = s2.out.length := ⟨_, rfl⟩
  obtain ⟨S, hS⟩ : ∃ S : ByteArray, S = ⟨s2.out.toArray⟩ := ⟨_, rfl⟩
  have hSz : S.size = n := by rw [hS, hn]; rfl
  rw [← hS]
  obtain ⟨M, hM⟩ : ∃ M, M = s2.told + n := ⟨_, rfl⟩
  rw [← hn, ← hM]
  have hadd3 : (s2.told : Int) + (n : Int) = (M : Int) := by omega
  have hMz : M < 1000000000 := by omega
  have hnz : n < 1000000000 := by omega
  have HS := Lib.hid (⟨hS, hMz⟩ : _ ∧ _)
  clear h hf hrun hN hz hz3 hst hn hS hM hMz
  go_enter Tryd.func10, Tryd.ntmps10
  go_wp2_with fail
  refine (idone_run HA.out.cell0 HST.out).mono ?_
  rintro e w1 ⟨rfl, rfl⟩
  generalize w.setCell ⟨b, 2, none⟩ (.int .i64 (N : Nat)) = w1 at HA ⊢
  go_wp2_with fail
  refine (feed_dec HA.out t HZ.out.1).mono ?_
  rintro e w2 ⟨rfl, hD2⟩
  have HD2 := Lib.hid hD2
  clear hD2
  go_wp2_with fail
  refine (HR.out w2 HD2.out).mono ?_
  rintro e w3 ⟨rfl, hD3⟩
  obtain ⟨e1, _, e3, hf3, v7, e7, hrow⟩ := hD3.cells
  obtain ⟨hb1, _, hb3⟩ := hD3.bounds
  have f7 := hf3 7
  have f3 := hf3 3
  have hcv := run_bytes_row (P := Tryd.prog) w3 58 5 9 Tryd.underlying58 Tryd.underlying5 Tryd.underlying9 hrow
  have HD3 := Lib.hid hD3
  rw [← HS.out.1] at hcv
  have HE := Lib.hid (hD3.set7.set3 M HS.out.2)
  clear hD3 hf3 hrow
  go_wp2_with fail
  refine (settle_ok HE.out).mono ?_
  rintro e w4 ⟨rfl, hE, hT4, _⟩
  have k1 := hE.2.1
  have HF := Lib.hid (⟨hE, hT4⟩ : _ ∧ _)
  clear hE hT4
  go_wp2_with fail
  go_region
  go_wp2_with fail
  go_ret2
  exact ⟨rfl, HF.out.1, HF.out.2.drew⟩

set_option maxHeartbeats 2000000 in
theorem ifeed_more {U : Nat → Prop} {w0 w : World} {b : Nat} {s : PS} (h : DecR U w0 w b s) (hst : s.st = 0) (hout : s.out = []) (t : ByteArray) (hz : s.bits.length + 8 * t.size < 3) (hz2 : s.came + t.size < 1000000000) :
    Calls Tryd.prog 10 #[.pointer (some ⟨b, 0, none⟩), .string t] w fun e w' => e = .returned (.tuple #[.string ⟨#[]⟩, .int .i64 0]) ∧ DecR U w0 w' b { s with came := s.came + t.size, bits := s.bits ++ bitsL t.data.toList } := by
  obtain ⟨c1, c2, _, hf, _⟩ := h.cells
  have f2 := hf 2
  have hadd : (s.came : Int) + (t.size : Int) = ((s.came + t.size : Nat) : Int) := by omega
  obtain ⟨N, hN⟩ : ∃ N, N = s.came + t.size := ⟨_, rfl⟩
  rw [← hN] at hadd hz2 ⊢
  have HA := Lib.hid (h.set2 N hz2)
  have HZ := Lib.hid hz
  have HST := Lib.hid (⟨hst, hout⟩ : _ ∧ _)
  have hlen : (s.bits ++ bitsL t.data.toList).length < 3 := by rw [List.length_append, bitsL_length, Array.length_toList]; exact hz
  have HLEN := Lib.hid hlen
  clear h hf hN hz hst hout hlen
  go_enter Tryd.func10, Tryd.ntmps10
  go_wp2_with fail
  refine (idone_run HA.out.cell0 (by show s.st < 11; rw [HST.out.1]; omega)).mono ?_
  rintro e w1 ⟨rfl, rfl⟩
  generalize w.setCell ⟨b, 2, none⟩ (.int .i64 (N : Nat)) = w1 at HA ⊢
  go_wp2_with fail
  refine (feed_dec HA.out t (by have := HZ.out; show s.bits.length + _ < _; omega)).mono ?_
  rintro e w2 ⟨rfl, hD2⟩
  have HD2 := Lib.hid hD2
  clear hD2
  go_wp2_with fail
  refine (run_more HD2.out HST.out.1 HLEN.out).mono ?_
  rintro e w3 ⟨rfl, hD3⟩
  obtain ⟨e1, _, e3, hf3, v7, e7, hrow⟩ := hD3.cells
  have f7 := hf3 7
  have f3 := hf3 3
  have hrow2 : Row w3 5 v7 (byteVs []) := by
    have h1 : Row w3 5 v7 (byteVs s.out) := hrow
    rw [HST.out.2] at h1
    exact h1
  have hcv := run_bytes_row (P := Tryd.prog) w3 58 5 9 Tryd.underlying58 Tryd.underlying5 Tryd.underlying9 hrow2
  have hb3 := hD3.bounds.2.2
  have hE := hD3.set7.set3 s.told hb3
  have HE : Hid (DecR U w0 ((w3.setCell ⟨b, 7, none⟩ (.slice none 0 0)).setCell ⟨b, 3, none⟩ (.int .i64 (s.told : Nat))) b { s with came := N, bits := s.bits ++ bitsL t.data.toList }) := Lib.hid (by
    have h1 : ({ s with came := N, bits := s.bits ++ bitsL t.data.toList, out := [] } : PS) = { s with came := N, bits := s.bits ++ bitsL t.data.toList } := by rw [← HST.out.2]
    rw [← h1]
    exact hE)
  clear hD3 hf3 hrow hrow2 hE
  have hb4 : s.told < 1000000000 := hb3
  clear hb3
  go_wp2_with fail
  refine (settle_more _ _).mono ?_
  rintro e w4 ⟨rfl, rfl⟩
  generalize (w3.setCell ⟨b, 7, none⟩ (.slice none 0 0)).setCell ⟨b, 3, none⟩ (.int .i64 (s.told : Nat)) = w4 at HE ⊢
  have k1 := HE.out.cells.1
  go_wp2_with fail
  go_region
  go_wp2_with fail
  go_ret2
  exact ⟨rfl, HE.out.still (Touch.refl _ _).drew⟩
end Go.Proofs.YtoaeffinjpkahaaDoor

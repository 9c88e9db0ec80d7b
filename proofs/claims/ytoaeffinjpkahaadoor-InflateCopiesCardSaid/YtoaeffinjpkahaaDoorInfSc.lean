
/- A decoder: run along a path of parts; Feed of a piece behind which it waits. -/
import Derived.Test.YtoaeffinjpkahaaDoorInfSb
namespace Go.Proofs.YtoaeffinjpkahaaDoor
set_option linter.unusedSimpArgs false
set_option linter.unusedVariables false
open Go Go.RowKit
set_option maxRecDepth 100000

/-- As many parts as are there, and then one that isn't there as a whole. -/
theorem run_wait {U : Nat → Prop} {w0 w : World} {b : Nat} (n : Nat) (S : Nat → PS) (sE : PS) (h : DecR U w0 w b (S 0)) (hne : ∀ i, i ≤ n → (S i).st < 11)
    (hstep : ∀ i, i < n → ∀ W, DecR U w0 W b (S i) → Calls Tryd.prog 63 #[.pointer (some ⟨b, 0, none⟩)] W fun e w' => e = .returned (.int .i64 0) ∧ DecR U w0 w' b (S (i + 1)))
    (hlast : ∀ W, DecR U w0 W b (S n) → Calls Tryd.prog 63 #[.pointer (some ⟨b, 0, none⟩)] W fun e w' => e = .returned (.int .i64 2) ∧ DecR U w0 w' b sE) :
    Calls Tryd.prog 36 #[.pointer (some ⟨b, 0, none⟩)] w fun e w' => e = .returned (.int .i64 2) ∧ DecR U w0 w' b sE := by
  have HS := Lib.hid hstep
  have HE := Lib.hid (⟨hlast, hne⟩ : _ ∧ _)
  have H0 := Lib.hid h
  clear hstep hlast hne h
  go_enter Tryd.func36, Tryd.ntmps36
  go_wp2_with fail
  go_loopg [] n (fun g wr => g ≤ n ∧ RowKit.Hid (DecR U w0 wr b (S (n - g))))
  case atStart => exact ⟨Nat.le_refl _, by rw [Nat.sub_self]; exact H0⟩
  case round =>
    clear H0
    obtain ⟨hg, HD⟩ := hrel
    have c0 := HD.out.cell0
    have hlt := HE.out.2 (n - gk) (by omega)
    have hnI : ¬ (((S (n - gk)).st : Nat) : Int) = 11 := by omega
    rcases Nat.eq_zero_or_pos gk with h0 | h0
    · subst h0
      rw [Nat.sub_zero] at HD
      have HP := Lib.hid (HE.out.1 wr HD.out)
      generalize (S (n - 0)).st = q at c0 hlt hnI
      clear HD
      go_wp2_with fail
      refine HP.out.mono ?_
      rintro e w' ⟨rfl, hD⟩
      have HD := Lib.hid hD
      clear hD
      go_wp2_with fail
      go_ret
      exact ⟨rfl, HD.out⟩
    · have HP := Lib.hid (HS.out (n - gk) (by omega) wr HD.out)
      rw [show n - gk + 1 = n - (gk - 1) by omega] at HP
      generalize (S (n - gk)).st = q at c0 hlt hnI
      clear HD
      go_wp2_with fail
      refine HP.out.mono ?_
      rintro e w' ⟨rfl, hD⟩
      have HD := Lib.hid hD
      clear hD
      go_wp2_with fail
      go_roundg (gk - 1)
      case measure => omega
      case rel => exact ⟨by omega, HD⟩

def Stp (U : Nat → Prop) (w0 : World) (b : Nat) (s s' : PS) : Prop := s.st < 11 ∧ ∀ W, DecR U w0 W b s → Calls Tryd.prog 63 #[.pointer (some ⟨b, 0, none⟩)] W fun e w' => e = .returned (.int .i64 0) ∧ DecR U w0 w' b s'
inductive Path (U : Nat → Prop) (w0 : World) (b : Nat) : PS → PS → Prop
  | nil (s : PS) : Path U w0 b s s
  | cons (s s1 t : PS) : Stp U w0 b s s1 → Path U w0 b s1 t → Path U w0 b s t
theorem Path.fn {U : Nat → Prop} {w0 : World} {b : Nat} {s t : PS} (h : Path U w0 b s t) : ∃ (n : Nat) (S : Nat → PS), S 0 = s ∧ S n = t ∧ ∀ i, i < n → Stp U w0 b (S i) (S (i + 1)) := by
  induction h with
  | nil s => exact ⟨0, fun _ => s, rfl, rfl, fun i hi => by omega⟩
  | cons s s1 t h1 _ ih =>
    obtain ⟨n, S, e1, e2, e3⟩ := ih
    refine ⟨n + 1, fun i => match i with | 0 => s | i + 1 => S i, rfl, e2, fun i hi => ?_⟩
    cases i with
    | zero => show Stp U w0 b s (S 0); rw [e1]; exact h1
    | succ i => exact e3 i (by omega)
theorem Path.ends {U : Nat → Prop} {w0 w : World} {b : Nat} {s t : PS} (h : Path U w0 b s t) (ht : t.st = 11) (hD : DecR U w0 w b s) :
    Calls Tryd.prog 36 #[.pointer (some ⟨b, 0, none⟩)] w fun e w' => e = .returned (.int .i64 0) ∧ DecR U w0 w' b t := by
  obtain ⟨n, S, e1, e2, e3⟩ := h.fn
  have key := run_steps (U := U) (w0 := w0) (w := w) (b := b) n S (by rw [e1]; exact hD) (by rw [e2]; exact ht) (fun i hi => (e3 i hi).1) (fun i hi => (e3 i hi).2)
  rw [e2] at key
  exact key
theorem Path.waits {U : Nat → Prop} {w0 w : World} {b : Nat} {s t t' : PS} (h : Path U w0 b s t) (ht : t.st < 11) (hw : ∀ W, DecR U w0 W b t → Calls Tryd.prog 63 #[.pointer (some ⟨b, 0, none⟩)] W fun e w' => e = .returned (.int .i64 2) ∧ DecR U w0 w' b t') (hD : DecR U w0 w b s) :
    Calls Tryd.prog 36 #[.pointer (some ⟨b, 0, none⟩)] w fun e w' => e = .returned (.int .i64 2) ∧ DecR U w0 w' b t' := by
  obtain ⟨n, S, e1, e2, e3⟩ := h.fn
  refine run_wait n S t' (by rw [e1]; exact hD) (fun i hi => ?_) (fun i hi => (e3 i hi).2) (by rw [e2]; exact hw)
  rcases Nat.lt_or_ge i n with hlt | hge
  · exact (e3 i hlt).1
  · rw [show i = n by omega, e2]; exact ht
theorem part_1 {w : World} {b : Nat} (h0 : w.cell? ⟨b, 0, none⟩ = some (.int .i64 1)) {r : Int} {Q : World → Prop}
    (hc : Calls Tryd.prog 90 #[.pointer (some ⟨b, 0, none⟩)] w fun e w' => e = .returned (.int .i64 r) ∧ Q w') :
    Calls Tryd.prog 63 #[.pointer (some ⟨b, 0, none⟩)] w fun e w' => e = .returned (.int .i64 r) ∧ Q w' := by
  have HC := Lib.hid hc
  clear hc
  go_enter Tryd.func63, Tryd.ntmps63
  go_wp2_with fail
  refine HC.out.mono ?_
  rintro e w' ⟨rfl, hq⟩
  have HQ := Lib.hid hq
  clear hq
  go_wp2_with fail
  go_ret
  exact ⟨rfl, HQ.out⟩
theorem part_2 {w : World} {b : Nat} (h0 : w.cell? ⟨b, 0, none⟩ = some (.int .i64 2)) {r : Int} {Q : World → Prop}
    (hc : Calls Tryd.prog 91 #[.pointer (some ⟨b, 0, none⟩)] w fun e w' => e = .returned (.int .i64 r) ∧ Q w') :
    Calls Tryd.prog 63 #[.pointer (some ⟨b, 0, none⟩)] w fun e w' => e = .returned (.int .i64 r) ∧ Q w' := by
  have HC := Lib.hid hc
  clear hc
  go_enter Tryd.func63, Tryd.ntmps63
  go_wp2_with fail
  refine HC.out.mono ?_
  rintro e w' ⟨rfl, hq⟩
  have HQ := Lib.hid hq
  clear hq
  go_wp2_with fail
  go_ret
  exact ⟨rfl, HQ.out⟩
set_option maxHeartbeats 2000000 in
theorem ifeed_wait {U : Nat → Prop} {w0 w : World} {b : Nat} {s : PS} (h : DecR U w0 w b s) (hst : s.st < 11) (t : ByteArray) (s2 : PS) (hz : s.bits.length + 8 * t.size < 1000000000) (hz2 : s.came + t.size < 1000000000) (hz3 : s2.told + s2.out.length < 1000000000)
    (hrun : ∀ W, DecR U w0 W b { s with came := s.came + t.size, bits := s.bits ++ bitsL t.data.toList } → Calls Tryd.prog 36 #[.pointer (some ⟨b, 0, none⟩)] W fun e w' => e = .returned (.int .i64 2) ∧ DecR U w0 w' b s2) :
    Calls Tryd.prog 10 #[.pointer (some ⟨b, 0, none⟩), .string t] w fun e w' => e = .returned (.tuple #[.string ⟨s2.out.toArray⟩, .int .i64 0]) ∧ DecR U w0 w' b { s2 with out := [], told := s2.told + s2.out.length } := by
  obtain ⟨c1, c2, _, hf, _⟩ := h.cells
  have f2 := hf 2
  have hadd : (s.came : Int) + (t.size : Int) = ((s.came + t.size : Nat) : Int) := by omega
  obtain ⟨N, hN⟩ : ∃ N, N = s.came + t.size := ⟨_, rfl⟩
  rw [← hN] at hadd hrun hz2
  have HA := Lib.hid (h.set2 N hz2)
  have HR := Lib.hid hrun
  have HZ := Lib.hid (⟨hz, hz3⟩ : _ ∧ _)
  have HST := Lib.hid hst
  obtain ⟨n, hn⟩ : ∃ n, n = s2.out.length := ⟨_, rfl⟩
  obtain ⟨S, hS⟩ : ∃ S : ByteArray, S = ⟨s2.out.toArray⟩ := ⟨_, rfl⟩
  have hSz : S.size = n := by rw [hS, hn]; rfl
  rw [← hS]
  obtain ⟨M, hM⟩ : ∃ M, M = s2.told + n := ⟨_, rfl⟩
  rw [← hn, ← hM]
  have hadd3 : (s2.told : Int) + (n : Int) = (M : Int) := by omega
  have hMz : M < 1000000000 := by omega
  have hnz : n < 1000000000 := by omega
  have HS := Lib.hid (⟨hS, hMz⟩ : _ ∧ _)
  clear h hf hrun hN hz hz3 hst hn hS hM hMz
  go_enter Tryd.func10, Tryd.ntmps10
  go_wp2_with fail
  refine (idone_run HA.out.cell0 HST.out).mono ?_
  rintro e w1 ⟨rfl, rfl⟩
  generalize w.setCell ⟨b, 2, none⟩ (.int .i64 (N : Nat)) = w1 at HA ⊢
  go_wp2_with fail
  refine (feed_dec HA.out t HZ.out.1).mono ?_
  rintro e w2 ⟨rfl, hD2⟩
  have HD2 := Lib.hid hD2
  clear hD2
  go_wp2_with fail
  refine (HR.out w2 HD2.out).mono ?_
  rintro e w3 ⟨rfl, hD3⟩
  obtain ⟨e1, _, e3, hf3, v7, e7, hrow⟩ := hD3.cells
  obtain ⟨hb1, _, hb3⟩ := hD3.bounds
  have f7 := hf3 7
  have f3 := hf3 3
  have hcv := run_bytes_row (P := Tryd.prog) w3 58 5 9 Tryd.underlying58 Tryd.underlying5 Tryd.underlying9 hrow
  rw [← HS.out.1] at hcv
  have HE := Lib.hid (hD3.set7.set3 M HS.out.2)
  clear hD3 hf3 hrow
  go_wp2_with fail
  refine (settle_more _ _).mono ?_
  rintro e w4 ⟨rfl, rfl⟩
  generalize (w3.setCell ⟨b, 7, none⟩ (.slice none 0 0)).setCell ⟨b, 3, none⟩ (.int .i64 (M : Nat)) = w4 at HE ⊢
  have k1 := HE.out.cells.1
  go_wp2_with fail
  go_region
  go_wp2_with fail
  go_ret2
  exact ⟨rfl, HE.out.still (Touch.refl _ _).drew⟩
end Go.Proofs.YtoaeffinjpkahaaDoor

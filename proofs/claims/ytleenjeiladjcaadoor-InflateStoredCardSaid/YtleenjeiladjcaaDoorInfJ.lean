/- A decoder: part, run, settle. -/
import Derived.Test.YtleenjeiladjcaaDoorInfI
import Derived.Deep.LoopGhost
namespace Go.Proofs.YtleenjeiladjcaaDoor
open Go Go.RowKit
set_option maxRecDepth 100000

theorem part_0 {w : World} {b : Nat} (h0 : w.cell? ⟨b, 0, none⟩ = some (.int .i64 0)) {r : Int} {Q : World → Prop}
    (hc : Calls Tryd.prog 40 #[.pointer (some ⟨b, 0, none⟩)] w fun e w' => e = .returned (.int .i64 r) ∧ Q w') :
    Calls Tryd.prog 30 #[.pointer (some ⟨b, 0, none⟩)] w fun e w' => e = .returned (.int .i64 r) ∧ Q w' := by
  have HC := Lib.hid hc
  clear hc
  go_enter Tryd.func30, Tryd.ntmps30
  go_wp2_with fail
  refine HC.out.mono ?_
  rintro e w' ⟨rfl, hq⟩
  have HQ := Lib.hid hq
  clear hq
  go_wp2_with fail
  go_ret
  exact ⟨rfl, HQ.out⟩
theorem part_7 {w : World} {b : Nat} (h0 : w.cell? ⟨b, 0, none⟩ = some (.int .i64 7)) {r : Int} {Q : World → Prop}
    (hc : Calls Tryd.prog 47 #[.pointer (some ⟨b, 0, none⟩)] w fun e w' => e = .returned (.int .i64 r) ∧ Q w') :
    Calls Tryd.prog 30 #[.pointer (some ⟨b, 0, none⟩)] w fun e w' => e = .returned (.int .i64 r) ∧ Q w' := by
  have HC := Lib.hid hc
  clear hc
  go_enter Tryd.func30, Tryd.ntmps30
  go_wp2_with fail
  refine HC.out.mono ?_
  rintro e w' ⟨rfl, hq⟩
  have HQ := Lib.hid hq
  clear hq
  go_wp2_with fail
  go_ret
  exact ⟨rfl, HQ.out⟩
theorem DecR.cell0 {U : Nat → Prop} {w0 w : World} {b : Nat} {s : PS} (h : DecR U w0 w b s) : w.cell? ⟨b, 0, none⟩ = some (.int .i64 (s.st : Nat)) := by
  obtain ⟨v5, g, v7, v8, p17, p18, hD, _⟩ := h
  exact Block.cell hD.blk 0

/-- As many parts as lead to the end. -/
theorem run_steps {U : Nat → Prop} {w0 w : World} {b : Nat} (n : Nat) (S : Nat → PS) (h : DecR U w0 w b (S 0)) (hend : (S n).st = 11) (hne : ∀ i, i < n → (S i).st < 11)
    (hstep : ∀ i, i < n → ∀ W, DecR U w0 W b (S i) → Calls Tryd.prog 30 #[.pointer (some ⟨b, 0, none⟩)] W fun e w' => e = .returned (.int .i64 0) ∧ DecR U w0 w' b (S (i + 1))) :
    Calls Tryd.prog 23 #[.pointer (some ⟨b, 0, none⟩)] w fun e w' => e = .returned (.int .i64 0) ∧ DecR U w0 w' b (S n) := by
  have HS := Lib.hid hstep
  have HE := Lib.hid (⟨hend, hne⟩ : _ ∧ _)
  have H0 := Lib.hid h
  clear hstep hend hne h
  go_enter Tryd.func23, Tryd.ntmps23
  go_wp2_with fail
  go_loopg [] n (fun g wr => g ≤ n ∧ RowKit.Hid (DecR U w0 wr b (S (n - g))))
  case atStart => exact ⟨Nat.le_refl _, by rw [Nat.sub_self]; exact H0⟩
  case round =>
    clear H0
    obtain ⟨hg, HD⟩ := hrel
    have c0 := HD.out.cell0
    rcases Nat.eq_zero_or_pos gk with h0 | h0
    · subst h0
      rw [Nat.sub_zero] at HD c0
      rw [HE.out.1] at c0
      go_wp2_with fail
      go_ret
      exact ⟨rfl, HD.out⟩
    · have hlt := HE.out.2 (n - gk) (by omega)
      have hnI : ¬ (((S (n - gk)).st : Nat) : Int) = 11 := by omega
      have HP := Lib.hid (HS.out (n - gk) (by omega) wr HD.out)
      rw [show n - gk + 1 = n - (gk - 1) by omega] at HP
      generalize (S (n - gk)).st = q at c0 hlt hnI
      clear HD
      go_wp2_with fail
      refine HP.out.mono ?_
      rintro e w' ⟨rfl, hD⟩
      have HD := Lib.hid hD
      clear hD
      go_wp2_with fail
      go_roundg (gk - 1)
      case measure => omega
      case rel => exact ⟨by omega, HD⟩
/-- Too few bits for the first part. -/
theorem run_more {U : Nat → Prop} {w0 w : World} {b : Nat} {s : PS} (h : DecR U w0 w b s) (h0 : s.st = 0) (hl : s.bits.length < 3) :
    Calls Tryd.prog 23 #[.pointer (some ⟨b, 0, none⟩)] w fun e w' => e = .returned (.int .i64 2) ∧ DecR U w0 w' b s := by
  have c0 := h.cell0
  rw [h0] at c0
  have HP := Lib.hid (part_0 c0 (iblock_more h hl))
  clear h hl h0
  go_enter Tryd.func23, Tryd.ntmps23
  go_wp2_with fail
  go_loopg [] 1 (fun g wr => wr = w)
  case atStart => rfl
  case round =>
    subst hrel
    go_wp2_with fail
    refine HP.out.mono ?_
    rintro e w' ⟨rfl, hD⟩
    have HD := Lib.hid hD
    clear hD
    go_wp2_with fail
    go_ret
    exact ⟨rfl, HD.out⟩
theorem settle_more (p : Value) (w : World) : Calls Tryd.prog 24 #[p, .int .i64 2] w fun e w' => e = .returned (.tuple #[]) ∧ w = w' := by
  go_enter Tryd.func24, Tryd.ntmps24
  go_wp2_with fail
  go_end0
  exact ⟨rfl, rfl⟩
end Go.Proofs.YtleenjeiladjcaaDoor

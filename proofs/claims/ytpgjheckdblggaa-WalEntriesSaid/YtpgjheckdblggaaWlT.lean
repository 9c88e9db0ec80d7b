/- Contracts of package wal, tenth part: the insertion sort of entries. -/
import Derived.Test.YtpgjheckdblggaaWlS
import Derived.Test.YtpgjheckdblggaaWlOpen
import Derived.Test.YtpgjheckdblggaaDkOpen
import Derived.StillTailTactics
import Derived.BigRegion
namespace Go.Proofs.Ytpgjheckdblggaa
open Go Go.RowKit Go.Maps
set_option maxRecDepth 100000

def isOut (w : World) (g : Nat) (es : List En) (n : Nat) (w' : World) : Prop := ∃ es', EBlk w' g es' ∧ es'.Perm es ∧ SortedTo es' n ∧ Touch (fun k => k = g) w w'

set_option maxHeartbeats 2000000 in
theorem isort_calls {w : World} {g n cap : Nat} {es : List En} (h : EBlk w g es) (hn : es.length = n) (hk : n ≤ 1000) (hcap : n ≤ cap) (hcm : cap ≤ maxLen) :
    Calls Try.prog 93 #[.slice (some ⟨g, 0, none⟩) n cap, .int .i64 0, .int .i64 n, .func (.func 58) #[] #[]] w fun e w' => e = .returned (.tuple #[]) ∧ isOut w g es n w' := by
  unfold maxLen at hcm
  have H := Lib.hid h
  have HN := Lib.hid hn
  clear h hn
  go_enter Try.func93, Try.ntmps93
  go_wp2_with fail
  go_loopw [8, 9] (fun v8 _ wr => ∃ (i : Nat) (es' : List En), v8 = .int .i64 i ∧ 1 ≤ i ∧ i ≤ n + 1 ∧ EBlk wr g es' ∧ es'.Perm es ∧ SortedTo es' i ∧ Touch (fun k => k = g) w wr) (fun i _ _ => n + 1 - (intOf i).toNat)
  case atStart => exact ⟨1, es, rfl, Nat.le_refl _, by omega, H.out, List.Perm.refl _, fun a b h1 h2 => by omega, Touch.refl _ _⟩
  case round =>
    obtain ⟨i, es', rfl, hi1, hin, hB, hP, hS, hT⟩ := hrel
    have HR := Lib.hid (⟨hB, hP, hS, hT⟩ : _ ∧ _ ∧ _ ∧ _)
    clear hB hP hS hT
    by_cases hlt : i < n
    · have hltI : (i : Int) < (n : Int) := by omega
      have hiw : IntKind.i64.wrap ((i : Int) + 1) = (i : Int) + 1 := IntWalk.i64_in _ (by omega)
      go_wp2_with fail
      go_loopw [9] (fun v9 wr => ∃ (j : Nat) (e2 : List En), v9 = .int .i64 j ∧ j ≤ i ∧ EBlk wr g e2 ∧ e2.Perm es ∧ SortedBut e2 i j ∧ Touch (fun k => k = g) w wr) (fun j _ => (intOf j).toNat)
      case atStart => exact ⟨i, es', rfl, Nat.le_refl _, HR.out.1, HR.out.2.1, SortedBut.start HR.out.2.2.1, HR.out.2.2.2⟩
      case round =>
        obtain ⟨p, e2, rfl, hpi, hB, hP, hS, hT⟩ := hrel
        have hl2 : e2.length = n := by rw [hP.length_eq, HN.out]
        rcases Nat.eq_zero_or_pos p with hp0 | hp0
        · subst hp0
          have HR2 := Lib.hid (⟨hB, hP, hS, hT⟩ : _ ∧ _ ∧ _ ∧ _)
          clear hB hP hS hT hl2
          go_upto_region 4 with fail
          go_quiet (fail)
          go_wp2_with fail
          go_roundw
          case rel => exact ⟨i + 1, e2, by go_num, by omega, by omega, HR2.out.1.kept ((Touch.refl (fun _ => False) _).drewN _) id, HR2.out.2.1, HR2.out.2.2.1.done0, HR2.out.2.2.2.drewN _⟩
          case measure => simp [intOf]; omega
        · obtain ⟨q, hq⟩ : ∃ q, p = q + 1 := ⟨p - 1, by omega⟩
          obtain ⟨x0, x1⟩ := hB.cells p (by omega)
          obtain ⟨y0, y1⟩ := hB.cells q (by omega)
          have hpI : (0 : Int) < (p : Int) := by omega
          have hpn : (p : Int) < (n : Int) := by omega
          have hqn : (q : Int) < (n : Int) := by omega
          have hqw : IntKind.i64.wrap ((p : Int) - 1) = (q : Int) := by rw [IntWalk.i64_in _ (by omega)]; omega
          have HQ := Lib.hid hq
          have HR2 := Lib.hid (⟨hB, hP, hS, hT, hl2⟩ : _ ∧ _ ∧ _ ∧ _ ∧ _)
          clear hB hP hS hT hl2 hq
          by_cases hsm : numE e2 p < numE e2 q
          · have HSM := Lib.hid hsm
            have hcv : cmpI (numE e2 p : Nat) (numE e2 q : Nat) = -1 := by unfold cmpI; rw [if_pos (by omega)]
            obtain ⟨a0, ha0⟩ : ∃ a0, numE e2 p = a0 := ⟨_, rfl⟩
            obtain ⟨b0, hb0⟩ : ∃ b0, numE e2 q = b0 := ⟨_, rfl⟩
            obtain ⟨a1, ha1⟩ : ∃ a1 : ByteArray, (⟨(e2.getD p (0, [])).2.toArray⟩ : ByteArray) = a1 := ⟨_, rfl⟩
            obtain ⟨b1, hb1⟩ : ∃ b1 : ByteArray, (⟨(e2.getD q (0, [])).2.toArray⟩ : ByteArray) = b1 := ⟨_, rfl⟩
            rw [ha0] at x0 hcv
            rw [hb0] at y0 hcv
            rw [ha1] at x1
            rw [hb1] at y1
            have HAB := Lib.hid (⟨ha0, hb0, ha1, hb1⟩ : _ ∧ _ ∧ _ ∧ _)
            have HCV := Lib.hid hcv
            have f0 := HR2.out.1.free (p * 2)
            have f1 := HR2.out.1.free (p * 2 + 1)
            have f2 := HR2.out.1.free (q * 2)
            have f3 := HR2.out.1.free (q * 2 + 1)
            clear ha0 hb0 ha1 hb1 hcv hsm
            go_upto_region 4 with fail
            go_still_tail 14, (by kernel_rfl)
            change wpList _ _ _ _ _ wr.drew
            have hTd : Touch (fun _ => False) wr wr.drew := (Touch.refl (fun _ => False) wr).drew
            generalize wr.drew = wd at hTd ⊢
            have HTd := Lib.hid hTd
            clear hTd f0 f1 f2 f3
            go_wp2_with fail
            refine (byNum_calls a0 b0 a1 b1 _).mono ?_
            rintro e wa ⟨rfl, hTa⟩
            rw [HCV.out]
            have hTT := HTd.out.trans hTa
            have x0 := hTT.cell x0 id
            have x1 := hTT.cell x1 id
            have y0 := hTT.cell y0 id
            have y1 := hTT.cell y1 id
            have hBa := HR2.out.1.kept hTT id
            have f0 := hBa.free (p * 2)
            have f1 := hBa.free (p * 2 + 1)
            have f2 := hBa.free (q * 2)
            have f3 := hBa.free (q * 2 + 1)
            have HBa := Lib.hid (⟨hBa, HR2.out.2.2.2.1.trans (hTT.mono fun _ h => h.elim)⟩ : _ ∧ Touch (fun k => k = g) w wa)
            clear hTa hTT hBa
            have n1 : ¬ (p = q) := by have := HQ.out; omega
            have n2 : ¬ (q = p) := by have := HQ.out; omega
            have n3 : ¬ (p * 2 = q * 2 + 1) := by omega
            have n4 : ¬ (q * 2 + 1 = p * 2) := by omega
            have n5 : ¬ (q * 2 = p * 2 + 1) := by omega
            have n6 : ¬ (p * 2 + 1 = q * 2) := by omega
            go_wp2_with fail
            go_region
            all_goals
              go_wp2_with fail
              go_roundw
              case rel =>
                have hpq := HQ.out
                have hl2 := HR2.out.2.2.2.2
                have hb := (HBa.out.1.set p (e2.getD q (0, [])) (by omega)).set q (e2.getD p (0, [])) (by rw [List.length_set]; omega)
                rw [show (e2.getD q (0, [])).1 = b0 from HAB.out.2.1, show (⟨(e2.getD q (0, [])).2.toArray⟩ : ByteArray) = b1 from HAB.out.2.2.2, show (e2.getD p (0, [])).1 = a0 from HAB.out.1, show (⟨(e2.getD p (0, [])).2.toArray⟩ : ByteArray) = a1 from HAB.out.2.2.1] at hb
                have hsw : (e2.set p (e2.getD q (0, []))).set q (e2.getD p (0, [])) = swapE e2 q := by rw [hpq]; rfl
                rw [hsw] at hb
                refine ⟨q, swapE e2 q, rfl, by omega, hb.kept ((Touch.refl (fun _ => False) _).drew) id, (swap_perm e2 q (by omega)).trans HR2.out.2.1, ?_, ?_⟩
                · have h1 := HR2.out.2.2.1
                  have h2 := HSM.out
                  rw [hpq] at h1 h2
                  exact SortedBut.step (by omega) h1 (by omega) h2
                · exact ((((HBa.out.2.setCell (p := ⟨g, p * 2, none⟩) (.inl rfl) _).setCell (p := ⟨g, p * 2 + 1, none⟩) (.inl rfl) _).setCell (p := ⟨g, q * 2, none⟩) (.inl rfl) _).setCell (p := ⟨g, q * 2 + 1, none⟩) (.inl rfl) _).drew
              case measure => have := HQ.out; simp [intOf]; omega
          · have HSM := Lib.hid hsm
            obtain ⟨cv, hcv⟩ : ∃ cv, cmpI (numE e2 p : Nat) (numE e2 q : Nat) = cv := ⟨_, rfl⟩
            have hc0 : ¬ (cv < 0) := by rw [← hcv, cmpI_lt]; omega
            obtain ⟨a0, ha0⟩ : ∃ a0, numE e2 p = a0 := ⟨_, rfl⟩
            obtain ⟨b0, hb0⟩ : ∃ b0, numE e2 q = b0 := ⟨_, rfl⟩
            rw [ha0] at x0 hcv
            rw [hb0] at y0 hcv
            have HCV := Lib.hid hcv
            clear ha0 hb0 hcv hsm
            go_upto_region 4 with fail
            go_still_tail 14, (by kernel_rfl)
            change wpList _ _ _ _ _ wr.drew
            have hTd : Touch (fun _ => False) wr wr.drew := (Touch.refl (fun _ => False) wr).drew
            generalize wr.drew = wd at hTd ⊢
            have HTd := Lib.hid hTd
            clear hTd
            go_wp2_with fail
            refine (byNum_calls a0 b0 _ _ _).mono ?_
            rintro e wa ⟨rfl, hTa⟩
            rw [HCV.out]
            have HTT := Lib.hid (HTd.out.trans hTa)
            clear hTa
            go_wp2_with fail
            go_roundw
            case rel => exact ⟨i + 1, e2, by go_num, by omega, by omega, HR2.out.1.kept HTT.out id, HR2.out.2.1, by have h1 := HR2.out.2.2.1; have h2 := HSM.out; have hpq := HQ.out; rw [hpq] at h1 h2; exact h1.done (by omega), HR2.out.2.2.2.1.trans (HTT.out.mono fun _ h => h.elim)⟩
            case measure => simp [intOf]; omega
    · have hltI : ¬ ((i : Int) < (n : Int)) := by omega
      go_wp2_with fail
      go_end0
      exact ⟨rfl, es', HR.out.1, HR.out.2.1, fun a b h1 h2 => HR.out.2.2.1 a b h1 (by omega), HR.out.2.2.2⟩

end Go.Proofs.Ytpgjheckdblggaa

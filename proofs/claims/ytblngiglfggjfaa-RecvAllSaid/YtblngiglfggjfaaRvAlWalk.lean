/- The statement RecvAll over the translated program. -/
import Derived.Test.YtblngiglfggjfaaRvAlA
import Derived.Test.YtblngiglfggjfaaRvBkWalk
import Derived.Test.YtblngiglfggjfaaNmOpen
import Derived.Deep.Cut
import Derived.Deep.CutBlock
namespace Go.Proofs.Ytblngiglfggjfaa
open Go Go.RowKit Go.Maps Go.MapKept Go.ChangeMaps
set_option maxRecDepth 100000

theorem foldA (z : Int) (L : Nat) (hL : 0 < L) : ∃ (r : Int) (c : Nat), z.tmod (L : Int) = r ∧ -(L : Int) < r ∧ r < (L : Int) ∧ (r + (L : Int)).tmod (L : Int) = c ∧ (r + (L : Int)) % (L : Int) = c ∧ c < L := by
  have h1 := Int.tmod_lt_of_pos z (show (0 : Int) < (L : Int) by omega)
  have h2 := Int.lt_tmod_of_pos z (show (0 : Int) < (L : Int) by omega)
  have h3 := Int.emod_nonneg (z.tmod (L : Int) + (L : Int)) (show (L : Int) ≠ 0 by omega)
  have h4 := Int.emod_lt_of_pos (z.tmod (L : Int) + (L : Int)) (show (0 : Int) < (L : Int) by omega)
  refine ⟨z.tmod L, ((z.tmod L + L) % L).toNat, rfl, h2, h1, ?_, by omega, by omega⟩
  rw [Int.tmod_eq_emod_of_nonneg (by omega)]; omega
theorem a_new {w w' : World} (h : Touch (fun j => w.heap.size ≤ j) w w') : Touch (fun _ => False) w w' :=
  ⟨h.os, h.tape, h.output, h.size, fun k hk _ => h.block k hk (by omega)⟩
/-- What is known of the texts that are held. -/
def RtA (R : Nat → Option ByteArray) (s : Nat) : Prop := ∀ i t, R i = some t → t = txA i ∧ i < s

set_option maxHeartbeats 4000000 in
theorem rall_calls (f : Nat) (x0 x1 : Int) (xs : List Int) (v : Value) (w : World) (hf : f < 4294967296) (hr : Reads w v (xs.map (Value.int .i64))) (hwf : ∀ x ∈ xs, -9223372036854775808 ≤ x ∧ x ≤ 9223372036854775807) :
    Calls Try.prog 4 #[.int .u32 (f : Nat), .agg #[.int .i64 x0, .int .i64 x1], v] w fun e w' => e = .returned (.bool true) ∧ Touch (fun _ => False) w w' := by
  obtain ⟨ar, cap, hve, hc1, hc2⟩ := hr.form
  unfold maxLen at hc2
  rw [List.length_map] at hve hc1
  subst hve
  have HR := Lib.hid hr
  have HWF := Lib.hid hwf
  clear hr hwf
  obtain ⟨cnt, hcnt⟩ : ∃ r : Nat, x0 % 32 = (r : Int) := ⟨(x0 % 32).toNat, by omega⟩
  obtain ⟨z, hz⟩ : ∃ r : Nat, x1 % 32 = (r : Int) := ⟨(x1 % 32).toNat, by omega⟩
  have hand1 : bits .and .i64 x0 31 = (cnt : Int) := by rw [rv_mask 5 (by omega) 31 (by decide) x0, ← hcnt]; rfl
  have hand2 : bits .and .i64 x1 31 = (z : Int) := by rw [rv_mask 5 (by omega) 31 (by decide) x1, ← hz]; rfl
  have hcl : cnt ≤ 31 := by omega
  have hzl : z ≤ 31 := by omega
  obtain ⟨sz, hsz⟩ : ∃ sz, sz = z + 1 := ⟨_, rfl⟩
  clear hcnt hz
  go_enter Try.func4, Try.ntmps4
  go_wp2_with fail
  refine (speaks25_calls _).mono ?_
  rintro e w1 ⟨rfl, hT1⟩
  have hlt1 : w.heap.size < w1.heap.size := by have := hT1.size; rw [alloc_size] at this; omega
  have b0 : w1.cell? ⟨w.heap.size, 0, none⟩ = some (.int .i64 x0) := hT1.cell (by simp) id
  have b1 : w1.cell? ⟨w.heap.size, 1, none⟩ = some (.int .i64 x1) := hT1.cell (by simp) id
  have HT1 := Lib.hid (((Touch.refl (fun _ => False) w).alloc _).trans hT1)
  clear hT1
  go_upto_region 3 with fail
  go_quiet (fail)
  go_upto_region 4 with fail
  have hs1 : (z : Int) + 1 = (sz : Int) := by omega
  have hs2 : (1 : Int) + (z : Int) = (sz : Int) := by omega
  first | simp only [hs2] | simp only [hs1]
  have hsz1 : 1 ≤ sz := by omega
  have hsz2 : sz ≤ 32 := by omega
  have hT2 : Touch (fun _ => False) w (w1.drewN nq) := HT1.out.drewN nq
  generalize w1.drewN nq = w2 at *
  have HT2 := Lib.hid hT2
  clear hs1 hs2 hT2 hand1 hand2 hzl hsz b0 b1 hlt1 HT1
  have hmm := @run_makeMap Try.prog
  go_wp2_with fail
  refine (wnew_calls f cnt sz hf (by omega) hsz1 hsz2 w2).mono ?_
  rintro e w3 ⟨p, mb, rfl, h3, hpm, hT3⟩
  have HP0 : Hid (w.heap.size ≤ p ∧ w.heap.size ≤ mb ∧ p < w3.heap.size ∧ mb < w3.heap.size ∧ p ≠ mb) := Lib.hid ⟨Nat.le_trans HT2.out.size hpm.1, Nat.le_trans HT2.out.size hpm.2, h3.lt.1, h3.lt.2, h3.ne⟩
  have H3 := Lib.hid h3
  have HT3 := Lib.hid (HT2.out.trans hT3)
  clear h3 hpm hT3
  go_wp2_with fail
  refine (rnew_calls f sz hf hsz1 hsz2 w3).mono ?_
  rintro e w4 ⟨q, rb, rfl, h4, hqr, hT4⟩
  have HW4 := Lib.hid (H3.out.still hT4)
  have HV4 := Lib.hid h4
  have HT4 := Lib.hid (HT3.out.trans hT4)
  have HPM : Hid (w.heap.size ≤ p ∧ w.heap.size ≤ mb ∧ w.heap.size ≤ q ∧ w.heap.size ≤ rb ∧ p ≠ q ∧ p ≠ rb ∧ mb ≠ q ∧ mb ≠ rb) := Lib.hid (by have := HP0.out; have := HT3.out.size; omega)
  clear h4 hqr hT4 hmm H3 HT3 HP0 HT2
  go_wp2_with fail
  go_loopw [13, 14] (fun gv iv wy => ∃ (i n n2 ba bb s : Nat) (A : Nat → Bool) (R : Nat → Option ByteArray), gv = .int .i64 (bb : Nat) ∧ iv = .int .i64 (i : Nat) ∧ i ≤ 150 + ba ∧ n ≤ 32 * i ∧ n2 ≤ i ∧ ba ≤ bb ∧ bb ≤ s ∧ RowKit.Hid (WinAt wy p mb n f cnt sz ba s A) ∧ RowKit.Hid (RcvAt wy q rb n2 f bb sz R) ∧ RowKit.Hid (R bb = none ∧ RtA R s) ∧ RowKit.Hid (Touch (fun j => w.heap.size ≤ j) w wy)) (fun _ iv _ => 400 - (intOf iv).toNat)
  case atStart => exact ⟨0, 0, 0, 0, 0, 0, _, _, rfl, rfl, by omega, by omega, by omega, Nat.le_refl _, Nat.le_refl _, HW4, HV4, Lib.hid ⟨rfl, fun i t h => (by cases h)⟩, Lib.hid (HT4.out.mono (fun _ e => e.elim))⟩
  case round =>
    clear HW4 HV4 HT4
    obtain ⟨i, n, n2, ba, bb, s, A, R, rfl, rfl, hip, hn, hn2, hab, hbs, HW, HV, HRT, HT⟩ := hrel
    have hbs' := HW.out.bs
    have hsc := HW.out.sc
    have hss := HW.out.ss
    have hi181 : i ≤ 181 := by omega
    have hi400 : (i : Int) < 400 := by omega
    have HDN := wdone_calls HW.out
    by_cases hbc : ba = cnt
    · rw [decide_eq_true hbc] at HDN
      have hbb : bb = cnt := by omega
      have HDN' := Lib.hid HDN
      have hheld := rheld_calls HV.out
      have hz0 : heldM R bb sz = 0 := by
        unfold heldM
        have := sumF_le (g := fun j => sizeT (R (bb + j))) (m := sz) (c := 0) (fun k _ => by
          show sizeT (R (bb + k)) ≤ 0
          cases hA : R (bb + k) with
          | none => exact Nat.le_refl _
          | some t => have := (HRT.out.2 _ t hA).2; omega)
        omega
      rw [hz0] at hheld
      have HH := Lib.hid hheld
      have hbbI : (bb : Int) = (cnt : Int) := by omega
      have hbbB : ((bb : Int) == (cnt : Int)) = true := by rw [hbbI]; simp
      clear HDN hheld hz0 hbc hbb hbbI
      go_wp2_with fail
      refine HDN'.out.mono ?_
      rintro e w' ⟨rfl, rfl⟩
      go_wp2_with fail
      refine HDN'.out.mono ?_
      rintro e w' ⟨rfl, rfl⟩
      go_wp2_with fail
      refine HH.out.mono ?_
      rintro e w5 ⟨rfl, hT5⟩
      have HT5 := Lib.hid (HT.out.trans (hT5.mono (fun _ e => e.elim)))
      clear hT5
      go_wp2_with fail
      go_ret
      exact ⟨rfl, a_new HT5.out⟩
    · rw [decide_eq_false hbc] at HDN
      have HDN' := Lib.hid HDN
      clear HDN
      go_wp2_with fail
      refine HDN'.out.mono ?_
      rintro e w' ⟨rfl, rfl⟩
      go_wp2_with fail
      refine (wfresh_calls HW.out).mono ?_
      rintro e w5 ⟨rv, rfl, hrow, hnew, hwin, hT5⟩
      obtain ⟨T, hTe⟩ : ∃ T, T = min (ba + sz) cnt := ⟨_, rfl⟩
      rw [← hTe] at hwin
      have hTb : ba < T := by omega
      have hTs : s ≤ T := by omega
      have hTc : T ≤ cnt := by omega
      have hTz : T ≤ ba + sz := by omega
      have HW5 := Lib.hid hwin
      have HV5 := Lib.hid (HV.out.kept hT5 (fun e => HPM.out.2.2.2.2.1 e.symm) (fun e => HPM.out.2.2.2.2.2.1 e.symm))
      have HT5 := Lib.hid (HT.out.trans (hT5.mono (fun j e => by have := HPM.out; omega)))
      have HRT5 : Hid (R bb = none ∧ RtA R T) := Lib.hid ⟨HRT.out.1, fun i t h => ⟨(HRT.out.2 i t h).1, by have := (HRT.out.2 i t h).2; omega⟩⟩
      have HA0 : Hid (A ba = false) := Lib.hid (by
        cases e : A ba
        · rfl
        · have := HW.out.hA _ e; omega)
      clear hrow hnew hwin hT5 hTe HDN' HRT HW HV HT hbc
      go_wp2_with fail
      refine (wopen_calls HW5.out).mono ?_
      rintro e w6 ⟨ro, rfl, hro, hno, hT6⟩
      obtain ⟨L, hL⟩ : ∃ L, L = (openK f ba A (T - ba)).length := ⟨_, rfl⟩
      have hL1 : 0 < L := by
        rw [hL, show T - ba = T - ba - 1 + 1 by omega]
        exact openK_pos1 f ba A _ HA0.out
      have hL2 : L ≤ T - ba := by rw [hL]; exact openK_le f ba A _
      obtain ⟨a6, cap6, rfl, hl6, hl6'⟩ := row_u32 hro
      rw [← hL] at hl6 ⊢
      have HL := Lib.hid hL
      have HRO := Lib.hid hro
      have HW6 := Lib.hid (HW5.out.still hT6)
      have HV6 := Lib.hid (HV5.out.still hT6)
      have HT6 := Lib.hid (HT5.out.trans (hT6.mono (fun _ e => e.elim)))
      clear hL hro hno hT6 HW5 HV5 HT5
      unfold maxLen at hl6'
      have hL0I : ¬ (L : Int) = 0 := by omega
      have hL0B : ((L : Int) == 0) = false := by simp; omega
      have hL32 : L ≤ 32 := by omega
      go_upto_region 15 with fail
      go_cut [64] from 57 to 64 (fun v64 wx => v64 = .bool (decide (i < xs.length ∧ i < 150)) ∧ wx = w6)
      case first =>
        by_cases hix : i < xs.length
        · have hixI : (i : Int) < (xs.length : Int) := by omega
          by_cases hi150 : i < 150
          · have hi150I : (i : Int) < 150 := by omega
            go_wp2_with fail
            go_meet
            exact ⟨congrArg Value.bool (decide_eq_true (⟨hix, hi150⟩ : i < xs.length ∧ i < 150)).symm, rfl⟩
          · have hi150I : ¬ (i : Int) < 150 := by omega
            go_wp2_with fail
            go_meet
            exact ⟨congrArg Value.bool (decide_eq_false (fun h => hi150 h.2 : ¬ (i < xs.length ∧ i < 150))).symm, rfl⟩
        · have hixI : ¬ (i : Int) < (xs.length : Int) := by omega
          go_wp2_with fail
          go_meet
          exact ⟨congrArg Value.bool (decide_eq_false (fun h => hix h.1 : ¬ (i < xs.length ∧ i < 150))).symm, rfl⟩
      case rest =>
      obtain ⟨rfl, hwc⟩ := hcut
      obtain rfl : w6 = wc := hwc.symm
      obtain ⟨bx, hbx⟩ : ∃ bx, bx = decide (i < xs.length ∧ i < 150) := ⟨_, rfl⟩
      rw [← hbx]
      have HBX := Lib.hid hbx
      clear hbx
      go_upto_if 64 with fail
      go_cut [16] from 65 to 77 (fun v16 wx => ∃ kk : Nat, kk < L ∧ (150 ≤ i → kk = 0) ∧ v16 = .int .i64 (kk : Nat) ∧ wx = w6)
      case first =>
        cases bx with
        | true =>
          obtain ⟨hix, hi150⟩ := of_decide_eq_true HBX.out.symm
          have hixI : (i : Int) < (xs.length : Int) := by omega
          obtain ⟨gx, ox, cx, hv, _, _, _, hcx⟩ := (HR.out.still (a_new HT6.out)).addr (by rw [List.length_map]; omega)
          rw [List.length_map] at hv
          injection hv with e1 _ e3
          subst e1
          obtain rfl : cx = cap := e3.symm
          have hx := hcx i (.int .i64 xs[i]) (by simp [List.getElem?_map, List.getElem?_eq_getElem hix])
          have hxw := HWF.out _ (List.getElem_mem hix)
          obtain ⟨r1, kk, hr1, hr2, hr3, hr4, hr5, hkk⟩ := foldA xs[i] L hL1
          generalize xs[i] = x at hx hxw hr1
          clear hcx
          go_wp2_with fail
          go_meet
          exact ⟨kk, hkk, fun h => by omega, rfl, rfl⟩
        | false =>
          go_wp2_with fail
          go_meet
          exact ⟨0, hL1, fun _ => rfl, rfl, rfl⟩
      case rest =>
        obtain ⟨kk, hkk, hk0, rfl, hwc⟩ := hcut
        obtain rfl : w6 = wc := hwc.symm
        obtain ⟨pl, hpl1, hpl2, hpl3, hget⟩ := openK_place f ba A (T - ba) kk i (by omega) HA0.out (by rw [← HL.out]; exact hkk) hk0
        obtain ⟨g7, off7, capg, hv, _, _, hcell⟩ := row_u32_at HRO.out (by rw [← HL.out]; exact hL1)
        rw [← HL.out] at hv
        injection hv with e1 _ e3
        subst e1
        obtain rfl : capg = cap6 := e3.symm
        have hx := hcell kk _ hget
        have hkkI : (kk : Int) < (L : Int) := by omega
        have hpl31 : pl ≤ 31 := by omega
        have HPL := Lib.hid (⟨hpl1, hpl2, hpl3⟩ : _ ∧ _ ∧ _)
        have hsub : ((numU f pl : Int) - (f : Int)) % 4294967296 = (pl : Int) := by unfold numU; omega
        have hsub2 : IntKind.u8.wrap (IntKind.u32.wrap ((numU f pl : Int) - (f : Int))) = (pl : Int) := by rw [IntKind.wrap_u8, IntKind.wrap_u32, hsub]; omega
        obtain ⟨B, hB⟩ : ∃ B : ByteArray, B = txA pl := ⟨_, rfl⟩
        have hBs : B.size = 1 := by rw [hB]; rfl
        have hob : ∀ W : World, (convert 56 9 (.slice (some ⟨W.heap.size, 0, none⟩) 1 1)).run Try.prog (W.alloc (.cells #[.int .u8 (pl : Nat)] 5)) = .ok (.string B) (W.alloc (.cells #[.int .u8 (pl : Nat)] 5)) := fun W => by rw [hB]; exact one_byte W pl (by omega)
        have hob2 : ∀ W : World, (convert 56 9 (.slice (some ⟨W.heap.size, 0, none⟩) 1 1)).run Try.prog (W.alloc (.cells #[.int .u8 (pl : Nat)] 5)).drew = .ok (.string B) (W.alloc (.cells #[.int .u8 (pl : Nat)] 5)).drew := fun W => hob W.drew
        have HTK := Lib.hid (fun W (hW : Touch (fun _ => False) w6 W) => rtake_any (HV6.out.still hW) pl (by omega) B (by omega) (by omega))
        have HB := Lib.hid hB
        obtain ⟨u, hu⟩ : ∃ u, u = numU f pl := ⟨_, rfl⟩
        rw [← hu] at hx hsub hsub2 HTK
        clear hcell hget hpl1 hpl2 hpl3 hu hB hk0
        go_upto_region 17 with fail
        go_cut [] from 78 to 92 (fun wx => ∃ R', RowKit.Hid (RcvAt wx q rb (n2 + 1) f bb sz R') ∧ RowKit.Hid ((∀ i s, R' i = some s → R i = some s ∨ (i = pl ∧ s = B)) ∧ (bb ≤ pl → R' pl ≠ none)) ∧ RowKit.Hid (Touch (fun k => k = rb) w6 wx))
        case first =>
          go_region_law (go_simp; go_at_call 17; refine (HTK.out _ (by ((repeat (first | with_reducible apply Touch.drew | with_reducible apply Touch.alloc)); exact Touch.refl _ _))).mono ?_; rintro e w7 ⟨bt, R', rfl, h7, hRR, hRn, hT7⟩)
          all_goals
            go_wp2_with fail
            go_meet
            refine ⟨R', Lib.hid h7, Lib.hid ⟨hRR, hRn⟩, Lib.hid ?_⟩
            refine Touch.trans ?_ hT7
            (repeat (first | with_reducible apply Touch.drew | with_reducible apply Touch.alloc))
            exact Touch.refl _ _
        case rest =>
          obtain ⟨R1, H7, HRR, HT7⟩ := hcut
          have HW7 := Lib.hid (HW6.out.kept HT7.out HPM.out.2.2.2.2.2.1 HPM.out.2.2.2.2.2.2.2)
          have HT7' := Lib.hid (HT6.out.trans (HT7.out.mono (fun j e => by have := HPM.out; omega)))
          have HRT7 : Hid (RtA R1 T) := Lib.hid (fun i t h => by
            rcases HRR.out.1 i t h with h1 | ⟨rfl, rfl⟩
            · exact HRT5.out.2 i t h1
            · exact ⟨HB.out, by have := HPL.out; omega⟩)
          have HPR : Hid (bb ≤ pl → R1 pl ≠ none) := Lib.hid HRR.out.2
          have hbb31 : bb ≤ 31 := by omega
          clear HT7 HW6 HT6 HV6 HTK hob hob2 hsub hsub2 hx HRR HRT5 hkkI
          go_wp2_with fail
          refine (rnext_any H7.out (by omega)).mono ?_
          rintro e w8 ⟨x, ok, R2, b2, rfl, h8, hnx, hT8⟩
          have HW8 := Lib.hid (HW7.out.kept hT8 (fun e => by have := HPM.out; omega) (fun e => by have := HPM.out; omega))
          have HT8 := Lib.hid (HT7'.out.trans (hT8.mono (fun j e => by have := HPM.out; omega)))
          have HS8 : Hid (RcvAt w8 q rb (n2 + 1) f b2 sz R2 ∧ RtA R2 T ∧ ((ok = true ∧ x = txA bb ∧ bb < T ∧ b2 = bb + 1) ∨ (ok = false ∧ b2 = bb ∧ R2 bb = none ∧ (R1 bb = none ∨ bb < bb)))) := Lib.hid (by
            rcases hnx with ⟨h1, h2, h3, h4⟩ | ⟨h1, h2, h3, h4⟩
            · refine ⟨h8, fun i t h => ?_, Or.inl ⟨h1, (HRT7.out _ _ h2).1, (HRT7.out _ _ h2).2, h3⟩⟩
              rw [h4] at h
              unfold offT at h
              split at h
              · cases h
              · exact HRT7.out i t h
            · exact ⟨h8, by rw [h4]; exact HRT7.out, Or.inr ⟨h1, h3, by rw [h4]; exact h2, Or.inl h2⟩⟩)
          clear h8 hnx hT8 HW7 HT7' H7
          go_wp2_with fail
          go_loopw [13, 17, 18] (fun gv sv okv wy => ∃ (g b2 : Nat) (Rg : Nat → Option ByteArray) (x : ByteArray) (ok : Bool), gv = .int .i64 (g : Nat) ∧ sv = .string x ∧ okv = .bool ok ∧ bb ≤ g ∧ g ≤ T ∧ RowKit.Hid (RcvAt wy q rb (n2 + 1) f b2 sz Rg ∧ RtA Rg T ∧ ((ok = true ∧ x = txA g ∧ g < T ∧ b2 = g + 1) ∨ (ok = false ∧ b2 = g ∧ Rg g = none ∧ (R1 bb = none ∨ bb < g)))) ∧ RowKit.Hid (WinAt wy p mb n f cnt sz ba T A) ∧ RowKit.Hid (Touch (fun j => w.heap.size ≤ j) w wy)) (fun gv _ _ _ => cnt + 1 - (intOf gv).toNat)
          case atStart => exact ⟨bb, b2, R2, x, ok, rfl, rfl, rfl, Nat.le_refl _, by omega, HS8, HW8, HT8⟩
          case round =>
            clear HS8 HW8 HT8
            obtain ⟨g, b2, Rg, x, ok, rfl, rfl, rfl, hg1, hg2, HS, HW, HT⟩ := hrel
            obtain ⟨hV, hRt, hor⟩ := HS.out
            have HV := Lib.hid hV
            have HRt := Lib.hid hRt
            clear hV hRt HS
            rcases hor with ⟨rfl, rfl, hgT, rfl⟩ | ⟨rfl, rfl, hgn, hgb⟩
            · have hgb : (g : Int) % 256 = (g : Int) := by omega
              have hg31 : g ≤ 31 := by omega
              obtain ⟨Bg, hBg⟩ : ∃ B, B = txA g := ⟨_, rfl⟩
              have hob : ∀ W : World, (convert 56 9 (.slice (some ⟨W.heap.size, 0, none⟩) 1 1)).run Try.prog (W.alloc (.cells #[.int .u8 (g : Nat)] 5)) = .ok (.string Bg) (W.alloc (.cells #[.int .u8 (g : Nat)] 5)) := fun W => by rw [hBg]; exact one_byte W g (by omega)
              rw [← hBg]
              have HBg := Lib.hid hBg
              clear hBg
              have hta : Touch (fun _ => False) wr (wr.alloc (.cells #[.int .u8 (g : Nat)] 5)) := (Touch.refl _ _).alloc _
              have HVa := Lib.hid (HV.out.still hta)
              have HWa := Lib.hid (HW.out.still hta)
              have HTa := Lib.hid (HT.out.trans (hta.mono (fun _ e => e.elim)))
              clear hta HV HW HT
              go_wp2_with fail
              refine (rnext_any HVa.out (by omega)).mono ?_
              rintro e w9 ⟨x9, ok9, R9, b9, rfl, h9, hnx, hT9⟩
              have HW9 := Lib.hid (HWa.out.kept hT9 (fun e => by have := HPM.out; omega) (fun e => by have := HPM.out; omega))
              have HT9 := Lib.hid (HTa.out.trans (hT9.mono (fun j e => by have := HPM.out; omega)))
              have HS9 : Hid (RcvAt w9 q rb (n2 + 1) f b9 sz R9 ∧ RtA R9 T ∧ ((ok9 = true ∧ x9 = txA (g + 1) ∧ g + 1 < T ∧ b9 = g + 1 + 1) ∨ (ok9 = false ∧ b9 = g + 1 ∧ R9 (g + 1) = none ∧ (R1 bb = none ∨ bb < g + 1)))) := Lib.hid (by
                rcases hnx with ⟨h1, h2, h3, h4⟩ | ⟨h1, h2, h3, h4⟩
                · refine ⟨h9, fun i t h => ?_, Or.inl ⟨h1, (HRt.out _ _ h2).1, (HRt.out _ _ h2).2, h3⟩⟩
                  rw [h4] at h
                  unfold offT at h
                  split at h
                  · cases h
                  · exact HRt.out i t h
                · exact ⟨h9, by rw [h4]; exact HRt.out, Or.inr ⟨h1, h3, by rw [h4]; exact h2, Or.inr (by omega)⟩⟩)
              clear h9 hnx hT9 HWa HTa HVa hob
              go_wp2_with fail
              go_roundw
              case rel => exact ⟨g + 1, b9, R9, x9, ok9, by go_num, rfl, rfl, by omega, by omega, HS9, HW9, HT9⟩
              case measure => simp [intOf]; omega
            · have HGN : Hid (Rg b2 = none ∧ (R1 bb = none ∨ bb < b2)) := Lib.hid ⟨hgn, hgb⟩
              clear hgn hgb
              have HAB : Hid (ba ≤ b2 ∧ i + 1 ≤ 150 + b2) := Lib.hid ⟨by omega, by
                by_cases h150 : 150 ≤ i
                · have e := HPL.out.2.2 h150
                  have : ba < b2 := by
                    by_cases e2 : ba < bb
                    · omega
                    · have e3 : bb = ba := by omega
                      rcases HGN.out.2 with h | h
                      · exact absurd (by rw [e, ← e3]; exact h) (HPR.out (by omega))
                      · omega
                  omega
                · omega⟩
              have HVW := Lib.hid (⟨HV.out, HW.out⟩ : _ ∧ _)
              clear HV HW
              go_upto_region 24 with fail
              go_cut [127] from 112 to 127 (fun v127 wx => ∃ bt : Bool, v127 = .bool bt ∧ (bt = true → i < 150) ∧ wx = wr)
              case first =>
                by_cases hix : i < xs.length
                · have hixI : (i : Int) < (xs.length : Int) := by omega
                  obtain ⟨gx, ox, cx, hv, _, _, _, hcx⟩ := (HR.out.still (a_new HT.out)).addr (by rw [List.length_map]; omega)
                  rw [List.length_map] at hv
                  injection hv with e1 _ e3
                  subst e1
                  obtain rfl : cx = cap := e3.symm
                  have hx := hcx i (.int .i64 xs[i]) (by simp [List.getElem?_map, List.getElem?_eq_getElem hix])
                  generalize xs[i] = xx at hx
                  obtain ⟨m, hm⟩ : ∃ m, bits .and .i64 xx 64 = m := ⟨_, rfl⟩
                  clear hcx
                  by_cases hm0 : 0 < m
                  · have hmd : decide (0 < m) = true := decide_eq_true hm0
                    by_cases hi150 : i < 150
                    · have hi150I : (i : Int) < 150 := by omega
                      go_wp2_with fail
                      go_meet
                      exact ⟨true, rfl, fun _ => hi150, rfl⟩
                    · have hi150I : ¬ (i : Int) < 150 := by omega
                      go_wp2_with fail
                      go_meet
                      exact ⟨false, rfl, fun h => (by cases h), rfl⟩
                  · have hmd : decide (0 < m) = false := decide_eq_false hm0
                    go_wp2_with fail
                    go_meet
                    exact ⟨false, rfl, fun h => (by cases h), rfl⟩
                · have hixI : ¬ (i : Int) < (xs.length : Int) := by omega
                  go_wp2_with fail
                  go_meet
                  exact ⟨false, rfl, fun h => (by cases h), rfl⟩
              case rest =>
                obtain ⟨bt, rfl, hbt, hwc⟩ := hcut
                obtain rfl : wr = wc := hwc.symm
                obtain ⟨hV, hW⟩ := HVW.out
                have HV := Lib.hid hV
                have HW := Lib.hid hW
                clear hV hW HVW
                have HBT := Lib.hid hbt
                clear hbt
                cases bt with
                | true =>
                  go_wp2_with fail
                  go_roundw
                  case rel => exact ⟨i + 1, n, n2 + 1, ba, b2, T, A, Rg, rfl, by go_num, by have := HBT.out rfl; omega, by omega, by omega, HAB.out.1, hg2, HW, HV, Lib.hid ⟨HGN.out.1, HRt.out⟩, HT⟩
                  case measure => simp [intOf]; omega
                | false =>
                  go_wp2_with fail
                  refine (rack_calls HV.out).mono ?_
                  rintro e w10 ⟨rfl, hT10⟩
                  have HV10 := Lib.hid (HV.out.still hT10)
                  have HW10 := Lib.hid (HW.out.still hT10)
                  have HT10 := Lib.hid (HT.out.trans (hT10.mono (fun _ e => e.elim)))
                  clear hT10 HV HW HT
                  have hack := wack_calls HW10.out (b2 - ba) (by omega) (ackM Rg b2) (packF_lt _ 32) (by omega)
                  rw [show ba + (b2 - ba) = b2 by have := HAB.out.1; omega] at hack
                  have HACK := Lib.hid hack
                  clear hack
                  go_wp2_with fail
                  refine HACK.out.mono ?_
                  rintro e w11 ⟨rfl, hW11, hT11⟩
                  have HW11 := Lib.hid hW11
                  have HV11 := Lib.hid (HV10.out.kept hT11 (fun e => by have := HPM.out; rcases e with e | e <;> omega) (fun e => by have := HPM.out; rcases e with e | e <;> omega))
                  have HT11 := Lib.hid (HT10.out.trans (hT11.mono (fun j e => by have := HPM.out; rcases e with e | e <;> omega)))
                  clear hW11 hT11 HV10 HW10 HT10 HACK
                  go_wp2_with fail
                  go_roundw
                  case rel => exact ⟨i + 1, n + 32, n2 + 1, b2, b2, T, _, Rg, rfl, by go_num, HAB.out.2, by omega, by omega, Nat.le_refl _, hg2, HW11, HV11, Lib.hid ⟨HGN.out.1, HRt.out⟩, HT11⟩
                  case measure => simp [intOf]; omega
end Go.Proofs.Ytblngiglfggjfaa

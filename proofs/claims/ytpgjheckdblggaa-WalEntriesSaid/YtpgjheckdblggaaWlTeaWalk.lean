/- The statement WalTears over the translated program. -/
import Derived.Test.YtpgjheckdblggaaWlH
import Derived.Test.YtpgjheckdblggaaWlOpen
import Derived.Test.YtpgjheckdblggaaDkOpen
namespace Go.Proofs.Ytpgjheckdblggaa
open Go Go.RowKit Go.Maps
set_option maxRecDepth 100000

/-- What a sector's log is behind a crash that finds one write in memory. -/
theorem crash_one {n at' sn k : Nat} {L : List UInt8} (hL : L.length = n * 64) (hk : k < sn) (hfit : at' + sn ≤ n) (S : ByteArray) (hS : S.size = 64) (t : Nat) (fs : List Int) :
    ∃ z : Int, secsOf (crashL L (putE [] (at' + k) S t) fs) at' sn = (secsOf L at' sn).set k (fateT ((secsOf L at' sn).getD k []) S.data.toList z) := by
  have hg : (secsOf L at' sn).getD k [] = sec L (at' + k) := by rw [List.getD_eq_getElem?_getD, secsOf_get _ _ _ _ hk]; rfl
  rw [hg]
  have e0 : putE [] (at' + k) S t = [⟨at' + k, S, t⟩] := by simp [putE]
  rw [e0]
  match fs with
  | [] =>
    refine ⟨0, ?_⟩
    have e1 : crashL L [⟨at' + k, S, t⟩] [] = L := by simp [crashL]
    have e2 : fateT (sec L (at' + k)) S.data.toList 0 = sec L (at' + k) := by unfold fateT; rw [if_pos (by decide)]
    rw [e1, e2]
    apply List.ext_getElem?
    intro j
    rw [List.getElem?_set, secsOf_len]
    by_cases e : k = j
    · subst e; rw [if_pos rfl, if_pos hk, secsOf_get _ _ _ _ hk]
    · rw [if_neg e]
  | z :: r =>
    refine ⟨z, ?_⟩
    have e1 : crashL L [⟨at' + k, S, t⟩] (z :: r) = setS L (at' + k) (fateT (sec L (at' + k)) S.data.toList z) := by simp [crashL]
    rw [e1]
    have hSl : S.data.toList.length = 64 := by rw [Array.length_toList]; exact hS
    have hfl := fateT_len (sec_len hL (show at' + k < n by omega)) hSl z
    refine secsOf_put hk hfit fun j hj => ?_
    by_cases e : j = at' + k
    · rw [if_pos e, e, sec_set_same hL (by omega) hfl]
    · rw [if_neg e, sec_set_other hL (by omega) hj e hfl]

theorem burn_none' : burnF (-1) = -1 := by decide
theorem Try.cellsStr : Try.prog.cellsOf 9 = 1 := by kernel_rfl
/-- The first 23 bytes of a text. -/
def T23 (s : ByteArray) : ByteArray := s.extract 0 (min s.size 23)
theorem T23_size (s : ByteArray) : (T23 s).size ≤ 23 := by unfold T23; simp; omega

set_option maxHeartbeats 4000000 in
theorem wtears_calls (l : List ByteArray) (fs : List Int) (v0 v1 : Value) (w : World) (hl : Reads w v0 (l.map Value.string)) (hsz : ∀ s ∈ l, s.size ≤ 9223372036854775807) (hf : Reads w v1 (fs.map (Value.int .i64))) (hfw : ∀ z ∈ fs, -9223372036854775808 ≤ z ∧ z ≤ 9223372036854775807) (hfo : 0 < fs.length → ∀ g, v1.ownBlock = some g → g < w.heap.size) :
    Calls Try.prog 9 #[v0, v1] w fun e w' => e = .returned (.bool true) ∧ Touch (fun _ => False) w w' := by
  obtain ⟨a, cap, hv, hc1, hc2⟩ := hl.form
  rw [List.length_map] at hv hc1
  unfold maxLen at hc2
  have HL := Lib.hid hl
  have HF := Lib.hid hf
  have HFW := Lib.hid hfw
  have HFO := Lib.hid hfo
  have HSZ := Lib.hid hsz
  clear hl hf hfw hfo hsz
  subst hv
  go_enter Try.func9, Try.ntmps9
  go_wp2_with fail
  refine (speaks18_calls w).mono ?_
  rintro e w0 ⟨rfl, hT0⟩
  go_wp2_with fail
  refine (new_calls 3 w0 (by omega) (by omega)).mono ?_
  rintro e w1 ⟨b, lb, mb, rfl, hD1, hN, hT1⟩
  have HD1 := Lib.hid hD1
  have HNB := Lib.hid hN
  clear hD1 hN
  go_wp2_with fail
  refine (lopen_calls HD1.out 0 3 (by omega) (by omega) (N := 0) (s := ⟨#[]⟩) (by omega) (by rw [secsOf_zero (by omega)]; exact LogSecs.start 3)).mono ?_
  rintro e w2 ⟨gb, rfl, hV2, hg2, hT2⟩
  have HV2 := Lib.hid hV2
  have hT02 := (hT0.trans hT1).trans hT2
  have HNN : Hid (∀ k, DkS b lb mb k ∨ k = gb → w.heap.size ≤ k) := Lib.hid (fun k hk => by
    have := HNB.out; have := hT0.size; have := hT1.size
    rcases hk with (h | h | h) | h <;> omega)
  have HT2 := Lib.hid hT02
  clear hV2 hT0 hT1 hT2 hT02 hg2
  go_wp2_with fail
  go_loopw [9, 10, 11] (fun v9 v10 v11 wr => ∃ (N : Nat) (s : ByteArray) (L : List UInt8), v9 = .string s ∧ v10 = .int .u64 N ∧ v11 = .int .i64 N ∧ N ≤ 12 ∧ N ≤ l.length ∧ Live wr b lb mb (3 * 64) 3 L N (-1) gb 0 3 N s ∧ Touch (fun _ => False) w wr) (fun _ _ i _ => l.length - (intOf i).toNat)
  case atStart => exact ⟨0, ⟨#[]⟩, _, rfl, rfl, rfl, by omega, by omega, HV2.out, HT2.out⟩
  case round =>
    obtain ⟨N, s, L, rfl, rfl, rfl, hN12, hNl, hV, hT⟩ := hrel
    by_cases hlt : N + 1 < l.length ∧ N < 12
    · obtain ⟨hlt, hlt12⟩ := hlt
      have hI1 : (N : Int) + 1 < (l.length : Int) := by omega
      have hI2 : (N : Int) < 12 := by omega
      have hI3 : (N : Int) < (l.length : Int) := by omega
      have HV := Lib.hid hV
      have HT := Lib.hid hT
      clear hV hT
      go_upto_region 10 with fail
      obtain ⟨x, hx⟩ : ∃ x, l[N]? = some x := ⟨_, List.getElem?_eq_getElem (by omega)⟩
      obtain ⟨g, off, cap', hga, _, _, _, hcell⟩ := (HL.out.still HT.out).addr (by rw [List.length_map]; omega)
      injection hga with hga hq1 hq2
      clear hq1 hq2
      subst hga
      have hxs : x.size ≤ 9223372036854775807 := HSZ.out x (List.mem_of_getElem? hx)
      have p0 : wr.cell? ⟨g, off + N, none⟩ = some (.string x) := hcell N _ (by rw [List.getElem?_map, hx]; rfl)
      obtain ⟨k, hk⟩ : ∃ k, k = min x.size 23 := ⟨_, rfl⟩
      obtain ⟨S, hS⟩ : ∃ S, x.extract 0 k = S := ⟨_, rfl⟩
      have HS23 : Hid (S.size ≤ 23) := Lib.hid (by rw [← hS, hk]; exact T23_size x)
      have hk1 : min (x.size : Int) 23 = (k : Int) := by omega
      have hk3 : (if (23 : Int) < (x.size : Int) then (23 : Int) else (x.size : Int)) = (k : Int) := by split <;> omega
      have hk2 : (k : Int) ≤ (x.size : Int) := by omega
      have hk0 : (0 : Int) ≤ (k : Int) := by omega
      clear hk hcell hx
      go_quiet (fail)
      have hNI : IntKind.i64.wrap ((N : Int) + 1) = (N : Int) + 1 := IntWalk.i64_in _ (by omega)
      have hNU : IntKind.u64.wrap ((N : Int) + 1) = (N : Int) + 1 := by rw [IntKind.wrap_u64]; omega
      go_wp2_with fail
      refine (lput_calls (HV.out.still ((Touch.refl _ wr).drewN _)) (by omega) (by omega) S HS23.out (by omega) (by omega)).mono ?_
      rintro e wb ⟨hTb, ⟨_, _, rfl, L', _, hVb⟩ | ⟨hff, _⟩⟩
      · have HVb := Lib.hid hVb
        clear hVb
        go_wp2_with fail
        go_roundw
        case rel => exact ⟨N + 1, S, L', rfl, by go_num, by go_num, by omega, by omega, HVb.out, (HT.out.drewN _).trans' hTb (fun i hi => .inr (HNN.out i hi))⟩
        case measure => simp [intOf]; omega
      · omega
    · have HV := Lib.hid hV
      have HT := Lib.hid hT
      clear hV hT
      have hcase : ¬ ((N : Int) + 1 < (l.length : Int)) ∨ ((N : Int) + 1 < (l.length : Int) ∧ ¬ ((N : Int) < 12)) := by omega
      rcases hcase with hA | ⟨hA, hA2⟩
      all_goals
        go_upto_if 58 with (fail)
        generalize hB : decide (0 < l.length) = B
        have HB := Lib.hid hB
        clear hB
        go_cut [12] from 59 to 74 (fun v12 wx => ∃ S, v12 = .string S ∧ S.size ≤ 23 ∧ Touch (fun _ => False) wr wx)
        case first =>
          cases B with
          | false =>
            go_wp2_with fail
            go_meet
            exact ⟨⟨#[]⟩, rfl, by decide, Touch.refl _ _⟩
          | true =>
            go_upto_region 16 with fail
            have hl0 : 0 < l.length := of_decide_eq_true HB.out
            obtain ⟨m, hm⟩ : ∃ m : Nat, l.length - 1 = m := ⟨_, rfl⟩
            obtain ⟨x, hx⟩ : ∃ x, l[m]? = some x := ⟨_, List.getElem?_eq_getElem (by omega)⟩
            obtain ⟨g, off, cap', hga, _, _, _, hcell⟩ := (HL.out.still HT.out).addr (by rw [List.length_map]; omega)
            injection hga with hga hq1 hq2
            clear hq1 hq2
            subst hga
            have hxs : x.size ≤ 9223372036854775807 := HSZ.out x (List.mem_of_getElem? hx)
            have p0 : wr.cell? ⟨g, off + m, none⟩ = some (.string x) := hcell m _ (by rw [List.getElem?_map, hx]; rfl)
            obtain ⟨k, hk⟩ : ∃ k, k = min x.size 23 := ⟨_, rfl⟩
            obtain ⟨S, hS⟩ : ∃ S, x.extract 0 k = S := ⟨_, rfl⟩
            have HS23 : Hid (S.size ≤ 23) := Lib.hid (by rw [← hS, hk]; exact T23_size x)
            have hk1 : min (x.size : Int) 23 = (k : Int) := by omega
            have hk3 : (if (23 : Int) < (x.size : Int) then (23 : Int) else (x.size : Int)) = (k : Int) := by split <;> omega
            have hk2 : (k : Int) ≤ (x.size : Int) := by omega
            have hk0 : (0 : Int) ≤ (k : Int) := by omega
            have hmI : (m : Int) < (l.length : Int) := by omega
            have hmw : IntKind.i64.wrap ((l.length : Int) - 1) = (m : Int) := by rw [IntWalk.i64_in _ (by omega)]; omega
            clear hk hcell hx hm
            go_quiet (fail)
            go_wp2_with fail
            go_meet
            exact ⟨S, rfl, HS23.out, (Touch.refl _ _).drewN _⟩
        case rest =>
          obtain ⟨S, rfl, hS23, hTc⟩ := hcut
          have HVc := Lib.hid (HV.out.still hTc)
          have HTc := Lib.hid (HT.out.trans hTc)
          have HS23 := Lib.hid hS23
          clear hTc hS23
          obtain ⟨p, hp⟩ : ∃ p : Nat, (N + 1) % 3 = p := ⟨_, rfl⟩
          have hp3 : p < 3 := by omega
          obtain ⟨M, hM⟩ : ∃ M : Nat, N + 1 = M := ⟨_, rfl⟩
          have hMw : IntKind.u64.wrap ((N : Int) + 1) = (M : Int) := by rw [IntKind.wrap_u64]; omega
          have hMI : (N : Int) + 1 = (M : Int) := by omega
          have hmod : (M : Int) % 3 = (p : Int) := by omega
          have hmod2 : (M : Int).tmod 3 = (p : Int) := by rw [← hp, hM]; exact Int.ofNat_tmod M 3
          have hpw : IntKind.i64.wrap (p : Int) = (p : Int) := IntWalk.i64_in _ (by omega)
          have HM := Lib.hid (⟨hM, hp⟩ : _ ∧ _)
          clear hM hp
          go_wp2_with fail
          refine (slotX_calls M S _ (by have := HM.out.1; omega) (by have := HM.out.1; omega) HS23.out).mono ?_
          rintro e wd ⟨rfl, hTd⟩
          go_wp2_with fail
          refine (write_ok (HVc.out.still hTd).disk p (slotS M S) (slotS_size M S HS23.out) hp3 (by omega) (by omega)).mono ?_
          rintro e we ⟨rfl, hDe, hTe⟩
          rw [burn_none'] at hDe
          have hTe' : Touch (DkS b lb mb) w we := ((HTc.out.trans hTd).weak).trans hTe
          have hFe : Reads we v1 (fs.map (Value.int .i64)) := HF.out.kept0 hTe' (fun h0 g hg hd => by have := HFO.out (by simpa using h0) g hg; have := HNN.out g (.inl hd); omega)
          have hFs : 0 < fs.length → ∀ g, v1.ownBlock = some g → ¬ DkS b lb mb g := fun h0 g hg hd => by have := HFO.out h0 g hg; have := HNN.out g (.inl hd); omega
          have hcr := crash_calls hDe v1 fs hFe hFs HFW.out
          obtain ⟨z, hz⟩ := crash_one (n := 3) (at' := 0) (sn := 3) (k := p) hDe.len hp3 (by omega) (slotS M S) (slotS_size M S HS23.out) (N + 1) fs
          rw [Nat.zero_add] at hz
          have htn := HVc.out.secs.torn (by rw [secsOf_len]; omega) (by omega) S.data.toList (by rw [Array.length_toList]; exact HS23.out) z
          rw [secsOf_len, HM.out.2, HM.out.1] at htn
          rw [slotS_list] at hz
          rw [← hz] at htn
          have HTN := Lib.hid htn
          have HTE := Lib.hid hTe'
          clear hz htn hDe hTe hTd hFe hFs hTe'
          go_wp2_with fail
          refine hcr.mono ?_
          rintro e wf ⟨rfl, hDf, hTf⟩
          have HDf := Lib.hid hDf
          have HTF := Lib.hid (HTE.out.trans hTf)
          clear hDf hTf hcr
          go_wp2_with fail
          refine (start_calls HDf.out).mono ?_
          rintro e wg ⟨rfl, hDg, hTg⟩
          have HDg := Lib.hid hDg
          have HTG := Lib.hid (HTF.out.trans (hTg.mono fun k hk => .inl hk))
          clear hDg hTg
          go_wp2_with fail
          refine (open_calls HDg.out 0 3 (by omega) (by omega)).mono ?_
          rintro e wh ⟨gb2, rfl, hLh, _, hTh⟩
          have HTH := Lib.hid (HTG.out.trans hTh.weak)
          clear hTh
          have hend : Hid (∀ W, Touch (fun _ => False) wh W → Touch (fun _ => False) w W) := Lib.hid (fun W hW => ((Touch.refl (fun _ => False) w).trans' HTH.out (fun i hi => .inr (HNN.out i (.inl hi)))).trans hW)
          rcases HTN.out with hq | hq
          · rw [hq, ba_self] at hLh
            have HLh := Lib.hid hLh
            clear hq hLh
            go_wp2_with fail
            refine (note_calls HLh.out).mono ?_
            rintro e wi ⟨rfl, hTi⟩
            have HTI := Lib.hid hTi
            clear hTi
            go_wp2_with fail
            go_ret
            exact ⟨rfl, hend.out _ HTI.out⟩
          · rw [hq, ba_self] at hLh
            have HLh := Lib.hid hLh
            clear hq hLh
            have hMN : ((M : Int) == (N : Int)) = false := by rw [beq_eq_false_iff_ne]; omega
            have hMN2 : ((M : Nat) == N) = false := by rw [beq_eq_false_iff_ne]; omega
            go_wp2_with fail
            refine (note_calls HLh.out).mono ?_
            rintro e wi ⟨rfl, hTi⟩
            have HTI := Lib.hid hTi
            clear hTi
            go_wp2_with fail
            all_goals
              go_ret
              exact ⟨rfl, hend.out _ HTI.out⟩

end Go.Proofs.Ytpgjheckdblggaa

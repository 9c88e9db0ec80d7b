/- The statement WalCrash over the translated program. -/
import Derived.Test.YtpgjheckdblggaaWlTeaWalk
import Derived.Deep.CutBlock
namespace Go.Proofs.Ytpgjheckdblggaa
open Go Go.RowKit Go.Maps
set_option maxRecDepth 100000

theorem i64_and31 (n : Int) : bits .and .i64 n 31 = n % 32 := by
  have hk : (BitVec.ofInt 64 31).toNat = 2 ^ 5 - 1 := by decide
  have key : (BitVec.ofInt 64 n &&& BitVec.ofInt 64 31).toNat = (n % ((2 ^ 64 : Nat) : Int)).toNat % 2 ^ 5 := by
    rw [BitVec.toNat_and, BitVec.toNat_ofInt, hk, Nat.and_two_pow_sub_one_eq_mod]
  show IntKind.i64.wrap ((BitVec.ofInt 64 n &&& BitVec.ofInt 64 31).toNat : Nat) = n % 32
  rw [key, IntKind.wrap_i64]
  omega
theorem crash_empty (L : List UInt8) (fs : List Int) : crashL L [] fs = L := by simp [crashL]

set_option maxHeartbeats 4000000 in
theorem wcrash_calls (l : List ByteArray) (zf : Int) (fs : List Int) (v0 v1 : Value) (w : World) (hl : Reads w v0 (l.map Value.string)) (hsz : ∀ s ∈ l, s.size ≤ 9223372036854775807) (hf : Reads w v1 (fs.map (Value.int .i64))) (hfw : ∀ z ∈ fs, -9223372036854775808 ≤ z ∧ z ≤ 9223372036854775807) (hfo : 0 < fs.length → ∀ g, v1.ownBlock = some g → g < w.heap.size) :
    Calls Try.prog 8 #[v0, .int .i64 zf, v1] w fun e w' => e = .returned (.bool true) ∧ Touch (fun _ => False) w w' := by
  obtain ⟨a, cap, hv, hc1, hc2⟩ := hl.form
  rw [List.length_map] at hv hc1
  unfold maxLen at hc2
  have HL := Lib.hid hl
  have HF := Lib.hid hf
  have HFW := Lib.hid hfw
  have HFO := Lib.hid hfo
  have HSZ := Lib.hid hsz
  clear hl hf hfw hfo hsz
  subst hv
  obtain ⟨r, hr⟩ : ∃ r : Nat, zf % 32 = (r : Int) := ⟨(zf % 32).toNat, by omega⟩
  have hr32 : r < 32 := by omega
  have h31 : bits .and .i64 zf 31 = (r : Int) := by rw [i64_and31, hr]
  clear hr
  go_enter Try.func8, Try.ntmps8
  go_wp2_with fail
  refine (speaks18_calls w).mono ?_
  rintro e w0 ⟨rfl, hT0⟩
  go_wp2_with fail
  refine (new_calls 6 w0 (by omega) (by omega)).mono ?_
  rintro e w1 ⟨b, lb, mb, rfl, hD1, hN, hT1⟩
  have HD1 := Lib.hid hD1
  have HNB := Lib.hid hN
  clear hD1 hN
  go_wp2_with fail
  refine (lopen_calls HD1.out 0 3 (by omega) (by omega) (N := 0) (s := ⟨#[]⟩) (by omega) (by rw [secsOf_zero (by omega)]; exact LogSecs.start 3)).mono ?_
  rintro e w2 ⟨gb, rfl, hV2, hg2, hT2⟩
  have HV2 := Lib.hid hV2
  have hT02 := (hT0.trans hT1).trans hT2
  have HNN : Hid (∀ k, DkS b lb mb k ∨ k = gb → w.heap.size ≤ k) := Lib.hid (fun k hk => by
    have := HNB.out; have := hT0.size; have := hT1.size
    rcases hk with (h | h | h) | h <;> omega)
  have HT2 := Lib.hid hT02
  clear hV2 hT0 hT1 hT2 hT02 hg2
  go_wp2_with fail
  refine (fuse_calls HV2.out.disk (r : Int) (by omega)).mono ?_
  rintro e w3 ⟨rfl, hD3, hT3⟩
  rw [show max (r : Int) (-1) = (r : Int) by omega] at hD3
  have hsub : ¬ gb = b := fun h => HV2.out.sep (by rw [h]; exact .inl rfl)
  have HV3 : Hid (Live w3 b lb mb (6 * 64) 6 (List.replicate (6 * 64) 0) 0 (r : Int) gb 0 3 0 ⟨#[]⟩) := Lib.hid ⟨hD3, HV2.out.log.kept hT3 hsub, HV2.out.sep, HV2.out.secs⟩
  have HT3 : Hid (Touch (fun _ => False) w w3) := Lib.hid (HT2.out.trans' hT3 (fun i hi => .inr (HNN.out i (.inl (.inl hi)))))
  clear hD3 hT3 hsub
  go_upto_block 0 with fail
  go_cut [11, 12, 13, 14] (fun v11 v12 v13 _ wx => ∃ (N : Nat) (s S2 : ByteArray) (L : List UInt8) (t : Nat) (f : Int) (on : Bool), v11 = .string s ∧ v12 = .string S2 ∧ v13 = .int .u64 N ∧ N ≤ 20 ∧ DkAt wx b lb mb (6 * 64) 6 L [] t f on ∧ LogSecs (secsOf L 0 3) N s.data.toList ∧ Touch (fun _ => False) w wx)
  case first =>
    go_wp2_with fail
    go_loopw [11, 12, 13, 14] (fun v11 v12 v13 v14 wr => ∃ (N : Nat) (s : ByteArray) (L : List UInt8) (f : Int), v11 = .string s ∧ v12 = .string s ∧ v13 = .int .u64 N ∧ v14 = .int .i64 N ∧ N ≤ 20 ∧ N ≤ l.length ∧ Live wr b lb mb (6 * 64) 6 L N f gb 0 3 N s ∧ Touch (fun _ => False) w wr) (fun _ _ _ i _ => l.length - (intOf i).toNat)
    case atStart => exact ⟨0, ⟨#[]⟩, _, _, rfl, rfl, rfl, rfl, by omega, by omega, HV3.out, HT3.out⟩
    case round =>
      obtain ⟨N, s, L, f, rfl, rfl, rfl, rfl, hN20, hNl, hV, hT⟩ := hrel
      have HV := Lib.hid hV
      have HT := Lib.hid hT
      clear hV hT
      by_cases hlt : N < l.length ∧ N < 20
      · obtain ⟨hlt, hlt20⟩ := hlt
        have hI1 : (N : Int) < (l.length : Int) := by omega
        have hI2 : (N : Int) < 20 := by omega
        go_upto_region 11 with fail
        obtain ⟨x, hx⟩ : ∃ x, l[N]? = some x := ⟨_, List.getElem?_eq_getElem (by omega)⟩
        obtain ⟨g, off, cap', hga, _, _, _, hcell⟩ := (HL.out.still HT.out).addr (by rw [List.length_map]; omega)
        injection hga with hga hq1 hq2
        clear hq1 hq2
        subst hga
        have hxs : x.size ≤ 9223372036854775807 := HSZ.out x (List.mem_of_getElem? hx)
        have p0 : wr.cell? ⟨g, off + N, none⟩ = some (.string x) := hcell N _ (by rw [List.getElem?_map, hx]; rfl)
        obtain ⟨k, hk⟩ : ∃ k, k = min x.size 23 := ⟨_, rfl⟩
        obtain ⟨S, hS⟩ : ∃ S, x.extract 0 k = S := ⟨_, rfl⟩
        have HS23 : Hid (S.size ≤ 23) := Lib.hid (by rw [← hS, hk]; exact T23_size x)
        have hk1 : min (x.size : Int) 23 = (k : Int) := by omega
        have hk3 : (if (23 : Int) < (x.size : Int) then (23 : Int) else (x.size : Int)) = (k : Int) := by split <;> omega
        have hk2 : (k : Int) ≤ (x.size : Int) := by omega
        have hk0 : (0 : Int) ≤ (k : Int) := by omega
        clear hk hcell hx
        go_quiet (fail)
        clear hk1 hk2 hk3 hk0 hS p0 hxs
        go_wp2_with fail
        refine (lput_calls (HV.out.still ((Touch.refl _ wr).drewN _)) (by omega) (by omega) S HS23.out (by omega) (by omega)).mono ?_
        rintro e wb ⟨hTb, hout⟩
        have HTb : Hid (Touch (fun _ => False) w wb) := Lib.hid ((HT.out.drewN _).trans' hTb (fun i hi => .inr (HNN.out i hi)))
        clear hTb
        rcases hout with ⟨_, _, rfl, L', _, hVb⟩ | ⟨hff, rfl, t', ht', hDb⟩
        · have HVb := Lib.hid hVb
          clear hVb
          have hNU : IntKind.u64.wrap ((N : Int) + 1) = (N : Int) + 1 := by rw [IntKind.wrap_u64]; omega
          go_wp2_with fail
          go_roundw
          case rel => exact ⟨N + 1, S, L', _, rfl, rfl, by go_num, by go_num, by omega, by omega, HVb.out, HTb.out⟩
          case measure => simp [intOf]; omega
        · have HDb := Lib.hid hDb
          clear hDb hff
          go_wp2_with (go_at_call 32; refine (put_failed HDb.out.log ⟨#[120]⟩ (by decide)).mono ?_; rintro e wc ⟨rfl, rfl⟩)
          go_meet
          exact ⟨N, s, S, L, _, _, _, rfl, rfl, rfl, hN20, HDb.out.disk, HDb.out.secs, HTb.out⟩
      · have hcase : ¬ ((N : Int) < (l.length : Int)) ∨ ((N : Int) < (l.length : Int) ∧ ¬ ((N : Int) < 20)) := by omega
        rcases hcase with hA | ⟨hA, hA2⟩
        all_goals
          go_wp2_with fail
          go_meet
          exact ⟨N, s, s, L, _, _, _, rfl, rfl, rfl, hN20, HV.out.disk, HV.out.secs, HT.out⟩
  case rest =>
    obtain ⟨N, s, S2, L, t, f, on, rfl, rfl, rfl, hN20, hDc, hSc, hTc⟩ := hcut
    have hFe : Reads wc v1 (fs.map (Value.int .i64)) := HF.out.still hTc
    have hFs : 0 < fs.length → ∀ g, v1.ownBlock = some g → ¬ DkS b lb mb g := fun h0 g hg hd => by have := HFO.out h0 g hg; have := HNN.out g (.inl hd); omega
    have hcr : Calls Try.prog 17 #[.pointer (some ⟨b, 0, none⟩), v1] wc fun e w' => e = .returned (.tuple #[]) ∧ ∃ f', DkAt w' b lb mb (6 * 64) 6 L [] t f' false ∧ Touch (DkS b lb mb) wc w' := by
      cases on with
      | true =>
        refine (crash_calls hDc v1 fs hFe hFs HFW.out).mono ?_
        rintro e w' ⟨rfl, h1, h2⟩
        rw [crash_empty] at h1
        exact ⟨rfl, _, h1, h2⟩
      | false =>
        refine (crash_off hDc v1).mono ?_
        rintro e w' ⟨rfl, rfl⟩
        exact ⟨rfl, _, hDc, Touch.refl _ _⟩
    have HSc := Lib.hid hSc
    have HTc := Lib.hid hTc
    clear hFe hFs hDc hSc hTc
    go_wp2_with fail
    refine hcr.mono ?_
    rintro e wf ⟨rfl, f', hDf, hTf⟩
    have HDf := Lib.hid hDf
    have HTF := Lib.hid (HTc.out.weak.trans hTf)
    clear hDf hTf hcr
    go_wp2_with fail
    refine (start_calls HDf.out).mono ?_
    rintro e wg ⟨rfl, hDg, hTg⟩
    have HDg := Lib.hid hDg
    have HTG := Lib.hid (HTF.out.trans (hTg.mono fun k hk => .inl hk))
    clear hDg hTg
    go_wp2_with fail
    refine (lopen_calls HDg.out 0 3 (by omega) (by omega) (by omega) HSc.out).mono ?_
    rintro e wh ⟨gb2, rfl, hLh, _, hTh⟩
    have HTH := Lib.hid (HTG.out.trans hTh.weak)
    have HLh := Lib.hid hLh
    clear hTh hLh
    have hend : Hid (∀ W, Touch (fun _ => False) wh W → Touch (fun _ => False) w W) := Lib.hid (fun W hW => ((Touch.refl (fun _ => False) w).trans' HTH.out (fun i hi => .inr (HNN.out i (.inl hi)))).trans hW)
    go_wp2_with fail
    refine (note_calls HLh.out.log).mono ?_
    rintro e wi ⟨rfl, hTi⟩
    have HTI := Lib.hid hTi
    clear hTi
    go_wp2_with fail
    go_ret
    exact ⟨rfl, hend.out _ HTI.out⟩

end Go.Proofs.Ytpgjheckdblggaa

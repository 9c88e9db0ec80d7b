/- The statement WalPuts over the translated program. -/
import Derived.Test.YtpgjheckdblggaaWlTeaWalk
import Derived.Test.YtpgjheckdblggaaWlI
import Derived.Deep.CutBlock
namespace Go.Proofs.Ytpgjheckdblggaa
open Go Go.RowKit Go.Maps
set_option maxRecDepth 100000

theorem i64_and7' (n : Int) : bits .and .i64 n 7 = n % 8 := by
  have hk : (BitVec.ofInt 64 7).toNat = 2 ^ 3 - 1 := by decide
  have key : (BitVec.ofInt 64 n &&& BitVec.ofInt 64 7).toNat = (n % ((2 ^ 64 : Nat) : Int)).toNat % 2 ^ 3 := by
    rw [BitVec.toNat_and, BitVec.toNat_ofInt, hk, Nat.and_two_pow_sub_one_eq_mod]
  show IntKind.i64.wrap ((BitVec.ofInt 64 n &&& BitVec.ofInt 64 7).toNat : Nat) = n % 8
  rw [key, IntKind.wrap_i64]
  omega
theorem i64_and3 (n : Int) : bits .and .i64 n 3 = n % 4 := by
  have hk : (BitVec.ofInt 64 3).toNat = 2 ^ 2 - 1 := by decide
  have key : (BitVec.ofInt 64 n &&& BitVec.ofInt 64 3).toNat = (n % ((2 ^ 64 : Nat) : Int)).toNat % 2 ^ 2 := by
    rw [BitVec.toNat_and, BitVec.toNat_ofInt, hk, Nat.and_two_pow_sub_one_eq_mod]
  show IntKind.i64.wrap ((BitVec.ofInt 64 n &&& BitVec.ofInt 64 3).toNat : Nat) = n % 4
  rw [key, IntKind.wrap_i64]
  omega

set_option maxHeartbeats 4000000 in
theorem wputs_calls (l : List ByteArray) (zs za : Int) (v0 : Value) (w : World) (hl : Reads w v0 (l.map Value.string)) (hsz : ∀ s ∈ l, s.size ≤ 9223372036854775807) :
    Calls Try.prog 7 #[v0, .int .i64 zs, .int .i64 za] w fun e w' => e = .returned (.bool true) ∧ Touch (fun _ => False) w w' := by
  obtain ⟨a, cap, hv, hc1, hc2⟩ := hl.form
  rw [List.length_map] at hv hc1
  unfold maxLen at hc2
  have HL := Lib.hid hl
  have HSZ := Lib.hid hsz
  clear hl hsz
  subst hv
  obtain ⟨r, hr⟩ : ∃ r : Nat, zs % 8 = (r : Int) := ⟨(zs % 8).toNat, by omega⟩
  have hr8 : r < 8 := by omega
  have h7 : bits .and .i64 zs 7 = (r : Int) := by rw [i64_and7', hr]
  obtain ⟨at', hat⟩ : ∃ r : Nat, za % 4 = (r : Int) := ⟨(za % 4).toNat, by omega⟩
  have ha4 : at' < 4 := by omega
  have h3 : bits .and .i64 za 3 = (at' : Int) := by rw [i64_and3, hat]
  clear hr hat
  obtain ⟨sn, hsn⟩ : ∃ sn : Nat, 2 + r = sn := ⟨_, rfl⟩
  have hsnw : IntKind.i64.wrap (2 + (r : Int)) = (sn : Int) := by rw [IntWalk.i64_in _ (by omega)]; omega
  have hsnI : (2 : Int) + (r : Int) = (sn : Int) := by omega
  have hs2 : 2 ≤ sn := by omega
  have hs9 : sn ≤ 9 := by omega
  have hfit : at' + sn ≤ 12 := by omega
  clear hsn
  go_enter Try.func7, Try.ntmps7
  go_wp2_with fail
  refine (speaks18_calls w).mono ?_
  rintro e w0 ⟨rfl, hT0⟩
  go_wp2_with fail
  refine (new_calls 12 w0 (by omega) (by omega)).mono ?_
  rintro e w1 ⟨b, lb, mb, rfl, hD1, hN, hT1⟩
  have HD1 := Lib.hid hD1
  have HNB := Lib.hid hN
  clear hD1 hN
  go_wp2_with fail
  refine (lopen_calls HD1.out at' sn hs2 hfit (N := 0) (s := ⟨#[]⟩) (by omega) (by rw [secsOf_zero hfit]; exact LogSecs.start sn)).mono ?_
  rintro e w2 ⟨gb, rfl, hV2, hg2, hT2⟩
  have HV2 := Lib.hid hV2
  have hT02 := (hT0.trans hT1).trans hT2
  have HNN : Hid (∀ k, DkS b lb mb k ∨ k = gb → w.heap.size ≤ k) := Lib.hid (fun k hk => by
    have := HNB.out; have := hT0.size; have := hT1.size
    rcases hk with (h | h | h) | h <;> omega)
  have HT2 := Lib.hid hT02
  clear hV2 hT0 hT1 hT2 hT02 hg2 h7 h3 hsnw hsnI
  go_wp2_with fail
  go_loopw [11, 12, 13] (fun v11 v12 v13 wr => ∃ (i N : Nat) (s : ByteArray) (L : List UInt8), v11 = .string s ∧ v12 = .int .u64 N ∧ v13 = .int .i64 i ∧ N ≤ i ∧ i ≤ 30 ∧ i ≤ l.length ∧ Live wr b lb mb (12 * 64) 12 L N (-1) gb at' sn N s ∧ Touch (fun _ => False) w wr) (fun _ _ i _ => l.length - (intOf i).toNat)
  case atStart => exact ⟨0, 0, ⟨#[]⟩, _, rfl, rfl, rfl, by omega, by omega, by omega, HV2.out, HT2.out⟩
  case round =>
    obtain ⟨i, N, s, L, rfl, rfl, rfl, hNi, hi30, hil, hV, hT⟩ := hrel
    have HV := Lib.hid hV
    have HT := Lib.hid hT
    clear hV hT
    by_cases hlt : i < l.length ∧ i < 30
    · obtain ⟨hlt, hlt30⟩ := hlt
      have hI1 : (i : Int) < (l.length : Int) := by omega
      have hI2 : (i : Int) < 30 := by omega
      go_upto_region 12 with fail
      obtain ⟨x, hx⟩ : ∃ x, l[i]? = some x := ⟨_, List.getElem?_eq_getElem (by omega)⟩
      obtain ⟨g, off, cap', hga, _, _, _, hcell⟩ := (HL.out.still HT.out).addr (by rw [List.length_map]; omega)
      injection hga with hga hq1 hq2
      clear hq1 hq2
      subst hga
      have hxs : x.size ≤ 9223372036854775807 := HSZ.out x (List.mem_of_getElem? hx)
      have p0 : wr.cell? ⟨g, off + i, none⟩ = some (.string x) := hcell i _ (by rw [List.getElem?_map, hx]; rfl)
      obtain ⟨k, hk⟩ : ∃ k, k = min x.size 50 := ⟨_, rfl⟩
      obtain ⟨S, hS⟩ : ∃ S, x.extract 0 k = S := ⟨_, rfl⟩
      have hS50 : S.size ≤ 50 := by rw [← hS]; simp; omega
      have hk1 : min (x.size : Int) 50 = (k : Int) := by omega
      have hk3 : (if (50 : Int) < (x.size : Int) then (50 : Int) else (x.size : Int)) = (k : Int) := by split <;> omega
      have hk2 : (k : Int) ≤ (x.size : Int) := by omega
      have hk0 : (0 : Int) ≤ (k : Int) := by omega
      clear hk hcell hx
      go_quiet (fail)
      clear hk1 hk2 hk3 hk0 hS p0 hxs
      have hiw : IntKind.i64.wrap ((i : Int) + 1) = (i : Int) + 1 := IntWalk.i64_in _ (by omega)
      by_cases hlong : 23 < S.size
      · have hlI : (23 : Int) < (S.size : Int) := by omega
        go_wp2_with (go_at_call 32; refine (put_long (HV.out.still ((Touch.refl _ wr).drewN _)).log S hlong).mono ?_; rintro e wb ⟨rfl, rfl⟩)
        go_roundw
        case rel => exact ⟨i + 1, N, s, L, rfl, rfl, by go_num, by omega, by omega, by omega, HV.out.still ((Touch.refl _ wr).drewN _), HT.out.drewN _⟩
        case measure => simp [intOf]; omega
      · have hlI : ¬ (23 : Int) < (S.size : Int) := by omega
        have HS23 : Hid (S.size ≤ 23) := Lib.hid (by omega)
        clear hlong hS50
        go_wp2_with fail
        refine (lput_calls (HV.out.still ((Touch.refl _ wr).drewN _)) hs2 hfit S HS23.out (by omega) (by omega)).mono ?_
        rintro e wb ⟨hTb, hout⟩
        have HTb : Hid (Touch (fun _ => False) w wb) := Lib.hid ((HT.out.drewN _).trans' hTb (fun i hi => .inr (HNN.out i hi)))
        clear hTb
        rcases hout with ⟨_, _, rfl, L', hsec, hVb⟩ | ⟨hff, _⟩
        · have HVb := Lib.hid hVb
          clear hVb
          obtain ⟨M, hM⟩ : ∃ M : Nat, N + 1 = M := ⟨_, rfl⟩
          obtain ⟨q, hq⟩ : ∃ q : Nat, (N + 1) % sn = q := ⟨_, rfl⟩
          have hql : q < sn := by rw [← hq]; exact Nat.mod_lt _ (by omega)
          obtain ⟨p, hp⟩ : ∃ p : Nat, at' + q = p := ⟨_, rfl⟩
          have hMw : IntKind.u64.wrap ((N : Int) + 1) = (M : Int) := by rw [IntKind.wrap_u64]; omega
          have hMI : (N : Int) + 1 = (M : Int) := by omega
          have hmod : (M : Int).tmod (sn : Int) = (q : Int) := by rw [← hq, hM]; exact Int.ofNat_tmod M sn
          have hws : IntKind.u64.wrap (sn : Int) = (sn : Int) := by rw [IntKind.wrap_u64]; omega
          have hwq : IntKind.i64.wrap (q : Int) = (q : Int) := IntWalk.i64_in _ (by omega)
          have hpI : (at' : Int) + (q : Int) = (p : Int) := by omega
          have hpw : IntKind.i64.wrap ((at' : Int) + (q : Int)) = (p : Int) := by rw [hpI]; exact IntWalk.i64_in _ (by omega)
          have hp12 : p < 12 := by omega
          have hsn0 : ¬ ((sn : Int) = 0) := by omega
          rw [hq, hp, hM] at hsec
          rw [hM, burn_none'] at HVb
          have hrd := read_ok HVb.out.disk p hp12
          have hse : readS L' [] p = slotS M S := ba_ext (by rw [readS_list, hsec]; rfl)
          rw [hse] at hrd
          have HMN := Lib.hid hM
          have HREF : Hid (∀ W, Calls Try.prog 33 #[.int .u64 M, .string S] W fun e w' => e = .returned (.string (slotS M S)) ∧ Touch (fun _ => False) W w') := Lib.hid (fun W => refslot_calls M S W (by omega) (by omega) HS23.out)
          clear hsec hse hM hp hq
          generalize slotS M S = SS at hrd HREF
          go_wp2_with fail
          refine hrd.mono ?_
          rintro e wc ⟨rfl, hTc⟩
          go_wp2_with fail
          refine (HREF.out wc).mono ?_
          rintro e wd ⟨rfl, hTd⟩
          have HVd := Lib.hid (HVb.out.still (hTc.trans hTd))
          have HTd := Lib.hid ((HTb.out.trans hTc).trans hTd)
          clear hTc hTd hrd hMw hMI hmod hws hwq hpI hpw
          go_wp2_with fail
          refine (lopen_calls HVd.out.disk at' sn hs2 hfit (by have := HMN.out; omega) HVd.out.secs).mono ?_
          rintro e we ⟨gb2, rfl, hVe, _, hTe⟩
          have HVe := Lib.hid hVe
          have HVd2 := Lib.hid (HVd.out.still hTe)
          have HTe := Lib.hid (HTd.out.trans hTe)
          clear hVe hTe
          go_wp2_with fail
          refine (note_calls HVe.out.log).mono ?_
          rintro e wf ⟨rfl, hTf⟩
          have HVf := Lib.hid (HVd2.out.still hTf)
          have HTf := Lib.hid (HTe.out.trans hTf)
          clear hTf
          go_wp2_with fail
          refine (note_calls HVf.out.log).mono ?_
          rintro e wg ⟨rfl, hTg⟩
          have HVg := Lib.hid (HVf.out.still hTg)
          have HTg := Lib.hid (HTf.out.trans hTg)
          clear hTg
          go_wp2_with fail
          go_roundw
          case rel => exact ⟨i + 1, M, S, L', rfl, rfl, by go_num, by have := HMN.out; omega, by omega, by omega, HVg.out, HTg.out⟩
          case measure => simp [intOf]; omega
        · omega
    · have hcase : ¬ ((i : Int) < (l.length : Int)) ∨ ((i : Int) < (l.length : Int) ∧ ¬ ((i : Int) < 30)) := by omega
      rcases hcase with hA | ⟨hA, hA2⟩
      all_goals
        go_wp2_with fail
        go_ret
        exact ⟨rfl, HT.out⟩

end Go.Proofs.Ytpgjheckdblggaa

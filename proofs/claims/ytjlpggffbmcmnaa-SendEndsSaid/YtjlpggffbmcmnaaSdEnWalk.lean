/- The statement SendEnds over the translated program. -/
import Derived.Test.YtjlpggffbmcmnaaSdEnA
import Derived.Test.YtjlpggffbmcmnaaNmOpen
import Derived.Deep.Cut
import Derived.Deep.CutBlock
namespace Go.Proofs.Ytjlpggffbmcmnaa
open Go Go.RowKit Go.Maps Go.MapKept Go.ChangeMaps
set_option maxRecDepth 100000

theorem e_mask (k : Nat) (hk : k ≤ 62) (m : Int) (hm : m = 2 ^ k - 1) (n : Int) : bits .and .i64 n m = n % 2 ^ k := by
  have h62 : 2 ^ k ≤ 2 ^ 62 := Nat.pow_le_pow_right (by decide) hk
  have hpos : 0 < 2 ^ k := Nat.pow_pos (by decide)
  have hm' : m = ((2 ^ k - 1 : Nat) : Int) := by
    rw [hm]
    have : ((2 : Int) ^ k) = ((2 ^ k : Nat) : Int) := by norm_cast
    rw [this]; omega
  have hkk : (BitVec.ofInt 64 m).toNat = 2 ^ k - 1 := by rw [hm', BitVec.toNat_ofInt]; omega
  have key : (BitVec.ofInt 64 n &&& BitVec.ofInt 64 m).toNat = (n % ((2 ^ 64 : Nat) : Int)).toNat % 2 ^ k := by
    rw [BitVec.toNat_and, BitVec.toNat_ofInt, hkk, Nat.and_two_pow_sub_one_eq_mod]
  show IntKind.i64.wrap ((BitVec.ofInt 64 n &&& BitVec.ofInt 64 m).toNat : Nat) = n % 2 ^ k
  have hd : ((2 ^ k : Nat) : Int) ∣ ((2 ^ 64 : Nat) : Int) := Int.natCast_dvd_natCast.2 (Nat.pow_dvd_pow 2 (by omega))
  have hlt : (n % ((2 ^ 64 : Nat) : Int)).toNat % 2 ^ k < 2 ^ k := Nat.mod_lt _ hpos
  have e : (((n % ((2 ^ 64 : Nat) : Int)).toNat % 2 ^ k : Nat) : Int) = n % ((2 ^ k : Nat) : Int) := by
    rw [Int.natCast_emod, Int.toNat_of_nonneg (Int.emod_nonneg _ (by decide)), Int.emod_emod_of_dvd _ hd]
  rw [key, IntWalk.i64_in _ (by omega), e]
  norm_cast
theorem foldL (z : Int) (L : Nat) (hL : 0 < L) : ∃ (r : Int) (c : Nat), z.tmod (L : Int) = r ∧ -(L : Int) < r ∧ r < (L : Int) ∧ (r + (L : Int)).tmod (L : Int) = c ∧ (r + (L : Int)) % (L : Int) = c ∧ c < L := by
  have h1 := Int.tmod_lt_of_pos z (show (0 : Int) < (L : Int) by omega)
  have h2 := Int.lt_tmod_of_pos z (show (0 : Int) < (L : Int) by omega)
  have h3 := Int.emod_nonneg (z.tmod (L : Int) + (L : Int)) (show (L : Int) ≠ 0 by omega)
  have h4 := Int.emod_lt_of_pos (z.tmod (L : Int) + (L : Int)) (show (0 : Int) < (L : Int) by omega)
  refine ⟨z.tmod L, ((z.tmod L + L) % L).toNat, rfl, h2, h1, ?_, by omega, by omega⟩
  rw [Int.tmod_eq_emod_of_nonneg (by omega)]; omega
theorem e_new {w w' : World} (h : Touch (fun j => w.heap.size ≤ j) w w') : Touch (fun _ => False) w w' :=
  ⟨h.os, h.tape, h.output, h.size, fun k hk _ => h.block k hk (by omega)⟩

set_option maxHeartbeats 4000000 in
theorem sends_calls (f : Nat) (x0 x1 : Int) (xs : List Int) (v : Value) (w : World) (hf : f < 4294967296) (hr : Reads w v (xs.map (Value.int .i64))) (hwf : ∀ x ∈ xs, -9223372036854775808 ≤ x ∧ x ≤ 9223372036854775807) :
    Calls Try.prog 7 #[.int .u32 (f : Nat), .agg #[.int .i64 x0, .int .i64 x1], v] w fun e w' => e = .returned (.bool true) ∧ Touch (fun _ => False) w w' := by
  obtain ⟨ar, cap, hve, hc1, hc2⟩ := hr.form
  unfold maxLen at hc2
  rw [List.length_map] at hve hc1
  subst hve
  have HR := Lib.hid hr
  have HWF := Lib.hid hwf
  clear hr hwf
  obtain ⟨cnt, hcnt⟩ : ∃ r : Nat, x0 % 64 = (r : Int) := ⟨(x0 % 64).toNat, by omega⟩
  obtain ⟨z, hz⟩ : ∃ r : Nat, x1 % 32 = (r : Int) := ⟨(x1 % 32).toNat, by omega⟩
  have hand1 : bits .and .i64 x0 63 = (cnt : Int) := by rw [e_mask 6 (by omega) 63 (by decide) x0, ← hcnt]; rfl
  have hand2 : bits .and .i64 x1 31 = (z : Int) := by rw [e_mask 5 (by omega) 31 (by decide) x1, ← hz]; rfl
  have hcl : cnt ≤ 63 := by omega
  have hzl : z ≤ 31 := by omega
  obtain ⟨sz, hsz⟩ : ∃ sz, sz = z + 1 := ⟨_, rfl⟩
  clear hcnt hz
  go_enter Try.func7, Try.ntmps7
  go_wp2_with fail
  refine (speaks24_calls _).mono ?_
  rintro e w1 ⟨rfl, hT1⟩
  have hlt1 : w.heap.size < w1.heap.size := by have := hT1.size; rw [alloc_size] at this; omega
  have b0 : w1.cell? ⟨w.heap.size, 0, none⟩ = some (.int .i64 x0) := hT1.cell (by simp) id
  have b1 : w1.cell? ⟨w.heap.size, 1, none⟩ = some (.int .i64 x1) := hT1.cell (by simp) id
  have HT1 := Lib.hid (((Touch.refl (fun _ => False) w).alloc _).trans hT1)
  clear hT1
  go_upto_region 3 with fail
  go_quiet (fail)
  go_upto_region 4 with fail
  have hs1 : (z : Int) + 1 = (sz : Int) := by omega
  have hs2 : (1 : Int) + (z : Int) = (sz : Int) := by omega
  first | simp only [hs2] | simp only [hs1]
  have hsz1 : 1 ≤ sz := by omega
  have hsz2 : sz ≤ 32 := by omega
  have hT2 : Touch (fun _ => False) w (w1.drewN nq) := HT1.out.drewN nq
  generalize w1.drewN nq = w2 at *
  have HT2 := Lib.hid hT2
  clear hs1 hs2 hT2 hand1 hand2 hzl hsz b0 b1 hlt1 HT1
  have hmm := @run_makeMap Try.prog
  go_wp2_with fail
  refine (wnew_calls f cnt sz hf (by omega) hsz1 hsz2 w2).mono ?_
  rintro e w3 ⟨p, mb, rfl, h3, hpm, hT3⟩
  have HP0 : Hid (w.heap.size ≤ p ∧ w.heap.size ≤ mb ∧ p < w3.heap.size ∧ mb < w3.heap.size ∧ p ≠ mb) := Lib.hid ⟨Nat.le_trans HT2.out.size hpm.1, Nat.le_trans HT2.out.size hpm.2, h3.lt.1, h3.lt.2, h3.ne⟩
  have H3 := Lib.hid h3
  have HT3 := Lib.hid (HT2.out.trans hT3)
  clear h3 hpm hT3
  go_upto_region 6 with fail
  obtain ⟨me, hme⟩ : ∃ m, m = w3.heap.size := ⟨_, rfl⟩
  rw [← hme]
  generalize hw4 : w3.alloc _ = w4
  have hE4 : EndMap w4 me 0 f 0 := by rw [← hw4, hme]; exact EndMap.made w3 f
  have hT4 : Touch (fun _ => False) w3 w4 := by rw [← hw4]; exact (Touch.refl _ _).alloc _
  have HE4 := Lib.hid hE4
  have HW4 := Lib.hid (H3.out.still hT4)
  have HT4 := Lib.hid (HT3.out.trans hT4)
  have HPM : Hid (w.heap.size ≤ p ∧ w.heap.size ≤ mb ∧ w.heap.size ≤ me ∧ p ≠ mb ∧ p ≠ me ∧ mb ≠ me) := Lib.hid ⟨HP0.out.1, HP0.out.2.1, by rw [hme]; exact HT3.out.size, HP0.out.2.2.2.2, by have := HP0.out; omega, by have := HP0.out; omega⟩
  clear hE4 hT4 hw4 hme hmm H3 HT3 HP0 HT2
  go_wp2_with fail
  go_loopw [12] (fun iv wr => ∃ (i n b s : Nat) (A : Nat → Bool), iv = .int .i64 (i : Nat) ∧ i ≤ 2 * b + cN A b (s - b) ∧ n ≤ 32 * i ∧ RowKit.Hid (WinAt wr p mb n f cnt sz b s A) ∧ RowKit.Hid (EndMap wr me s f s) ∧ RowKit.Hid (Touch (fun j => w.heap.size ≤ j) w wr)) (fun iv _ => 200 - (intOf iv).toNat)
  case atStart => exact ⟨0, 0, 0, 0, fun _ => false, rfl, Nat.zero_le _, Nat.le_refl _, HW4, HE4, Lib.hid (HT4.out.mono (fun _ e => e.elim))⟩
  case round =>
    clear HW4 HE4 HT4
    obtain ⟨i, n, b, s, A, rfl, hip, hn, HW, HE, HT⟩ := hrel
    have hbs := HW.out.bs
    have hsc := HW.out.sc
    have hss := HW.out.ss
    have hcb := cN_le A b (s - b)
    have HAA := Lib.hid HW.out.hA
    have hi126 : i ≤ 126 := by omega
    have hi200 : (i : Int) < 200 := by omega
    by_cases hbc : b = cnt
    · have hbd : decide (b = cnt) = true := decide_eq_true hbc
      have HDN := Lib.hid (wdone_calls HW.out)
      rw [hbd] at HDN
      have hsb : s = cnt := by omega
      obtain ⟨D, hown, hhas, hone, hsz⟩ := HE.out
      have HONE := Lib.hid hone
      have HSZ := Lib.hid hsz
      clear hhas hone hsz hbd hip hcb
      go_wp2_with fail
      refine HDN.out.mono ?_
      rintro e w' ⟨rfl, rfl⟩
      go_wp2_with (at_range; refine wpList_range_own _ rfl _ 59 rfl 35 3 Try.keyedU Try.underlying59 _ me s D rfl hown ?_; intro w8 hrg8 hg8 hs8)
      obtain ⟨rr, hrr⟩ : ∃ r, r = wr.heap.size := ⟨_, rfl⟩
      rw [← hrr] at hrg8 ⊢
      have hT8 : Touch (fun _ => False) wr w8 := (Touch.refl _ wr).grown hg8 (fun k hk => by cases hk)
      have HW8 := Lib.hid (HW.out.still hT8)
      have HT8 := Lib.hid (HT.out.trans (hT8.mono (fun _ e => e.elim)))
      have HRN : Hid (rr ≠ p ∧ rr ≠ mb ∧ w.heap.size ≤ rr) := Lib.hid ⟨by have := HW.out.lt; omega, by have := HW.out.lt; omega, by rw [hrr]; exact HT.out.size⟩
      have HRG8 := Lib.hid hrg8
      clear hT8 hg8 hs8 hrg8 hrr hown HE HT HW
      go_frame
      go_loopw [19] (fun _ wy => ∃ (left : Lit → Bool) (c : Nat), wy.ranges Try.prog 35 rdI me rr s D left c ∧ RowKit.Hid (∀ kl, left kl = true → Maps.has D kl = true) ∧ RowKit.Hid (Touch (fun j => j = rr) w8 wy)) (fun _ wy => wy.rangeLeft me rr)
      case atStart => exact ⟨_, _, HRG8.out, Lib.hid (fun _ h => h), Lib.hid (Touch.refl _ _)⟩
      case round =>
        obtain ⟨left, c, hrg, HLF, HTy⟩ := hrel
        have hown2 := hrg.owns
        have hlen : ∀ ty, (Builtin.len_ #[59] ty #[.map (some me)]).run Try.prog wr = .ok (.int .i64 (Maps.size D)) wr := fun ty => hown2.len Try.underlying59 ty
        rw [HSZ.out] at hlen
        have HRG := Lib.hid hrg
        have HWy := Lib.hid (HW8.out.kept HTy.out (fun h => HRN.out.1 h.symm) (fun h => HRN.out.2.1 h.symm))
        have HTz := Lib.hid (HT8.out.trans (HTy.out.mono (fun j h => by have := HRN.out; omega)))
        clear hown2
        rw [hsb] at hlen
        have hnum : ((f : Int) + (cnt : Int)) % 4294967296 = ((numU f cnt : Nat) : Int) := by unfold numU; omega
        go_wp2_with (at_next; refine wpList_next_ranges _ rfl _ rfl 35 Try.keyedU rdI (Value.int .u32) (fun q : IntKind × Int => Value.int q.1 q.2) (fun key kl hkey => by obtain ⟨x, rfl, _⟩ := Maps.keyOf_int_inv Try.underlying35 hkey; exact ⟨x, rfl⟩) (fun v y hv => by obtain ⟨k, m, rfl, _⟩ := rdI_inv hv; exact ⟨(k, m), rfl⟩) me rr s D left c rfl HRG.out ?_ ?_)
        · intro _ _
          have hbd2 : decide (b = cnt) = true := decide_eq_true hbc
          have hdn := wdone_calls HWy.out
          rw [hbd2] at hdn
          have HDN2 := Lib.hid hdn
          have HNB : Hid (numU f b = numU f cnt) := Lib.hid (by rw [hbc])
          have HOL : Hid ((openK f b A (s - b)).length = 0) := Lib.hid (by have := openK_le f b A (s - b); omega)
          have HFL : Hid (min (b + sz) cnt - s = 0) := Lib.hid (by omega)
          clear hdn hbd2 HDN
          go_wp2_with fail
          refine HDN2.out.mono ?_
          rintro e w' ⟨rfl, rfl⟩
          go_wp2_with fail
          refine (wopen_calls HWy.out).mono ?_
          rintro e wa ⟨ro, rfl, hro, _, hTa⟩
          obtain ⟨ao, co, rfl, _, _⟩ := row_u32 hro
          rw [HOL.out]
          have HWa := Lib.hid (HWy.out.still hTa)
          have HTa := Lib.hid (HTz.out.trans (hTa.mono (fun _ h => h.elim)))
          clear hro hTa hlen
          go_wp2_with fail
          refine (wfresh_calls HWa.out).mono ?_
          rintro e wb ⟨rf, rfl, hrf, _, hwf, hTb⟩
          obtain ⟨af, cf, rfl, _, _⟩ := row_u32 hrf
          rw [numsL_len, HFL.out]
          have HWb := Lib.hid hwf
          have HTb := Lib.hid (HTa.out.trans (hTb.mono (fun j h => by have := HPM.out; omega)))
          clear hrf hwf hTb
          go_wp2_with fail
          refine (wbase_calls HWb.out).mono ?_
          rintro e w' ⟨rfl, rfl⟩
          rw [HNB.out]
          go_wp2_with fail
          go_ret
          exact ⟨rfl, e_new HTb.out⟩
        · intro x ik m kl y ps w' cnt' hkey hleft hR hat hrg' hlt hgr hsz' hen
          have hh := HLF.out kl hleft
          have h1 := HONE.out kl (.lit (.int .i64 0)) hh
          have h2 := hat (.lit (.int .i64 0))
          rw [h1] at h2
          unfold rdI at hR
          injection hR with hR
          injection hR with hy _
          rw [← hy] at h2
          injection h2 with h2
          injection h2 with e1 e2
          subst e1
          subst e2
          have HRG' := Lib.hid hrg'
          have HTn := Lib.hid (HTy.out.trans ((Touch.refl (fun j => j = rr) wr).grown hgr (fun k hk => Or.inl (Option.some.inj hk).symm)))
          have HLN := Lib.hid hlt
          clear hkey hleft hat hh h1 hy hrg' hgr hsz' hlen hlt
          go_wp2_with fail
          go_roundw
          case rel => exact ⟨fun z => left z && !z.sameKey kl, cnt', by rw [hsb]; exact HRG'.out, Lib.hid (fun kl' h => HLF.out kl' (by have h' : (left kl' && !kl'.sameKey kl) = true := h; rw [Bool.and_eq_true] at h'; exact h'.1)), HTn⟩
          case measure => rw [HRG'.out.left_eq, HRG.out.left_eq]; exact HLN.out
    · have hbd : decide (b = cnt) = false := decide_eq_false hbc
      have HDN := Lib.hid (wdone_calls HW.out)
      rw [hbd] at HDN
      go_wp2_with fail
      refine HDN.out.mono ?_
      rintro e w' ⟨rfl, rfl⟩
      go_wp2_with fail
      refine (wfresh_calls HW.out).mono ?_
      rintro e w5 ⟨rv, rfl, hrow, hnew, hwin, hT5⟩
      obtain ⟨T, hTe⟩ : ∃ T, T = min (b + sz) cnt := ⟨_, rfl⟩
      rw [← hTe] at hrow hwin
      have hTb : b < T := by omega
      have hTs : s ≤ T := by omega
      have hTc : T ≤ cnt := by omega
      have hTz : T ≤ b + sz := by omega
      obtain ⟨a5, cap5, rfl, hl5, hl5'⟩ := row_u32 hrow
      rw [numsL_len] at hl5 hrow hnew ⊢
      obtain ⟨m, hm⟩ : ∃ m, m = T - s := ⟨_, rfl⟩
      rw [← hm] at hrow hnew hl5 ⊢
      have hm32 : m ≤ 32 := by omega
      have HM := Lib.hid hm
      have HROW := Lib.hid (⟨hrow, hnew⟩ : _ ∧ _)
      have HW5 := Lib.hid hwin
      have HE5 := Lib.hid (HE.out.kept hT5 (fun e => HPM.out.2.2.2.2.1 e.symm))
      have HT5 := Lib.hid (HT.out.trans (hT5.mono (fun j e => by have := HPM.out; omega)))
      have HLT5 : Hid (me < wr.heap.size) := Lib.hid HE.out.lt
      clear hrow hnew hwin hT5 hm hTe hbd HDN
      unfold maxLen at hl5'
      go_wp2_with fail
      go_loopw [49] (fun jv wy => ∃ j : Nat, j ≤ m ∧ jv = .int .i64 (j : Nat) ∧ RowKit.Hid (EndMap wy me (s + j) f (s + j)) ∧ RowKit.Hid (Touch (fun k => k = me) w5 wy)) (fun jv _ => m - (intOf jv).toNat)
      case atStart => exact ⟨0, Nat.zero_le _, rfl, HE5, Lib.hid (Touch.refl _ _)⟩
      case round =>
        obtain ⟨j, hj, rfl, HEj, HTj⟩ := hrel
        by_cases hjm : j < m
        · have hjI : (j : Int) < (m : Int) := by omega
          have hrj := HROW.out.1.kept HTj.out (fun g hg e => by have := HROW.out.2 g hg; have := HLT5.out; omega)
          obtain ⟨g, off, capg, hv, _, hg, hcell⟩ := row_u32_at hrj (by rw [numsL_len]; omega)
          rw [numsL_len] at hv
          injection hv with e1 _ _
          subst e1
          have hx := hcell j (numU f (s + j)) (by simp [numsL, hjm])
          obtain ⟨hlook, w6, hrun, hE6, hg6⟩ := HEj.out.put (by omega) (by unfold maxLen; omega)
          have hT6 : Touch (fun k => k = me) wr w6 := (Touch.refl (fun k => k = me) wr).grown hg6 (fun k hk => Or.inl (Option.some.inj hk).symm)
          have HE6 := Lib.hid hE6
          have HT6 := Lib.hid (HTj.out.trans hT6)
          clear hcell hrj hE6 hg6 hT6
          go_wp2_with fail
          go_roundw
          case rel => exact ⟨j + 1, by omega, by go_num, HE6, HT6⟩
          case measure => simp [intOf]; omega
        · have hjm' : j = m := by omega
          have hjI : ¬ (j : Int) < (m : Int) := by omega
          have hsT : s + j = T := by have := HM.out; omega
          have hEz := HEj.out
          rw [hsT] at hEz
          have HEz := Lib.hid hEz
          have HWz := Lib.hid (HW5.out.kept HTj.out HPM.out.2.2.2.2.1 HPM.out.2.2.2.2.2)
          have HTz := Lib.hid (HT5.out.trans (HTj.out.mono (fun k e => by have := HPM.out; omega)))
          clear hEz HEj HW5 HE5 HT5 HROW HTj HE HW HT
          have hAb : A b = false := by
            cases e : A b
            · rfl
            · have := HWz.out.hA _ e; omega
          go_wp2_with fail
          refine (wopen_calls HWz.out).mono ?_
          rintro e w7 ⟨ro, rfl, hro, hno, hT7⟩
          obtain ⟨L, hL⟩ : ∃ L, L = (openK f b A (T - b)).length := ⟨_, rfl⟩
          have hL1 : 0 < L := by
            rw [hL, show T - b = T - b - 1 + 1 by omega]
            exact openK_pos f b A _ hAb
          have hL2 : L ≤ T - b := by rw [hL]; exact openK_le f b A _
          obtain ⟨a7, cap7, rfl, hl7, hl7'⟩ := row_u32 hro
          rw [← hL] at hl7 ⊢
          have HL := Lib.hid hL
          have HRO := Lib.hid hro
          have HW7 := Lib.hid (HWz.out.still hT7)
          have HE7 := Lib.hid (HEz.out.kept hT7 id)
          have HT7 := Lib.hid (HTz.out.trans (hT7.mono (fun _ e => e.elim)))
          have HAB := Lib.hid hAb
          clear hL hro hno hT7 HWz HEz HTz hAb
          unfold maxLen at hl7'
          have hL0I : ¬ (L : Int) = 0 := by omega
          have hL0B : ((L : Int) == 0) = false := by simp; omega
          have hLzI : ¬ (sz : Int) < (L : Int) := by omega
          go_upto_if 72 with fail
          go_cut [16] from 37 to 108 (fun v16 wx => ∃ kk : Nat, kk < L ∧ v16 = .int .i64 (kk : Nat) ∧ wx = w7)
          case first =>
            by_cases hix : i < xs.length
            · have hixI : (i : Int) < (xs.length : Int) := by omega
              obtain ⟨gx, ox, cx, hv, _, _, _, hcx⟩ := (HR.out.still (e_new HT7.out)).addr (by rw [List.length_map]; omega)
              rw [List.length_map] at hv
              injection hv with e1 _ e3
              subst e1
              obtain rfl : cx = cap := e3.symm
              have hx := hcx i (.int .i64 xs[i]) (by simp [List.getElem?_map, List.getElem?_eq_getElem hix])
              have hxw := HWF.out _ (List.getElem_mem hix)
              obtain ⟨r1, kk, hr1, hr2, hr3, hr4, hr5, hkk⟩ := foldL xs[i] L hL1
              generalize xs[i] = x at hx hxw hr1
              clear hcx
              go_wp2_with fail
              go_meet
              exact ⟨kk, hkk, rfl, rfl⟩
            · have hixI : ¬ (i : Int) < (xs.length : Int) := by omega
              go_wp2_with fail
              go_meet
              exact ⟨0, hL1, rfl, rfl⟩
          case rest =>
            obtain ⟨kk, hkk, rfl, rfl⟩ := hcut
            obtain ⟨e, he, hAe, hget⟩ := openK_at f b A (T - b) kk (by rw [← HL.out]; exact hkk)
            obtain ⟨g7, off7, capg, hv, _, _, hcell⟩ := row_u32_at HRO.out (by rw [← HL.out]; exact hL1)
            rw [← HL.out] at hv
            injection hv with e1 _ _
            subst e1
            have hx := hcell kk _ hget
            have HX := Lib.hid (⟨he, hAe⟩ : _ ∧ _)
            have hkkI : (kk : Int) < (L : Int) := by omega
            clear hcell hget hAe
            by_cases he0 : e = 0
            · have hxe : numU f (b + e) = numU f b := by rw [he0, Nat.add_zero]
              rw [hxe] at hx
              have hnum : ((numU f b : Nat) + 1 : Int) % 4294967296 = ((numU f (b + 1) : Nat) : Int) := by unfold numU; omega
              have hack := wack_calls HW7.out 1 (by omega) 0 (by omega) (by omega)
              have HB := Lib.hid (wbase_calls HW7.out)
              generalize numU f b = nb at *
              generalize numU f (b + 1) = nb1 at *
              have HACK := Lib.hid hack
              clear hack hxe
              go_wp2_with fail
              refine HB.out.mono ?_
              rintro e' w' ⟨rfl, rfl⟩
              go_wp2_with fail
              refine HACK.out.mono ?_
              rintro e' w8 ⟨rfl, hW8, hT8⟩
              have hE8 := HE7.out.kept hT8 (fun h => by have := HPM.out; rcases h with h | h <;> omega)
              have HW8 := Lib.hid hW8
              have HE8 := Lib.hid hE8
              have HT8 := Lib.hid (HT7.out.trans (hT8.mono (fun j h => by have := HPM.out; rcases h with h | h <;> omega)))
              clear hW8 hE8 hT8
              have hprog : i + 1 ≤ 2 * (b + 1) + cN (ackA A (b + 1) T 0 32) (b + 1) (T - (b + 1)) := by
                have h1 := cN_more A b s (T - s) hbs HAA.out
                rw [show s + (T - s) - b = T - b by omega] at h1
                have h2 := cN_first A b T (T - (b + 1)) HAB.out
                rw [show T - (b + 1) + 1 = T - b by omega] at h2
                omega
              go_wp2_with fail
              go_roundw
              case rel => exact ⟨i + 1, n + 32, b + 1, T, _, by go_num, hprog, by omega, HW8, HE8, HT8⟩
              case measure => simp [intOf]; omega
            · have hxne : ((numU f (b + e) : Int) == (numU f b : Int)) = false := by
                rw [beq_eq_false_iff_ne]
                intro h
                have := numU_inj (f := f) (i := b + e) (j := b) (by omega) (by omega) (by omega)
                omega
              have hsub : ((numU f (b + e) : Int) - (numU f b : Int)) % 4294967296 = (e : Int) := by unfold numU; omega
              have HB := Lib.hid (wbase_calls HW7.out)
              have hack := wack_calls HW7.out 0 (by omega) (2 ^ (e - 1)) (Nat.pow_lt_pow_right (by decide) (by omega : e - 1 < 32)) (by omega)
              rw [Nat.add_zero] at hack
              generalize numU f b = nb at *
              generalize numU f (b + e) = ne at *
              have HACK := Lib.hid hack
              clear hack
              go_wp2_with fail
              refine HB.out.mono ?_
              rintro e' w' ⟨rfl, rfl⟩
              go_wp2_with fail
              have hpow : ((2 : Int) ^ (e - 1) % 4294967296) = ((2 ^ (e - 1) : Nat) : Int) := by
                have h1 : 2 ^ (e - 1) < 2 ^ 32 := Nat.pow_lt_pow_right (by decide) (by omega)
                have h2 : (2 : Int) ^ (e - 1) = ((2 ^ (e - 1) : Nat) : Int) := by norm_cast
                rw [h2]
                clear h2
                generalize 2 ^ (e - 1) = pw at h1 ⊢
                omega
              rw [hpow]
              refine HACK.out.mono ?_
              rintro e' w8 ⟨rfl, hW8, hT8⟩
              have hE8 := HE7.out.kept hT8 (fun h => by have := HPM.out; rcases h with h | h <;> omega)
              have HW8 := Lib.hid hW8
              have HE8 := Lib.hid hE8
              have HT8 := Lib.hid (HT7.out.trans (hT8.mono (fun j h => by have := HPM.out; rcases h with h | h <;> omega)))
              clear hW8 hE8 hT8 hpow
              have hprog : i + 1 ≤ 2 * b + cN (ackA A b T (2 ^ (e - 1)) 32) b (T - b) := by
                have h1 := cN_more A b s (T - s) hbs HAA.out
                rw [show s + (T - s) - b = T - b by omega] at h1
                have h2 := cN_set A b T (b + e) (by omega) (by have := HX.out.1; omega) (by omega) HX.out.2 (fun q hq => ⟨(HAA.out q hq).1, by have := (HAA.out q hq).2; omega⟩)
                rw [show b + e - b - 1 = e - 1 by omega] at h2
                omega
              go_wp2_with fail
              go_roundw
              case rel => exact ⟨i + 1, n + 32, b, T, _, by go_num, hprog, by omega, HW8, HE8, HT8⟩
              case measure => simp [intOf]; omega
end Go.Proofs.Ytjlpggffbmcmnaa

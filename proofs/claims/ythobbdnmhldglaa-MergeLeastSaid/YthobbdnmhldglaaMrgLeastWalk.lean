/- The walk of layer 4's statement on many counts. -/
import Derived.Test.YthobbdnmhldglaaMrgM
import Derived.Test.YthobbdnmhldglaaMrgM2
import Derived.Test.YthobbdnmhldglaaMrgT2
import Derived.Deep.CutBlock
import Derived.Deep.DeepCutAuto
namespace Go.Proofs.Ythobbdnmhldglaa
open Go Go.RowKit Go.Shelf
set_option maxRecDepth 100000

theorem i64_and15' (n : Int) : bits .and .i64 n 15 = n % 16 := by
  have hk : (BitVec.ofInt 64 15).toNat = 2 ^ 4 - 1 := by decide
  have key : (BitVec.ofInt 64 n &&& BitVec.ofInt 64 15).toNat = (n % ((2 ^ 64 : Nat) : Int)).toNat % 2 ^ 4 := by
    rw [BitVec.toNat_and, BitVec.toNat_ofInt, hk, Nat.and_two_pow_sub_one_eq_mod]
  show IntKind.i64.wrap ((BitVec.ofInt 64 n &&& BitVec.ofInt 64 15).toNat : Nat) = n % 16
  rw [key, IntKind.wrap_i64]
  omega
theorem i64_and30 (n : Int) : bits .and .i64 n 1073741823 = n % 1073741824 := by
  have hk : (BitVec.ofInt 64 1073741823).toNat = 2 ^ 30 - 1 := by decide
  have key : (BitVec.ofInt 64 n &&& BitVec.ofInt 64 1073741823).toNat = (n % ((2 ^ 64 : Nat) : Int)).toNat % 2 ^ 30 := by
    rw [BitVec.toNat_and, BitVec.toNat_ofInt, hk, Nat.and_two_pow_sub_one_eq_mod]
  show IntKind.i64.wrap ((BitVec.ofInt 64 n &&& BitVec.ofInt 64 1073741823).toNat : Nat) = n % 1073741824
  rw [key, IntKind.wrap_i64]
  omega

theorem reads_cell {w : World} {a : Option Addr} {n cap : Nat} {l : List Nat} (h : Reads w (.slice a n cap) (intVs l)) (k : Nat) (hk : k < l.length) : ∃ g off, a = some ⟨g, off, none⟩ ∧ w.cell? ⟨g, off + k, none⟩ = some (.int .i64 (l.getD k 0 : Nat)) := by
  obtain ⟨g, off, cap', he, _, _, _, hc⟩ := h.addr (by rw [intVs_length]; omega)
  injection he with he _ _
  exact ⟨g, off, he, hc k _ (by simp [intVs, List.getD_eq_getElem?_getD, hk])⟩
theorem new_ok (L : List Nat) (b : Bool) (v : Value) (w : World) (hv : Reads w v (intVs L)) (hy : whyN (L.map Int.ofNat) b = 0) :
    Calls Try.prog 9 #[v, .bool b] w fun e w' => (∃ p, e = .returned (.tuple #[.pointer (some ⟨p, 0, none⟩), .int .i64 0])) ∧ Touch (fun _ => False) w w' := by
  refine (new_calls (L.map Int.ofNat) b v w (by rw [intsV_nat]; exact hv)).mono ?_
  rintro e w' ⟨ht, h | ⟨_, _, p, he, _⟩⟩
  · exact absurd hy h.1
  · exact ⟨⟨p, he⟩, ht⟩
theorem mlen_in (c : List Nat) (N : Nat) (v : Value) (w : World) (hv : Reads w v (intVs c)) (hc : ∀ x ∈ c, x ≤ 1099511627776) (h288 : c.length ≤ 288) (hN1 : 1 ≤ N) (hN2 : N ≤ 15) (hn : (symsM c).length ≤ 2 ^ N) :
    Calls Try.prog 7 #[v, .int .i64 (N : Nat)] w fun e w' => ∃ r, e = .returned (.tuple #[r, .int .i64 0]) ∧ Row w' 3 r (intVs (lensM c N)) ∧ Sep w.heap.size none r.ownBlock ∧ Touch (fun _ => False) w w' := by
  by_cases h1 : (symsM c).length = 1
  · exact mlen_one c N v w hv hc h288 hN1 hN2 h1
  · exact mlen_some c N v w hv hc h288 hN1 hN2 hn h1

set_option maxHeartbeats 4000000 in
theorem mleast_calls (xs : List Int) (most : Int) (v : Value) (w : World) (hv : Reads w v (intsV xs)) :
    Calls Try.prog 3 #[v, .int .i64 most] w fun e w' => e = .returned (.bool true) ∧ Touch (fun _ => False) w w' := by
  obtain ⟨i0, hi, hz0, hz1, hz2⟩ := info_parts Try.info3
  have HV := Lib.hid hv
  obtain ⟨a, cap, hv', hc1, hc2⟩ := hv.form
  subst hv'
  rw [intsV_length] at HV hc1 ⊢
  clear hv
  obtain ⟨m, hm⟩ : ∃ m : Nat, most % 16 = m := ⟨(most % 16).toNat, by omega⟩
  have hand := i64_and15' most
  rw [hm] at hand
  have hm15 : m ≤ 15 := by omega
  clear hm
  obtain ⟨r, hr⟩ : ∃ r : Nat, m % 15 = r := ⟨_, rfl⟩
  have hrm : (m : Int) % 15 = (r : Int) := by omega
  have hrt : (m : Int).tmod 15 = (r : Int) := by rw [Int.tmod_eq_emod_of_nonneg (by omega)]; exact hrm
  have hr6 : r ≤ 14 := by omega
  clear hr
  go_enter Try.func3, Try.ntmps3
  go_upto_region 3 with (go_at_call 6; refine (speaks4_calls _).mono ?_; rintro e w1 ⟨rfl, ht1⟩)
  go_cut [0] (fun v0 wx => (∃ ys : List Int, ys.length ≤ 24 ∧ Row wx 3 v0 (intsV ys)) ∧ Sep w.heap.size none v0.ownBlock ∧ Touch (fun _ => False) w wx)
  case first =>
    have hone : ∀ l : List Int, ∀ u ∈ intsV l, u.oneCell' = true := by
      intro l u hu
      obtain ⟨x, _, rfl⟩ := List.mem_map.1 hu
      rfl
    have hsrc : ∀ q, q ≤ xs.length → ∀ W, Touch (fun _ => False) w W → Src Try.prog 1 22 (.slice a q cap) q (intsV (xs.take q)) W := fun q hq W hW => by
      have h1 := ((HV.out.upto hq).still hW).src (P := Try.prog) (tx := 22) Try.underlying22 (fun u hu => by
        rw [show (intsV xs).take q = intsV (xs.take q) by simp [intsV, List.map_take]] at hu
        exact hone _ u hu)
      rw [show (intsV xs).take q = intsV (xs.take q) by simp [intsV, List.map_take], intsV_length, List.length_take, Nat.min_eq_left hq] at h1
      exact h1
    have HSRC := Lib.hid hsrc
    clear hone hsrc
    have h0w := ht1.size
    obtain ⟨q, hq⟩ : ∃ q : Nat, q = min xs.length 24 := ⟨_, rfl⟩
    have hmin : min (xs.length : Int) 24 = (q : Int) := by omega
    have hq1 : q ≤ xs.length := by omega
    have hq2 : q ≤ 24 := by omega
    have hqc : (q : Int) ≤ (cap : Int) := by omega
    have HSQ := Lib.hid (HSRC.out q hq1)
    clear hq HSRC
    have hql : (xs.take q).length = q := by rw [List.length_take]; omega
    generalize xs.take q = ys at HSQ hql
    have HQL := Lib.hid hql
    clear hql
    go_wp2_with (at_builtin; refine wpList_append_row _ rfl (.tmp 15) (.tmp 20) 22 22 rfl 3 i0 _ 8 Try.underlying22 hi hz0 hz1 hz2 rfl (.slice (some ⟨w1.heap.size, 0, none⟩) 0 0) [] rfl (by exact .inr ⟨_, 0, 0, #[], rfl, heap_alloc_new w1 _, Nat.le_refl _, Nat.zero_le _, Nat.le_refl _, rfl⟩) (.slice a q cap) rfl q (intsV ys) (by exact HSQ.out _ (ht1.alloc _)) (by unfold maxLen; simp; omega) (by simp; omega) ?_; intro v2 w2 hrow2 hgrow hown2)
    go_meet
    refine ⟨⟨ys, by rw [HQL.out]; exact hq2, by simpa using hrow2⟩, ?_, (ht1.alloc _).grown hgrow (fun k hk => ?_)⟩
    · rcases hown2 with h | h
      · exact .inr ⟨w1.heap.size, h, h0w⟩
      · exact .inr ⟨_, h, by simp; omega⟩
    · simp [Value.ownBlock] at hk
      right; omega
  case rest =>
    obtain ⟨⟨ys, hy24, hrow⟩, hsep, hT⟩ := hcut
    obtain ⟨wy, rfl⟩ : ∃ x, x = wc := ⟨wc, rfl⟩
    obtain ⟨va, vcap, hve, hvc, hvm⟩ := hrow.form
    rw [intsV_length] at hve hvc
    subst hve
    have hfr : ∀ g, (Value.slice va ys.length vcap).ownBlock = some g → w.heap.size ≤ g := fun g hg => by
      rcases hsep with h | ⟨g', h, hg'⟩
      · rw [h] at hg; cases hg
      · rw [h] at hg
        have := Option.some.inj hg
        omega
    have HFR := Lib.hid hfr
    have HROW := Lib.hid hrow
    have HT := Lib.hid hT
    clear hfr hsep hrow hT ht1 HV
    go_upto_block 0 with fail
    go_cut [5] (fun _ wx => (∃ c : List Nat, c.length = ys.length ∧ (∀ x ∈ c, x ≤ 1073741824) ∧ Row wx 3 (.slice va ys.length vcap) (intVs c)) ∧ Touch (fun _ => False) w wx)
    case first =>
      go_wp2_with fail
      go_loopw [5] (fun iv wr => ∃ (k : Nat) (zs : List Int), k ≤ ys.length ∧ iv = .int .i64 (k : Nat) ∧ zs.length = ys.length ∧ (∀ j x, zs[j]? = some x → j < k → 0 ≤ x ∧ x ≤ 1073741824) ∧ Row wr 3 (.slice va ys.length vcap) (intsV zs) ∧ Touch (fun _ => False) w wr) (fun iv _ => ys.length - (intOf iv).toNat)
      case atStart => exact ⟨0, ys, Nat.zero_le _, rfl, rfl, fun j x _ h => absurd h (Nat.not_lt_zero _), HROW.out, HT.out⟩
      case round =>
        obtain ⟨k, zs, hk, rfl, hzl, hzb, hrw, htw⟩ := hrel
        have hk0 : (0 : Int) ≤ (k : Int) := by omega
        by_cases hlt : k < ys.length
        · have hk1 : (k : Int) < (ys.length : Int) := by omega
          obtain ⟨g, off, cap', he, _, hg, hcs⟩ := hrw.addr (by rw [intsV_length]; omega)
          rw [intsV_length, hzl] at he
          injection he with he _ he2
          subst he
          obtain ⟨z, hz⟩ : ∃ z, zs[k]? = some z := ⟨_, List.getElem?_eq_getElem (by omega)⟩
          have hcell := hcs k (.int .i64 z) (by simp [intsV, hz])
          have hfre := hrw.free (k := k)
          obtain ⟨y, hy⟩ : ∃ y : Nat, z % 1073741824 = y := ⟨(z % 1073741824).toNat, by omega⟩
          have hand30 := i64_and30 z
          rw [hy] at hand30
          have hnew := hrw.set (k := k) hlt (.int .i64 (y : Nat))
          have hse : (intsV zs).set k (.int .i64 (y : Nat)) = intsV (zs.set k (y : Int)) := by simp [intsV, List.map_set]
          rw [hse] at hnew
          have HNEW := Lib.hid hnew
          have HZ2 : RowKit.Hid (∀ j x, (zs.set k (y : Int))[j]? = some x → j < k + 1 → 0 ≤ x ∧ x ≤ 1073741824) := Lib.hid (fun j x hx hj => by
            rw [List.getElem?_set] at hx
            split at hx
            · split at hx
              · have := Option.some.inj hx
                omega
              · cases hx
            · exact hzb j x hx (by omega))
          have HZL := Lib.hid (show (zs.set k (y : Int)).length = ys.length by rw [List.length_set, hzl])
          have HTW := Lib.hid (htw.setCell (p := ⟨g, off + k, none⟩) (.inr (HFR.out g rfl)) (.int .i64 (y : Nat)))
          clear hnew hse hzb hrw htw hcs hy hzl hz he2
          go_wp2_with fail
          go_roundw
          case rel => exact ⟨k + 1, _, by omega, by go_num, HZL.out, HZ2.out, HNEW.out, HTW.out⟩
          case measure => simp [intOf]; omega
        · obtain rfl : k = ys.length := by omega
          have hzb2 : ∀ x ∈ zs, 0 ≤ x ∧ x ≤ 1073741824 := fun x hx => by
            obtain ⟨j, hj, rfl⟩ := List.getElem_of_mem hx
            exact hzb j _ (List.getElem?_eq_getElem hj) (by omega)
          have hmap : intsV zs = intVs (zs.map Int.toNat) := by
            unfold intsV intVs
            rw [List.map_map]
            refine List.map_congr_left fun x hx => ?_
            have := (hzb2 x hx).1
            simp
            omega
          rw [hmap] at hrw
          have HRW := Lib.hid hrw
          have HZL := Lib.hid (show (zs.map Int.toNat).length = ys.length by rw [List.length_map, hzl])
          have HZB : RowKit.Hid (∀ x ∈ zs.map Int.toNat, x ≤ 1073741824) := Lib.hid (fun x hx => by
            obtain ⟨z, hz, rfl⟩ := List.mem_map.1 hx
            have := hzb2 z hz
            omega)
          clear hmap hrw hzb hzb2 hzl
          go_wp2_with fail
          go_meet
          exact ⟨⟨_, HZL.out, HZB.out, HRW.out⟩, htw⟩
    case rest =>
      obtain ⟨⟨c, hcl, hc40, hrc⟩, hT⟩ := hcut
      obtain ⟨wz, rfl⟩ : ∃ x, x = wc := ⟨wc, rfl⟩
      rw [← hcl] at hy24 hrc ⊢
      have HRC := Lib.hid hrc.reads
      clear HFR HROW HT hvc hcl hrc
      have hsl := comesL_length c c.length
      rw [← symsM_length] at hsl
      have hc40' : ∀ x ∈ c, x ≤ 1099511627776 := fun x hx => Nat.le_trans (hc40 x hx) (by decide)
      obtain ⟨N, hN⟩ : ∃ N, N = 1 + r := ⟨_, rfl⟩
      have hNI : 1 + (r : Int) = (N : Int) := by omega
      have hN1 : 1 ≤ N := by omega
      have hN2 : N ≤ 15 := by omega
      have hcome : ∀ W, Touch (fun _ => False) wz W → Calls Try.prog 8 #[.slice va c.length vcap] W fun e w' => e = .returned (.int .i64 ((symsM c).length : Nat)) ∧ Touch (fun _ => False) W w' := fun W hW => by
        rw [symsM_length]
        exact come_calls c _ W (by omega) (HRC.out.still hW)
      have HCO := Lib.hid hcome
      have hsh : wrap64 ((2 : Int) ^ N) = ((2 ^ N : Nat) : Int) := wrap_pow N hN2
      obtain ⟨P2, hP2⟩ : ∃ P2 : Nat, P2 = 2 ^ N := ⟨_, rfl⟩
      have hsh2 : wrap64 ((2 : Int) ^ N) = (P2 : Int) := by rw [hP2]; exact hsh
      have hsh3 : (2 : Int) ^ N = (P2 : Int) := by rw [hP2]; simp
      have hP15 : P2 ≤ 32768 := by rw [hP2]; exact Nat.pow_le_pow_right (by decide) hN2
      clear hcome hsh hN
      by_cases hn : 2 ^ N < (symsM c).length
      · have HL := Lib.hid (fun W (hW : Touch (fun _ => False) wz W) => mlen_many c N _ W (HRC.out.still hW) hc40' (by omega) hN1 hN2 hn)
        rw [← hP2] at hn
        clear hP2
        generalize (symsM c).length = n at HCO hsl hn
        have hnI : (P2 : Int) < (n : Int) := by omega
        go_wp2_with fail
        refine (HL.out _ (Touch.refl _ _)).mono ?_
        rintro e w2 ⟨rfl, ht2⟩
        go_wp2_with fail
        refine (HCO.out _ ht2).mono ?_
        rintro e w3 ⟨rfl, ht3⟩
        go_wp2_with fail
        go_ret
        exact ⟨rfl, hT.trans (ht2.trans ht3)⟩
      · have hn' : (symsM c).length ≤ 2 ^ N := Nat.le_of_not_lt hn
        have HL := Lib.hid (fun W (hW : Touch (fun _ => False) wz W) => mlen_in c N _ W (HRC.out.still hW) hc40' (by omega) hN1 hN2 hn')
        have hcode := lensM_code c N hN1 hN2 hn' (by omega)
        have hfacts := lensM_facts c N hN1 hN2 hn'
        have hll := lensM_length c N
        have hpos : ∀ p, p < c.length → (0 < (lensM c N).getD p 0 ↔ 0 < c.getD p 0) ∧ (lensM c N).getD p 0 ≤ N ∧ ((symsM c).length = 1 → (lensM c N).getD p 0 ≤ 1) := by
          intro p hp
          by_cases hm : p ∈ symsM c
          · have h1 := hfacts.2.1 p hm
            have h2 := ((symsM_mem c p).1 hm).2
            refine ⟨⟨fun _ => h2, fun _ => by omega⟩, h1.2, fun h => ?_⟩
            have hL1 : lensM c N = (List.replicate c.length 0).set ((symsM c).getD 0 0) 1 := if_pos h
            rw [hL1, List.getD_eq_getElem?_getD, List.getElem?_set]
            split
            · split
              · exact Nat.le_refl _
              · exact Nat.zero_le _
            · have := rep_getD c.length p
              rw [List.getD_eq_getElem?_getD] at this
              omega
          · have h1 := hfacts.1 p hm
            have h2 : ¬ 0 < c.getD p 0 := fun h => hm ((symsM_mem c p).2 ⟨hp, h⟩)
            rw [h1]
            exact ⟨⟨fun h => absurd h (Nat.lt_irrefl _), fun h => absurd h h2⟩, Nat.zero_le _, fun _ => Nat.zero_le _⟩
        have HPOS := Lib.hid hpos
        have HORD : RowKit.Hid (∀ p p', p < c.length → p' < c.length → 0 < c.getD p 0 → 0 < c.getD p' 0 → (c.getD p' 0 < c.getD p 0 ∨ (c.getD p 0 = c.getD p' 0 ∧ p < p')) → (lensM c N).getD p 0 ≤ (lensM c N).getD p' 0) := Lib.hid (fun p p' hp hp' h1 h2 h => by
          have hm := (symsM_mem c p).2 ⟨hp, h1⟩
          have hm' := (symsM_mem c p').2 ⟨hp', h2⟩
          by_cases h3 : (symsM c).length = 1
          · obtain ⟨sy, hsy⟩ := List.length_eq_one_iff.1 h3
            rw [hsy] at hm hm'
            rw [List.mem_singleton.1 hm, List.mem_singleton.1 hm']
            exact Nat.le_refl _
          · exact lens_order c N h3 p p' hm hm' (h.imp id (fun e => ⟨e.1.symm, e.2⟩)))
        have HLE : RowKit.Hid (2 ≤ (symsM c).length → ∀ W, Touch (fun _ => False) wz W → Calls Try.prog 11 #[.slice va c.length vcap, .int .i64 (N : Nat)] W fun e w' => e = .returned (.int .i64 (costN c (lensM c N) c.length : Nat)) ∧ Touch (fun _ => False) W w') := Lib.hid (fun h2 W hW => by
          rw [lens_cost c N hN1 h2 hn']
          have hp := path_of (symsM c) (costsM c) N (costsM_length c) (costsM_sorted c) h2 hN1 hn'
          rw [← costsM_length] at hp
          have hsum := sum_le_mul (costsM c) 1073741824 (fun x hx => by
            obtain ⟨p, hp, rfl⟩ := List.mem_map.1 hx
            have hlt := symsM_lt c p hp
            have := hc40 (c.getD p 0) (by rw [List.getD_eq_getElem?_getD, List.getElem?_eq_getElem hlt]; exact List.getElem_mem hlt)
            exact this)
          have hcl := costsM_length c
          have hc24 : (costsM c).length ≤ 24 := by rw [hcl]; exact Nat.le_trans hsl hy24
          have h2c : 2 ≤ (costsM c).length := by rw [hcl]; exact h2
          exact least_calls c (costsM c) N (costsM c).length (costsM c).sum _ W hy24 (HRC.out.still hW) (sortD_costs c) rfl (costsM_sorted c) rfl (Nat.le_trans hsum (Nat.le_trans (Nat.mul_le_mul_right _ hc24) (by decide))) h2c hN1 hN2 _ _ hp (opt_all (symsM c) (costsM c) N (costsM_length c) hN1 hn'))
        have hcs : ∀ k, costN c (lensM c N) k < 4611686018427387904 := costN_small c _ (fun p => by
          rcases Nat.lt_or_ge p c.length with h | h
          · have := (hpos p h).2.1
            omega
          · rw [List.getD_eq_getElem?_getD, List.getElem?_eq_none (by rw [hll]; exact h)]
            exact Nat.zero_le _) hc40 hy24
        have HSM := Lib.hid hcs
        clear hfacts hpos hc40 hc40' hcs hn'
        rw [← hP2] at hn
        clear hP2
        generalize lensM c N = l at HL hcode hll HPOS HORD HLE HSM
        have HLL := Lib.hid hll
        have HCODE := Lib.hid hcode
        clear hll hcode
        generalize (symsM c).length = n at HCO hsl hn HPOS HLE HCODE
        have hnI : ¬ ((P2 : Int) < (n : Int)) := by omega
        go_wp2_with fail
        refine (HL.out _ (Touch.refl _ _)).mono ?_
        rintro e w2 ⟨q2, rfl, hq2, _, ht2⟩
        obtain ⟨a2, cap2, he2, hcap2, _⟩ := hq2.form
        rw [intVs_length, HLL.out] at he2 hcap2
        subst he2
        have HQ2 := Lib.hid hq2.reads
        have HT2 := Lib.hid ht2
        clear hq2 ht2 HL
        go_wp2_with fail
        refine (HCO.out _ HT2.out).mono ?_
        rintro e w3 ⟨rfl, ht3⟩
        have HQ3 := Lib.hid (HQ2.out.still ht3)
        have HT3 := Lib.hid (HT2.out.trans ht3)
        clear ht3 HQ2 HT2
        go_upto_block 2 with fail
        go_cut [9] (fun _ wx => Touch (fun _ => False) w3 wx)
        case first =>
          go_wp2_with fail
          go_loopw [4, 9] (fun rv iv wr => rv = .bool false ∧ ∃ i : Nat, i ≤ c.length ∧ iv = .int .i64 (i : Nat) ∧ RowKit.Hid (Touch (fun _ => False) w3 wr)) (fun _ iv _ => c.length - (intOf iv).toNat)
          case atStart => exact ⟨rfl, 0, Nat.zero_le _, rfl, Lib.hid (Touch.refl _ _)⟩
          case round =>
            obtain ⟨rfl, i, hi, rfl, HTi⟩ := hrel
            by_cases hlt : i < c.length
            · have hi0 : (0 : Int) ≤ (i : Int) := by omega
              have hi1 : (i : Int) < (c.length : Int) := by omega
              obtain ⟨g2, o2, he2, e0⟩ := reads_cell HQ3.out i (by rw [HLL.out]; exact hlt)
              subst he2
              obtain ⟨g1, o1, he1, e1⟩ := reads_cell HRC.out i hlt
              subst he1
              replace e1 := HT3.out.cell e1 id
              obtain ⟨hp1, hp2, hp3⟩ := HPOS.out i hlt
              obtain ⟨x, hx⟩ : ∃ x, x = l.getD i 0 := ⟨_, rfl⟩
              obtain ⟨y, hy⟩ : ∃ y, y = c.getD i 0 := ⟨_, rfl⟩
              rw [← hx] at e0 hp1 hp2 hp3
              rw [← hy] at e1 hp1
              have f0 := HTi.out.cell e0 id
              have f1 := HTi.out.cell e1 id
              have HX := Lib.hid hx
              have HY := Lib.hid hy
              have hxN3 : ¬ ((N : Int) < (x : Int)) := by omega
              clear hx hy
              go_upto_region 18 with fail
              go_cut [101] from 72 to 101 (fun v101 wx => v101 = .bool false ∧ Touch (fun _ => False) wr wx)
              case first =>
                by_cases hx0 : 0 < x
                · have hy0 : 0 < y := hp1.1 hx0
                  have hx' : (0 : Int) < (x : Int) := by omega
                  have hy' : (0 : Int) < (y : Int) := by omega
                  by_cases hn1 : n = 1
                  · have hx1I : ¬ ((1 : Int) < (x : Int)) := by
                      have := hp3 hn1
                      omega
                    subst hn1
                    clear hp1 hp2 hp3
                    go_quiet (fail)
                    go_wp2_with fail
                    go_meet
                    exact ⟨rfl, (Touch.refl _ _).drewN _⟩
                  · have hn1I : ¬ ((n : Int) = 1) := by omega
                    have hn1B : ((n : Int) == 1) = false := beq_eq_false_iff_ne.2 hn1I
                    clear hp1 hp2 hp3
                    go_quiet (fail)
                    go_wp2_with fail
                    go_meet
                    exact ⟨rfl, (Touch.refl _ _).drewN _⟩
                · obtain rfl : x = 0 := by omega
                  obtain rfl : y = 0 := by
                    rcases Nat.eq_zero_or_pos y with h | h
                    · exact h
                    · exact absurd (hp1.2 h) (Nat.lt_irrefl _)
                  by_cases hn1 : n = 1
                  · subst hn1
                    clear hp1 hp2 hp3 hx0
                    go_quiet (fail)
                    go_wp2_with fail
                    go_meet
                    exact ⟨rfl, (Touch.refl _ _).drewN _⟩
                  · have hn1I : ¬ ((n : Int) = 1) := by omega
                    have hn1B : ((n : Int) == 1) = false := beq_eq_false_iff_ne.2 hn1I
                    clear hp1 hp2 hp3 hx0
                    go_quiet (fail)
                    go_wp2_with fail
                    go_meet
                    exact ⟨rfl, (Touch.refl _ _).drewN _⟩
              case rest =>
                obtain ⟨rfl, hTc⟩ := hcut
                have HTQ : RowKit.Hid (Touch (fun _ => False) w3 wc) := Lib.hid (HTi.out.trans hTc)
                clear f0 f1 hxN3 hTc hp1 hp2 hp3
                go_wp2_with fail
                go_loopw [4, 10] (fun rv kv wx => rv = .bool false ∧ ∃ k : Nat, k ≤ c.length ∧ kv = .int .i64 (k : Nat) ∧ RowKit.Hid (Touch (fun _ => False) w3 wx)) (fun _ kv _ => c.length - (intOf kv).toNat)
                case atStart => exact ⟨rfl, 0, Nat.zero_le _, rfl, HTQ⟩
                case round =>
                  obtain ⟨rfl, k, hk, rfl, HTk⟩ := hrel
                  clear HTQ
                  by_cases hkl : k < c.length
                  · have hk0 : (0 : Int) ≤ (k : Int) := by omega
                    have hk1 : (k : Int) < (c.length : Int) := by omega
                    have d0 := HTk.out.cell e0 id
                    have d1 := HTk.out.cell e1 id
                    obtain ⟨g4, o4, he4, e4⟩ := reads_cell HQ3.out k (by rw [HLL.out]; exact hkl)
                    injection he4 with he4
                    injection he4 with he4a he4b
                    subst he4a he4b
                    obtain ⟨g5, o5, he5, e5⟩ := reads_cell HRC.out k hkl
                    injection he5 with he5
                    injection he5 with he5a he5b
                    subst he5a he5b
                    have d4 := HTk.out.cell e4 id
                    have d5 := HTk.out.cell (HT3.out.cell e5 id) id
                    have hord := HORD.out i k hlt hkl
                    clear e4 e5
                    obtain ⟨z, hz⟩ : ∃ z, z = l.getD k 0 := ⟨_, rfl⟩
                    obtain ⟨u, hu⟩ : ∃ u, u = c.getD k 0 := ⟨_, rfl⟩
                    rw [← hz] at d4
                    rw [← hu] at d5
                    rw [← hz, ← hu, ← HX.out, ← HY.out] at hord
                    clear hz hu
                    go_upto_region 23 with fail
                    go_cut [157] from 108 to 157 (fun v157 wx => v157 = .bool false ∧ Touch (fun _ => False) wr wx)
                    case first =>
                      by_cases hy0 : 0 < y
                      · have hyI : (0 : Int) < (y : Int) := by omega
                        by_cases hu0 : 0 < u
                        · have huI : (0 : Int) < (u : Int) := by omega
                          by_cases hyu : u < y
                          · have hxz := hord hy0 hu0 (.inl hyu)
                            have hyuI : (u : Int) < (y : Int) := by omega
                            have hzxI : ¬ ((z : Int) < (x : Int)) := by omega
                            clear hord hxz
                            go_quiet (fail)
                            go_wp2_with fail
                            go_meet
                            exact ⟨rfl, (Touch.refl _ _).drewN _⟩
                          · have hyuI : ¬ ((u : Int) < (y : Int)) := by omega
                            by_cases hye : y = u
                            · subst hye
                              by_cases hik : i < k
                              · have hxz := hord hy0 hu0 (.inr ⟨rfl, hik⟩)
                                have hikI : (i : Int) < (k : Int) := by omega
                                have hzxI : ¬ ((z : Int) < (x : Int)) := by omega
                                clear hord hxz hyuI hyu huI hu0
                                go_quiet (fail)
                                go_wp2_with fail
                                go_meet
                                exact ⟨rfl, (Touch.refl _ _).drewN _⟩
                              · have hikI : ¬ ((i : Int) < (k : Int)) := by omega
                                clear hord hyuI hyu huI hu0
                                go_quiet (fail)
                                go_wp2_with fail
                                go_meet
                                exact ⟨rfl, (Touch.refl _ _).drewN _⟩
                            · have hyeI : ¬ ((y : Int) = (u : Int)) := by omega
                              have hyeB : ((y : Int) == (u : Int)) = false := beq_eq_false_iff_ne.2 hyeI
                              clear hord
                              go_quiet (fail)
                              go_wp2_with fail
                              go_meet
                              exact ⟨rfl, (Touch.refl _ _).drewN _⟩
                        · obtain rfl : u = 0 := by omega
                          clear hord hu0
                          go_quiet (fail)
                          go_wp2_with fail
                          go_meet
                          exact ⟨rfl, (Touch.refl _ _).drewN _⟩
                      · obtain rfl : y = 0 := by omega
                        clear hord hy0
                        go_quiet (fail)
                        go_wp2_with fail
                        go_meet
                        exact ⟨rfl, (Touch.refl _ _).drewN _⟩
                    case rest =>
                      obtain ⟨rfl, hTd⟩ := hcut
                      have HTd := Lib.hid (HTk.out.trans hTd)
                      clear hTd hord d0 d1 d4 d5
                      go_wp2_with fail
                      go_roundw
                      case rel =>
                        have HREL : Value.bool false = .bool false ∧ ∃ k' : Nat, k' ≤ c.length ∧ Value.int .i64 ((k : Int) + 1) = .int .i64 (k' : Nat) ∧ RowKit.Hid (Touch (fun _ => False) w3 wc) := ⟨rfl, k + 1, by omega, by go_num, HTd⟩
                        first
                          | exact HREL
                          | (repeat apply Exists.intro; exact ⟨HREL, rfl⟩)
                      case measure => simp [intOf]; omega
                  · obtain rfl : k = c.length := by omega
                    go_wp2_with fail
                    go_roundw
                    case rel =>
                      have HREL : Value.bool false = .bool false ∧ ∃ i' : Nat, i' ≤ c.length ∧ Value.int .i64 ((i : Int) + 1) = .int .i64 (i' : Nat) ∧ RowKit.Hid (Touch (fun _ => False) w3 wr) := ⟨rfl, i + 1, by omega, by go_num, HTk⟩
                      first
                        | exact HREL
                        | (repeat apply Exists.intro; exact ⟨HREL, rfl⟩)
                    case measure => simp [intOf]; omega
            · obtain rfl : i = c.length := by omega
              go_wp2_with fail
              go_meet
              exact HTi.out
        case rest =>
          have hT4 := HT3.out.trans hcut
          have HTC := Lib.hid hcut
          have HT4 := Lib.hid hT4
          have HTW := Lib.hid hT
          have HCL := Lib.hid hy24
          clear hcut hT4 hT HORD HPOS
          by_cases hn2 : n < 2
          · have hn2I : (n : Int) < 2 := by omega
            go_wp2_with fail
            go_ret
            exact ⟨rfl, HTW.out.trans HT4.out⟩
          · have hn2I : ¬ ((n : Int) < 2) := by omega
            have hcd := HCODE.out
            rw [decide_eq_false hn2] at hcd
            have HN := Lib.hid (fun W (hW : Touch (fun _ => False) w3 W) => new_ok l false _ W (HQ3.out.still hW) hcd)
            have HLEA := Lib.hid (HLE.out (by omega))
            have HCS := Lib.hid (fun W (hW : Touch (fun _ => False) w3 W) => cost_calls c l _ _ W (Nat.le_trans HCL.out (by decide)) HLL.out.symm (HRC.out.still (HT3.out.trans hW)) (HQ3.out.still hW) HSM.out)
            generalize costN c l c.length = z at HLEA HCS
            clear hcd HCODE HLE
            go_wp2_with (first
              | (go_at_call 9; refine (HN.out _ HTC.out).mono ?_; rintro e w5 ⟨⟨p, rfl⟩, ht5⟩; have HT5 := Lib.hid (HTC.out.trans ht5); clear ht5)
              | (go_at_call 10; refine (HCS.out _ HT5.out).mono ?_; rintro e w6 ⟨rfl, ht6⟩; have HT6 := Lib.hid (HT5.out.trans ht6); clear ht6)
              | (go_at_call 11; refine (HLEA.out _ (HT3.out.trans HT6.out)).mono ?_; rintro e w7 ⟨rfl, ht7⟩; have HT7 := Lib.hid (HT6.out.trans ht7); clear ht7))
            go_ret
            exact ⟨rfl, HTW.out.trans (HT3.out.trans HT7.out)⟩
end Go.Proofs.Ythobbdnmhldglaa

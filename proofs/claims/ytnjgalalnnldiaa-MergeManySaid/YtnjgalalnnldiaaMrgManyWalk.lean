/- The walk of layer 4's statement on many counts. -/
import Derived.Test.YtnjgalalnnldiaaMrgM
import Derived.Deep.CutBlock
import Derived.Deep.DeepCutAuto
namespace Go.Proofs.Ytnjgalalnnldiaa
open Go Go.RowKit Go.Shelf
set_option maxRecDepth 100000

theorem i64_and7 (n : Int) : bits .and .i64 n 7 = n % 8 := by
  have hk : (BitVec.ofInt 64 7).toNat = 2 ^ 3 - 1 := by decide
  have key : (BitVec.ofInt 64 n &&& BitVec.ofInt 64 7).toNat = (n % ((2 ^ 64 : Nat) : Int)).toNat % 2 ^ 3 := by
    rw [BitVec.toNat_and, BitVec.toNat_ofInt, hk, Nat.and_two_pow_sub_one_eq_mod]
  show IntKind.i64.wrap ((BitVec.ofInt 64 n &&& BitVec.ofInt 64 7).toNat : Nat) = n % 8
  rw [key, IntKind.wrap_i64]
  omega
theorem i64_and40 (n : Int) : bits .and .i64 n 1099511627775 = n % 1099511627776 := by
  have hk : (BitVec.ofInt 64 1099511627775).toNat = 2 ^ 40 - 1 := by decide
  have key : (BitVec.ofInt 64 n &&& BitVec.ofInt 64 1099511627775).toNat = (n % ((2 ^ 64 : Nat) : Int)).toNat % 2 ^ 40 := by
    rw [BitVec.toNat_and, BitVec.toNat_ofInt, hk, Nat.and_two_pow_sub_one_eq_mod]
  show IntKind.i64.wrap ((BitVec.ofInt 64 n &&& BitVec.ofInt 64 1099511627775).toNat : Nat) = n % 1099511627776
  rw [key, IntKind.wrap_i64]
  omega

theorem reads_cell {w : World} {a : Option Addr} {n cap : Nat} {l : List Nat} (h : Reads w (.slice a n cap) (intVs l)) (k : Nat) (hk : k < l.length) : ∃ g off, a = some ⟨g, off, none⟩ ∧ w.cell? ⟨g, off + k, none⟩ = some (.int .i64 (l.getD k 0 : Nat)) := by
  obtain ⟨g, off, cap', he, _, _, _, hc⟩ := h.addr (by rw [intVs_length]; omega)
  injection he with he _ _
  exact ⟨g, off, he, hc k _ (by simp [intVs, List.getD_eq_getElem?_getD, hk])⟩
theorem new_ok (L : List Nat) (b : Bool) (v : Value) (w : World) (hv : Reads w v (intVs L)) (hy : whyN (L.map Int.ofNat) b = 0) :
    Calls Try.prog 10 #[v, .bool b] w fun e w' => (∃ p, e = .returned (.tuple #[.pointer (some ⟨p, 0, none⟩), .int .i64 0])) ∧ Touch (fun _ => False) w w' := by
  refine (new_calls (L.map Int.ofNat) b v w (by rw [intsV_nat]; exact hv)).mono ?_
  rintro e w' ⟨ht, h | ⟨_, _, p, he, _⟩⟩
  · exact absurd hy h.1
  · exact ⟨⟨p, he⟩, ht⟩
theorem mlen_in (c : List Nat) (N : Nat) (v : Value) (w : World) (hv : Reads w v (intVs c)) (hc : ∀ x ∈ c, x ≤ 1099511627776) (h288 : c.length ≤ 288) (hN1 : 1 ≤ N) (hN2 : N ≤ 15) (hn : (symsM c).length ≤ 2 ^ N) :
    Calls Try.prog 8 #[v, .int .i64 (N : Nat)] w fun e w' => ∃ r, e = .returned (.tuple #[r, .int .i64 0]) ∧ Row w' 3 r (intVs (lensM c N)) ∧ Sep w.heap.size none r.ownBlock ∧ Touch (fun _ => False) w w' := by
  by_cases h1 : (symsM c).length = 1
  · exact mlen_one c N v w hv hc h288 hN1 hN2 h1
  · exact mlen_some c N v w hv hc h288 hN1 hN2 hn h1

set_option maxHeartbeats 4000000 in
theorem many_calls (xs : List Int) (most : Int) (v : Value) (w : World) (hv : Reads w v (intsV xs)) :
    Calls Try.prog 4 #[v, .int .i64 most] w fun e w' => e = .returned (.bool true) ∧ Touch (fun _ => False) w w' := by
  obtain ⟨i0, hi, hz0, hz1, hz2⟩ := info_parts Try.info3
  have HV := Lib.hid hv
  obtain ⟨a, cap, hv', hc1, hc2⟩ := hv.form
  subst hv'
  rw [intsV_length] at HV hc1 ⊢
  clear hv
  obtain ⟨m, hm⟩ : ∃ m : Nat, most % 8 = m := ⟨(most % 8).toNat, by omega⟩
  have hand := i64_and7 most
  rw [hm] at hand
  have hm7 : m ≤ 7 := by omega
  clear hm
  obtain ⟨r, hr⟩ : ∃ r : Nat, m % 7 = r := ⟨_, rfl⟩
  have hrm : (m : Int) % 7 = (r : Int) := by omega
  have hrt : (m : Int).tmod 7 = (r : Int) := by rw [Int.tmod_eq_emod_of_nonneg (by omega)]; exact hrm
  have hr6 : r ≤ 6 := by omega
  clear hr
  go_enter Try.func4, Try.ntmps4
  go_upto_region 3 with (go_at_call 7; refine (speaks4_calls _).mono ?_; rintro e w1 ⟨rfl, ht1⟩)
  go_cut [0] (fun v0 wx => (∃ ys : List Int, ys.length ≤ 288 ∧ Row wx 3 v0 (intsV ys)) ∧ Sep w.heap.size none v0.ownBlock ∧ Touch (fun _ => False) w wx)
  case first =>
    have hone : ∀ l : List Int, ∀ u ∈ intsV l, u.oneCell' = true := by
      intro l u hu
      obtain ⟨x, _, rfl⟩ := List.mem_map.1 hu
      rfl
    have hsrc : ∀ q, q ≤ xs.length → ∀ W, Touch (fun _ => False) w W → Src Try.prog 1 22 (.slice a q cap) q (intsV (xs.take q)) W := fun q hq W hW => by
      have h1 := ((HV.out.upto hq).still hW).src (P := Try.prog) (tx := 22) Try.underlying22 (fun u hu => by
        rw [show (intsV xs).take q = intsV (xs.take q) by simp [intsV, List.map_take]] at hu
        exact hone _ u hu)
      rw [show (intsV xs).take q = intsV (xs.take q) by simp [intsV, List.map_take], intsV_length, List.length_take, Nat.min_eq_left hq] at h1
      exact h1
    have HSRC := Lib.hid hsrc
    clear hone hsrc
    have h0w := ht1.size
    obtain ⟨q, hq⟩ : ∃ q : Nat, q = min xs.length 288 := ⟨_, rfl⟩
    have hmin : min (xs.length : Int) 288 = (q : Int) := by omega
    have hq1 : q ≤ xs.length := by omega
    have hq2 : q ≤ 288 := by omega
    have hqc : (q : Int) ≤ (cap : Int) := by omega
    have HSQ := Lib.hid (HSRC.out q hq1)
    clear hq HSRC
    have hql : (xs.take q).length = q := by rw [List.length_take]; omega
    generalize xs.take q = ys at HSQ hql
    have HQL := Lib.hid hql
    clear hql
    go_wp2_with (at_builtin; refine wpList_append_row _ rfl (.tmp 15) (.tmp 20) 22 22 rfl 3 i0 _ 8 Try.underlying22 hi hz0 hz1 hz2 rfl (.slice (some ⟨w1.heap.size, 0, none⟩) 0 0) [] rfl (by exact .inr ⟨_, 0, 0, #[], rfl, heap_alloc_new w1 _, Nat.le_refl _, Nat.zero_le _, Nat.le_refl _, rfl⟩) (.slice a q cap) rfl q (intsV ys) (by exact HSQ.out _ (ht1.alloc _)) (by unfold maxLen; simp; omega) (by simp; omega) ?_; intro v2 w2 hrow2 hgrow hown2)
    go_meet
    refine ⟨⟨ys, by rw [HQL.out]; exact hq2, by simpa using hrow2⟩, ?_, (ht1.alloc _).grown hgrow (fun k hk => ?_)⟩
    · rcases hown2 with h | h
      · exact .inr ⟨w1.heap.size, h, h0w⟩
      · exact .inr ⟨_, h, by simp; omega⟩
    · simp [Value.ownBlock] at hk
      right; omega
  case rest =>
    obtain ⟨⟨ys, hy288, hrow⟩, hsep, hT⟩ := hcut
    obtain ⟨wy, rfl⟩ : ∃ x, x = wc := ⟨wc, rfl⟩
    obtain ⟨va, vcap, hve, hvc, hvm⟩ := hrow.form
    rw [intsV_length] at hve hvc
    subst hve
    have hfr : ∀ g, (Value.slice va ys.length vcap).ownBlock = some g → w.heap.size ≤ g := fun g hg => by
      rcases hsep with h | ⟨g', h, hg'⟩
      · rw [h] at hg; cases hg
      · rw [h] at hg
        have := Option.some.inj hg
        omega
    have HFR := Lib.hid hfr
    have HROW := Lib.hid hrow
    have HT := Lib.hid hT
    clear hfr hsep hrow hT ht1 HV
    go_upto_block 0 with fail
    go_cut [5] (fun _ wx => (∃ c : List Nat, c.length = ys.length ∧ (∀ x ∈ c, x ≤ 1099511627776) ∧ Row wx 3 (.slice va ys.length vcap) (intVs c)) ∧ Touch (fun _ => False) w wx)
    case first =>
      go_wp2_with fail
      go_loopw [5] (fun iv wr => ∃ (k : Nat) (zs : List Int), k ≤ ys.length ∧ iv = .int .i64 (k : Nat) ∧ zs.length = ys.length ∧ (∀ j x, zs[j]? = some x → j < k → 0 ≤ x ∧ x ≤ 1099511627776) ∧ Row wr 3 (.slice va ys.length vcap) (intsV zs) ∧ Touch (fun _ => False) w wr) (fun iv _ => ys.length - (intOf iv).toNat)
      case atStart => exact ⟨0, ys, Nat.zero_le _, rfl, rfl, fun j x _ h => absurd h (Nat.not_lt_zero _), HROW.out, HT.out⟩
      case round =>
        obtain ⟨k, zs, hk, rfl, hzl, hzb, hrw, htw⟩ := hrel
        have hk0 : (0 : Int) ≤ (k : Int) := by omega
        by_cases hlt : k < ys.length
        · have hk1 : (k : Int) < (ys.length : Int) := by omega
          obtain ⟨g, off, cap', he, _, hg, hcs⟩ := hrw.addr (by rw [intsV_length]; omega)
          rw [intsV_length, hzl] at he
          injection he with he _ he2
          subst he
          obtain ⟨z, hz⟩ : ∃ z, zs[k]? = some z := ⟨_, List.getElem?_eq_getElem (by omega)⟩
          have hcell := hcs k (.int .i64 z) (by simp [intsV, hz])
          have hfre := hrw.free (k := k)
          obtain ⟨y, hy⟩ : ∃ y : Nat, z % 1099511627776 = y := ⟨(z % 1099511627776).toNat, by omega⟩
          have hand40 := i64_and40 z
          rw [hy] at hand40
          have hnew := hrw.set (k := k) hlt (.int .i64 (y : Nat))
          have hse : (intsV zs).set k (.int .i64 (y : Nat)) = intsV (zs.set k (y : Int)) := by simp [intsV, List.map_set]
          rw [hse] at hnew
          have HNEW := Lib.hid hnew
          have HZ2 : RowKit.Hid (∀ j x, (zs.set k (y : Int))[j]? = some x → j < k + 1 → 0 ≤ x ∧ x ≤ 1099511627776) := Lib.hid (fun j x hx hj => by
            rw [List.getElem?_set] at hx
            split at hx
            · split at hx
              · have := Option.some.inj hx
                omega
              · cases hx
            · exact hzb j x hx (by omega))
          have HZL := Lib.hid (show (zs.set k (y : Int)).length = ys.length by rw [List.length_set, hzl])
          have HTW := Lib.hid (htw.setCell (p := ⟨g, off + k, none⟩) (.inr (HFR.out g rfl)) (.int .i64 (y : Nat)))
          clear hnew hse hzb hrw htw hcs hy hzl hz he2
          go_wp2_with fail
          go_roundw
          case rel => exact ⟨k + 1, _, by omega, by go_num, HZL.out, HZ2.out, HNEW.out, HTW.out⟩
          case measure => simp [intOf]; omega
        · obtain rfl : k = ys.length := by omega
          have hzb2 : ∀ x ∈ zs, 0 ≤ x ∧ x ≤ 1099511627776 := fun x hx => by
            obtain ⟨j, hj, rfl⟩ := List.getElem_of_mem hx
            exact hzb j _ (List.getElem?_eq_getElem hj) (by omega)
          have hmap : intsV zs = intVs (zs.map Int.toNat) := by
            unfold intsV intVs
            rw [List.map_map]
            refine List.map_congr_left fun x hx => ?_
            have := (hzb2 x hx).1
            simp
            omega
          rw [hmap] at hrw
          have HRW := Lib.hid hrw
          have HZL := Lib.hid (show (zs.map Int.toNat).length = ys.length by rw [List.length_map, hzl])
          have HZB : RowKit.Hid (∀ x ∈ zs.map Int.toNat, x ≤ 1099511627776) := Lib.hid (fun x hx => by
            obtain ⟨z, hz, rfl⟩ := List.mem_map.1 hx
            have := hzb2 z hz
            omega)
          clear hmap hrw hzb hzb2 hzl
          go_wp2_with fail
          go_meet
          exact ⟨⟨_, HZL.out, HZB.out, HRW.out⟩, htw⟩
    case rest =>
      obtain ⟨⟨c, hcl, hc40, hrc⟩, hT⟩ := hcut
      obtain ⟨wz, rfl⟩ : ∃ x, x = wc := ⟨wc, rfl⟩
      rw [← hcl] at hy288 hrc ⊢
      have HRC := Lib.hid hrc.reads
      clear HFR HROW HT hvc hcl hrc
      have hsl := comesL_length c c.length
      rw [← symsM_length] at hsl
      have hn9 : (symsM c).length ≤ 2 ^ (9 + r) := by
        have : 2 ^ 9 ≤ 2 ^ (9 + r) := Nat.pow_le_pow_right (by decide) (by omega)
        omega
      have HL := Lib.hid (fun W (hW : Touch (fun _ => False) wz W) => mlen_in c (9 + r) _ W (HRC.out.still hW) hc40 hy288 (by omega) (by omega) hn9)
      have hcode := lensM_code c (9 + r) (by omega) (by omega) hn9 hy288
      have hfacts := lensM_facts c (9 + r) (by omega) (by omega) hn9
      have hll := lensM_length c (9 + r)
      have hcast : ((9 + r : Nat) : Int) = 9 + (r : Int) := by omega
      rw [hcast] at HL
      have hcome : ∀ W, Touch (fun _ => False) wz W → Calls Try.prog 9 #[.slice va c.length vcap] W fun e w' => e = .returned (.int .i64 ((symsM c).length : Nat)) ∧ Touch (fun _ => False) W w' := fun W hW => by
        rw [symsM_length]
        exact come_calls c _ W hy288 (HRC.out.still hW)
      have HCO := Lib.hid hcome
      have hpos : ∀ p, p < c.length → (0 < (lensM c (9 + r)).getD p 0 ↔ 0 < c.getD p 0) ∧ (lensM c (9 + r)).getD p 0 ≤ 9 + r := by
        intro p hp
        by_cases hm : p ∈ symsM c
        · have h1 := hfacts.2.1 p hm
          have h2 := ((symsM_mem c p).1 hm).2
          exact ⟨⟨fun _ => h2, fun _ => by omega⟩, h1.2⟩
        · have h1 := hfacts.1 p hm
          have h2 : ¬ 0 < c.getD p 0 := fun h => hm ((symsM_mem c p).2 ⟨hp, h⟩)
          rw [h1]
          exact ⟨⟨fun h => absurd h (Nat.lt_irrefl _), fun h => absurd h h2⟩, Nat.zero_le _⟩
      have HPOS := Lib.hid hpos
      clear hcast hcome hfacts hpos hn9 hc40
      generalize lensM c (9 + r) = L at HL hcode hll HPOS
      have HLL := Lib.hid hll
      have HCODE := Lib.hid hcode
      clear hll hcode
      generalize (symsM c).length = n at HCODE HCO hsl
      go_wp2_with fail
      refine (HL.out _ (Touch.refl _ _)).mono ?_
      rintro e w2 ⟨q2, rfl, hq2, _, ht2⟩
      obtain ⟨a2, cap2, he2, hcap2, _⟩ := hq2.form
      rw [intVs_length, HLL.out] at he2 hcap2
      subst he2
      go_wp2_with fail
      refine (HL.out _ ht2).mono ?_
      rintro e w3 ⟨q3, rfl, hq3, _, ht3⟩
      obtain ⟨a3, cap3, he3, hcap3, _⟩ := hq3.form
      rw [intVs_length, HLL.out] at he3 hcap3
      subst he3
      have HQ2 := Lib.hid (hq2.reads.still ht3)
      have HQ3 := Lib.hid hq3.reads
      have HT3 := Lib.hid (ht2.trans ht3)
      clear hq2 hq3 ht2 ht3 HL
      go_upto_block 2 with fail
      go_cut [10] (fun _ wx => Touch (fun _ => False) w3 wx)
      case first =>
        go_wp2_with fail
        go_loopw [4, 10] (fun rv iv wr => rv = .bool false ∧ ∃ k : Nat, k ≤ c.length ∧ iv = .int .i64 (k : Nat) ∧ Touch (fun _ => False) w3 wr) (fun _ iv _ => c.length - (intOf iv).toNat)
        case atStart => exact ⟨rfl, 0, Nat.zero_le _, rfl, Touch.refl _ _⟩
        case round =>
          obtain ⟨rfl, k, hk, rfl, htw⟩ := hrel
          have hk0 : (0 : Int) ≤ (k : Int) := by omega
          by_cases hlt : k < c.length
          · have hk1 : (k : Int) < (c.length : Int) := by omega
            obtain ⟨g2, o2, he2, e2⟩ := reads_cell HQ2.out k (by rw [HLL.out]; exact hlt)
            subst he2
            obtain ⟨g3, o3, he3, e3⟩ := reads_cell HQ3.out k (by rw [HLL.out]; exact hlt)
            subst he3
            obtain ⟨g1, o1, he1, e1⟩ := reads_cell HRC.out k hlt
            subst he1
            have d2 := htw.cell e2 id
            have d3 := htw.cell e3 id
            have d1 := htw.cell (HT3.out.cell e1 id) id
            clear e1 e2 e3
            obtain ⟨hp1, hp2⟩ := HPOS.out k hlt
            generalize L.getD k 0 = x at d2 d3 hp1 hp2
            generalize c.getD k 0 = y at d1 hp1
            have hxn : decide (9 + (r : Int) < (x : Int)) = false := decide_eq_false (by omega)
            have hxn2 : ¬ (9 + (r : Int) < (x : Int)) := by omega
            by_cases hx : 0 < x
            · have hy : 0 < y := hp1.1 hx
              have hx' : (0 : Int) < (x : Int) := by omega
              have hy' : (0 : Int) < (y : Int) := by omega
              clear hp1
              go_wp2_with fail
              go_quiet (fail)
              go_wp2_with fail
              go_roundw
              case rel => exact ⟨rfl, k + 1, by omega, by go_num, htw.drewN _⟩
              case measure => simp [intOf]; omega
            · have hy : ¬ 0 < y := fun h => hx (hp1.2 h)
              obtain rfl : x = 0 := by omega
              obtain rfl : y = 0 := by omega
              clear hp1 hx hy
              go_wp2_with fail
              go_quiet (fail)
              go_wp2_with fail
              go_roundw
              case rel => exact ⟨rfl, k + 1, by omega, by go_num, htw.drewN _⟩
              case measure => simp [intOf]; omega
          · obtain rfl : k = c.length := by omega
            go_wp2_with fail
            go_meet
            exact htw
      case rest =>
        have hT4 := HT3.out.trans hcut
        have HN := Lib.hid (fun W (hW : Touch (fun _ => False) w3 W) => new_ok L (decide (n < 2)) _ W (HQ2.out.still hW) HCODE.out)
        by_cases hn2 : n < 2
        · have hb : decide (n < 2) = true := decide_eq_true hn2
          rw [hb] at HN
          have hn2' : decide ((n : Int) < 2) = true := decide_eq_true (by omega)
          go_wp2_with fail
          refine (HCO.out _ hT4).mono ?_
          rintro e w5 ⟨rfl, ht5⟩
          go_wp2_with fail
          refine (HN.out _ (hcut.trans ht5)).mono ?_
          rintro e w6 ⟨⟨p, rfl⟩, ht6⟩
          go_wp2_with fail
          go_ret
          exact ⟨rfl, hT.trans ((hT4.trans ht5).trans ht6)⟩
        · have hb : decide (n < 2) = false := decide_eq_false hn2
          rw [hb] at HN
          have hn2' : decide ((n : Int) < 2) = false := decide_eq_false (by omega)
          clear hn2
          go_wp2_with fail
          refine (HCO.out _ hT4).mono ?_
          rintro e w5 ⟨rfl, ht5⟩
          go_wp2_with fail
          refine (HN.out _ (hcut.trans ht5)).mono ?_
          rintro e w6 ⟨⟨p, rfl⟩, ht6⟩
          go_wp2_with fail
          go_ret
          exact ⟨rfl, hT.trans ((hT4.trans ht5).trans ht6)⟩
end Go.Proofs.Ytnjgalalnnldiaa

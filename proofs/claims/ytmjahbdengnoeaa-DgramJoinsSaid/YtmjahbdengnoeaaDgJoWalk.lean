/- The walk of the statement DgramJoins over the translated program. -/
import Derived.Test.YtmjahbdengnoeaaDgJb
namespace Go.Proofs.Ytmjahbdengnoeaa
open Go Go.RowKit Go.Maps Go.Shelf
set_option maxRecDepth 100000
set_option linter.unusedVariables false

theorem Try.cellsStr : Try.prog.cellsOf 9 = 1 := by kernel_rfl
def cutT (s : ByteArray) : ByteArray := s.extract 0 (min s.size 300)
theorem cutT_size (s : ByteArray) : (cutT s).size ≤ 300 := by unfold cutT; simp; omega
theorem joinL_bound (ls : List ByteArray) (h : ∀ s ∈ ls, s.size ≤ 300) : (joinL ls).length ≤ 302 * ls.length := by
  induction ls with
  | nil => simp [joinL]
  | cons a r ih =>
    have h1 := h a List.mem_cons_self
    have h2 := ih fun s hs => h s (List.mem_cons_of_mem _ hs)
    have h3 : a.data.toList.length = a.size := Array.length_toList
    rw [joinL_cons, List.length_append, List.length_append, leB_length, h3, List.length_cons]
    omega
def cutsT (q : List ByteArray) (k : Nat) : List ByteArray := (q.take k).map cutT
theorem cutsT_small (q : List ByteArray) (k : Nat) : ∀ s ∈ cutsT q k, s.size ≤ 300 := fun s hs => by
  obtain ⟨x, _, rfl⟩ := List.mem_map.1 hs
  exact cutT_size x
theorem cutsT_step (q : List ByteArray) (k : Nat) (h : k < q.length) : cutsT q (k + 1) = cutsT q k ++ [cutT q[k]] := by
  unfold cutsT
  rw [List.take_succ_eq_append_getElem h, List.map_append]
  rfl
theorem cutsT_length (q : List ByteArray) (k : Nat) (h : k ≤ q.length) : (cutsT q k).length = k := by
  unfold cutsT; rw [List.length_map, List.length_take]; omega

set_option maxHeartbeats 8000000 in
theorem djoins_calls (l : List ByteArray) (junk : ByteArray) (v : Value) (w : World) (hv : Reads w v (l.map Value.string)) (hsz : ∀ s ∈ l, s.size ≤ 9223372036854775807) (hjz : junk.size ≤ 9223372036854775807) :
    Calls Try.prog 11 #[v, .string junk] w fun e w' => e = .returned (.bool true) ∧ Touch (fun _ => False) w w' := by
  obtain ⟨n, hn⟩ : ∃ n : Nat, n = min l.length 20 := ⟨_, rfl⟩
  obtain ⟨a, cap, hve, hc1, hc2, hc3⟩ := hv
  subst hve
  have hv' : Reads w (.slice a (txV l).length cap) (txV l) := ⟨a, cap, rfl, hc1, hc2, hc3⟩
  rw [show (l.map Value.string).length = l.length by simp] at hc1 ⊢
  rw [txV_length] at hv'
  have hq0 := hv'.upto (show n ≤ l.length by omega)
  have htk : (txV l).take n = txV (l.take n) := by unfold txV; rw [List.map_take]
  rw [htk] at hq0
  have hqn : (l.take n).length = n := by rw [List.length_take]; omega
  have hql : ∀ s ∈ l.take n, s.size ≤ 9223372036854775807 := fun s hs => hsz s (List.mem_of_mem_take hs)
  generalize l.take n = q at hq0 hqn hql
  obtain ⟨i0, hi, hz0, hz1, hz2⟩ := info_parts Try.infoStr
  obtain ⟨jm, hjm⟩ : ∃ jm : Nat, jm = min junk.size 400 := ⟨_, rfl⟩
  obtain ⟨J, hJ⟩ : ∃ J, junk.extract 0 jm = J := ⟨_, rfl⟩
  have hJz : J.size ≤ 400 := by rw [← hJ]; simp; omega
  have hi1 : min (l.length : Int) 20 = (n : Int) := by omega
  have hi2 : (if (l.length : Int) < 20 then (l.length : Int) else 20) = (n : Int) := by split <;> omega
  have hi3 : (if (20 : Int) < (l.length : Int) then 20 else (l.length : Int)) = (n : Int) := by split <;> omega
  have hnl : (n : Int) ≤ (l.length : Int) := by omega
  have hn20 : n ≤ 20 := by omega
  have hnc : n ≤ cap := by omega
  have hcI : (l.length : Int) ≤ (cap : Int) := by omega
  have HJM := Lib.hid hjm
  have HQ := Lib.hid hq0
  have HQL := Lib.hid hql
  have HQN := Lib.hid hqn
  have HJZ := Lib.hid hJz
  clear hq0 hql hqn hc3 hv' htk hsz hn hjm hJz
  go_enter Try.func11, Try.ntmps11
  go_wp2_with fail
  refine (speaks22_calls _).mono ?_
  rintro e w1 ⟨rfl, hT1⟩
  go_wp2_with fail
  clear hi1 hi2 hi3 hnl hnc hcI hc1 hc2
  go_loopw [5, 6, 7, 8] (fun sv lv i _ wr => ∃ (k : Nat) (W : ByteArray), k ≤ n ∧ i = .int .i64 (k : Nat) ∧ sv = .string W ∧ RowKit.Hid (W.data.toList = joinL (cutsT q k)) ∧ RowKit.Hid (Row wr 9 lv (txV (cutsT q k))) ∧ RowKit.Hid (∀ g, lv.ownBlock = some g → w.heap.size ≤ g) ∧ RowKit.Hid (Touch (fun _ => False) w wr)) (fun _ _ i _ _ => n - (intOf i).toNat)
  case atStart => exact ⟨0, ⟨#[]⟩, Nat.zero_le _, rfl, rfl, Lib.hid rfl, Lib.hid (Row.nil _ _), Lib.hid (fun g hg => by cases hg), Lib.hid hT1⟩
  case round =>
    obtain ⟨k, W, hk, rfl, rfl, HW, HR, HG, HT⟩ := hrel
    by_cases hlt : k < n
    · obtain ⟨g, o, c', hve, _, _, _, hcell⟩ := HQ.out.addr (by rw [txV_length, HQN.out]; omega)
      rw [txV_length, HQN.out] at hve
      injection hve with e1 _ e3
      subst e1
      have hkq : k < q.length := by rw [HQN.out]; exact hlt
      have hc := HT.out.cell (hcell k _ (txV_get q k hkq)) id
      have hsl := HQL.out q[k] (List.getElem_mem hkq)
      have HST := Lib.hid (cutsT_step q k hkq)
      have hWz : W.size ≤ 6040 := by
        have h1 := congrArg List.length HW.out
        have h2 := joinL_bound (cutsT q k) (cutsT_small q k)
        rw [cutsT_length q k (by omega)] at h2
        have h3 : W.data.toList.length = W.size := Array.length_toList
        omega
      have hlen := cutsT_length q k (by omega)
      obtain ⟨s0, hs0⟩ : ∃ s0, s0 = q[k] := ⟨_, rfl⟩
      rw [← hs0] at hc hsl HST
      obtain ⟨m, hm⟩ : ∃ m : Nat, m = min s0.size 300 := ⟨_, rfl⟩
      have ht : s0.extract 0 m = cutT s0 := by unfold cutT; rw [hm]
      have htz := cutT_size s0
      obtain ⟨t, htt⟩ : ∃ t, cutT s0 = t := ⟨_, rfl⟩
      rw [htt] at ht htz HST
      have hi1 : min (s0.size : Int) 300 = (m : Int) := by omega
      have hi2 : (if (s0.size : Int) < 300 then (s0.size : Int) else 300) = (m : Int) := by split <;> omega
      have hi3 : (if (300 : Int) < (s0.size : Int) then 300 else (s0.size : Int)) = (m : Int) := by split <;> omega
      have hms : (m : Int) ≤ (s0.size : Int) := by omega
      have hkI : (k : Int) < (n : Int) := by omega
      have hqz := lB_size 2 t.size
      have HP := Lib.hid (fun W => rput_calls t.size 2 W (by omega) (by omega))
      have hwq : IntKind.u64.wrap (t.size : Int) = (t.size : Int) := by rw [IntKind.wrap_u64]; omega
      have HB2 : RowKit.Hid ((W ++ (lB 2 t.size ++ t)).data.toList = joinL (cutsT q (k + 1))) := Lib.hid (by
        rw [HST.out, joinL_append, joinL_one, ← HW.out, ByteArray.data_append, Array.toList_append, ByteArray.data_append, Array.toList_append]
        rfl)
      generalize lB 2 t.size = p2 at hqz HP HB2
      have HTL := Lib.hid (⟨hlen, hcell⟩ : _ ∧ _)
      clear hs0 hm htt hsl hcell e3 hkq hlen
      go_wp2_with fail
      go_quiet (fail)
      clear hi1 hi2 hi3 hms
      go_upto_region 10 with fail
      have hTz := (Touch.refl (fun _ => False) wr).drewN nq
      generalize wr.drewN nq = wz at hTz ⊢
      have hr3 := (HR.out.kept hTz (fun _ _ => id)).kept ((Touch.refl (fun _ => False) wz).alloc (.cells #[.string t] 9)) (fun _ _ => id)
      have hsrc := (lit_reads wz t).src Try.underlying54 (txV_one [t])
      have HR3 := Lib.hid hr3
      have HSRC := Lib.hid hsrc
      have HT3 := Lib.hid ((HT.out.trans hTz).alloc (.cells #[.string t] 9))
      clear hr3 hsrc hTz hc
      go_wp2_with (at_builtin; refine wpList_append_row _ rfl (.tmp 39) (.tmp 41) 54 54 rfl 9 i0 _ 16 Try.underlying54 hi hz0 hz1 hz2 rfl _ (txV (cutsT q k)) rfl (by exact HR3.out) (.slice (some ⟨wz.heap.size, 0, none⟩) 1 1) rfl 1 (txV [t]) (by exact HSRC.out) (by rw [txV_length, HTL.out.1]; unfold maxLen; omega) (by rw [txV_length, HTL.out.1]; omega) ?_; intro v2 w3 hrow3 hgrow hown3)
      have HROW := Lib.hid hrow3
      have HOWN := Lib.hid (fun g (hg : v2.ownBlock = some g) => (by
        rcases hown3 with h | h
        · exact HG.out g (h ▸ hg)
        · rw [h] at hg
          have h9 := Option.some.inj hg
          have h8 := HT3.out.size
          omega : w.heap.size ≤ g))
      have HT4 := Lib.hid (HT3.out.grown hgrow (fun g hg => .inr (HG.out g hg)))
      clear hrow3 hown3 hgrow
      refine (HP.out _).mono ?_
      rintro e w4 ⟨rfl, hT4⟩
      go_wp2_with fail
      go_roundw
      case rel => exact ⟨k + 1, _, by omega, by go_num, rfl, HB2, Lib.hid (by rw [HST.out, ← txV_snoc]; exact HROW.out.kept hT4 (fun _ _ => id)), HOWN, Lib.hid (HT4.out.trans hT4)⟩
      case measure => simp [intOf]; omega
    · have hkI : (n : Int) ≤ (k : Int) := by omega
      obtain rfl : n = k := by omega
      clear hlt
      have hlen := cutsT_length q n (by rw [HQN.out]; exact Nat.le_refl _)
      have hsmall : smallL (cutsT q n) := fun s hs => by have := cutsT_small q n s hs; omega
      have hjl := joinL_bound (cutsT q n) (cutsT_small q n)
      rw [hlen] at hjl
      have hWz : W.size ≤ 6040 := by
        have h1 := congrArg List.length HW.out
        have h3 : W.data.toList.length = W.size := Array.length_toList
        omega
      have hWe : (⟨(joinL (cutsT q n)).toArray⟩ : ByteArray) = W := by
        apply ByteArray.ext
        apply Array.toList_inj.1
        exact HW.out.symm
      generalize cutsT q n = all at HW HR hlen hsmall hjl hWe
      obtain ⟨ga, gc, hu6, hgc, hgm⟩ := HR.out.form
      rw [txV_length, hlen] at hu6 hgc
      subst hu6
      have hjc := fun (W' : World) (hW : Reads W' (.slice ga n gc) (txV all)) => join_calls all hsmall (by omega) (by omega) (.slice ga n gc) W' hW
      rw [hWe] at hjc
      have HJC := Lib.hid hjc
      have HSC := Lib.hid (fun W' => split_calls W (by omega) W')
      have HSP := Lib.hid (fun W' => split_calls J (by have := HJZ.out; omega) W')
      have HAL := Lib.hid (⟨hlen, hsmall⟩ : _ ∧ _)
      clear hjc hWe hjl hlen hsmall
      go_wp2_with fail
      refine (HJC.out _ HR.out.reads).mono ?_
      rintro e w5 ⟨rfl, hT5⟩
      go_wp2_with fail
      refine (HSC.out _).mono ?_
      rintro e w6 ⟨r2, ok, rfl, hso, hT6⟩
      have hback : ok = true ∧ Row w6 9 r2 (txV all) := by
        rcases hso with ⟨_, _, hno⟩ | ⟨h1, ls, h2, h3, h4⟩
        · exact absurd HW.out.symm (hno all HAL.out.2)
        · have := join_inj HAL.out.2 h2 (by rw [h3]; exact HW.out)
          rw [this] at h4
          exact ⟨h1, h4⟩
      obtain ⟨rfl, hrow2⟩ := hback
      obtain ⟨ra, rc, hr2, hrc, hrm⟩ := hrow2.form
      rw [txV_length, HAL.out.1] at hr2 hrc
      subst hr2
      have HA := Lib.hid ((HR.out.kept hT5 (fun _ _ => id)).kept hT6 (fun _ _ => id)).reads
      have HB := Lib.hid hrow2.reads
      have HT6 := Lib.hid ((HT.out.trans hT5).trans hT6)
      clear hso hrow2 hT5 hT6 HJC HSC HG HR HW hWz
      go_wp2_with fail
      go_loopw [12] (fun i wx => ∃ (j : Nat), j ≤ n ∧ i = .int .i64 (j : Nat) ∧ RowKit.Hid (Touch (fun _ => False) w6 wx)) (fun i _ => n - (intOf i).toNat)
      case atStart => exact ⟨0, Nat.zero_le _, rfl, Lib.hid (Touch.refl _ _)⟩
      case round =>
        obtain ⟨j, hj, rfl, HTx⟩ := hrel
        by_cases hjl : j < n
        · obtain ⟨g1, o1, c1, hv1, _, _, _, hcl1⟩ := HA.out.addr (by rw [txV_length, HAL.out.1]; omega)
          obtain ⟨g2, o2, c2, hv2, _, _, _, hcl2⟩ := HB.out.addr (by rw [txV_length, HAL.out.1]; omega)
          rw [txV_length, HAL.out.1] at hv1 hv2
          injection hv1 with e1 _ e3
          injection hv2 with e4 _ e5
          subst e1
          subst e4
          have hjq : j < all.length := by rw [HAL.out.1]; exact hjl
          have p1 := HTx.out.cell (hcl1 j _ (txV_get all j hjq)) id
          have p2 := HTx.out.cell (hcl2 j _ (txV_get all j hjq)) id
          generalize all[j] = x at p1 p2
          have hjI : (j : Int) < (n : Int) := by omega
          clear hcl1 hcl2 e3 e5 hjq
          go_wp2_with fail
          go_quiet (fail)
          go_wp2_with fail
          go_roundw
          case rel => exact ⟨j + 1, by omega, by go_num, Lib.hid (HTx.out.drewN _)⟩
          case measure => simp [intOf]; omega
        · have hjI : (n : Int) ≤ (j : Int) := by omega
          have hj1 : min (junk.size : Int) 400 = (jm : Int) := by have := HJM.out; omega
          have hj2 : (if (junk.size : Int) < 400 then (junk.size : Int) else 400) = (jm : Int) := by have := HJM.out; split <;> omega
          have hj3 : (if (400 : Int) < (junk.size : Int) then 400 else (junk.size : Int)) = (jm : Int) := by have := HJM.out; split <;> omega
          have hjs : (jm : Int) ≤ (junk.size : Int) := by have := HJM.out; omega
          clear hjl
          go_wp2_with fail
          refine (HSP.out _).mono ?_
          rintro e w7 ⟨r3, is, rfl, hso3, hT7⟩
          clear hj1 hj2 hj3 hjs
          have HT7 := Lib.hid ((HT6.out.trans HTx.out).trans hT7)
          clear hT7
          rcases hso3 with ⟨rfl, rfl, _⟩ | ⟨rfl, ls, h2, h3, h4⟩
          · go_wp2_with fail
            go_ret
            exact ⟨rfl, HT7.out⟩
          · have hJe : (⟨(joinL ls).toArray⟩ : ByteArray) = J := by
              apply ByteArray.ext
              apply Array.toList_inj.1
              exact h3
            have hJl : (joinL ls).length ≤ 400 := by
              rw [h3, Array.length_toList]
              exact HJZ.out
            have hls := joinL_len ls
            obtain ⟨ra3, rc3, hr3, _, _⟩ := h4.form
            rw [hr3] at h4
            have hjc := fun (W' : World) (hW : Reads W' r3 (txV ls)) => join_calls ls h2 (by omega) (by omega) r3 W' hW
            rw [hJe, hr3] at hjc
            have HJC := Lib.hid hjc
            have HR3 := Lib.hid h4.reads
            subst hr3
            clear hjc h4 h3 hJe hJl hls
            go_wp2_with fail
            refine (HJC.out _ HR3.out).mono ?_
            rintro e w8 ⟨rfl, hT8⟩
            go_wp2_with fail
            go_ret
            exact ⟨rfl, HT7.out.trans hT8⟩
end Go.Proofs.Ytmjahbdengnoeaa

/- The walk of the statement SerialSorts. -/
import Derived.Test.YtmjahbdengnoeaaSerM
import Derived.Carry
namespace Go.Proofs.Ytmjahbdengnoeaa
open Go Go.RowKit Go.Maps
set_option maxRecDepth 100000

/-- What Sort gives of any numbers, none or some. -/
theorem sort_any (l : List Nat) (hl : ∀ n ∈ l, n < 4294967296) (h30 : l.length ≤ 30) (v : Value) (w : World) (hv : Reads w v (u32V l)) :
    Calls Try.prog 18 #[v] w fun e w' => ∃ r, e = .returned (.tuple #[r, .bool (nearL (l.getD 0 0) l)]) ∧ Touch (fun _ => False) w w' ∧
      ((nearL (l.getD 0 0) l = false ∧ r = .slice none 0 0) ∨ (nearL (l.getD 0 0) l = true ∧ ∃ dl : List Nat, Reads w' r (u32V dl) ∧ dl.Perm l ∧ dl.Pairwise fun a b => gapZ (l.getD 0 0) a ≤ gapZ (l.getD 0 0) b)) := by
  cases hm : l.length with
  | zero =>
    obtain rfl : l = [] := List.eq_nil_of_length_eq_zero hm
    obtain ⟨a, cap, rfl, _, _, _⟩ := hv
    refine (sort_nil a cap w).mono fun e w' ⟨he, ht⟩ => ⟨_, he, ht, .inr ⟨rfl, [], ⟨none, 0, rfl, Nat.le_refl _, Nat.zero_le _, .inl rfl⟩, List.Perm.refl _, List.Pairwise.nil⟩⟩
  | succ m => exact sort_some l hl h30 m hm v w hv

def nearB (f x : Nat) (l : List Nat) : Bool := l.all fun y => decide (gapZ f x - gapZ f y < 2147483648)
theorem nearL_eq (f : Nat) (l : List Nat) : nearL f l = l.all fun x => nearB f x l := rfl
theorem all_step {p : Nat → Bool} (l : List Nat) (k : Nat) (h : k < l.length) : (l.take (k + 1)).all p = ((l.take k).all p && p l[k]) := by
  rw [List.take_succ_eq_append_getElem h, List.all_append]; simp
theorem less_of {f a b : Nat} (ha : a < 4294967296) (hb : b < 4294967296) (h1 : gapZ f a ≤ gapZ f b) (h2 : gapZ f b - gapZ f a < 2147483648) (hne : a ≠ b) : aheadB a b = true := by
  unfold aheadB
  apply decide_eq_true
  have e1 : (gapZ f a - (a - f)) % 4294967296 = 0 := by unfold gapZ; split <;> omega
  have e2 : (gapZ f b - (b - f)) % 4294967296 = 0 := by unfold gapZ; split <;> omega
  have h3 := gap_lo f a
  have h4 := gap_hi f b
  generalize gapZ f a = x at *
  generalize gapZ f b = y at *
  unfold gapZ
  split <;> omega

theorem getD_in (l : List Nat) (k : Nat) (h : k < l.length) : l.getD k 0 = l[k] := by rw [List.getD_eq_getElem?_getD, List.getElem?_eq_getElem h, Option.getD_some]
theorem u32V_getD (l : List Nat) (k : Nat) (h : k < l.length) : (u32V l)[k]? = some (.int .u32 (l.getD k 0 : Nat)) := by rw [getD_in l k h]; exact u32V_get l k h
theorem all_stepD {p : Nat → Bool} (l : List Nat) (k : Nat) (h : k < l.length) : (l.take (k + 1)).all p = ((l.take k).all p && p (l.getD k 0)) := by rw [getD_in l k h]; exact all_step l k h
theorem count_stepD (l : List Nat) (k : Nat) (h : k < l.length) (y : Nat) : ((l.take (k + 1)).count y : Int) = if y = l.getD k 0 then ((l.take k).count (l.getD k 0) : Int) + 1 else ((l.take k).count y : Int) := by rw [getD_in l k h]; exact count_take l k h y
theorem count_permD {q dl : List Nat} (hp : dl.Perm q) (k : Nat) (h : k < dl.length) : (dl.take k).count (dl.getD k 0) + 1 ≤ q.count (dl.getD k 0) := by rw [getD_in dl k h]; exact count_perm_lt hp k h
theorem rgap_q (f x : Nat) (hf : f < 4294967296) (hx : x < 4294967296) (W : World) : Calls Try.prog 13 #[.int .u32 (f : Nat), .int .u32 (x : Nat)] W fun e w' => e = .returned (.int .i64 (gapZ f x)) ∧ w' = W :=
  (rgap_calls f x hf hx W).mono fun _ _ ⟨he, hw⟩ => ⟨he, hw.symm⟩

theorem next_ways {f : Nat} {q dl : List Nat} (hn : nearL f q = true) (hp : dl.Perm q) (hs : dl.Pairwise fun a b => gapZ f a ≤ gapZ f b) (hl : ∀ x ∈ q, x < 4294967296) (i j : Nat) (hij : j = i + 1) (hj : j < dl.length) :
    dl.getD i 0 = dl.getD j 0 ∨ (dl.getD i 0 ≠ dl.getD j 0 ∧ aheadB (dl.getD i 0) (dl.getD j 0) = true) := by
  have hi : i < dl.length := by omega
  rw [getD_in dl i hi, getD_in dl j hj]
  have mi := hp.mem_iff.1 (List.getElem_mem hi)
  have mj := hp.mem_iff.1 (List.getElem_mem hj)
  have h1 := List.pairwise_iff_getElem.1 hs i j hi hj (by omega)
  unfold nearL at hn
  rw [List.all_eq_true] at hn
  have h2 := hn _ mj
  rw [List.all_eq_true] at h2
  have h3 := of_decide_eq_true (h2 _ mi)
  by_cases he : dl[i] = dl[j]
  · exact .inl he
  · exact .inr ⟨he, less_of (hl _ mi) (hl _ mj) h1 h3 he⟩
theorem map_dec {w : World} {mb m : Nat} {q dl : List Nat} (j : Nat) (hM : MapU w mb m (fun y => (q.count y : Int) - ((dl.take j).count y : Int))) (hm : m < maxLen) (hp : dl.Perm q) (hj : j < dl.length) (hx : dl.getD j 0 < 4294967296) :
    ∃ (cn : Int) (w5 : World), 1 ≤ cn ∧ cn ≤ q.length ∧ (Instr.lookup 32 (.map (some mb)) (.int .u32 (dl.getD j 0 : Nat)) false).run Try.prog w = .ok (.int .i64 cn) w ∧
      (Instr.mapUpdate 32 (.map (some mb)) (.int .u32 (dl.getD j 0 : Nat)) (.int .i64 (cn - 1))).run Try.prog w = .ok () w5 ∧ MapU w5 mb (m + 1) (fun y => (q.count y : Int) - ((dl.take (j + 1)).count y : Int)) ∧
      (∀ nq, (Instr.lookup 32 (.map (some mb)) (.int .u32 (dl.getD j 0 : Nat)) false).run Try.prog (w5.drewN nq) = .ok (.int .i64 (cn - 1)) (w5.drewN nq)) ∧ w.grownBy w5 (some mb) := by
  have hst := count_stepD dl j hj
  have hcp := count_permD hp j hj
  have hcq : q.count (dl.getD j 0) ≤ q.length := List.count_le_length
  have hlook := hM.look _ hx
  generalize dl.getD j 0 = x at hst hcp hcq hlook hx ⊢
  obtain ⟨w5, hrun, hm5, hg5⟩ := hM.store hm x hx ((q.count x : Int) - ((dl.take j).count x : Int) - 1)
  refine ⟨_, w5, by omega, by omega, hlook, hrun, hm5.congr fun y => ?_, fun nq => ?_, hg5⟩
  · show (if y = x then (q.count x : Int) - ((dl.take j).count x : Int) - 1 else (q.count y : Int) - ((dl.take j).count y : Int)) = (q.count y : Int) - ((dl.take (j + 1)).count y : Int)
    rw [hst y]
    by_cases hy : y = x
    · rw [if_pos hy, if_pos hy, hy]; omega
    · rw [if_neg hy, if_neg hy]
  · have h2 : MapU (w5.drewN nq) mb (m + 1) _ := hm5.of_block (w' := w5.drewN nq) rfl
    have h1 := h2.look x hx
    simp only [if_true] at h1
    exact h1

theorem i64_nat {i : Nat} (h : i < 9223372036854775808) : IntKind.i64.wrap (i : Int) = (i : Int) := by rw [IntKind.wrap_i64]; omega

set_option maxHeartbeats 8000000 in
theorem ssorts_calls (l : List Nat) (v : Value) (w : World) (hv : Reads w v (u32V l)) (hl : ∀ n ∈ l, n < 4294967296) :
    Calls Try.prog 6 #[v] w fun e w' => e = .returned (.bool true) ∧ Touch (fun _ => False) w w' := by
  obtain ⟨n, hn⟩ : ∃ n : Nat, n = min l.length 30 := ⟨_, rfl⟩
  obtain ⟨a, cap, hve, hc1, hc2, hc3⟩ := hv
  subst hve
  have hv' : Reads w (.slice a (u32V l).length cap) (u32V l) := ⟨a, cap, rfl, hc1, hc2, hc3⟩
  rw [u32V_length] at hv' hc1 ⊢
  have hq0 := hv'.upto (show n ≤ l.length by omega)
  have htk : (u32V l).take n = u32V (l.take n) := by unfold u32V; rw [List.map_take]
  rw [htk] at hq0
  have hqn : (l.take n).length = n := by rw [List.length_take]; omega
  have hql : ∀ x ∈ l.take n, x < 4294967296 := fun x hx => hl x (List.mem_of_mem_take hx)
  generalize l.take n = q at hq0 hqn hql
  have hso := fun W (h : Reads W (.slice a n cap) (u32V q)) => sort_any q hql (by omega) (.slice a n cap) W h
  obtain ⟨f, hf⟩ : ∃ f, f = q.getD 0 0 := ⟨_, rfl⟩
  rw [← hf] at hso
  have hi1 : min (l.length : Int) 30 = (n : Int) := by omega
  have hi2 : (if (l.length : Int) < 30 then (l.length : Int) else 30) = (n : Int) := by split <;> omega
  have hi3 : (if (30 : Int) < (l.length : Int) then 30 else (l.length : Int)) = (n : Int) := by split <;> omega
  have hnl : (n : Int) ≤ (l.length : Int) := by omega
  have hn30 : n ≤ 30 := by omega
  have hnc : n ≤ cap := by omega
  have hcI : (l.length : Int) ≤ (cap : Int) := by omega
  have HSO := Lib.hid hso
  have HQ := Lib.hid hq0
  have HQL := Lib.hid hql
  have HF := Lib.hid hf
  have HQN := Lib.hid hqn
  clear hso hq0 hql hf hqn hc3 hv' htk hl hn
  go_enter Try.func6, Try.ntmps6
  go_wp2_with fail
  refine (speaks21_calls _).mono ?_
  rintro e w1 ⟨rfl, rfl⟩
  go_wp2_with fail
  refine (HSO.out _ HQ.out).mono ?_
  rintro e w3 ⟨r, rfl, hT3, hway⟩
  clear hi1 hi2 hi3 HSO hnl hnc hcI hc1 hc2
  have HW := Lib.hid hway
  have hform : ∃ (ra : Option Addr) (rn rc : Nat), r = .slice ra rn rc := by
    rcases hway with ⟨_, rfl⟩ | ⟨_, dl, ⟨ra, rc, h, _⟩, _⟩
    · exact ⟨none, 0, 0, rfl⟩
    · exact ⟨ra, _, rc, h⟩
  obtain ⟨ra, rn, rc, rfl⟩ := hform
  clear hway
  have HQ3 := Lib.hid (HQ.out.still hT3)
  have HT3 := Lib.hid hT3
  clear hT3
  obtain ⟨nr, hnr⟩ : ∃ nr, nearL f q = nr := ⟨_, rfl⟩
  rw [hnr] at HW ⊢
  have HNR := Lib.hid hnr
  clear hnr
  go_wp2_with fail
  go_loopw [5, 6, 7] (fun nv i _ wr => ∃ (k : Nat) (b : Bool), k ≤ n ∧ i = .int .i64 (k : Nat) ∧ nv = .bool b ∧ RowKit.Hid (b = (q.take k).all fun x => nearB f x q) ∧ RowKit.Hid (Touch (fun _ => False) w3 wr)) (fun _ i _ _ => n - (intOf i).toNat)
  case atStart => exact ⟨0, true, Nat.zero_le _, rfl, rfl, Lib.hid rfl, Lib.hid (Touch.refl _ _)⟩
  case round =>
    obtain ⟨k, b, hk, rfl, rfl, HB, HT⟩ := hrel
    by_cases hlt : k < n
    · obtain ⟨g, o, c', hve, _, _, _, hcell⟩ := HQ3.out.addr (by rw [u32V_length, HQN.out]; omega)
      rw [u32V_length, HQN.out] at hve
      injection hve with e1 _ e3
      subst e1
      have HCL := Lib.hid hcell
      have hxk : q.getD k 0 < 4294967296 := HQL.out _ (by rw [getD_in q k (by rw [HQN.out]; exact hlt)]; exact List.getElem_mem _)
      have hff : f < 4294967296 := by rw [HF.out]; exact HQL.out _ (by rw [getD_in q 0 (by rw [HQN.out]; omega)]; exact List.getElem_mem _)
      have q0 := HCL.out 0 _ (u32V_getD q 0 (by rw [HQN.out]; omega))
      rw [← HF.out, Nat.add_zero] at q0
      have qk := HCL.out k _ (u32V_getD q k (by rw [HQN.out]; exact hlt))
      have HSTEP := Lib.hid (all_stepD (p := fun x => nearB f x q) q k (by rw [HQN.out]; exact hlt))
      obtain ⟨xk, hxke⟩ : ∃ x, x = q.getD k 0 := ⟨_, rfl⟩
      rw [← hxke] at hxk qk HSTEP
      have GA := Lib.hid (fun W => rgap_q f xk hff hxk W)
      have ga1 := gap_lo f xk
      have ga2 := gap_hi f xk
      have hkI : (k : Int) < (n : Int) := by omega
      clear hcell e3 hxke
      go_wp2_with fail
      go_loopw [5, 7] (fun nv kv wx => ∃ (j : Nat) (c : Bool), j ≤ n ∧ kv = .int .i64 (j : Nat) ∧ nv = .bool c ∧ RowKit.Hid (c = (b && (q.take j).all fun y => decide (gapZ f xk - gapZ f y < 2147483648))) ∧ RowKit.Hid (Touch (fun _ => False) w3 wx)) (fun _ j _ => n - (intOf j).toNat)
      case atStart => exact ⟨0, b, Nat.zero_le _, rfl, rfl, Lib.hid (by simp), HT⟩
      case round =>
        obtain ⟨j, c, hj, rfl, rfl, HC, HTx⟩ := hrel
        by_cases hjl : j < n
        · as_aux_lemma =>
            have HST := Lib.hid (all_stepD (p := fun y => decide (gapZ f xk - gapZ f y < 2147483648)) q j (by rw [HQN.out]; exact hjl))
            cases c
            · go_wp2_with fail
              go_quiet (fail)
              go_wp2_with fail
              go_roundw
              case rel => exact ⟨j + 1, false, by omega, by go_num, rfl, Lib.hid (by rw [HST.out, ← Bool.and_assoc, ← HC.out]; rfl), Lib.hid (HTx.out.drewN _)⟩
              case measure => simp [intOf]; omega
            · have p0 := HTx.out.cell q0 id
              have pk := HTx.out.cell qk id
              have hyj : q.getD j 0 < 4294967296 := HQL.out _ (by rw [getD_in q j (by rw [HQN.out]; exact hjl)]; exact List.getElem_mem _)
              have pj := HTx.out.cell (HCL.out j _ (u32V_getD q j (by rw [HQN.out]; exact hjl))) id
              obtain ⟨y, hy⟩ : ∃ y, y = q.getD j 0 := ⟨_, rfl⟩
              rw [← hy] at hyj pj HST
              have GB := Lib.hid (fun W => rgap_q f y hff hyj W)
              have gb1 := gap_lo f y
              have gb2 := gap_hi f y
              have hjI : (j : Int) < (n : Int) := by omega
              clear hy
              obtain ⟨za, hza⟩ : ∃ z, z = gapZ f xk := ⟨_, rfl⟩
              obtain ⟨zb, hzb⟩ : ∃ z, z = gapZ f y := ⟨_, rfl⟩
              rw [← hza] at ga1 ga2 GA
              rw [← hzb] at gb1 gb2 GB
              have HZA := Lib.hid hza
              have HZB := Lib.hid hzb
              clear hza hzb
              have hw64 : wrap64 (za - zb) = za - zb := by unfold wrap64; omega
              by_cases hd : za - zb < 2147483648
              · go_wp2_with fail
                go_quiet (first
                  | (go_at_call 13; with_reducible exact Calls.quiet_of_same (GA.out _))
                  | (go_at_call 13; with_reducible exact Calls.quiet_of_same (GB.out _)))
                go_wp2_with fail
                go_roundw
                case rel => exact ⟨j + 1, true, by omega, by go_num, rfl, Lib.hid (by have hd' : gapZ f xk - gapZ f y < 2147483648 := (by rw [← HZA.out, ← HZB.out]; exact hd); rw [HST.out, ← Bool.and_assoc, ← HC.out, decide_eq_true hd']; rfl), Lib.hid (HTx.out.drewN _)⟩
                case measure => simp [intOf]; omega
              · go_wp2_with fail
                go_quiet (first
                  | (go_at_call 13; with_reducible exact Calls.quiet_of_same (GA.out _))
                  | (go_at_call 13; with_reducible exact Calls.quiet_of_same (GB.out _)))
                go_wp2_with fail
                go_roundw
                case rel => exact ⟨j + 1, false, by omega, by go_num, by simp [hd], Lib.hid (by have hd' : ¬ (gapZ f xk - gapZ f y < 2147483648) := (by rw [← HZA.out, ← HZB.out]; omega); rw [HST.out, ← Bool.and_assoc, ← HC.out, decide_eq_false hd']; rfl), Lib.hid (HTx.out.drewN _)⟩
                case measure => simp [intOf]; omega
        · as_aux_lemma =>
            have hjn : j = n := by omega
            have hjI : (n : Int) ≤ (j : Int) := by omega
            have HCE : RowKit.Hid (c = (q.take (k + 1)).all fun x => nearB f x q) := Lib.hid (by
              rw [HSTEP.out, HC.out, HB.out]
              congr 1
              rw [List.take_of_length_le (by rw [HQN.out]; omega)]
              rfl)
            clear hjn hjl HC
            go_wp2_with fail
            go_roundw
            case rel => exact ⟨k + 1, c, by omega, by go_num, rfl, HCE, HTx⟩
            case measure => simp [intOf]; omega
    · have hkI : (n : Int) ≤ (k : Int) := by omega
      have HBN : RowKit.Hid (b = nr) := Lib.hid (by rw [HB.out, List.take_of_length_le (by rw [HQN.out]; omega), ← HNR.out]; rfl)
      obtain rfl : b = nr := HBN.out
      clear HB HBN hlt
      cases b
      · as_aux_lemma =>
          have hr : Value.slice ra rn rc = Value.slice none 0 0 := by
            rcases HW.out with ⟨_, h⟩ | ⟨h, _⟩
            · exact h
            · cases h
          injection hr with h1 h2 h3
          subst h1 h2 h3
          go_wp2_with fail
          go_ret
          exact ⟨rfl, HT3.out.trans HT.out⟩
      · obtain ⟨dl, hdr, hdp, hds⟩ : ∃ dl, Reads w3 (Value.slice ra rn rc) (u32V dl) ∧ dl.Perm q ∧ List.Pairwise (fun a b => gapZ f a ≤ gapZ f b) dl := by
          rcases HW.out with ⟨h, _⟩ | ⟨_, h⟩
          · cases h
          · exact h
        have hdn : dl.length = n := by rw [hdp.length_eq, HQN.out]
        obtain rfl : n = rn := by
          obtain ⟨_, _, h1, _⟩ := hdr
          injection h1 with _ h1 _
          rw [h1, u32V_length, hdn]
        have HD := Lib.hid (⟨hdr, hdp, hds, hdn⟩ : _ ∧ _ ∧ _ ∧ _)
        clear hdr hdp hds hdn
        have hmm := @run_makeMap Try.prog
        go_wp2_with fail
        have hM0 := MapU.made wr
        have hT0 := HT.out.alloc (.map #[] 0)
        have hmb : w3.heap.size ≤ wr.heap.size := HT.out.size
        generalize wr.alloc (.map #[] 0) = w4 at hM0 hT0 ⊢
        generalize wr.heap.size = mb at hM0 hmb ⊢
        have HM0 := Lib.hid (hM0.congr (c' := fun y => ((q.take 0).count y : Int)) (fun y => by simp))
        have HT0 := Lib.hid hT0
        clear hM0 hT0 hmm
        go_loopw [9] (fun i wx => ∃ (j : Nat), j ≤ n ∧ i = .int .i64 (j : Nat) ∧ RowKit.Hid (MapU wx mb j (fun y => ((q.take j).count y : Int))) ∧ RowKit.Hid (Touch (fun _ => False) w3 wx)) (fun i _ => n - (intOf i).toNat)
        case atStart => exact ⟨0, Nat.zero_le _, rfl, HM0, HT0⟩
        case round =>
          obtain ⟨j, hj, rfl, HM, HTx⟩ := hrel
          by_cases hjl : j < n
          · as_aux_lemma =>
              obtain ⟨g, o, c', hve, _, _, _, hcell⟩ := HQ3.out.addr (by rw [u32V_length, HQN.out]; omega)
              rw [u32V_length, HQN.out] at hve
              injection hve with e1 _ e3
              subst e1
              have hxl : q.getD j 0 < 4294967296 := HQL.out _ (by rw [getD_in q j (by rw [HQN.out]; exact hjl)]; exact List.getElem_mem _)
              have pj := HTx.out.cell (hcell j _ (u32V_getD q j (by rw [HQN.out]; exact hjl))) id
              have HST := Lib.hid (count_stepD q j (by rw [HQN.out]; exact hjl))
              have hcl : (q.take j).count (q.getD j 0) ≤ 30 := Nat.le_trans List.count_le_length (by rw [List.length_take]; omega)
              have hlook := HM.out.look _ hxl
              obtain ⟨x, hx⟩ : ∃ x, x = q.getD j 0 := ⟨_, rfl⟩
              rw [← hx] at hxl pj HST hcl hlook
              obtain ⟨cn, hcn⟩ : ∃ cn, cn = (q.take j).count x := ⟨_, rfl⟩
              rw [← hcn] at hcl hlook HST
              obtain ⟨w5, hrun, hm5, hg5⟩ := HM.out.store (by unfold maxLen; omega) x hxl ((cn : Int) + 1)
              have HM5 := Lib.hid (hm5.congr (c' := fun y => ((q.take (j + 1)).count y : Int)) (fun y => (HST.out y).symm))
              have HT5 := Lib.hid (HTx.out.grown hg5 (fun b hb => .inr (by injection hb with hb; omega)))
              have hjI : (j : Int) < (n : Int) := by omega
              clear hx hcn hm5 hg5 hcell e3
              go_wp2_with fail
              go_roundw
              case rel => exact ⟨j + 1, by omega, by go_num, HM5, HT5⟩
              case measure => simp [intOf]; omega
          · have hjI : (n : Int) ≤ (j : Int) := by omega
            obtain rfl : n = j := by omega
            have HM1 := Lib.hid (HM.out.congr (c' := fun y => (q.count y : Int) - ((dl.take 0).count y : Int)) (fun y => by rw [List.take_of_length_le (by rw [HQN.out]; exact Nat.le_refl _)]; simp))
            clear HM
            go_wp2_with fail
            go_loopw [10] (fun i wx => ∃ (j : Nat), j ≤ n ∧ i = .int .i64 (j : Nat) ∧ RowKit.Hid (MapU wx mb (n + j) (fun y => (q.count y : Int) - ((dl.take j).count y : Int))) ∧ RowKit.Hid (Touch (fun _ => False) w3 wx)) (fun i _ => n - (intOf i).toNat)
            case atStart => exact ⟨0, Nat.zero_le _, rfl, HM1, HTx⟩
            case round =>
              clear HM1
              obtain ⟨j, hj, rfl, HM, HTx⟩ := hrel
              obtain ⟨hdr, hdp, hds, hdn⟩ := HD.out
              by_cases hjl : j < n
              · obtain ⟨g, o, c', hve, _, _, _, hcell⟩ := hdr.addr (by rw [u32V_length, hdn]; omega)
                rw [u32V_length, hdn] at hve
                injection hve with e1 _ e3
                subst e1
                have hdlt : ∀ i, i < n → dl.getD i 0 < 4294967296 := fun i hi => HQL.out _ (hdp.mem_iff.1 (by rw [getD_in dl i (by omega)]; exact List.getElem_mem _))
                have hxl := hdlt j hjl
                have pj0 := hcell j _ (u32V_getD dl j (by omega))
                have HCL := Lib.hid hcell
                have HX : RowKit.Hid (∀ i, j = i + 1 → (dl.getD i 0 = dl.getD j 0 ∨ (dl.getD i 0 ≠ dl.getD j 0 ∧ aheadB (dl.getD i 0) (dl.getD j 0) = true))) := Lib.hid (fun i hi => next_ways HNR.out hdp hds HQL.out i j hi (by omega))
                obtain ⟨cn, w5, hc1, hc2, hlook, hrun, hm6, hlook2, hg5⟩ := map_dec j HM.out (by unfold maxLen; omega) hdp (by omega) hxl
                rw [HQN.out] at hc2
                obtain ⟨x, hx⟩ : ∃ x, x = dl.getD j 0 := ⟨_, rfl⟩
                rw [← hx] at hxl pj0 hlook hlook2 hrun HX
                have hT5 := HTx.out.grown hg5 (fun b hb => .inr (by injection hb with hb; omega))
                have pj := HTx.out.cell pj0 id
                have pj5 := hT5.cell pj0 id
                have HM6 := Lib.hid hm6
                have HT5 := Lib.hid hT5
                have hjI : (j : Int) < (n : Int) := by omega
                have hnn1 : decide (cn - 1 < 0) = false := decide_eq_false (by omega)
                have hnn2 : ¬ cn - 1 < 0 := by omega
                have hw64 : wrap64 (cn - 1) = cn - 1 := by unfold wrap64; omega
                clear hx hm6 hg5 hcell e3 hdr hdp hds hdn hdlt pj0 hT5
                cases j with
                | zero => as_aux_lemma =>
                    clear HX
                    rw [Nat.add_zero] at pj pj5
                    go_wp2_with fail
                    go_quiet (fail)
                    go_wp2_with fail
                    go_roundw
                    case rel => exact ⟨1, by omega, by go_num, Lib.hid (HM6.out.of_block rfl), Lib.hid (HT5.out.drewN _)⟩
                    case measure => simp [intOf]; omega
                | succ i =>
                  have hi5 := HT5.out.cell (HCL.out i _ (u32V_getD dl i (by have := HD.out.2.2.2; omega))) id
                  have hyl : dl.getD i 0 < 4294967296 := HQL.out _ (HD.out.2.1.mem_iff.1 (by rw [getD_in dl i (by have := HD.out.2.2.2; omega)]; exact List.getElem_mem _))
                  have hX := HX.out i rfl
                  generalize dl.getD i 0 = y at hi5 hyl hX
                  have hiI : (0 : Int) < (i : Int) + 1 := by omega
                  have hdi : decide ((0 : Int) < (i : Int) + 1) = true := decide_eq_true hiI
                  have hii : (i : Int) < (n : Int) := by omega
                  have hjJ : (i : Int) + 1 < (n : Int) := by omega
                  have hjK : (0 : Int) ≤ (i : Int) + 1 := by omega
                  have hi63 : i < 9223372036854775808 := by omega
                  have hi0 : (0 : Int) ≤ (i : Int) := by omega
                  clear hjI
                  clear HX
                  rcases hX with rfl | ⟨hne, hah⟩
                  · as_aux_lemma =>
                      go_wp2_with fail
                      clear hw64
                      go_quiet (fail)
                      go_wp2_with fail
                      go_roundw
                      case rel => exact ⟨i + 1 + 1, by omega, by go_num, Lib.hid (HM6.out.of_block rfl), Lib.hid (HT5.out.drewN _)⟩
                      case measure => simp [intOf]; omega
                  · as_aux_lemma =>
                      have HL : RowKit.Hid (∀ W, Calls Try.prog 15 #[.int .u32 (y : Nat), .int .u32 (x : Nat)] W fun e w' => e = .returned (.bool true) ∧ w' = W) := Lib.hid (fun W => (sless_calls y x hyl hxl W).mono fun _ _ ⟨he, hw⟩ => ⟨by rw [he, hah], hw.symm⟩)
                      have hb1 : ((x : Int) != (y : Int)) = true := bne_iff_ne.2 (by intro h; exact hne (by omega))
                      clear hah hne
                      go_wp2_with fail
                      clear hw64
                      have hwi := i64_nat hi63
                      go_quiet ((go_at_call 15; with_reducible exact Calls.quiet_of_same (HL.out _)))
                      go_wp2_with fail
                      go_roundw
                      case rel => exact ⟨i + 1 + 1, by omega, by go_num, Lib.hid (HM6.out.of_block rfl), Lib.hid (HT5.out.drewN _)⟩
                      case measure => simp [intOf]; omega
              · have hjI : (n : Int) ≤ (j : Int) := by omega
                clear hdr hdp hds
                go_wp2_with fail
                go_ret
                exact ⟨rfl, HT3.out.trans HTx.out⟩
end Go.Proofs.Ytmjahbdengnoeaa

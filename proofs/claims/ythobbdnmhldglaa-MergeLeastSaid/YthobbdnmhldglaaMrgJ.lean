/- Package merge: the lengths of the lists. -/
import Derived.Test.YthobbdnmhldglaaMrgI
import Derived.Test.YthobbdnmhldglaaMrgKr
import Derived.RangeFuncBox
namespace Go.Proofs.Ythobbdnmhldglaa
open Go Go.RowKit Go.Shelf
set_option maxRecDepth 100000
attribute [local go_sem] Oper.semAt_some

theorem ownI (B : Nat) (I : Nat → World → Prop) (hk : ∀ k A D (row : Option Nat), I k A → A.grownBy D row → (∀ r, row = some r → B ≤ r ∧ ∃ o : Obj, A.heap[r]? = some o ∧ o.isCells = false) → I k D) : OwnFrom B I := hk

set_option maxHeartbeats 4000000 in
theorem spread_calls (ss CS ls : List Nat) (N Lb lcap : Nat) (sv lsv : Value) (w : World) (hlen : Row w 3 (.slice (some ⟨Lb, 0, none⟩) ls.length lcap) (intVs ls)) (hss : Reads w sv (intVs ss)) (hsb : 0 < ss.length → sv.ownBlock ≠ some Lb) (base : Nat) (hlists : Lists base w lsv (levelsM CS N)) (hbase : Lb < base) (hlb : lsv.ownBlock ≠ some Lb) (hcl : CS.length = ss.length) (hN : 1 ≤ N) (hN15 : N ≤ 15) (hn : ss.length ≤ 2 ^ N) (h288 : ss.length ≤ 288) (hlt : ∀ s ∈ ss, s < ls.length) (hnd : ss.Nodup) (hls : ∀ p, ls.getD p 0 = 0) :
    Calls Try.prog 16 #[.slice (some ⟨Lb, 0, none⟩) ls.length lcap, sv, lsv] w fun e w' => (∃ v, e = .returned v) ∧ Row w' 3 (.slice (some ⟨Lb, 0, none⟩) ls.length lcap) (intVs (spreadK ss CS N ls N).2) ∧ Touch (fun k => k = Lb) w w' := by
  refine (callsIn_wide (n := 3)).1 ?_
  obtain ⟨sa, scap, hsv, hs1, hs2⟩ := hss.form
  subst hsv
  rw [intVs_length] at hs1 ⊢
  obtain ⟨vs, hvl, hvr, hvI, hvb⟩ := hlists
  have hvn : vs.length = N := by rw [hvl]; simp [levelsM]
  obtain ⟨b, off, cap, hv, hv1, hv2, hv3⟩ := hvr.addr (by omega)
  subst hv
  rw [hvn] at hv1 ⊢
  have HROW := Lib.hid hlen
  have HVB := Lib.hid hvb
  have HVI := Lib.hid hvI
  have HV3 := Lib.hid hv3
  have hLb := hlen.lt Lb rfl
  clear hlen hvb hvI hv3
  have hmx : max (0 : Int) (2 * (ss.length : Int) - 2) = ((2 * ss.length - 2 : Nat) : Int) := by omega
  refine callsIn_of_wp_marks Try.func16 rfl trivial ?_ rfl
  simp only [Try.ntmps16, List.size_toArray, List.length_cons, List.length_nil, Nat.reduceAdd, Nat.reduceSub, Array.replicate_succ, Array.replicate_zero, List.push_toArray, List.append_toArray, List.nil_append, List.cons_append]
  gi_wp2_with (refine ⟨trivial, ?_⟩; gi_at_call 29; refine (back_in Fence.wide (3 - 1) trivial rfl _ _ _ _).mono ?_; rintro e w' ⟨rfl, rfl⟩)
  generalize hw1 : w.alloc (Obj.cells #[Value.slice (some ⟨Lb, 0, none⟩) ls.length lcap] 22) = w1
  generalize hw2 : w1.alloc (Obj.cells #[Value.slice sa ss.length scap] 22) = w2
  generalize hw3 : w2.alloc (Obj.cells #[Value.int .i64 ((2 * ss.length - 2 : Nat) : Int)] 3) = w3
  have z1 : w1.heap.size = w.heap.size + 1 := by rw [← hw1]; simp
  have z2 : w2.heap.size = w.heap.size + 1 + 1 := by rw [← hw2]; simp [z1]
  have z3 : w3.heap.size = w.heap.size + 1 + 1 + 1 := by rw [← hw3]; simp [z2]
  generalize hW0 : w3.alloc (Obj.cells #[Value.slice (some ⟨b, off, none⟩) N cap] 37) = W0
  have z4 : W0.heap.size = w.heap.size + 4 := by rw [← hW0]; simp [z3]
  have T3 : Touch (fun _ => False) w w3 := by rw [← hw3, ← hw2, ← hw1]; exact (((Touch.refl _ _).alloc _).alloc _).alloc _
  have T0 : Touch (fun _ => False) w W0 := by rw [← hW0]; exact T3.alloc _
  have bT : Boxed W0 (w.heap.size + 1 + 1) 3 (Value.int .i64 ((2 * ss.length - 2 : Nat) : Int)) := by
    rw [← hW0, ← hw3, ← z2]; exact (Boxed.new w2 _ _).alloc _
  have bB : Boxed W0 (w.heap.size + 1 + 1 + 1) 37 (Value.slice (some ⟨b, off, none⟩) N cap) := by
    rw [← hW0, ← z3]; exact Boxed.new w3 _ _
  have b3 : Boxed W0 w.heap.size 22 (Value.slice (some ⟨Lb, 0, none⟩) ls.length lcap) := by
    rw [← hW0, ← hw3, ← hw2, ← hw1]; exact (((Boxed.new w _ _).alloc _).alloc _).alloc _
  have b4 : Boxed W0 (w.heap.size + 1) 22 (Value.slice sa ss.length scap) := by
    rw [← hW0, ← hw3, ← hw2, ← z1]; exact ((Boxed.new w1 _ _).alloc _).alloc _
  refine range_rounds rfl (by omega) (gf := 35) (lb := #[.pointer (some ⟨w.heap.size + 1 + 1 + 1, 0, none⟩)]) (by first | rfl | (rw [← z3]; rfl)) trivial (enters_of Try.func35 (by kernel_rfl) rfl)
    N (backA N fun j => vs.getD j undef) (fun _ => rfl) (KeepB (w.heap.size + 4) fun k => k = Lb ∨ k = w.heap.size + 1 + 1) KeepB.trans (fun W l o h => keepB_b (w := W0) (by omega) W l o h)
    (fun l J W hB hY h0 => ?seq)
    (fun k W => (Row W 3 (.slice (some ⟨Lb, 0, none⟩) ls.length lcap) (intVs (spreadK ss CS N ls k).2) ∧ Boxed W (w.heap.size + 1 + 1) 3 (.int .i64 ((spreadK ss CS N ls k).1 : Nat))) ∧ Touch (fun k => k = Lb ∨ k = w.heap.size + 1 + 1) W0 W)
    ?own ⟨⟨HROW.out.kept T0 (fun _ _ => id), bT⟩, Touch.refl _ _⟩ (fun k => { tmps := #[.slice (some ⟨Lb, 0, none⟩) ls.length lcap, .slice sa ss.length scap, .slice (some ⟨b, off, none⟩) N cap, .pointer (some ⟨w.heap.size, 0, none⟩), .pointer (some ⟨w.heap.size + 1, 0, none⟩), undef, .pointer (some ⟨w.heap.size + 1 + 1, 0, none⟩), undef, vs.getD (N - 1 - k) undef, undef, undef, undef, undef, .slice sa ss.length scap, .int .i64 ss.length, .int .i64 (2 * ss.length), .int .i64 (2 * ss.length - 2), .int .i64 ((2 * ss.length - 2 : Nat) : Int), .slice (some ⟨b, off, none⟩) N cap, .func (.func 35) #[] #[.pointer (some ⟨w.heap.size + 1 + 1 + 1, 0, none⟩)], .int .i64 ((N - 1 - k : Nat) : Int), vs.getD (N - 1 - k) undef, undef, undef, undef, undef, undef, undef, undef, undef, undef, undef, undef, undef, undef, undef, undef, undef, undef, undef, undef, undef, undef, undef, undef, undef, undef, undef], defers := [] }) ?assign ?body ?done
  case seq =>
    refine back_rounds Fence.wide (3 - 1) trivial rfl (by omega) l (w.heap.size + 1 + 1 + 1) (w.heap.size + 4) b off cap N _ (fun j => vs.getD j undef) (by omega) (by omega) (fun h => ?_) (by omega) (fun h => ?_) J hY W ((hB.cell (p := ⟨w.heap.size + 1 + 1 + 1, 0, none⟩) (show w.heap.size + 1 + 1 + 1 < W0.heap.size by omega)).trans bB.cell) (fun j hj => ?_) h0
    · rcases h with h | h
      · exact hlb (by rw [← h]; rfl)
      · omega
    · rcases h with h | h <;> omega
    · refine (hB.cell (p := ⟨b, off + j, none⟩) (show b < W0.heap.size by omega)).trans (T0.cell (HV3.out j _ ?_) id)
      rw [List.getElem?_eq_getElem (by omega)]
      simp [List.getD, hvn, hj]
  case own =>
    refine ownI _ _ fun k A D row hs hg hr => ?_
    obtain ⟨⟨h1, h2⟩, h3⟩ := hs
    have h4 : ∀ r, row = some r → W0.heap.size ≤ r := fun r e => (hr r e).1
    have hT : Touch (fun k => some k = row) A D := Touch.of_grown hg
    refine ⟨⟨h1.kept hT (fun g hg' e => ?_), h2.kept hg (fun e => ?_)⟩, h3.grown hg (fun k e => .inr (h4 k e))⟩
    · have := h4 g e.symm
      simp [Value.ownBlock] at hg'
      omega
    · have := h4 _ e.symm
      omega
  case assign =>
    intro l k W K hK
    simp only [backA]
    generalize vs.getD (N - 1 - k) undef = gv at hK ⊢
    generalize hj : N - 1 - k = j at hK ⊢
    gi_wp2
    exact hK
  case done =>
    rintro D W hD ⟨⟨hr, hbt⟩, ht⟩ hK
    gi_wp2
    refine ⟨by simp, .inl ⟨_, _, rfl, run_takeDeferred hK, ?_⟩⟩
    have hg := grownBy_putObj' W D (Obj.deferred none)
    refine ⟨_, results_none rfl _ _ _, ⟨_, rfl⟩, hr.kept (Touch.of_grown hg) (fun g e h => ?_), ?_⟩
    · simp [Value.ownBlock] at e
      injection h with h
      omega
    · exact ((T0.mono fun _ h => h.elim).trans' ht (fun i h => h.elim .inl (fun e => .inr (by omega)))).grown hg (fun r e => .inr (by injection e with e; omega))
  case body =>
    rintro l k W ⟨⟨hr, hbt⟩, ht⟩ hk
    have hkN := spreadK_taken ss CS N ls hcl hN hn k hk
    obtain ⟨u, hu⟩ : ∃ u, vs[N - 1 - k]? = some u := ⟨_, List.getElem?_eq_getElem (by omega)⟩
    have hits := HVI.out (N - 1 - k) u (levelM CS (N - k)) hu (by simp [levelsM, show N - 1 - k < N by omega, show N - 1 - k + 1 = N - k by omega])
    have hub := HVB.out u (List.mem_of_getElem? hu)
    rw [show vs.getD (N - 1 - k) undef = u by simp [List.getD, hu]]
    obtain ⟨ia, icap, rfl, hi1, hi2, hi3⟩ := hits
    have hbc := hbt.cell
    have hbf := hbt.frozen
    generalize hT : (spreadK ss CS N ls k).1 = T at hkN hbt hbc hbf
    generalize hLV : levelM CS (N - k) = LV at hkN hi1 hi3 ⊢
    have ht0 : (0 : Int) ≤ (T : Int) := by omega
    have ht1 : (T : Int) ≤ (LV.length : Int) := by omega
    have ht2 : (LV.length : Int) ≤ (icap : Int) := by omega
    have ht3 : (T : Int) ≤ (icap : Int) := by omega
    have HI3 := Lib.hid hi3
    have HUB := Lib.hid hub
    have HT := Lib.hid ht
    have HBT := Lib.hid hbt
    generalize hLS : (spreadK ss CS N ls k).2 = LS at hr
    have hTL : T ≤ LV.length := hkN
    clear hi3 hub ht hbt
    gi_wp2
    gi_loopw [9, 10, 26] (fun sg pr i wr => ∃ j : Nat, j ≤ T ∧ i = .int .i64 j ∧ sg = .int .i64 (singlesM (LV.take j) : Nat) ∧ pr = .int .i64 (pairsM (LV.take j) : Nat) ∧ Row wr 3 (.slice (some ⟨Lb, 0, none⟩) ls.length lcap) (intVs (stepL ss (LV.take j) 0 LS)) ∧ Touch (fun k => k = Lb) W wr) (fun _ _ i _ => T - (intOf i).toNat)
    case atStart => exact ⟨0, Nat.zero_le _, rfl, by rfl, by rfl, by simpa [stepL] using hr, Touch.refl _ _⟩
    case round =>
      obtain ⟨j, hj, rfl, rfl, rfl, hrw, htw⟩ := hrel
      by_cases hjT : j < T
      · obtain ⟨ig, io, rfl, hcells⟩ : ∃ ig io, ia = some ⟨ig, io, none⟩ ∧ ∀ q x, LV[q]? = some x → w.cell? ⟨ig, io + q * 2, none⟩ = some (.int .i64 (x.1 : Nat)) ∧ w.cell? ⟨ig, io + q * 2 + 1, none⟩ = some (.bool x.2) := by
          rcases HI3.out with h | h
          · rw [h] at hTL; simp at hTL; omega
          · exact h
        have hig := HUB.out.1 ig rfl
        obtain ⟨x, hx⟩ : ∃ x, LV[j]? = some x := ⟨_, List.getElem?_eq_getElem (by omega)⟩
        have keep : ∀ p v, p.block = ig → w.cell? p = some v → wr.cell? p = some v := fun p v hp hv => htw.cell (HT.out.cell (T0.cell hv id) (by rw [hp]; omega)) (by rw [hp]; omega)
        have hx1 := keep _ _ rfl (hcells j x hx).1
        have hx2 := keep _ _ rfl (hcells j x hx).2
        have hLVL : LV.length ≤ 576 := by have := levelM_len CS (N - k); rw [hLV] at this; omega
        have hps := pairs_singles (LV.take j)
        rw [List.length_take, Nat.min_eq_left (by omega)] at hps
        have htk : LV.take (j + 1) = LV.take j ++ [x] := by rw [List.take_add_one, hx]; rfl
        have HE1 := Lib.hid (show pairsM (LV.take (j + 1)) = pairsM (LV.take j) + (if x.2 then 1 else 0) by rw [htk]; unfold pairsM; rw [List.countP_append]; rcases x with ⟨x1, _ | _⟩ <;> simp)
        have HE2 := Lib.hid (show singlesM (LV.take (j + 1)) = singlesM (LV.take j) + (if x.2 then 0 else 1) by rw [htk]; unfold singlesM; rw [List.countP_append]; rcases x with ⟨x1, _ | _⟩ <;> simp)
        have HE3 := Lib.hid (show stepL ss (LV.take (j + 1)) 0 LS = _ by rw [htk, stepL_snoc])
        clear hcells hx htk
        generalize pairsM (LV.take j) = PR at hps HE1 ⊢
        generalize hSG : singlesM (LV.take j) = SG at hps HE2 HE3 ⊢
        have hj0 : (0 : Int) ≤ (j : Int) := by omega
        have hj1 : (j : Int) < (T : Int) := by omega
        cases hxp : x.2 with
        | true =>
          rw [hxp] at hx2
          simp only [hxp, if_true] at HE1 HE2 HE3
          gi_wp2
          go_roundw
          case rel => exact ⟨j + 1, by omega, by go_num, by rw [HE2.out]; go_num, by rw [HE1.out]; go_num, by rw [HE3.out]; exact hrw.kept (S := fun _ => False) ((Touch.refl _ _).alloc _) (fun _ _ => id), htw.alloc _⟩
          case measure => simp [intOf]; omega
        | false =>
          rw [hxp] at hx2
          simp only [hxp, Bool.false_eq_true, if_false] at HE1 HE2 HE3
          have hc3 := htw.cell (HT.out.cell b3.cell (fun h => by
            rcases h with h | h
            · have h' : w.heap.size = Lb := h
              omega
            · have h' : w.heap.size = w.heap.size + 1 + 1 := h
              omega)) (fun e => by
            have h' : w.heap.size = Lb := e
            omega)
          have hc4 := htw.cell (HT.out.cell b4.cell (fun h => by
            rcases h with h | h
            · have h' : w.heap.size + 1 = Lb := h
              omega
            · have h' : w.heap.size + 1 = w.heap.size + 1 + 1 := h
              omega)) (fun e => by
            have h' : w.heap.size + 1 = Lb := e
            omega)
          have hSL : SG < ss.length := by
            have h1 := singles_take LV (j + 1)
            have h2 := mergeL_singles CS (levelM CS (N - k - 1))
            rw [show mergeL CS (levelM CS (N - k - 1)) = levelM CS (N - k - 1 + 1) from rfl, show N - k - 1 + 1 = N - k by omega, hLV] at h2
            have := HE2.out
            omega
          obtain ⟨sg, so, scap', hse, _, _, hs4, hs3⟩ := hss.addr (by rw [intVs_length]; omega)
          obtain ⟨rfl, rfl⟩ : sa = some ⟨sg, so, none⟩ ∧ scap = scap' := by
            injection hse with a b c
            exact ⟨a, c⟩
          have hsg : sg ≠ Lb := fun e => hsb (by omega) (by rw [← e]; rfl)
          have HS3 := Lib.hid hs3
          clear hs3 hse
          obtain ⟨sy, hsy⟩ : ∃ sy, ss[SG]? = some sy := ⟨_, List.getElem?_eq_getElem hSL⟩
          have hsl := hlt sy (List.mem_of_getElem? hsy)
          have hsc := htw.cell (HT.out.cell (T0.cell (HS3.out SG (.int .i64 (sy : Nat)) (by simp [intVs, hsy])) id) (fun h => h.elim hsg (fun e => by simp at e; omega))) hsg
          have HSY := Lib.hid (show ss.getD (0 + SG) 0 = sy by simp [List.getD, hsy])
          have hLl : (stepL ss (LV.take j) 0 LS).length = ls.length := by rw [stepL_length, ← hLS, spreadK_length]
          have hLOb : (stepL ss (LV.take j) 0 LS).getD sy 0 ≤ 400 := by
            rw [stepL_get ss (LV.take j) 0 LS (fun s hs => by rw [← hLS, spreadK_length]; exact hlt s hs) (by rw [hSG]; omega) sy]
            have h1 := ((ss.drop 0).take (singlesM (LV.take j))).count_le_length (a := sy)
            rw [List.length_take] at h1
            have h2 := (spreadK_get ss CS N ls hcl hlt hnd k).1 SG hSL
            have h3 := lenK_le ss CS N SG k
            have h4 : ss[SG] = sy := by rw [List.getElem?_eq_getElem hSL] at hsy; exact Option.some.inj hsy
            rw [h4, hLS, hls] at h2
            omega
          generalize stepL ss (LV.take j) 0 LS = L at hrw hLl HE3 hLOb
          have hlc := hrw.cells.2 sy (.int .i64 (L.getD sy 0 : Nat)) (by simp [intVs, List.getD, show sy < L.length by omega])
          have HROW2 := Lib.hid hrw
          have HTW := Lib.hid htw
          generalize hLO : L.getD sy 0 = LO at hlc hLOb
          have hs0 : (0 : Int) ≤ (SG : Int) := by omega
          have hs1' : (SG : Int) < (ss.length : Int) := by omega
          have hy0 : (0 : Int) ≤ (sy : Int) := by omega
          have hy1 : (sy : Int) < (ls.length : Int) := by omega
          have hfr := hrw.free (k := sy)
          rw [Nat.zero_add] at hlc hfr
          clear hrw htw keep
          have mixed := Try.sortInts.mixed
          gi_wp2
          have HTQ := Lib.hid ((Touch.refl (fun _ => False) wr).alloc (Obj.cells #[Value.int .i64 (x.1 : Nat), Value.bool false] 54))
          generalize wr.alloc (Obj.cells #[Value.int .i64 (x.1 : Nat), Value.bool false] 54) = wq at HTQ ⊢
          replace hc3 := HTQ.out.cell hc3 id
          replace hc4 := HTQ.out.cell hc4 id
          replace hsc := HTQ.out.cell hsc id
          replace hlc := HTQ.out.cell hlc id
          have hfr2 := (HROW2.out.kept HTQ.out (fun _ _ => id)).free (k := sy)
          rw [Nat.zero_add] at hfr2
          have HNEW := Lib.hid ((show Row (wq.setCell ⟨Lb, sy, none⟩ (.int .i64 ((LO : Int) + 1))) 3 (.slice (some ⟨Lb, 0, none⟩) ls.length lcap) (intVs (incAt L sy)) by
            have h5 := (HROW2.out.kept HTQ.out (fun _ _ => id)).set (k := sy) (by omega) (.int .i64 ((LO : Int) + 1))
            rw [Nat.zero_add] at h5
            have h6 : (intVs L).set sy (.int .i64 ((LO : Int) + 1)) = intVs (incAt L sy) := by
              unfold incAt
              rw [hLO]
              simp [intVs, List.map_set]
            rw [h6] at h5
            exact h5).kept (S := fun _ => False) (Touch.refl _ _).drew (fun _ _ => id))
          have HTN := Lib.hid (HTW.out.trans ((HTQ.out.mono (S' := fun k => k = Lb) (fun _ h => h.elim)).setCell (p := ⟨Lb, sy, none⟩) (.inl rfl) (.int .i64 ((LO : Int) + 1))).drew)
          clear hfr hx1 hx2
          gi_region_with_o (fail)
          all_goals gi_wp2
          all_goals
            go_roundw
            case rel => exact ⟨j + 1, by omega, by go_num, by rw [HE2.out]; go_num, by rw [HE1.out]; go_num, by rw [HE3.out, HSY.out]; exact HNEW.out, HTN.out⟩
            case measure => simp [intOf]; omega
      · obtain rfl : j = T := by omega
        have HROW3 := Lib.hid hrw
        have HTW := Lib.hid htw
        have hbc2 := htw.cell hbc (show ¬ w.heap.size + 1 + 1 = Lb by omega)
        have hbl : w.heap.size + 1 + 1 < W.heap.size := World.block_lt_of_cell? W _ hbc
        have hbf2 := (htw.frozen (p := ⟨w.heap.size + 1 + 1, 0, none⟩) hbl (show ¬ w.heap.size + 1 + 1 = Lb by omega)).trans hbf
        have hpb : pairsM (LV.take j) ≤ 576 := by
          have h1 := pairs_take LV j
          have h2 := pairs_singles LV
          have := levelM_len CS (N - k)
          rw [hLV] at this
          omega
        have hk1 : (spreadK ss CS N ls (k + 1)).1 = 2 * pairsM (LV.take j) := by rw [spreadK]; simp only; rw [hLV, hT]
        have hk2 : (spreadK ss CS N ls (k + 1)).2 = stepL ss (LV.take j) 0 LS := by rw [spreadK]; simp only; rw [hLV, hT, hLS]
        have HK1 := Lib.hid hk1
        have HK2 := Lib.hid hk2
        clear hk1 hk2
        generalize pairsM (LV.take j) = PR at hpb HK1 ⊢
        clear hrw htw
        gi_wp2
        have hWs := HT.out.size
        have hTall : Touch (fun k => k = Lb ∨ k = w.heap.size + 1 + 1) W (wr.setCell ⟨w.heap.size + 1 + 1, 0, none⟩ (.int .i64 (2 * (PR : Int)))) := (HTW.out.mono (fun _ h => .inl h)).setCell (p := ⟨w.heap.size + 1 + 1, 0, none⟩) (.inl (.inr rfl)) _
        refine ⟨⟨hTall.size, fun q o hq ho _ => (hTall.block q (Array.getElem?_eq_some_iff.1 ho).1 (fun h => by rcases h with h | h <;> omega)).trans ho⟩, ⟨hTall.size, fun q hq hn => hTall.block q (by omega) hn⟩, ⟨?_, ?_⟩, HT.out.trans hTall⟩
        · rw [HK2.out]
          exact HROW3.out.kept (S := fun q => q = w.heap.size + 1 + 1) ((Touch.refl (fun q => q = w.heap.size + 1 + 1) wr).setCell (p := ⟨w.heap.size + 1 + 1, 0, none⟩) (.inl rfl) _) (fun g hg e => by
            simp [Value.ownBlock] at hg
            omega)
        · rw [HK1.out]
          have hb5 : Boxed wr (w.heap.size + 1 + 1) 3 (.int .i64 (j : Nat)) := (HTW.out.block _ hbl (show ¬ w.heap.size + 1 + 1 = Lb by omega)).trans HBT.out
          exact hb5.set (.int .i64 (2 * (PR : Int)))
end Go.Proofs.Ythobbdnmhldglaa

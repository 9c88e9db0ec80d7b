/- Package merge: the lists of all lengths. -/
import Derived.Test.YthobbdnmhldglaaMrgE
import Derived.Test.YthobbdnmhldglaaMrgNum
namespace Go.Proofs.Ythobbdnmhldglaa
open Go Go.RowKit
set_option maxRecDepth 100000

/-- A slice of slices of things. -/
def Lists (base : Nat) (w : World) (v : Value) (L : List (List It)) : Prop :=
  ∃ vs : List Value, vs.length = L.length ∧ Row w 52 v vs ∧ (∀ (j : Nat) (u : Value) (xs : List It), vs[j]? = some u → L[j]? = some xs → Its w u xs) ∧ (∀ u ∈ vs, (∀ g, u.ownBlock = some g → base ≤ g ∧ g < w.heap.size ∧ v.ownBlock ≠ some g) ∧ u.oneCell' = true)

theorem Try.infoSl : (Try.prog.info? 52).map (fun i => (i.zero, i.size, i.bytes)) = some (some (.slice none 0 0), 1, 24) := by kernel_rfl

def levelsM (cs : List Nat) (d : Nat) : List (List It) := (List.range d).map fun j => levelM cs (j + 1)

theorem own_block {w : World} {base : Nat} {e : TypeId} {k : Nat} {v : Value} {n : Nat} {xs : List Value} (h : w.ownsRow base e k v n xs) : ∀ g, v.ownBlock = some g → base ≤ g ∧ g < w.heap.size := by
  intro g hg
  rcases h.2 with ⟨rfl, _⟩ | ⟨g', cap, cur, rfl, hb, hh, _⟩
  · simp [Value.ownBlock] at hg
  · simp [Value.ownBlock] at hg
    subst hg
    exact ⟨hb, (Array.getElem?_eq_some_iff.1 hh).1⟩

theorem new_it0 (w : World) (t : TypeId) (Z : Nat) (b : Bool) : ∀ j u, (itV (Z, b))[j]? = some u → (w.alloc (.cells #[.int .i64 (Z : Nat), .bool b] t)).cell? ((⟨w.heap.size, 0, none⟩ : Addr).add j) = some u := by
  intro j u hu
  rcases j with _ | _ | j
  · simp [itV] at hu; subst hu; simp [Addr.add]
  · simp [itV] at hu; subst hu; simp [Addr.add]
  · simp [itV] at hu

theorem own_touch {a b d : World} {e : TypeId} {k : Nat} {v : Value} {n : Nat} {xs : List Value} (h : b.ownsRow a.heap.size e k v n xs) (ht : Touch (fun _ => False) a b) (h2 : Touch (fun k => v.ownBlock = some k) b d) : Touch (fun _ => False) a d :=
  ht.trans' h2 (fun i hi => .inr (own_block h i hi).1)

def sliceLen : Value → Nat
  | .slice _ n _ => n
  | _ => 0

theorem own_one {w : World} {base : Nat} {e : TypeId} {k : Nat} {v : Value} {n : Nat} {xs : List Value} (h : w.ownsRow base e k v n xs) : v.oneCell' = true := by
  rcases h.2 with ⟨rfl, _⟩ | ⟨g, cap, cur, rfl, _⟩ <;> rfl

theorem own_form {w : World} {base : Nat} {e : TypeId} {k : Nat} {v : Value} {n : Nat} {xs : List Value} (h : w.ownsRow base e k v n xs) : ∃ a cap, v = .slice a n cap := by
  rcases h.2 with ⟨rfl, rfl⟩ | ⟨g, cap, cur, rfl, _⟩
  · exact ⟨none, 0, rfl⟩
  · exact ⟨_, cap, rfl⟩

theorem levelsM_succ (cs : List Nat) (d : Nat) : levelsM cs (d + 1) = levelsM cs d ++ [levelM cs (d + 1)] := by
  unfold levelsM
  rw [List.range_succ, List.map_append]
  rfl

theorem Lists.snoc {base : Nat} {w w1 w2 : World} {lsv v2 lv : Value} {vs : List Value} {L : List (List It)} {xs : List It} {o : Obj} (hbase : base ≤ w.heap.size)
    (hl : vs.length = L.length) (hI : ∀ (j : Nat) (u : Value) (xs : List It), vs[j]? = some u → L[j]? = some xs → Its w u xs) (hb : ∀ u ∈ vs, (∀ g, u.ownBlock = some g → base ≤ g ∧ g < w.heap.size ∧ lsv.ownBlock ≠ some g) ∧ u.oneCell' = true)
    (ht : Touch (fun _ => False) w w1) (hlv : w1.ownsRow w.heap.size 54 2 lv xs.length (itsV xs)) (hls : ∀ g, lsv.ownBlock = some g → g < w.heap.size)
    (hrow2 : Row w2 52 v2 (vs ++ [lv])) (hgrow : (w1.alloc o).grownBy w2 lsv.ownBlock) (hown2 : v2.ownBlock = lsv.ownBlock ∨ v2.ownBlock = some (w1.alloc o).heap.size) :
    Lists base w2 v2 (L ++ [xs]) ∧ Its w2 lv xs ∧ (∀ g, lv.ownBlock = some g → g < w2.heap.size) ∧ Touch (fun k => lsv.ownBlock = some k) w w2 := by
  have T12 : Touch (fun k => lsv.ownBlock = some k) w1 w2 := ((Touch.refl _ _).alloc o).grown hgrow (fun k hk => .inl hk)
  have T : Touch (fun k => lsv.ownBlock = some k) w w2 := (ht.mono fun _ h => h.elim).trans T12
  have hne : ∀ g, lv.ownBlock = some g → ¬ lsv.ownBlock = some g := fun g hg e => by
    have h1 := (own_block hlv g hg).1
    have h2 := hls g e
    omega
  have hlt : ∀ g, lv.ownBlock = some g → g < w1.heap.size := fun g hg => (own_block hlv g hg).2
  have hIl : Its w2 lv xs := (Its.of_own hlv).kept T12 hne
  have hs1 := ht.size
  have hs2 := T12.size
  refine ⟨⟨vs ++ [lv], by simp [hl], hrow2, fun j u ys hu hy => ?_, fun u hu => ?_⟩, hIl, fun g hg => Nat.lt_of_lt_of_le (hlt g hg) hs2, T⟩
  · by_cases hj : j < vs.length
    · rw [List.getElem?_append_left hj] at hu
      rw [List.getElem?_append_left (by omega)] at hy
      exact (hI j u ys hu hy).kept T (fun g hg => ((hb u (List.mem_of_getElem? hu)).1 g hg).2.2)
    · rw [List.getElem?_append_right (by omega)] at hu hy
      rw [hl] at hu
      have hj0 : j - L.length = 0 := by
        have := (List.getElem?_eq_some_iff.1 hy).1
        simp at this
        omega
      rw [hj0] at hu hy
      simp at hu hy
      rw [← hu, ← hy]
      exact hIl
  · rcases List.mem_append.1 hu with hu | hu
    · refine ⟨fun g hg => ?_, (hb u hu).2⟩
      have h1 := (hb u hu).1 g hg
      refine ⟨h1.1, by omega, fun e => ?_⟩
      rcases hown2 with h | h
      · exact h1.2.2 (by rw [← h]; exact e)
      · rw [h] at e
        injection e with e
        simp at e
        omega
    · simp at hu
      subst hu
      refine ⟨fun g hg => ⟨Nat.le_trans hbase (own_block hlv g hg).1, Nat.lt_of_lt_of_le (hlt g hg) hs2, fun e => ?_⟩, own_one hlv⟩
      rcases hown2 with h | h
      · exact hne g hg (by rw [← h]; exact e)
      · rw [h] at e
        injection e with e
        have := hlt g hg
        simp at e
        omega

theorem levelM_len (cs : List Nat) (d : Nat) : (levelM cs d).length ≤ 2 * cs.length := by
  induction d with
  | zero => exact Nat.zero_le _
  | succ d ih => rw [levelM, (mergeL_pairs cs _).2]; omega

set_option maxHeartbeats 4000000 in
theorem merged_calls (c ss CS : List Nat) (most S : Nat) (cv sv : Value) (w : World) (hc : Reads w cv (intVs c)) (hs : Reads w sv (intVs ss)) (hlt : ∀ s ∈ ss, s < c.length) (hsl : ss.length ≤ 288) (hm : most ≤ 15) (hCS : CS = ss.map fun s => c.getD s 0) (hS : CS.sum = S) (hsum : S < 72057594037927936) :
    Calls Try.prog 15 #[cv, sv, .int .i64 (most : Nat)] w fun e w' => ∃ r, e = .returned r ∧ Lists w.heap.size w' r (levelsM CS most) ∧ Sep w.heap.size none r.ownBlock ∧ Touch (fun _ => False) w w' := by
  obtain ⟨i0, hi, hz0, hz1, hz2⟩ := info_parts Try.infoIt
  obtain ⟨i1, hj, hy0, hy1, hy2⟩ := info_parts Try.infoSl
  obtain ⟨ca, ccap, hcv, hc1, hc2, hc3⟩ := hc
  obtain ⟨sa, scap, hsv, hs1, hs2, hs3⟩ := hs
  subst hcv hsv
  rw [intVs_length] at hc1 hs1 ⊢
  rw [intVs_length]
  have HC3 := Lib.hid hc3
  have HS3 := Lib.hid hs3
  have HLT := Lib.hid hlt
  have hCl := congrArg List.length hCS
  rw [List.length_map] at hCl
  have HSUM := Lib.hid (fun d => levelM_sum CS d)
  have HLEN := Lib.hid (fun d => levelM_len CS d)
  have HCS := Lib.hid (fun k (hk : k < ss.length) => show CS.drop k = c.getD (ss[k]) 0 :: CS.drop (k + 1) by rw [List.drop_eq_getElem_cons (by omega)]; congr 1; simp [hCS])
  clear hc3 hs3 hlt hCS
  go_enter Try.func15, Try.ntmps15
  go_wp2
  go_loopw [7, 8, 14] (fun ls av i wr => ∃ (d : Nat) (lsv ahv : Value), d ≤ most ∧ lsv = ls ∧ ahv = av ∧ i = .int .i64 d ∧ Lists w.heap.size wr lsv (levelsM CS d) ∧ Its wr ahv (levelM CS d) ∧ (∀ g, ahv.ownBlock = some g → g < wr.heap.size) ∧ Sep w.heap.size none lsv.ownBlock ∧ Touch (fun _ => False) w wr) (fun _ _ i _ => most - (intOf i).toNat)
  case atStart => exact ⟨0, _, _, Nat.zero_le _, rfl, rfl, rfl, ⟨[], rfl, Row.nil _ _, fun j u xs h => by simp at h, fun u h => by simp at h⟩, ⟨none, 0, rfl, Nat.le_refl _, Nat.zero_le _, .inl rfl⟩, fun g h => by simp [Value.ownBlock] at h, .inl rfl, Touch.refl _ _⟩
  case round =>
    obtain ⟨d, lsv, ahv, hd, rfl, rfl, rfl, hls, hah, hab, hsep, ht⟩ := hrel
    by_cases hdm : d < most
    · have HLS := Lib.hid hls
      have HAB := Lib.hid hab
      have HSEP := Lib.hid hsep
      have HT := Lib.hid ht
      have hM : sumI (levelM CS d) < 2305843009213693952 := by
        have h1 := HSUM.out d
        have h2 : d * CS.sum ≤ 15 * CS.sum := Nat.mul_le_mul_right _ (by omega)
        rw [hS] at h1 h2
        omega
      generalize hMM : sumI (levelM CS d) = M at hM
      have HMM := Lib.hid hMM
      clear hls hab hsep hMM
      obtain ⟨wo, rfl⟩ : ∃ wo : World, wo = wr := ⟨_, rfl⟩
      go_wp2
      go_loopw [9, 10, 19] (fun l r i wr2 => ∃ (k : Nat) (A R : List It) (lv rv : Value), k ≤ ss.length ∧ lv = l ∧ rv = r ∧ i = .int .i64 k ∧ RowKit.Hid (A ++ mergeL (CS.drop k) R = levelM CS (d + 1)) ∧ RowKit.Hid (sumI R ≤ M) ∧ wr2.ownsRow wo.heap.size 54 2 lv A.length (itsV A) ∧ Its wr2 rv R ∧ RowKit.Hid (rv.ownBlock = ahv.ownBlock) ∧ Touch (fun _ => False) wo wr2) (fun _ _ i _ => ss.length - (intOf i).toNat)
      case atStart => exact ⟨0, [], _, _, _, Nat.zero_le _, rfl, rfl, rfl, Lib.hid rfl, Lib.hid (Nat.le_of_eq HMM.out), World.ownsRow_nil _ _ _ _, hah, Lib.hid rfl, Touch.refl _ _⟩
      case round =>
        clear hah ht
        obtain ⟨k, A, R, lv, rv, hk, rfl, rfl, rfl, hE, hMR, hown, hits, hrb, ht⟩ := hrel
        by_cases hlk : k < ss.length
        · obtain ⟨sg, so, rfl, hsc⟩ : ∃ sg so, sa = some ⟨sg, so, none⟩ ∧ w.cell? ⟨sg, so + k, none⟩ = some (.int .i64 (ss[k] : Nat)) := by
            rcases HS3.out with h | ⟨g, o, h1, h2⟩
            · have h9 : ss.length = 0 := by have := congrArg List.length h; rwa [intVs_length] at this
              omega
            · exact ⟨g, o, h1, h2 k _ (by simp [intVs, hlk])⟩
          have hsm := HLT.out ss[k] (List.getElem_mem hlk)
          have HD := Lib.hid (HCS.out k hlk)
          generalize hsy : ss[k] = sy at hsc hsm HD
          clear hsy
          obtain ⟨cg, co, rfl, hcc⟩ : ∃ cg co, ca = some ⟨cg, co, none⟩ ∧ w.cell? ⟨cg, co + sy, none⟩ = some (.int .i64 (c.getD sy 0 : Nat)) := by
            rcases HC3.out with h | ⟨g, o, h1, h2⟩
            · have h9 : c.length = 0 := by have := congrArg List.length h; rwa [intVs_length] at this
              omega
            · exact ⟨g, o, h1, h2 sy _ (by simp [intVs, hsm])⟩
          generalize c.getD sy 0 = cst at hcc HD
          have hsc2 := (HT.out.trans ht).cell hsc id
          have HCC := Lib.hid hcc
          clear hsc hcc
          obtain ⟨wi, rfl⟩ : ∃ wi : World, wi = wr := ⟨_, rfl⟩
          go_wp2
          go_loopw [9, 10] (fun l r wr3 => ∃ (A R : List It) (lv rv : Value), lv = l ∧ rv = r ∧ RowKit.Hid (A ++ ((takeW cst R).1 ++ (cst, false) :: mergeL (CS.drop (k + 1)) (takeW cst R).2) = levelM CS (d + 1)) ∧ RowKit.Hid (sumI R ≤ M) ∧ wr3.ownsRow wo.heap.size 54 2 lv A.length (itsV A) ∧ Its wr3 rv R ∧ RowKit.Hid (rv.ownBlock = ahv.ownBlock) ∧ Touch (fun _ => False) wo wr3) (fun _ r _ => sliceLen r)
          case atStart => exact ⟨A, R, _, _, rfl, rfl, by have := hE.out; rw [HD.out, mergeL] at this; exact Lib.hid this, hMR, hown, hits, hrb, ht⟩
          case round =>
            clear hown hits hrb ht hsc2 hE hMR
            obtain ⟨A, R, lv, rv, rfl, rfl, hE, hMR, hown, hits, hrb, ht⟩ := hrel
            have hcc2 := (HT.out.trans ht).cell HCC.out id
            match R, hE, hMR, hits with
            | x :: y :: R, hE, hMR, hits =>
              have hits2 := hits
              obtain ⟨ra, rcap, rfl, hr1, hr2, hr3⟩ := hits
              rcases hr3 with hr3 | ⟨rg, ro, rfl, hr3⟩
              · cases hr3
              have hx := (hr3 0 x rfl).1
              have hy := (hr3 1 y rfl).1
              simp only [Nat.zero_mul, Nat.add_zero, Nat.one_mul] at hx hy
              have HB := Lib.hid (show x.1 + y.1 < 4611686018427387904 by have := hMR.out; simp only [sumI_cons] at this; omega)
              have HMR2 := Lib.hid (show sumI R ≤ M by have := hMR.out; simp only [sumI_cons] at this; omega)
              have HITS := Lib.hid hits2
              have HTL := Lib.hid (takeW_lt cst x y R)
              have HTG := Lib.hid (takeW_ge cst x y R)
              clear hr3 hits2
              have hAL : A.length < 10000 := by have h1 := congrArg List.length hE.out; rw [List.length_append] at h1; have h2 := HLEN.out (d + 1); omega
              have hp := fun q => pair_calls wo.heap.size A x y R lv _ (wr.drewN q) (own_still hown ((Touch.refl (fun _ => False) _).drewN q) (fun _ _ => id)) (HITS.out.kept ((Touch.refl (fun _ => False) _).drewN q) (fun _ _ => id)) (Nat.le_trans ht.size ((Touch.refl (fun _ => False) wr).drewN q).size) hAL HB.out (fun k hk e => by
                have h1 := (own_block hown k e).1
                have h2 := HAB.out k (by rw [← hrb.out]; exact hk)
                omega)
              have HP := Lib.hid hp
              have HE := Lib.hid hE.out
              have HOWN := Lib.hid hown
              have HHT := Lib.hid ht
              have HRB := Lib.hid hrb.out
              clear hp hown ht
              simp only [List.length_cons] at hr1 ⊢
              simp only [List.length_cons] at HP HRB HITS
              generalize hnn : R.length + 1 + 1 = n at hr1 HP HRB HITS ⊢
              have hn1 : (0 : Int) < (n : Int) := by omega
              have hn2 : (1 : Int) < (n : Int) := by omega
              have hn6 : 0 < n := by omega
              have hn7 : 1 < n := by omega
              have HNN := Lib.hid hnn
              have hwz := wrap_small (x.1 + y.1) HB.out
              rw [show ((x.1 + y.1 : Nat) : Int) = (x.1 : Int) + (y.1 : Int) by omega] at hwz
              clear hnn
              have hsc0 : (0 : Int) ≤ (sy : Int) := by omega
              have hsc1 : (sy : Int) < (c.length : Int) := by omega
              by_cases hcost : x.1 + y.1 < cst
              · have hcost2 : (x.1 : Int) + (y.1 : Int) < (cst : Int) := by omega
                clear HMM
                go_wp2_with fail
                go_quiet (fail)
                go_wp2_with (go_at_call 28; refine (HP.out _).mono ?_; rintro e w7 ⟨lv2, rv2, rfl, hown2, hits3, hrb2, hob, ht7⟩)
                go_roundw
                case rel =>
                  refine ⟨A ++ [(x.1 + y.1, true)], R, lv2, rv2, rfl, rfl, Lib.hid ?_, HMR2, by rw [List.length_append]; exact hown2, hits3, Lib.hid (hrb2.trans HRB.out), own_touch HOWN.out HHT.out (((Touch.refl _ _).drewN _).trans ht7)⟩
                  have := HE.out
                  rw [HTL.out hcost] at this
                  rw [List.append_assoc]
                  exact this
                case measure =>
                  obtain ⟨_, _, hv, _⟩ := hits3
                  rw [hv]
                  have := HNN.out
                  simp [sliceLen]
                  omega
              · have hcost2 : ¬ (x.1 : Int) + (y.1 : Int) < (cst : Int) := by omega
                have hcost3 : (cst : Int) ≤ (x.1 : Int) + (y.1 : Int) := by omega
                clear HMM
                go_wp2_with fail
                go_quiet (fail)
                have HTQ := Lib.hid ((Touch.refl (fun _ => False) wr).drewN nq)
                generalize wr.drewN nq = wq at HTQ ⊢
                have hcc3 := HTQ.out.cell hcc2 id
                go_wp2_with (at_builtin; refine wpList_append_own_at _ rfl (.tmp 48) (.tmp 54) 52 rfl wo.heap.size 54 i0 _ 2 16 Try.underlying52 hi hz0 hz1 hz2 rfl (by decide) lv A.length (itsV A) rfl (by exact own_still HOWN.out (S := fun _ => False) (HTQ.out.alloc _) (fun _ _ => id)) ⟨wq.heap.size, 0, none⟩ 1 1 (itV (cst, false)) rfl rfl (by exact new_it0 _ _ cst false) (by simp [itV, Value.oneCell']) (by unfold maxLen; omega) (by omega) (by have h1 := HHT.out.size; have h2 := HTQ.out.size; simp; omega) ?_; intro v2 w2 hrow2 hgrow hnil hown2)
                go_roundw
                case rel =>
                  have hT2 : Touch (fun k => lv.ownBlock = some k) wr w2 := ((HTQ.out.mono (fun _ h => h.elim)).alloc _).grown hgrow (fun k hk => .inl hk)
                  exact ⟨k + 1, A ++ [(cst, false)], x :: y :: R, v2, _, by omega, rfl, rfl, by go_num, Lib.hid (by rw [List.append_assoc]; have := HE.out; rw [HTG.out hcost] at this; exact this), hMR, by rw [List.length_append, itsV_append]; exact hrow2, HITS.out.kept hT2 (fun g hg e => by have h1 := (own_block HOWN.out g e).1; have h2 := HAB.out g (by rw [← HRB.out]; exact hg); omega), HRB, own_touch HOWN.out HHT.out hT2⟩
                case measure => simp [intOf]; omega
            | [x], hE, hMR, hits =>
              have HITS := Lib.hid hits
              obtain ⟨ra, rcap, rfl, hr1, hr2, hr3⟩ := hits
              have hAL : A.length < 10000 := by have h1 := congrArg List.length hE.out; rw [List.length_append] at h1; have h2 := HLEN.out (d + 1); omega
              have HE := Lib.hid hE.out
              have HOWN := Lib.hid hown
              have HHT := Lib.hid ht
              have HRB := Lib.hid hrb.out
              clear hown ht hr3 hE hrb
              have hsc0 : (0 : Int) ≤ (sy : Int) := by omega
              have hsc1 : (sy : Int) < (c.length : Int) := by omega
              clear HMM
              go_wp2_with fail
              go_quiet (fail)
              have HTQ := Lib.hid ((Touch.refl (fun _ => False) wr).drewN nq)
              generalize wr.drewN nq = wq at HTQ ⊢
              have hcc3 := HTQ.out.cell hcc2 id
              go_wp2_with (at_builtin; refine wpList_append_own_at _ rfl (.tmp 48) (.tmp 54) 52 rfl wo.heap.size 54 i0 _ 2 16 Try.underlying52 hi hz0 hz1 hz2 rfl (by decide) lv A.length (itsV A) rfl (by exact own_still HOWN.out (S := fun _ => False) (HTQ.out.alloc _) (fun _ _ => id)) ⟨wq.heap.size, 0, none⟩ 1 1 (itV (cst, false)) rfl rfl (by exact new_it0 _ _ cst false) (by simp [itV, Value.oneCell']) (by unfold maxLen; omega) (by omega) (by have h1 := HHT.out.size; have h2 := HTQ.out.size; simp; omega) ?_; intro v2 w2 hrow2 hgrow hnil hown2)
              go_roundw
              case rel =>
                have hT2 : Touch (fun k => lv.ownBlock = some k) wr w2 := ((HTQ.out.mono (fun _ h => h.elim)).alloc _).grown hgrow (fun k hk => .inl hk)
                exact ⟨k + 1, A ++ [(cst, false)], [x], v2, _, by omega, rfl, rfl, by go_num, Lib.hid (by rw [List.append_assoc]; have := HE.out; rw [takeW_few cst [x] (by simp)] at this; exact this), hMR, by rw [List.length_append, itsV_append]; exact hrow2, HITS.out.kept hT2 (fun g hg e => by have h1 := (own_block HOWN.out g e).1; have h2 := HAB.out g (by rw [← HRB.out]; exact hg); omega), HRB, own_touch HOWN.out HHT.out hT2⟩
              case measure => simp [intOf]; omega
            | [], hE, hMR, hits =>
              have HITS := Lib.hid hits
              obtain ⟨ra, rcap, rfl, hr1, hr2, hr3⟩ := hits
              have hAL : A.length < 10000 := by have h1 := congrArg List.length hE.out; rw [List.length_append] at h1; have h2 := HLEN.out (d + 1); omega
              have HE := Lib.hid hE.out
              have HOWN := Lib.hid hown
              have HHT := Lib.hid ht
              have HRB := Lib.hid hrb.out
              clear hown ht hr3 hE hrb
              have hsc0 : (0 : Int) ≤ (sy : Int) := by omega
              have hsc1 : (sy : Int) < (c.length : Int) := by omega
              clear HMM
              go_wp2_with fail
              go_quiet (fail)
              have HTQ := Lib.hid ((Touch.refl (fun _ => False) wr).drewN nq)
              generalize wr.drewN nq = wq at HTQ ⊢
              have hcc3 := HTQ.out.cell hcc2 id
              go_wp2_with (at_builtin; refine wpList_append_own_at _ rfl (.tmp 48) (.tmp 54) 52 rfl wo.heap.size 54 i0 _ 2 16 Try.underlying52 hi hz0 hz1 hz2 rfl (by decide) lv A.length (itsV A) rfl (by exact own_still HOWN.out (S := fun _ => False) (HTQ.out.alloc _) (fun _ _ => id)) ⟨wq.heap.size, 0, none⟩ 1 1 (itV (cst, false)) rfl rfl (by exact new_it0 _ _ cst false) (by simp [itV, Value.oneCell']) (by unfold maxLen; omega) (by omega) (by have h1 := HHT.out.size; have h2 := HTQ.out.size; simp; omega) ?_; intro v2 w2 hrow2 hgrow hnil hown2)
              go_roundw
              case rel =>
                have hT2 : Touch (fun k => lv.ownBlock = some k) wr w2 := ((HTQ.out.mono (fun _ h => h.elim)).alloc _).grown hgrow (fun k hk => .inl hk)
                exact ⟨k + 1, A ++ [(cst, false)], [], v2, _, by omega, rfl, rfl, by go_num, Lib.hid (by rw [List.append_assoc]; have := HE.out; rw [takeW_few cst [] (by simp)] at this; exact this), hMR, by rw [List.length_append, itsV_append]; exact hrow2, HITS.out.kept hT2 (fun g hg e => by have h1 := (own_block HOWN.out g e).1; have h2 := HAB.out g (by rw [← HRB.out]; exact hg); omega), HRB, own_touch HOWN.out HHT.out hT2⟩
              case measure => simp [intOf]; omega
        · obtain rfl : k = ss.length := by omega
          obtain ⟨wi, rfl⟩ : ∃ wi : World, wi = wr := ⟨_, rfl⟩
          go_wp2
          go_loopw [9, 10] (fun l r wr3 => ∃ (A R : List It) (lv rv : Value), lv = l ∧ rv = r ∧ RowKit.Hid (A ++ takeAll R = levelM CS (d + 1)) ∧ RowKit.Hid (sumI R ≤ M) ∧ wr3.ownsRow wo.heap.size 54 2 lv A.length (itsV A) ∧ Its wr3 rv R ∧ RowKit.Hid (rv.ownBlock = ahv.ownBlock) ∧ Touch (fun _ => False) wo wr3) (fun _ r _ => sliceLen r)
          case atStart => exact ⟨A, R, _, _, rfl, rfl, by have := hE.out; rw [List.drop_eq_nil_of_le (by omega), mergeL] at this; exact Lib.hid this, hMR, hown, hits, hrb, ht⟩
          case round =>
            clear hown hits hrb ht hE hMR
            obtain ⟨A, R, lv, rv, rfl, rfl, hE, hMR, hown, hits, hrb, ht⟩ := hrel
            match R, hE, hMR, hits with
            | x :: y :: R, hE, hMR, hits =>
              have hits2 := hits
              obtain ⟨ra, rcap, rfl, hr1, hr2, hr3⟩ := hits
              have HB := Lib.hid (show x.1 + y.1 < 4611686018427387904 by have := hMR.out; simp only [sumI_cons] at this; omega)
              have HMR2 := Lib.hid (show sumI R ≤ M by have := hMR.out; simp only [sumI_cons] at this; omega)
              have hAL : A.length < 10000 := by have h1 := congrArg List.length hE.out; rw [List.length_append] at h1; have h2 := HLEN.out (d + 1); omega
              have hp := pair_calls wo.heap.size A x y R lv _ wr hown hits2 ht.size hAL HB.out (fun k hk e => by
                have h1 := (own_block hown k e).1
                have h2 := HAB.out k (by rw [← hrb.out]; exact hk)
                omega)
              have HP := Lib.hid hp
              have HE := Lib.hid (show (A ++ [(x.1 + y.1, true)]) ++ takeAll R = levelM CS (d + 1) by have := hE.out; rw [takeAll] at this; rw [List.append_assoc]; exact this)
              have HOWN := Lib.hid hown
              have HHT := Lib.hid ht
              have HRB := Lib.hid hrb.out
              clear hp hown ht hr3 hits2 hE hrb HMM
              simp only [List.length_cons] at hr1 ⊢
              simp only [List.length_cons] at HP HRB
              generalize hnn : R.length + 1 + 1 = n at hr1 HP HRB ⊢
              have hn2 : (1 : Int) < (n : Int) := by omega
              have hn7 : 1 < n := by omega
              have HNN := Lib.hid hnn
              clear hnn
              go_wp2_with (go_at_call 28; refine HP.out.mono ?_; rintro e w7 ⟨lv2, rv2, rfl, hown2, hits3, hrb2, hob, ht7⟩)
              go_roundw
              case rel =>
                exact ⟨A ++ [(x.1 + y.1, true)], R, lv2, rv2, rfl, rfl, HE, HMR2, by rw [List.length_append]; exact hown2, hits3, Lib.hid (hrb2.trans HRB.out), own_touch HOWN.out HHT.out ht7⟩
              case measure =>
                obtain ⟨_, _, hv, _⟩ := hits3
                rw [hv]
                have := HNN.out
                simp [sliceLen]
                omega
            | [x], hE, hMR, hits =>
              have HE := Lib.hid (show A = levelM CS (d + 1) by have := hE.out; rwa [takeAll_few _ (by simp), List.append_nil] at this)
              obtain ⟨ra, rcap, rfl, hr1, hr2, hr3⟩ := hits
              obtain ⟨la, lcap, rfl⟩ := own_form hown
              have HOWN := Lib.hid hown
              have HHT := Lib.hid ht
              clear hown ht hr3 hE hrb HMM
              obtain ⟨vs, hvl, hvr, hvI, hvb⟩ := HLS.out
              have HVI := Lib.hid hvI
              have HVB := Lib.hid hvb
              clear hvI hvb
              have hvll : vs.length ≤ 15 := by rw [hvl]; simp [levelsM]; omega
              go_wp2_with (at_builtin; refine wpList_append_row _ rfl (.tmp 66) (.tmp 68) 37 37 rfl 52 i1 _ 24 Try.underlying37 hj hy0 hy1 hy2 rfl lsv vs rfl (by exact hvr.kept (HHT.out.alloc _) (fun _ _ => id)) (.slice (some ⟨wr.heap.size, 0, none⟩) 1 1) rfl 1 [.slice la A.length lcap] (by exact Src.ofCell Try.underlying37 (heap_alloc_new wr _) rfl) (by unfold maxLen; omega) (by omega) ?_; intro v2 w2 hrow2 hgrow hown2)
              go_roundw
              case rel =>
                have hsn := Lists.snoc (xs := A) HT.out.size hvl HVI.out HVB.out HHT.out HOWN.out (fun g hg => hvr.lt g hg) hrow2 hgrow hown2
                have hsn1 := hsn.1
                rw [HE.out, ← levelsM_succ] at hsn1
                refine ⟨d + 1, v2, _, by omega, rfl, rfl, by go_num, hsn1, Eq.mp (congrArg (fun z => Its w2 (.slice la A.length lcap) z) HE.out) hsn.2.1, hsn.2.2.1, own_sep HSEP.out hown2 (by have h1 := HT.out.size; have h2 := HHT.out.size; simp; omega), sep_touch HT.out HSEP.out (Nat.le_refl _) hsn.2.2.2⟩
              case measure => simp [intOf]; omega
            | [], hE, hMR, hits =>
              have HE := Lib.hid (show A = levelM CS (d + 1) by have := hE.out; rwa [takeAll_few _ (by simp), List.append_nil] at this)
              obtain ⟨ra, rcap, rfl, hr1, hr2, hr3⟩ := hits
              obtain ⟨la, lcap, rfl⟩ := own_form hown
              have HOWN := Lib.hid hown
              have HHT := Lib.hid ht
              clear hown ht hr3 hE hrb HMM
              obtain ⟨vs, hvl, hvr, hvI, hvb⟩ := HLS.out
              have HVI := Lib.hid hvI
              have HVB := Lib.hid hvb
              clear hvI hvb
              have hvll : vs.length ≤ 15 := by rw [hvl]; simp [levelsM]; omega
              go_wp2_with (at_builtin; refine wpList_append_row _ rfl (.tmp 66) (.tmp 68) 37 37 rfl 52 i1 _ 24 Try.underlying37 hj hy0 hy1 hy2 rfl lsv vs rfl (by exact hvr.kept (HHT.out.alloc _) (fun _ _ => id)) (.slice (some ⟨wr.heap.size, 0, none⟩) 1 1) rfl 1 [.slice la A.length lcap] (by exact Src.ofCell Try.underlying37 (heap_alloc_new wr _) rfl) (by unfold maxLen; omega) (by omega) ?_; intro v2 w2 hrow2 hgrow hown2)
              go_roundw
              case rel =>
                have hsn := Lists.snoc (xs := A) HT.out.size hvl HVI.out HVB.out HHT.out HOWN.out (fun g hg => hvr.lt g hg) hrow2 hgrow hown2
                have hsn1 := hsn.1
                rw [HE.out, ← levelsM_succ] at hsn1
                refine ⟨d + 1, v2, _, by omega, rfl, rfl, by go_num, hsn1, Eq.mp (congrArg (fun z => Its w2 (.slice la A.length lcap) z) HE.out) hsn.2.1, hsn.2.2.1, own_sep HSEP.out hown2 (by have h1 := HT.out.size; have h2 := HHT.out.size; simp; omega), sep_touch HT.out HSEP.out (Nat.le_refl _) hsn.2.2.2⟩
              case measure => simp [intOf]; omega
    · go_wp2
      go_ret
      obtain rfl : d = most := by omega
      exact ⟨_, rfl, hls, hsep, ht⟩
end Go.Proofs.Ythobbdnmhldglaa

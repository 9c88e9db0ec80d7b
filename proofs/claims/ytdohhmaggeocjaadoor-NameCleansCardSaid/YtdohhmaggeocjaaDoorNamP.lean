/- Contract: Clean. -/
import Derived.Test.YtdohhmaggeocjaaDoorNamO
namespace Go.Proofs.YtdohhmaggeocjaaDoor
open Go Go.RowKit Go.Shelf
set_option maxRecDepth 100000
attribute [local go_sem] Oper.semAt_some

def tt {S : ByteArray} (x : Pt S) : List UInt8 := x.t.data.toList
def Fk {S : ByteArray} (pre : List (Pt S)) : Option (List (List UInt8)) := cfold (pre.map tt)
def Lk {S : ByteArray} (pre : List (Pt S)) : List (List UInt8) := (Fk pre).getD []
theorem Fk_snoc {S : ByteArray} (pre : List (Pt S)) (x : Pt S) : Fk (pre ++ [x]) = cstep (Fk pre) (tt x) := by
  unfold Fk
  rw [List.map_append, List.map_cons, List.map_nil, cfold_snoc]
theorem Fk_all (S : ByteArray) : Fk (ptsA S 0) = cfold (spl S.data.toList) := by
  unfold Fk
  have := tsOf_spl S S.size 0 (by omega) (by omega)
  rw [List.drop_zero] at this
  rw [← this]
  rfl
/-- What a round of Clean leaves: the parts that stand, the answer's cells. -/
def ClI (S : ByteArray) (w : World) (B : Nat) (pre : List (Pt S)) (W : World) : Prop :=
  (∃ v, Boxed W (B + 2) 27 v ∧ W.ownsRow (B + 4) 9 1 v (Lk pre).length (strVs (Lk pre)) ∧ True) ∧
    ((Fk pre ≠ none ∧ B + 4 ≤ W.heap.size ∧ W.cell? ⟨B, 0, none⟩ = some (.string ⟨#[]⟩) ∧ W.frozen? ⟨B, 0, none⟩ = false ∧ W.cell? ⟨B + 1, 0, none⟩ = some (.bool false) ∧ W.frozen? ⟨B + 1, 0, none⟩ = false) ∧ Below B w W)
def ClX (S : ByteArray) (w : World) (B : Nat) (c : Code) (pre : List (Pt S)) (W : World) : Prop :=
  ((c = .ret ∧ Fk pre = none) ∧ W.cell? ⟨B, 0, none⟩ = some (.string ⟨#[]⟩) ∧ W.cell? ⟨B + 1, 0, none⟩ = some (.bool false)) ∧ Below B w W
theorem ClI_own (S : ByteArray) (w : World) (B : Nat) (hB : B ≤ w.heap.size) (n : Nat) (hn : B ≤ n) : OwnFrom n (ClI S w B) := by
  refine OwnFrom.and (Own.from (holdsRow_own (β := List (Pt S)) (B + 4) (B + 2) 27 9 1 (fun pre => (Lk pre).length) (fun pre => strVs (Lk pre)) (fun _ _ => True)) _) (OwnFrom.and (Own.from (fun s A C row hs hg hr => ⟨hs.1, Nat.le_trans hs.2.1 hg.size, cell_kept hs.2.2.1 hg hr, (frozen_kept hs.2.2.1 hg hr).trans hs.2.2.2.1, cell_kept hs.2.2.2.2.1 hg hr, (frozen_kept hs.2.2.2.2.1 hg hr).trans hs.2.2.2.2.2⟩) _) (ownFrom_below hB hn))
theorem ClX_own (S : ByteArray) (w : World) (B : Nat) (hB : B ≤ w.heap.size) (n : Nat) (hn : B ≤ n) (c : Code) : OwnFrom n (ClX S w B c) := by
  refine OwnFrom.and (Own.from (fun s A C row hs hg hr => ⟨hs.1, cell_kept hs.2.1 hg hr, cell_kept hs.2.2 hg hr⟩) _) (ownFrom_below hB hn)

theorem Tryd.joinExtra : Builder.Extra Tryd.prog Tryd.layJoin_ren where
  sizeBuilder := by kernel_rfl
  liesBuilder := by kernel_rfl
  t5 := by kernel_rfl
  a5 := fun _ => by kernel_rfl
  z5 := fun _ => by kernel_rfl
  v5 := fun _ => by kernel_rfl
  infoByte := by kernel_rfl
  cellsByte := by kernel_rfl
  sizeByte := by kernel_rfl
  neB5 := by decide

theorem join_calls (L : List (List UInt8)) (v : Value) (W : World) (hr : Row W 9 v (strVs L)) (hlen : (joinT L).size ≤ 300000) (hL : L.length ≤ 300001) :
    Calls Tryd.prog 44 #[v, .string ⟨#[47]⟩] W fun e w' => e = .returned (.string (joinT L)) ∧ Touch (fun _ => False) W w' := by
  have hj : (Lib.join L [47]).length = (joinT L).size := by show _ = (List.toArray _).size; rw [List.size_toArray]
  rcases Nat.eq_zero_or_pos L.length with h0 | h0
  · have hL0 := List.eq_nil_of_length_eq_zero h0
    subst hL0
    obtain ⟨a, c, rfl, _⟩ := hr.form
    refine (Any.strings_Join_none Tryd.layJoin Tryd.joinExtra a c ⟨#[47]⟩ W).mono fun e w' ⟨he, hw⟩ => ⟨?_, hw ▸ Touch.refl _ _⟩
    rw [he]; simp [joinT, Lib.join, List.intercalate]
  · obtain ⟨g, off, cap, rfl, hc, hg, hcell⟩ := hr.addr (by rw [strVs_length]; exact h0)
    obtain ⟨xs, hxs⟩ : ∃ xs : List ByteArray, L.map (fun p => (⟨p.toArray⟩ : ByteArray)) = xs := ⟨_, rfl⟩
    have hxl : xs.length = L.length := by rw [← hxs]; simp
    have hmap : xs.map (·.data.toList) = L := by rw [← hxs]; simp [Function.comp_def]
    have H := Any.strings_Join Tryd.layJoin Tryd.joinExtra g off cap xs ⟨#[47]⟩ W (fun j x hx => hcell j _ (by rw [← hxs] at hx; simp [strVs] at hx ⊢; obtain ⟨q, h1, h2⟩ := hx; exact ⟨q, h1, by rw [h2]⟩)) hg (by omega) (by rw [strVs_length] at hc; omega) (by rw [hmap]; show (Lib.join L [47]).length ≤ _; omega)
    rw [hmap, hxl] at H
    rw [strVs_length]
    exact H.mono fun e w' ⟨he, hb⟩ => ⟨he, Touch.of_below hb⟩

theorem touch_at {w W : World} {B : Nat} (hB : w.heap.size = B) (h : Below B w W) : Touch (fun _ => False) w W := by
  subst hB; exact Touch.of_below h
theorem owns_base {W : World} {b b' : Nat} {e : TypeId} {size : Nat} {v : Value} {k : Nat} {xs : List Value} (h : W.ownsRow b e size v k xs) (hb : b' ≤ b) : W.ownsRow b' e size v k xs := by
  obtain ⟨h1, h2⟩ := h
  refine ⟨h1, h2.imp id ?_⟩
  rintro ⟨g, cap, cur, h3, h4, r⟩
  exact ⟨g, cap, cur, h3, Nat.le_trans hb h4, r⟩
theorem owns_block {W : World} {b : Nat} {e : TypeId} {size : Nat} {v : Value} {k : Nat} {xs : List Value} (h : W.ownsRow b e size v k xs) {j : Nat} (hj : j < b) : some j ≠ v.ownBlock := by
  rcases h.2 with ⟨rfl, _⟩ | ⟨g, cap, cur, rfl, h4, _⟩
  · simp [Value.ownBlock]
  · simp [Value.ownBlock]; omega
theorem app_heap {W w1 : World} {B j : Nat} {v v' : Value} {tmp : Obj} (hgrow : (W.alloc tmp).grownBy w1 v.ownBlock) (hne : some j ≠ v.ownBlock) (hj : j ≠ B) (hl : j < W.heap.size) : (w1.setCell ⟨B, 0, none⟩ v').heap[j]? = W.heap[j]? :=
  ((Below.heap_setCell _ _ _ _ hj).trans (hgrow.block j (by simp; omega) hne)).trans (Below.heap_alloc _ _ _ hl)
theorem set_heap {W : World} {B j : Nat} {v' : Value} (hj : j ≠ B) : (W.setCell ⟨B, 0, none⟩ v').heap[j]? = W.heap[j]? := Below.heap_setCell _ _ _ _ hj

set_option maxHeartbeats 4000000 in
theorem clean_calls (S : ByteArray) (w : World) (hs : S.size ≤ 300000) (hT : Tabs w) :
    Calls Tryd.prog 19 #[.string S] w fun e w' => e = .returned (.tuple #[.string (clnV S).1, .bool (clnV S).2]) ∧ Touch (fun _ => False) w w' := by
  obtain ⟨i0, hi, hz0, hz1, hz2⟩ := info_parts Tryd.infoS
  have HN := Lib.hid (fun h => clnV_none (S := S) h)
  have HSM := Lib.hid (fun L h => clnV_some (S := S) (L := L) h)
  obtain ⟨R, hR⟩ : ∃ R, clnV S = R := ⟨_, rfl⟩
  rw [hR] at HN HSM
  rw [hR]
  have HJS := Lib.hid (fun L h => joinT_le S L h)
  clear hR
  refine (callsIn_wide (n := 3)).1 ?_
  refine callsIn_of_wp_marks Tryd.func19 rfl trivial ?_ rfl
  simp only [Tryd.ntmps19, List.size_toArray, List.length_cons, List.length_nil, Nat.reduceAdd, Nat.reduceSub, Array.replicate_succ, Array.replicate_zero, List.push_toArray, List.append_toArray, List.nil_append, List.cons_append]
  gi_wp2_with (first
    | (refine ⟨trivial, ?_⟩; gi_at_call 40; refine (parts_in _ S).mono ?_; rintro e w3 ⟨rfl, rfl⟩))
  obtain ⟨B, hB⟩ : ∃ B, w.heap.size = B := ⟨_, rfl⟩
  obtain ⟨W0, hW0⟩ : ∃ W0, (((w.alloc (.cells #[.string ⟨#[]⟩] 9)).alloc (.cells #[.bool false] 4)).alloc (.cells #[.slice none 0 0] 27)).alloc (.cells #[.string S] 9) = W0 := ⟨_, rfl⟩
  have hWs : W0.heap.size = B + 4 := by rw [← hW0]; simp [hB]
  have b0 : Boxed W0 B 9 (.string ⟨#[]⟩) := by rw [← hW0, ← hB]; exact (((Boxed.new w _ _).alloc _).alloc _).alloc _
  have b1 : Boxed W0 (B + 1) 4 (.bool false) := by rw [← hW0, ← hB, ← alloc_size w (.cells #[.string ⟨#[]⟩] 9)]; exact ((Boxed.new _ _ _).alloc _).alloc _
  have b2 : Boxed W0 (B + 2) 27 (.slice none 0 0) := by
    rw [← hW0, ← hB, show w.heap.size + 2 = ((w.alloc (.cells #[.string ⟨#[]⟩] 9)).alloc (.cells #[.bool false] 4)).heap.size by simp]; exact (Boxed.new _ _ _).alloc _
  have b3 : Boxed W0 (B + 3) 9 (.string S) := by
    rw [← hW0, ← hB, show w.heap.size + 3 = (((w.alloc (.cells #[.string ⟨#[]⟩] 9)).alloc (.cells #[.bool false] 4)).alloc (.cells #[.slice none 0 0] 27)).heap.size by simp]; exact Boxed.new _ _ _
  have hb0 : Below B w W0 := by rw [← hW0, ← hB]; exact ((((Below.refl _ _).alloc (Nat.le_refl _) _).alloc (by simp) _).alloc (by simp; omega) _).alloc (by simp; omega) _
  have hBw : B ≤ w.heap.size := by omega
  rw [hB]
  rw [show (((w.alloc (.cells #[.string ⟨#[]⟩] 9)).alloc (.cells #[.bool false] 4)).alloc (.cells #[.slice none 0 0] 27)).alloc (.cells #[.string S] 9) = W0 from hW0]
  have HB := Lib.hid hB
  clear hW0 hB
  refine wpIn_rangeFunc_ownG (α := Pt S) rfl (by omega) (gf := 68) (lb := #[.pointer (some ⟨B + 3, 0, none⟩)]) rfl trivial (enters_of Tryd.func68 (by kernel_rfl) rfl)
    (parts_stops (3 - 1) (by omega) S (by omega) (B + 3) W0 (fun A C => A.cell? ⟨B + 3, 0, none⟩ = some (.string S) → C.cell? ⟨B + 3, 0, none⟩ = some (.string S)) (fun A C h hc => h hc) (by omega) b3.cell)
    (fun h k hc => k (h hc)) (fun W l o o' hl h hc hw hs => cell_kept hs (grownBy_putObj' W l o') (fun r e => by cases e; exact ⟨o, h, hc⟩)) (Below.refl _ _) (fun _ => rfl)
    (ClI S w B) (ClX S w B)
    ?own ?ownx ⟨⟨_, b2, ⟨rfl, .inl ⟨rfl, rfl⟩⟩, trivial⟩, ⟨by simp [Fk, cfold], by omega, b0.cell, b0.frozen, b1.cell, b1.frozen⟩, hb0⟩
    (fun x => { tmps := #[.string S, undef, .pointer (some ⟨B, 0, none⟩), .pointer (some ⟨B + 1, 0, none⟩), .pointer (some ⟨B + 2, 0, none⟩), undef, .string x.t, undef, .string S, .func (.func 68) #[] #[.pointer (some ⟨B + 3, 0, none⟩)], .int .i64 (x.e : Nat), .string x.t, undef, undef, undef, undef, undef, undef, undef, undef, undef, undef, undef, undef, undef, undef, undef, undef, undef, undef, undef, undef, undef, undef, undef, undef], defers := [] }) ?assign ?body ?done ?stop
  case own => exact ClI_own S w B hBw _ (by omega)
  case ownx => exact fun c => ClX_own S w B hBw _ (by omega) c
  case assign =>
    intro l x W K hK
    dsimp only [ptV]
    gi_wp2
    exact hK
  case body =>
    rintro l pre x W ⟨⟨v, hv, hr, _⟩, ⟨hF, hWz, hc0, hf0, hc1, hf1⟩, hBl⟩ hpN
    obtain ⟨L, hL⟩ := Option.ne_none_iff_exists'.1 hF
    have hLn : L.length ≤ 300002 := by
      have := (cfold_props _ L hL).1
      simp at this
      omega
    have hLk : Lk pre = L := by unfold Lk; rw [hL]; rfl
    rw [hLk] at hr
    have h1l := World.block_lt_of_cell? W _ hc0
    have h2l := World.block_lt_of_cell? W _ hc1
    obtain ⟨a, cap, rfl, hcp, hcm⟩ := (Row.of_own hr).form
    rw [strVs_length] at *
    obtain ⟨t, ht⟩ : ∃ t, x.t = t := ⟨_, rfl⟩
    have hst : Fk (pre ++ [x]) = cstep (some L) t.data.toList := by rw [Fk_snoc, hL, ← ht]; rfl
    have HK := Lib.hid (part_kinds t.data.toList)
    have hvc := hv.cell
    have hvf := hv.frozen
    have HV := Lib.hid hv
    have HR := Lib.hid hr
    have HST := Lib.hid hst
    have HBL := Lib.hid hBl
    have HXT := Lib.hid ht
    simp only [ht]
    clear hst ht hF hL hLk hv hr hBl b0 b1 b2 b3 hb0 hT
    have keep : ∀ W' : World, W'.heap[B]? = W.heap[B]? → W'.heap[B + 1]? = W.heap[B + 1]? → W'.cell? ⟨B, 0, none⟩ = some (.string ⟨#[]⟩) ∧ W'.frozen? ⟨B, 0, none⟩ = false ∧ W'.cell? ⟨B + 1, 0, none⟩ = some (.bool false) ∧ W'.frozen? ⟨B + 1, 0, none⟩ = false := fun W' e1 e2 =>
      ⟨(World.cell?_of_block (a := ⟨B, 0, none⟩) e1).trans hc0, (World.frozen?_of_block (a := ⟨B, 0, none⟩) e1).trans hf0, (World.cell?_of_block (a := ⟨B + 1, 0, none⟩) e2).trans hc1, (World.frozen?_of_block (a := ⟨B + 1, 0, none⟩) e2).trans hf1⟩
    have KEEP := Lib.hid keep
    clear keep
    rcases HK.out with h1 | ⟨h1, h2⟩ | ⟨h1, h2, h3⟩ | ⟨h1, h2, h3⟩
    · have t1 : (t.toList == [46, 46]) = true := tEq_t (p := t.data.toList) h1
      have t2 : t.toList.isEmpty = false := tEmpty_f (p := t.data.toList) (by rw [h1]; simp)
      have t3 : (t.toList == [46]) = false := tEq_f (p := t.data.toList) (by rw [h1]; simp)
      have hst : Fk (pre ++ [x]) = if L = [] then none else some L.dropLast := by rw [HST.out, h1]; rfl
      have HS2 := Lib.hid hst
      obtain ⟨m, hm⟩ : ∃ m, L.length = m := ⟨_, rfl⟩
      rw [hm] at HV HR hvc hcp
      have HM := Lib.hid hm
      clear HST h1 hst hm
      by_cases hm0 : m = 0
      · subst hm0
        have hL : L = [] := List.eq_nil_of_length_eq_zero HM.out
        have hnone : Fk (pre ++ [x]) = none := by rw [HS2.out, if_pos hL]
        have HNO := Lib.hid hnone
        clear hnone hL HS2
        gi_wp2
        refine ⟨((KeepsOthers.setCell _ _ _).trans (KeepsOthers.setCell _ _ _)).from _, ⟨⟨rfl, HNO.out⟩, ?_, World.cell?_setCell_same _ _ _ ((World.cell?_setCell_other _ _ _ _ (by simp)).trans hc1)⟩, (HBL.out.setCell (by simp) _).setCell (by simp) _⟩
        exact (World.cell?_setCell_other _ _ _ _ (by simp)).trans (World.cell?_setCell_same _ _ _ hc0)
      · obtain ⟨q, hq⟩ : ∃ q, m - 1 = q := ⟨_, rfl⟩
        have hq1 : (m : Int) - 1 = (q : Int) := by omega
        have hq0 : (0 : Int) ≤ (q : Int) := by omega
        have hqc : (q : Int) ≤ (cap : Int) := by omega
        have hqm : q ≤ m := by omega
        have hqb : (q : Int) ≤ 9223372036854775807 := by unfold maxLen at hcm; omega
        have HQ := Lib.hid hq
        clear hq
        gi_wp2
        have e0 : (W.setCell ⟨B + 2, 0, none⟩ (.slice a q cap)).heap[B]? = W.heap[B]? := set_heap (by omega)
        have e1 : (W.setCell ⟨B + 2, 0, none⟩ (.slice a q cap)).heap[B + 1]? = W.heap[B + 1]? := set_heap (by omega)
        have hL0 : L ≠ [] := by intro e; rw [e] at HM; exact hm0 HM.out.symm
        refine ⟨(KeepsOthers.setCell _ _ _).from _, fun h => ?_, ⟨⟨_, HV.out.set _, ?_, trivial⟩, ⟨by rw [HS2.out, if_neg hL0]; simp, ?_, KEEP.out _ e0 e1⟩, HBL.out.setCell (by simp) _⟩⟩
        · exact (World.cell?_of_block (a := ⟨B + 3, 0, none⟩) (set_heap (j := B + 3) (by omega))).trans h
        · rw [show Lk (pre ++ [x]) = L.dropLast by unfold Lk; rw [HS2.out, if_neg hL0]; rfl, List.length_dropLast, strVs_take, HM.out, HQ.out]
          exact (owns_upto HR.out hqm).kept (grownBy_setCell' W (B + 2) _) (.inr (HV.out.not_row (by decide) (owns_upto HR.out hqm)).symm)
        · exact Nat.le_trans hWz (KeepsOthers.setCell _ _ _).size
    · have t2 : t.toList.isEmpty = true := tEmpty_t (p := t.data.toList) h2
      have hst : Fk (pre ++ [x]) = some L := by rw [HST.out, h2]; rfl
      have HS2 := Lib.hid hst
      clear HST h1 h2 hst
      gi_wp2
      refine ⟨(KeepsOthers.refl _).from _, fun h => h, ⟨⟨_, HV.out, ?_, trivial⟩, ⟨by rw [HS2.out]; simp, hWz, hc0, hf0, hc1, hf1⟩, HBL.out⟩⟩
      rw [show Lk (pre ++ [x]) = L by unfold Lk; rw [HS2.out]; rfl]
      exact HR.out
    · have t2 : t.toList.isEmpty = false := tEmpty_f (p := t.data.toList) h2
      have t3 : (t.toList == [46]) = true := tEq_t (p := t.data.toList) h3
      have hst : Fk (pre ++ [x]) = some L := by rw [HST.out, h3]; rfl
      have HS2 := Lib.hid hst
      clear HST h1 h2 h3 hst
      gi_wp2
      refine ⟨(KeepsOthers.refl _).from _, fun h => h, ⟨⟨_, HV.out, ?_, trivial⟩, ⟨by rw [HS2.out]; simp, hWz, hc0, hf0, hc1, hf1⟩, HBL.out⟩⟩
      rw [show Lk (pre ++ [x]) = L by unfold Lk; rw [HS2.out]; rfl]
      exact HR.out
    · have t1 : (t.toList == [46, 46]) = false := tEq_f (p := t.data.toList) h1
      have t2 : t.toList.isEmpty = false := tEmpty_f (p := t.data.toList) h2
      have t3 : (t.toList == [46]) = false := tEq_f (p := t.data.toList) h3
      have hst : Fk (pre ++ [x]) = some (L ++ [t.data.toList]) := by rw [HST.out]; simp [cstep, h1, h2, h3]
      have HS2 := Lib.hid hst
      clear HST h1 h2 h3 hst
      gi_wp2_with (gi_at_builtin; refine wpListIn_append_own _ rfl (.tmp 13) (.tmp 15) 27 rfl (B + 4) 9 i0 (.string ⟨#[]⟩) 1 16 Tryd.underlying27 hi hz0 hz1 hz2 rfl (by decide) (.slice a L.length cap) L.length (strVs L) rfl (HR.out.alloc _) ⟨W.heap.size, 0, none⟩ 1 1 [.string t] rfl rfl (cell_one_new _ _ _) (by simp [Value.oneCell']) (by unfold maxLen; omega) (by omega) (by simp; omega) ?_; intro v' w1 hown' hgrow hnil; obtain ⟨g2, cap2, rfl⟩ := ownsRow_succ hown'; have hap := HV.out.appended (by decide) (owns_base HR.out (show B ≤ B + 4 by omega)) (by omega) (show B ≤ B + 2 by omega) (owns_base hown' (show B ≤ B + 4 by omega)) hgrow; have hbc := hap.1.cell; have hbf := hap.1.frozen; have HAP := Lib.hid hap; have HOW := Lib.hid hown'; have HGR := Lib.hid hgrow; clear hap hown' hgrow hnil)
      have e0 := app_heap (v' := .slice (some ⟨g2, 0, none⟩) (L.length + 1) cap2) HGR.out (owns_block HR.out (j := B) (by omega)) (show B ≠ B + 2 by omega) h1l
      have e1 := app_heap (v' := .slice (some ⟨g2, 0, none⟩) (L.length + 1) cap2) HGR.out (owns_block HR.out (j := B + 1) (by omega)) (show B + 1 ≠ B + 2 by omega) h2l
      refine ⟨HAP.out.2.2.2.1.from _, fun h => ?_, ⟨⟨_, HAP.out.2.1, ?_, trivial⟩, ⟨by rw [HS2.out]; simp, ?_, KEEP.out _ e0 e1⟩, HBL.out.trans HAP.out.2.2.2.2⟩⟩
      · have e3 := app_heap (v' := .slice (some ⟨g2, 0, none⟩) (L.length + 1) cap2) HGR.out (owns_block HR.out (j := B + 3) (by omega)) (show B + 3 ≠ B + 2 by omega) (by omega)
        exact (World.cell?_of_block (a := ⟨B + 3, 0, none⟩) e3).trans h
      · rw [show Lk (pre ++ [x]) = L ++ [t.data.toList] by unfold Lk; rw [HS2.out]; rfl, List.length_append, strVs_snoc]
        exact HOW.out.kept (grownBy_setCell' w1 (B + 2) _) (.inr (HAP.out.1.not_row (by decide) HOW.out).symm)
      · exact Nat.le_trans hWz HAP.out.2.2.2.1.size
  case done =>
    rintro D ys W hD hys ⟨⟨v, hv, hr, _⟩, ⟨hF, hWz, hc0, hf0, hc1, hf1⟩, hBl⟩ hK
    subst hys
    obtain ⟨L, hL⟩ := Option.ne_none_iff_exists'.1 hF
    have hLk : Lk (ptsA S 0) = L := by unfold Lk; rw [hL]; rfl
    rw [hLk] at hr
    rw [Fk_all] at hL
    have hLn : L.length ≤ 300001 := by
      have h1 := (cfold_props _ L hL).1
      have h2 := spl_len S.data.toList
      have h3 : S.data.toList.length = S.size := by simp
      omega
    have hJz := HJS.out L hL
    have hR := HSM.out L hL
    obtain ⟨a, cap, rfl, hcp, hcm⟩ := (Row.of_own hr).form
    have HJ := Lib.hid (join_calls L _ W (Row.of_own hr) (by omega) hLn)
    rw [strVs_length] at *
    have hvc := hv.cell
    have hlB := World.block_lt_of_cell? W _ hc0
    have hlB1 := World.block_lt_of_cell? W _ hc1
    have hTW : Tabs W := hT.kept (Touch.of_below (by rw [HB.out]; exact hBl))
    have HCK0 := fun W' (h : Tabs W') => check_calls (joinT L) W' (by omega) h
    have HBL := Lib.hid hBl
    have HRX := Lib.hid hR
    have HDK := Lib.hid hK
    have hDl := (Array.getElem?_eq_some_iff.1 hK).1
    clear hr hv hF hL hLk hLn hR hBl hK b0 b1 b2 b3 hb0 hcp hcm
    cases hck : checkB (joinT L)
    · rw [hck] at HCK0
      have HRR : Hid (R = (⟨#[]⟩, false)) := Lib.hid (by rw [HRX.out, hck]; rfl)
      have HCK := Lib.hid HCK0
      generalize joinT L = J at *
      clear HCK0 hck HRX
      gi_wp2_with (first
        | (refine ⟨trivial, ?_⟩; gi_at_call 44; refine (callsIn_wide.2 HJ.out).mono ?_; rintro e w4 ⟨rfl, ht4⟩)
        | (refine ⟨trivial, ?_⟩; gi_at_call 13; refine (callsIn_wide.2 (HCK.out _ (hTW.kept ht4))).mono ?_; rintro e w5 ⟨rfl, ht5⟩; have hd0 := (ht4.trans ht5).cell hc0 id; have hd1 := (ht4.trans ht5).cell hc1 id; have hg0 := ((ht4.trans ht5).frozen (p := ⟨B, 0, none⟩) hlB id).trans hf0; have hg1 := ((ht4.trans ht5).frozen (p := ⟨B + 1, 0, none⟩) hlB1 id).trans hf1; have HK5 := Lib.hid ((ht4.trans ht5).held HDK.out id); have HB5 := Lib.hid (HBL.out.trans ((ht4.trans ht5).below (B := B) (by omega) (fun _ h => h.elim))); clear ht4 ht5 hc0 hc1 hf0 hf1))
      have hK' := (KeepsOthers.setCell (w5.setCell ⟨B, 0, none⟩ (.string ⟨#[]⟩)) ⟨B + 1, 0, none⟩ (.bool false)).same D _ ((KeepsOthers.setCell w5 ⟨B, 0, none⟩ (.string ⟨#[]⟩)).same D _ HK5.out rfl) rfl
      have hr0 := (World.cell?_setCell_other (w5.setCell ⟨B, 0, none⟩ (.string ⟨#[]⟩)) ⟨B + 1, 0, none⟩ ⟨B, 0, none⟩ (.bool false) (by simp)).trans (World.cell?_setCell_same w5 ⟨B, 0, none⟩ (.string ⟨#[]⟩) hd0)
      have hr1 := World.cell?_setCell_same (w5.setCell ⟨B, 0, none⟩ (.string ⟨#[]⟩)) ⟨B + 1, 0, none⟩ (.bool false) ((World.cell?_setCell_other w5 ⟨B, 0, none⟩ ⟨B + 1, 0, none⟩ (.string ⟨#[]⟩) (by simp)).trans hd1)
      refine ⟨by simp, .inl ⟨_, _, rfl, run_takeDeferred hK', ?_⟩⟩
      refine ⟨_, results_cell2 rfl _ _ ⟨B, 0, none⟩ ⟨B + 1, 0, none⟩ _ _ rfl rfl (cell_kept hr0 (grownBy_putObj' _ D (.deferred none)) (fun r e => by cases e; exact ⟨_, hK', rfl⟩)) (cell_kept hr1 (grownBy_putObj' _ D (.deferred none)) (fun r e => by cases e; exact ⟨_, hK', rfl⟩)) Tryd.underlying9 Tryd.underlying4, ret_pair HRR.out, ?_⟩
      have hfin := ((HB5.out.setCell (p := ⟨B, 0, none⟩) (Nat.le_refl _) (.string ⟨#[]⟩)).setCell (p := ⟨B + 1, 0, none⟩) (by simp) (.bool false)).trans (belowK_b (w := W0) (by omega) _ D _ (.deferred none) hD hK' rfl rfl)
      exact touch_at HB.out hfin
    · rw [hck] at HCK0
      have HRR : Hid (R = (joinT L, true)) := Lib.hid (by rw [HRX.out, hck]; rfl)
      have HCK := Lib.hid HCK0
      generalize joinT L = J at *
      clear HCK0 hck HRX
      gi_wp2_with (first
        | (refine ⟨trivial, ?_⟩; gi_at_call 44; refine (callsIn_wide.2 HJ.out).mono ?_; rintro e w4 ⟨rfl, ht4⟩)
        | (refine ⟨trivial, ?_⟩; gi_at_call 13; refine (callsIn_wide.2 (HCK.out _ (hTW.kept ht4))).mono ?_; rintro e w5 ⟨rfl, ht5⟩; have hd0 := (ht4.trans ht5).cell hc0 id; have hd1 := (ht4.trans ht5).cell hc1 id; have hg0 := ((ht4.trans ht5).frozen (p := ⟨B, 0, none⟩) hlB id).trans hf0; have hg1 := ((ht4.trans ht5).frozen (p := ⟨B + 1, 0, none⟩) hlB1 id).trans hf1; have HK5 := Lib.hid ((ht4.trans ht5).held HDK.out id); have HB5 := Lib.hid (HBL.out.trans ((ht4.trans ht5).below (B := B) (by omega) (fun _ h => h.elim))); clear ht4 ht5 hc0 hc1 hf0 hf1))
      have hK' := (KeepsOthers.setCell (w5.setCell ⟨B, 0, none⟩ (.string J)) ⟨B + 1, 0, none⟩ (.bool true)).same D _ ((KeepsOthers.setCell w5 ⟨B, 0, none⟩ (.string J)).same D _ HK5.out rfl) rfl
      have hr0 := (World.cell?_setCell_other (w5.setCell ⟨B, 0, none⟩ (.string J)) ⟨B + 1, 0, none⟩ ⟨B, 0, none⟩ (.bool true) (by simp)).trans (World.cell?_setCell_same w5 ⟨B, 0, none⟩ (.string J) hd0)
      have hr1 := World.cell?_setCell_same (w5.setCell ⟨B, 0, none⟩ (.string J)) ⟨B + 1, 0, none⟩ (.bool true) ((World.cell?_setCell_other w5 ⟨B, 0, none⟩ ⟨B + 1, 0, none⟩ (.string J) (by simp)).trans hd1)
      refine ⟨by simp, .inl ⟨_, _, rfl, run_takeDeferred hK', ?_⟩⟩
      refine ⟨_, results_cell2 rfl _ _ ⟨B, 0, none⟩ ⟨B + 1, 0, none⟩ _ _ rfl rfl (cell_kept hr0 (grownBy_putObj' _ D (.deferred none)) (fun r e => by cases e; exact ⟨_, hK', rfl⟩)) (cell_kept hr1 (grownBy_putObj' _ D (.deferred none)) (fun r e => by cases e; exact ⟨_, hK', rfl⟩)) Tryd.underlying9 Tryd.underlying4, ret_pair HRR.out, ?_⟩
      have hfin := ((HB5.out.setCell (p := ⟨B, 0, none⟩) (Nat.le_refl _) (.string J)).setCell (p := ⟨B + 1, 0, none⟩) (by simp) (.bool true)).trans (belowK_b (w := W0) (by omega) _ D _ (.deferred none) hD hK' rfl rfl)
      exact touch_at HB.out hfin
  case stop =>
    rintro D c pre W hD hpre ⟨⟨⟨rfl, hF⟩, hc0, hc1⟩, hBl⟩ hK
    have hnone : cfold (spl S.data.toList) = none := by
      rw [← Fk_all]
      obtain ⟨r, hr⟩ := hpre
      unfold Fk at hF ⊢
      exact cfold_pre ⟨r.map tt, by rw [← List.map_append, hr]⟩ hF
    have HR := Lib.hid (HN.out hnone)
    have HBL := Lib.hid hBl
    clear hF hnone hBl hpre b0 b1 b2 b3 hb0 hT
    gi_wp2
    refine ⟨by simp, .inl ⟨_, _, rfl, run_takeDeferred hK, ?_⟩⟩
    refine ⟨_, results_cell2 rfl _ _ ⟨B, 0, none⟩ ⟨B + 1, 0, none⟩ _ _ rfl rfl (cell_kept hc0 (grownBy_putObj' _ D (.deferred none)) (fun r e => by cases e; exact ⟨_, hK, rfl⟩)) (cell_kept hc1 (grownBy_putObj' _ D (.deferred none)) (fun r e => by cases e; exact ⟨_, hK, rfl⟩)) Tryd.underlying9 Tryd.underlying4, ret_pair HR.out, ?_⟩
    have hfin : Below B w (W.putObj D (.deferred none)) := HBL.out.trans (belowK_b (w := W0) (by omega) _ D _ _ hD hK rfl rfl)
    rw [← HB.out] at hfin
    exact Touch.of_below hfin
end Go.Proofs.YtdohhmaggeocjaaDoor

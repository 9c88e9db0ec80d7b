/- Contract of package zip: a central header. -/
import Derived.Test.YtdohhmaggeocjaaDoorZipE
namespace Go.Proofs.YtdohhmaggeocjaaDoor
open Go Go.RowKit
set_option maxRecDepth 100000

def wideL (h : Hd) : List Nat := (if bigH h then [h.z, h.p] else []) ++ (if full32 ≤ h.a then [h.a] else [])
/-- A central header of a head that may be. -/
def cenB (h : Hd) : ByteArray :=
  ⟨#[80, 75, 1, 2]⟩ ++ P 2 (if (wideL h).isEmpty then 20 else 45) ++ P 2 (if (wideL h).isEmpty then 20 else 45) ++ manB h ++ P 4 h.s ++ P 4 (if bigH h then full32 else h.p) ++ P 4 (if bigH h then full32 else h.z) ++
    (P 2 h.n.size ++ P 2 (fieldB (wideL h)).size) ++ Z 10 ++ P 4 (if full32 ≤ h.a then full32 else h.a) ++ h.n ++ fieldB (wideL h)
def centralB (h : Hd) : ByteArray := if goodH h then cenB h else ByteArray.empty

theorem Tryd.info39 : (Tryd.prog.info? 39).map (fun i => (i.zero, i.size, i.bytes)) = some (some (.int .u64 0), 1, 8) := by kernel_rfl
theorem SrcOfRow {P : Program} {w : World} {e e' t : TypeId} {v : Value} {xs : List Value} (hk : P.underlying t = some (.slice e')) (h : Row w e v xs) (h1 : ∀ u ∈ xs, u.oneCell' = true) : Src P 1 t v xs.length xs w := by
  have h0 := h
  rcases h with ⟨rfl, rfl⟩ | ⟨g, off, cap, cur, rfl, _⟩
  · exact Src.ofNil w hk 0
  · refine Src.ofSlice w hk ⟨g, off, none⟩ xs.length cap xs (by omega) (fun j u hu => ?_) h1
    have := h0.cells.2 j u hu
    by_cases hj : j = 0
    · subst hj; simpa [Addr.add] using this
    · simpa [Addr.add, hj] using this
theorem u64Vs_one (l : List Nat) : ∀ u ∈ u64Vs l, u.oneCell' = true := by
  intro u hu
  obtain ⟨_, _, rfl⟩ := List.mem_map.1 hu
  rfl
theorem row_app (W : World) (L : List Nat) (hl : L.length ≤ 100) (B : Nat) (hB : W.heap.size = B) :
    Row ((W.alloc (.cells ((u64Vs L).toArray ++ Builtin.zeroCells #[.int .u64 0] ((Question.appendCap L.length 0 39).cut (W.tape W.drawn (Question.appendCap L.length 0 39)) - L.length)) 39)).drew) 39
      (.slice (some ⟨B, 0, none⟩) L.length ((Question.appendCap L.length 0 39).cut (W.tape W.drawn (Question.appendCap L.length 0 39)))) (u64Vs L) := by
  subst hB
  have h1 : L.length ≤ (Question.appendCap L.length 0 39).cut (W.tape W.drawn (Question.appendCap L.length 0 39)) := grownCap_ge W L.length 0 39
  have h2 : (Question.appendCap L.length 0 39).cut (W.tape W.drawn (Question.appendCap L.length 0 39)) ≤ maxLen := grownCap_le_maxLen W L.length 0 39 (by unfold maxLen; omega)
  generalize (Question.appendCap L.length 0 39).cut (W.tape W.drawn (Question.appendCap L.length 0 39)) = cap at *
  refine .inr ⟨W.heap.size, 0, cap, _, by rw [u64Vs_length], heap_alloc_new W _, by rw [u64Vs_length]; exact h1, h2, ?_, ?_⟩
  · rw [Array.size_append, size_zeroCells, List.size_toArray, u64Vs_length]
    simp
    omega
  · rw [Array.toList_append, List.drop_zero]
    exact List.take_left
theorem row_u64B (W : World) (L : List Nat) (hl : L.length ≤ 100) (B : Nat) (hB : W.heap.size = B) : Row (W.alloc (.cells (u64Vs L).toArray 39)) 39 (.slice (some ⟨B, 0, none⟩) L.length L.length) (u64Vs L) := by
  subst hB
  exact row_u64 W L hl
theorem u64Vs_append (a b : List Nat) : u64Vs (a ++ b) = u64Vs a ++ u64Vs b := by simp [u64Vs]

set_option maxHeartbeats 4000000 in
theorem central_bad (h : Hd) (ho : HdOk h) (w : World) (hT : Tabs w) (hg : goodH h = false) : Calls Tryd.prog 30 #[h.v] w fun e w' => e = .returned (.string ByteArray.empty) ∧ Touch (fun _ => False) w w' := by
  have HG := Lib.hid (fun W (hT : Tabs W) => zgood_b false h ho hg W hT)
  clear hg
  obtain ⟨n, ⟨y, mo, d, hh, mi, ss⟩, p, z, s, a, k⟩ := h
  unfold Hd.v Hd.cs at HG ⊢
  simp only at HG ⊢
  go_enter Tryd.func30, Tryd.ntmps30
  go_wp2_with (go_at_call 35; refine (HG.out _ (hT.kept ((Touch.refl _ _).alloc _))).mono ?_; rintro e w1 ⟨rfl, ht1⟩)
  go_ret
  exact ⟨rfl, ((Touch.refl _ _).alloc _).trans ht1⟩

set_option maxHeartbeats 8000000 in
theorem central_00 (h : Hd) (ho : HdOk h) (w : World) (hT : Tabs w) (hg : goodH h = true) (hb : bigH h = false) (ha : decide ((4294967295 : Int) ≤ (h.a : Int)) = false) : Calls Tryd.prog 30 #[h.v] w fun e w' => e = .returned (.string
    (⟨#[80, 75, 1, 2]⟩ ++ P 2 20 ++ P 2 20 ++ manB h ++ P 4 h.s ++ P 4 h.p ++ P 4 h.z ++ (P 2 h.n.size ++ P 2 (fieldB []).size) ++ Z 10 ++ P 4 h.a ++ h.n ++ fieldB [])) ∧ Touch (fun _ => False) w w' := by
  have HG := Lib.hid (fun W (hT : Tabs W) => zgood_b true h ho hg W hT)
  have HMN := Lib.hid (fun W => manner_calls h ho (good_time hg) W)
  have hmn := manB_size h
  have hns := ho.n
  have HB := Lib.hid (fun W => big_b false h hb W)
  have hEs := fieldB_size []
  have hEb : (fieldB []).size ≤ 28 := by rw [hEs]; simp
  have HV := Lib.hid (fun W => version_calls (fieldB []) true (fieldB_empty _) W)
  have HZ := Lib.hid (fun W => noughts_int 10 10 rfl (by decide) W)
  have HS := Lib.hid (fun W => put_int h.s 4 h.s 4 rfl rfl (by decide) (by decide) W)
  have HPP := Lib.hid (fun W => put_int h.p 4 h.p 4 rfl rfl (by decide) (by decide) W)
  have HPZ := Lib.hid (fun W => put_int h.z 4 h.z 4 rfl rfl (by decide) (by decide) W)
  have HPA := Lib.hid (fun W => put_int h.a 4 h.a 4 rfl rfl (by decide) (by decide) W)
  have HLN := Lib.hid (fun W => lengths_calls h.n (fieldB []) hns (by omega) W)
  have HFL := Lib.hid (fun v W (hr : Row W 39 v (u64Vs [])) => field_calls [] v W hr (by simp))
  have hws := wrap_u64_nat h.s (by have := ho.s; omega)
  obtain ⟨i0, hi, hz0, hz1, hz2⟩ := info_parts Tryd.info39
  generalize fieldB [] = E at *
  generalize manB h = MN at *
  obtain ⟨V, hV⟩ : ∃ V, P 2 20 = V := ⟨_, rfl⟩
  obtain ⟨Z10, hZ10⟩ : ∃ V, Z 10 = V := ⟨_, rfl⟩
  obtain ⟨xs, hxs⟩ : ∃ V, P 4 h.s = V := ⟨_, rfl⟩
  obtain ⟨xp, hxp⟩ : ∃ V, P 4 h.p = V := ⟨_, rfl⟩
  obtain ⟨xz, hxz⟩ : ∃ V, P 4 h.z = V := ⟨_, rfl⟩
  obtain ⟨xa, hxa⟩ : ∃ V, P 4 h.a = V := ⟨_, rfl⟩
  obtain ⟨LN, hLN⟩ : ∃ V, P 2 h.n.size ++ P 2 E.size = V := ⟨_, rfl⟩
  have s1 : (V.size : Int) = 2 := by rw [← hV, P_size]; rfl
  have s2 : (Z10.size : Int) = 10 := by rw [← hZ10, Z_size]; rfl
  have s3 : (xs.size : Int) = 4 := by rw [← hxs, P_size]; rfl
  have sxp : (xp.size : Int) = 4 := by rw [← hxp, P_size]; rfl
  have sxz : (xz.size : Int) = 4 := by rw [← hxz, P_size]; rfl
  have sxa : (xa.size : Int) = 4 := by rw [← hxa, P_size]; rfl
  have s4 : (LN.size : Int) = 4 := by rw [← hLN, ByteArray.size_append, P_size, P_size]; rfl
  have s5 : (MN.size : Int) = 8 := by omega
  have s6 : (E.size : Int) ≤ 28 := by omega
  have s7 : (h.n.size : Int) ≤ 1000000 := by omega
  rw [show (if true = true then 20 else 45 : Nat) = 20 from rfl, hV] at HV
  rw [hZ10] at HZ
  rw [hxs] at HS
  rw [hxp] at HPP
  rw [hxz] at HPZ
  rw [hxa] at HPA
  rw [hLN] at HLN
  rw [hV, hZ10, hxs, hxp, hxz, hxa, hLN]
  clear hV hZ10 hxs hxp hxz hxa hLN hEs hEb hmn hns hb hg ho
  obtain ⟨n, ⟨y, mo, d, hh, mi, ss⟩, p, z, s, a, k⟩ := h
  unfold Hd.v Hd.cs at *
  simp only at *
  go_enter Tryd.func30, Tryd.ntmps30
  go_upto_region 3 with (go_at_call 35; refine (HG.out _ (hT.kept ((Touch.refl _ _).alloc _))).mono ?_; rintro e w1 ⟨rfl, ht1⟩)
  have hb1 := ht1.held (heap_alloc_new w _) id
  have hBl : w.heap.size < w1.heap.size := row_lt hb1
  obtain ⟨⟨c0, c1, c2, c3, c4, c5⟩, c6, c7, c8, c9, c10, c11⟩ := row12 hb1
  have HT1 := Lib.hid (((Touch.refl (fun _ => False) w).alloc _).trans ht1)
  have HB1 := Lib.hid hb1
  clear hb1 ht1
  go_quiet (fail)
  go_wp2_with (first
    | (go_at_call 32; refine (HB.out _).mono ?_; rintro e w2 ⟨rfl, ht2⟩; clear c0 c1 c2 c3 c4 c5 c6 c7 c8 c9 c10 c11; have ht2' := ((Touch.refl (fun _ => False) w1).drewN _).trans ht2; have hb2 := ht2'.held HB1.out id; have HT2 := Lib.hid (HT1.out.trans ht2'); have HB2 := Lib.hid hb2; have hl2 := row_lt hb2; clear ht2 ht2' hb2)
    | (go_at_call 57; refine (HFL.out _ _ (Row.nil _ _)).mono ?_; rintro e w5 ⟨rfl, ht5⟩; have hb5 := ht5.held HB2.out id; have HT5 := Lib.hid (HT2.out.trans ht5); clear ht5))
  refine wp_region_quiet_touch (fun _ => False) (by kernel_rfl) (by kernel_rfl) ?_
  obtain ⟨⟨c0, c1, c2, c3, c4, c5⟩, c6, c7, c8, c9, c10, c11⟩ := row12w hb5
  clear hb5
  repeat (go_big_quiet_step (first
    | (go_at_call 58; exact quiet_touch (HV.out _))
    | (go_at_call 59; exact quiet_touch (HMN.out _))
    | (go_at_call 51; exact quiet_touch (HZ.out _))
    | (go_at_call 50; with_reducible exact quiet_touch (HS.out _))
    | (go_at_call 50; with_reducible exact quiet_touch (HPP.out _))
    | (go_at_call 50; with_reducible exact quiet_touch (HPZ.out _))
    | (go_at_call 50; with_reducible exact quiet_touch (HPA.out _))
    | (go_at_call 60; exact quiet_touch (HLN.out _))))
  refine wpQuiet_nil ?_
  intro _ h1
  obtain ⟨T, h2⟩ := h1
  subst h2
  clear c0 c1 c2 c3 c4 c5 c6 c7 c8 c9 c10 c11
  go_wp2
  go_ret
  exact ⟨rfl, HT5.out.trans T.ok⟩

set_option maxHeartbeats 8000000 in
theorem central_01 (h : Hd) (ho : HdOk h) (w : World) (hT : Tabs w) (hg : goodH h = true) (hb : bigH h = false) (ha : decide ((4294967295 : Int) ≤ (h.a : Int)) = true) : Calls Tryd.prog 30 #[h.v] w fun e w' => e = .returned (.string
    (⟨#[80, 75, 1, 2]⟩ ++ P 2 45 ++ P 2 45 ++ manB h ++ P 4 h.s ++ P 4 h.p ++ P 4 h.z ++ (P 2 h.n.size ++ P 2 (fieldB [h.a]).size) ++ Z 10 ++ P 4 full32 ++ h.n ++ fieldB [h.a])) ∧ Touch (fun _ => False) w w' := by
  have HG := Lib.hid (fun W (hT : Tabs W) => zgood_b true h ho hg W hT)
  have HMN := Lib.hid (fun W => manner_calls h ho (good_time hg) W)
  have hmn := manB_size h
  have hns := ho.n
  have HB := Lib.hid (fun W => big_b false h hb W)
  have hEs := fieldB_size [h.a]
  have hEb : (fieldB [h.a]).size ≤ 28 := by rw [hEs]; simp
  have HV := Lib.hid (fun W => version_calls (fieldB [h.a]) false (fieldB_empty _) W)
  have HZ := Lib.hid (fun W => noughts_int 10 10 rfl (by decide) W)
  have HS := Lib.hid (fun W => put_int h.s 4 h.s 4 rfl rfl (by decide) (by decide) W)
  have HPF := Lib.hid (fun W => put_int 4294967295 4 full32 4 rfl rfl (by decide) (by decide) W)
  have HPP := Lib.hid (fun W => put_int h.p 4 h.p 4 rfl rfl (by decide) (by decide) W)
  have HPZ := Lib.hid (fun W => put_int h.z 4 h.z 4 rfl rfl (by decide) (by decide) W)
  have HLN := Lib.hid (fun W => lengths_calls h.n (fieldB [h.a]) hns (by omega) W)
  have HFL := Lib.hid (fun v W (hr : Row W 39 v (u64Vs [h.a])) => field_calls [h.a] v W hr (by simp))
  have hws := wrap_u64_nat h.s (by have := ho.s; omega)
  obtain ⟨i0, hi, hz0, hz1, hz2⟩ := info_parts Tryd.info39
  generalize fieldB [h.a] = E at *
  generalize manB h = MN at *
  obtain ⟨V, hV⟩ : ∃ V, P 2 45 = V := ⟨_, rfl⟩
  obtain ⟨Z10, hZ10⟩ : ∃ V, Z 10 = V := ⟨_, rfl⟩
  obtain ⟨xs, hxs⟩ : ∃ V, P 4 h.s = V := ⟨_, rfl⟩
  obtain ⟨xf, hxf⟩ : ∃ V, P 4 full32 = V := ⟨_, rfl⟩
  obtain ⟨xp, hxp⟩ : ∃ V, P 4 h.p = V := ⟨_, rfl⟩
  obtain ⟨xz, hxz⟩ : ∃ V, P 4 h.z = V := ⟨_, rfl⟩
  obtain ⟨LN, hLN⟩ : ∃ V, P 2 h.n.size ++ P 2 E.size = V := ⟨_, rfl⟩
  have s1 : (V.size : Int) = 2 := by rw [← hV, P_size]; rfl
  have s2 : (Z10.size : Int) = 10 := by rw [← hZ10, Z_size]; rfl
  have s3 : (xs.size : Int) = 4 := by rw [← hxs, P_size]; rfl
  have sxf : (xf.size : Int) = 4 := by rw [← hxf, P_size]; rfl
  have sxp : (xp.size : Int) = 4 := by rw [← hxp, P_size]; rfl
  have sxz : (xz.size : Int) = 4 := by rw [← hxz, P_size]; rfl
  have s4 : (LN.size : Int) = 4 := by rw [← hLN, ByteArray.size_append, P_size, P_size]; rfl
  have s5 : (MN.size : Int) = 8 := by omega
  have s6 : (E.size : Int) ≤ 28 := by omega
  have s7 : (h.n.size : Int) ≤ 1000000 := by omega
  rw [show (if false = true then 20 else 45 : Nat) = 45 from rfl, hV] at HV
  rw [hZ10] at HZ
  rw [hxs] at HS
  rw [hxf] at HPF
  rw [hxp] at HPP
  rw [hxz] at HPZ
  rw [hLN] at HLN
  rw [hV, hZ10, hxs, hxf, hxp, hxz, hLN]
  clear hV hZ10 hxs hxf hxp hxz hLN hEs hEb hmn hns hb hg ho
  obtain ⟨n, ⟨y, mo, d, hh, mi, ss⟩, p, z, s, a, k⟩ := h
  unfold Hd.v Hd.cs at *
  simp only at *
  go_enter Tryd.func30, Tryd.ntmps30
  go_upto_region 3 with (go_at_call 35; refine (HG.out _ (hT.kept ((Touch.refl _ _).alloc _))).mono ?_; rintro e w1 ⟨rfl, ht1⟩)
  have hb1 := ht1.held (heap_alloc_new w _) id
  have hBl : w.heap.size < w1.heap.size := row_lt hb1
  obtain ⟨⟨c0, c1, c2, c3, c4, c5⟩, c6, c7, c8, c9, c10, c11⟩ := row12 hb1
  have HT1 := Lib.hid (((Touch.refl (fun _ => False) w).alloc _).trans ht1)
  have HB1 := Lib.hid hb1
  clear hb1 ht1
  go_quiet (fail)
  go_wp2_with (first
    | (go_at_call 32; refine (HB.out _).mono ?_; rintro e w2 ⟨rfl, ht2⟩; clear c0 c1 c2 c3 c4 c5 c6 c7 c8 c9 c10 c11; have ht2' := ((Touch.refl (fun _ => False) w1).drewN _).trans ht2; have hb2 := ht2'.held HB1.out id; have HT2 := Lib.hid (HT1.out.trans ht2'); have HB2 := Lib.hid hb2; have hl2 := row_lt hb2; clear ht2 ht2' hb2)
    | (go_at_call 57; refine (HFL.out _ _ (row_app (w2.alloc (.cells (u64Vs [a]).toArray 39)) [a] (by simp) (w2.heap.size + 1) (alloc_size _ _))).mono ?_; rintro e w5 ⟨rfl, ht5⟩; have ht5' := ((((Touch.refl (fun _ => False) w2).alloc _).alloc _).drew).trans ht5; have hb5 := ht5'.held HB2.out id; have HT5 := Lib.hid (HT2.out.trans ht5'); clear ht5 ht5'))
  refine wp_region_quiet_touch (fun _ => False) (by kernel_rfl) (by kernel_rfl) ?_
  obtain ⟨⟨c0, c1, c2, c3, c4, c5⟩, c6, c7, c8, c9, c10, c11⟩ := row12w hb5
  clear hb5
  repeat (go_big_quiet_step (first
    | (go_at_call 58; exact quiet_touch (HV.out _))
    | (go_at_call 59; exact quiet_touch (HMN.out _))
    | (go_at_call 51; exact quiet_touch (HZ.out _))
    | (go_at_call 50; with_reducible exact quiet_touch (HS.out _))
    | (go_at_call 50; with_reducible exact quiet_touch (HPF.out _))
    | (go_at_call 50; with_reducible exact quiet_touch (HPP.out _))
    | (go_at_call 50; with_reducible exact quiet_touch (HPZ.out _))
    | (go_at_call 60; exact quiet_touch (HLN.out _))))
  refine wpQuiet_nil ?_
  intro _ h1
  obtain ⟨T, h2⟩ := h1
  subst h2
  clear c0 c1 c2 c3 c4 c5 c6 c7 c8 c9 c10 c11
  go_wp2
  go_ret
  exact ⟨rfl, HT5.out.trans T.ok⟩

set_option maxHeartbeats 8000000 in
theorem central_10 (h : Hd) (ho : HdOk h) (w : World) (hT : Tabs w) (hg : goodH h = true) (hb : bigH h = true) (ha : decide ((4294967295 : Int) ≤ (h.a : Int)) = false) : Calls Tryd.prog 30 #[h.v] w fun e w' => e = .returned (.string
    (⟨#[80, 75, 1, 2]⟩ ++ P 2 45 ++ P 2 45 ++ manB h ++ P 4 h.s ++ P 4 full32 ++ P 4 full32 ++ (P 2 h.n.size ++ P 2 (fieldB [h.z, h.p]).size) ++ Z 10 ++ P 4 h.a ++ h.n ++ fieldB [h.z, h.p])) ∧ Touch (fun _ => False) w w' := by
  have HG := Lib.hid (fun W (hT : Tabs W) => zgood_b true h ho hg W hT)
  have HMN := Lib.hid (fun W => manner_calls h ho (good_time hg) W)
  have hmn := manB_size h
  have hns := ho.n
  have HB := Lib.hid (fun W => big_b true h hb W)
  have hEs := fieldB_size [h.z, h.p]
  have hEb : (fieldB [h.z, h.p]).size ≤ 28 := by rw [hEs]; simp
  have HV := Lib.hid (fun W => version_calls (fieldB [h.z, h.p]) false (fieldB_empty _) W)
  have HZ := Lib.hid (fun W => noughts_int 10 10 rfl (by decide) W)
  have HS := Lib.hid (fun W => put_int h.s 4 h.s 4 rfl rfl (by decide) (by decide) W)
  have HPF := Lib.hid (fun W => put_int 4294967295 4 full32 4 rfl rfl (by decide) (by decide) W)
  have HPA := Lib.hid (fun W => put_int h.a 4 h.a 4 rfl rfl (by decide) (by decide) W)
  have HLN := Lib.hid (fun W => lengths_calls h.n (fieldB [h.z, h.p]) hns (by omega) W)
  have HFL := Lib.hid (fun v W (hr : Row W 39 v (u64Vs [h.z, h.p])) => field_calls [h.z, h.p] v W hr (by simp))
  have hws := wrap_u64_nat h.s (by have := ho.s; omega)
  obtain ⟨i0, hi, hz0, hz1, hz2⟩ := info_parts Tryd.info39
  generalize fieldB [h.z, h.p] = E at *
  generalize manB h = MN at *
  obtain ⟨V, hV⟩ : ∃ V, P 2 45 = V := ⟨_, rfl⟩
  obtain ⟨Z10, hZ10⟩ : ∃ V, Z 10 = V := ⟨_, rfl⟩
  obtain ⟨xs, hxs⟩ : ∃ V, P 4 h.s = V := ⟨_, rfl⟩
  obtain ⟨xf, hxf⟩ : ∃ V, P 4 full32 = V := ⟨_, rfl⟩
  obtain ⟨xa, hxa⟩ : ∃ V, P 4 h.a = V := ⟨_, rfl⟩
  obtain ⟨LN, hLN⟩ : ∃ V, P 2 h.n.size ++ P 2 E.size = V := ⟨_, rfl⟩
  have s1 : (V.size : Int) = 2 := by rw [← hV, P_size]; rfl
  have s2 : (Z10.size : Int) = 10 := by rw [← hZ10, Z_size]; rfl
  have s3 : (xs.size : Int) = 4 := by rw [← hxs, P_size]; rfl
  have sxf : (xf.size : Int) = 4 := by rw [← hxf, P_size]; rfl
  have sxa : (xa.size : Int) = 4 := by rw [← hxa, P_size]; rfl
  have s4 : (LN.size : Int) = 4 := by rw [← hLN, ByteArray.size_append, P_size, P_size]; rfl
  have s5 : (MN.size : Int) = 8 := by omega
  have s6 : (E.size : Int) ≤ 28 := by omega
  have s7 : (h.n.size : Int) ≤ 1000000 := by omega
  rw [show (if false = true then 20 else 45 : Nat) = 45 from rfl, hV] at HV
  rw [hZ10] at HZ
  rw [hxs] at HS
  rw [hxf] at HPF
  rw [hxa] at HPA
  rw [hLN] at HLN
  rw [hV, hZ10, hxs, hxf, hxa, hLN]
  clear hV hZ10 hxs hxf hxa hLN hEs hEb hmn hns hb hg ho
  obtain ⟨n, ⟨y, mo, d, hh, mi, ss⟩, p, z, s, a, k⟩ := h
  unfold Hd.v Hd.cs at *
  simp only at *
  go_enter Tryd.func30, Tryd.ntmps30
  go_upto_region 3 with (go_at_call 35; refine (HG.out _ (hT.kept ((Touch.refl _ _).alloc _))).mono ?_; rintro e w1 ⟨rfl, ht1⟩)
  have hb1 := ht1.held (heap_alloc_new w _) id
  have hBl : w.heap.size < w1.heap.size := row_lt hb1
  obtain ⟨⟨c0, c1, c2, c3, c4, c5⟩, c6, c7, c8, c9, c10, c11⟩ := row12 hb1
  have HT1 := Lib.hid (((Touch.refl (fun _ => False) w).alloc _).trans ht1)
  have HB1 := Lib.hid hb1
  clear hb1 ht1
  go_quiet (fail)
  go_upto_region 8 with (first
    | (go_at_call 32; refine (HB.out _).mono ?_; rintro e w2 ⟨rfl, ht2⟩; clear c0 c1 c2 c3 c4 c5 c6 c7 c8 c9 c10 c11; have ht2' := ((Touch.refl (fun _ => False) w1).drewN _).trans ht2; have hb2 := ht2'.held HB1.out id; have HT2 := Lib.hid (HT1.out.trans ht2'); have HB2 := Lib.hid hb2; have hl2 := row_lt hb2; clear ht2 ht2' hb2))
  obtain ⟨cap3, hcap3⟩ : ∃ c, (Question.appendCap 2 0 39).cut (w2.tape w2.drawn (Question.appendCap 2 0 39)) = c := ⟨_, rfl⟩
  obtain ⟨w3, hw3⟩ : ∃ W, ((w2.alloc (.cells #[.int .u64 (z : Int), .int .u64 (p : Int)] 39)).alloc (.cells (#[.int .u64 (z : Int), .int .u64 (p : Int)] ++ Builtin.zeroCells #[.int .u64 0] (cap3 - 2)) 39)).drew = W := ⟨_, rfl⟩
  have hrow3 : Row w3 39 (.slice (some ⟨w2.heap.size + 1, 0, none⟩) 2 cap3) (u64Vs [z, p]) := by
    rw [← hw3, ← hcap3]
    exact row_app (w2.alloc (.cells (u64Vs [z, p]).toArray 39)) [z, p] (by simp) (w2.heap.size + 1) (alloc_size _ _)
  have ht3 : Touch (fun _ => False) w2 w3 := by rw [← hw3]; exact (((Touch.refl _ _).alloc _).alloc _).drew
  rw [hcap3, hw3]
  have hl23 : w2.heap.size + 1 < w3.heap.size := hrow3.lt _ rfl
  clear hcap3 hw3
  have hb3 := ht3.held HB2.out id
  have hl3 := row_lt hb3
  have HT3 := Lib.hid (HT2.out.trans ht3)
  have HB3 := Lib.hid hb3
  have HR3 := Lib.hid hrow3
  clear ht3 hb3 hrow3
  go_wp2_with (go_at_call 57; refine (HFL.out _ _ HR3.out).mono ?_; rintro e w5 ⟨rfl, ht5⟩; have hb5 := ht5.held HB3.out id; have HT5 := Lib.hid (HT3.out.trans ht5); clear ht5)
  refine wp_region_quiet_touch (fun _ => False) (by kernel_rfl) (by kernel_rfl) ?_
  obtain ⟨⟨c0, c1, c2, c3, c4, c5⟩, c6, c7, c8, c9, c10, c11⟩ := row12w hb5
  clear hb5
  repeat (go_big_quiet_step (first
    | (go_at_call 58; exact quiet_touch (HV.out _))
    | (go_at_call 59; exact quiet_touch (HMN.out _))
    | (go_at_call 51; exact quiet_touch (HZ.out _))
    | (go_at_call 50; with_reducible exact quiet_touch (HS.out _))
    | (go_at_call 50; with_reducible exact quiet_touch (HPF.out _))
    | (go_at_call 50; with_reducible exact quiet_touch (HPA.out _))
    | (go_at_call 60; exact quiet_touch (HLN.out _))))
  refine wpQuiet_nil ?_
  intro _ h1
  obtain ⟨T, h2⟩ := h1
  subst h2
  clear c0 c1 c2 c3 c4 c5 c6 c7 c8 c9 c10 c11
  go_wp2
  go_ret
  exact ⟨rfl, HT5.out.trans T.ok⟩

set_option maxHeartbeats 8000000 in
theorem central_11 (h : Hd) (ho : HdOk h) (w : World) (hT : Tabs w) (hg : goodH h = true) (hb : bigH h = true) (ha : decide ((4294967295 : Int) ≤ (h.a : Int)) = true) : Calls Tryd.prog 30 #[h.v] w fun e w' => e = .returned (.string
    (⟨#[80, 75, 1, 2]⟩ ++ P 2 45 ++ P 2 45 ++ manB h ++ P 4 h.s ++ P 4 full32 ++ P 4 full32 ++ (P 2 h.n.size ++ P 2 (fieldB [h.z, h.p, h.a]).size) ++ Z 10 ++ P 4 full32 ++ h.n ++ fieldB [h.z, h.p, h.a])) ∧ Touch (fun _ => False) w w' := by
  have HG := Lib.hid (fun W (hT : Tabs W) => zgood_b true h ho hg W hT)
  have HMN := Lib.hid (fun W => manner_calls h ho (good_time hg) W)
  have hmn := manB_size h
  have hns := ho.n
  have HB := Lib.hid (fun W => big_b true h hb W)
  have hEs := fieldB_size [h.z, h.p, h.a]
  have hEb : (fieldB [h.z, h.p, h.a]).size ≤ 28 := by rw [hEs]; simp
  have HV := Lib.hid (fun W => version_calls (fieldB [h.z, h.p, h.a]) false (fieldB_empty _) W)
  have HZ := Lib.hid (fun W => noughts_int 10 10 rfl (by decide) W)
  have HS := Lib.hid (fun W => put_int h.s 4 h.s 4 rfl rfl (by decide) (by decide) W)
  have HPF := Lib.hid (fun W => put_int 4294967295 4 full32 4 rfl rfl (by decide) (by decide) W)
  have HLN := Lib.hid (fun W => lengths_calls h.n (fieldB [h.z, h.p, h.a]) hns (by omega) W)
  have HFL := Lib.hid (fun v W (hr : Row W 39 v (u64Vs [h.z, h.p, h.a])) => field_calls [h.z, h.p, h.a] v W hr (by simp))
  have hws := wrap_u64_nat h.s (by have := ho.s; omega)
  obtain ⟨i0, hi, hz0, hz1, hz2⟩ := info_parts Tryd.info39
  generalize fieldB [h.z, h.p, h.a] = E at *
  generalize manB h = MN at *
  obtain ⟨V, hV⟩ : ∃ V, P 2 45 = V := ⟨_, rfl⟩
  obtain ⟨Z10, hZ10⟩ : ∃ V, Z 10 = V := ⟨_, rfl⟩
  obtain ⟨xs, hxs⟩ : ∃ V, P 4 h.s = V := ⟨_, rfl⟩
  obtain ⟨xf, hxf⟩ : ∃ V, P 4 full32 = V := ⟨_, rfl⟩
  obtain ⟨LN, hLN⟩ : ∃ V, P 2 h.n.size ++ P 2 E.size = V := ⟨_, rfl⟩
  have s1 : (V.size : Int) = 2 := by rw [← hV, P_size]; rfl
  have s2 : (Z10.size : Int) = 10 := by rw [← hZ10, Z_size]; rfl
  have s3 : (xs.size : Int) = 4 := by rw [← hxs, P_size]; rfl
  have sxf : (xf.size : Int) = 4 := by rw [← hxf, P_size]; rfl
  have s4 : (LN.size : Int) = 4 := by rw [← hLN, ByteArray.size_append, P_size, P_size]; rfl
  have s5 : (MN.size : Int) = 8 := by omega
  have s6 : (E.size : Int) ≤ 28 := by omega
  have s7 : (h.n.size : Int) ≤ 1000000 := by omega
  rw [show (if false = true then 20 else 45 : Nat) = 45 from rfl, hV] at HV
  rw [hZ10] at HZ
  rw [hxs] at HS
  rw [hxf] at HPF
  rw [hLN] at HLN
  rw [hV, hZ10, hxs, hxf, hLN]
  clear hV hZ10 hxs hxf hLN hEs hEb hmn hns hb hg ho
  obtain ⟨n, ⟨y, mo, d, hh, mi, ss⟩, p, z, s, a, k⟩ := h
  unfold Hd.v Hd.cs at *
  simp only at *
  go_enter Tryd.func30, Tryd.ntmps30
  go_upto_region 3 with (go_at_call 35; refine (HG.out _ (hT.kept ((Touch.refl _ _).alloc _))).mono ?_; rintro e w1 ⟨rfl, ht1⟩)
  have hb1 := ht1.held (heap_alloc_new w _) id
  have hBl : w.heap.size < w1.heap.size := row_lt hb1
  obtain ⟨⟨c0, c1, c2, c3, c4, c5⟩, c6, c7, c8, c9, c10, c11⟩ := row12 hb1
  have HT1 := Lib.hid (((Touch.refl (fun _ => False) w).alloc _).trans ht1)
  have HB1 := Lib.hid hb1
  clear hb1 ht1
  go_quiet (fail)
  go_upto_region 8 with (first
    | (go_at_call 32; refine (HB.out _).mono ?_; rintro e w2 ⟨rfl, ht2⟩; clear c0 c1 c2 c3 c4 c5 c6 c7 c8 c9 c10 c11; have ht2' := ((Touch.refl (fun _ => False) w1).drewN _).trans ht2; have hb2 := ht2'.held HB1.out id; have HT2 := Lib.hid (HT1.out.trans ht2'); have HB2 := Lib.hid hb2; have hl2 := row_lt hb2; clear ht2 ht2' hb2))
  obtain ⟨cap3, hcap3⟩ : ∃ c, (Question.appendCap 2 0 39).cut (w2.tape w2.drawn (Question.appendCap 2 0 39)) = c := ⟨_, rfl⟩
  obtain ⟨w3, hw3⟩ : ∃ W, ((w2.alloc (.cells #[.int .u64 (z : Int), .int .u64 (p : Int)] 39)).alloc (.cells (#[.int .u64 (z : Int), .int .u64 (p : Int)] ++ Builtin.zeroCells #[.int .u64 0] (cap3 - 2)) 39)).drew = W := ⟨_, rfl⟩
  have hrow3 : Row w3 39 (.slice (some ⟨w2.heap.size + 1, 0, none⟩) 2 cap3) (u64Vs [z, p]) := by
    rw [← hw3, ← hcap3]
    exact row_app (w2.alloc (.cells (u64Vs [z, p]).toArray 39)) [z, p] (by simp) (w2.heap.size + 1) (alloc_size _ _)
  have ht3 : Touch (fun _ => False) w2 w3 := by rw [← hw3]; exact (((Touch.refl _ _).alloc _).alloc _).drew
  rw [hcap3, hw3]
  have hl23 : w2.heap.size + 1 < w3.heap.size := hrow3.lt _ rfl
  clear hcap3 hw3
  have hb3 := ht3.held HB2.out id
  have hl3 := row_lt hb3
  have HT3 := Lib.hid (HT2.out.trans ht3)
  have HB3 := Lib.hid hb3
  have HR3 := Lib.hid hrow3
  clear ht3 hb3 hrow3
  go_wp2_with (first
    | (at_builtin; refine wpList_append_row _ rfl (.tmp 26) (.tmp 28) 83 83 rfl 39 i0 _ 8 Tryd.underlying83 hi hz0 hz1 hz2 rfl (.slice (some ⟨w2.heap.size + 1, 0, none⟩) 2 cap3) (u64Vs [z, p]) rfl (HR3.out.kept (S := fun _ => False) ((Touch.refl _ _).alloc _) (fun _ _ => id)) (.slice (some ⟨w3.heap.size, 0, none⟩) 1 1) rfl 1 (u64Vs [a]) (by exact SrcOfRow Tryd.underlying83 (row_u64 w3 [a] (by simp)) (u64Vs_one _)) (by rw [u64Vs_length]; unfold maxLen; simp) (by rw [u64Vs_length]; simp) ?_; intro v4 w4 hrow4 hgrow4 hown4; have ht4 := (HT3.out.alloc (.cells #[.int .u64 (a : Int)] 39)).grown hgrow4 (fun k hk => .inr (by have := Option.some.inj hk; simp at this; omega)); have hb4 : w4.heap[w.heap.size]? = _ := (hgrow4.block w.heap.size (by simp; omega) (fun e => by have := Option.some.inj e; simp at this; omega)).trans ((Below.heap_alloc w3 _ _ hl3).trans HB3.out); have HT4 := Lib.hid ht4; have HB4 := Lib.hid hb4; have HR4 := Lib.hid hrow4; clear ht4 hb4 hrow4 hgrow4 hown4)
    | (go_at_call 57; refine (HFL.out _ _ HR4.out).mono ?_; rintro e w5 ⟨rfl, ht5⟩; have hb5 := ht5.held HB4.out id; have HT5 := Lib.hid (HT4.out.trans ht5); clear ht5))
  refine wp_region_quiet_touch (fun _ => False) (by kernel_rfl) (by kernel_rfl) ?_
  obtain ⟨⟨c0, c1, c2, c3, c4, c5⟩, c6, c7, c8, c9, c10, c11⟩ := row12w hb5
  clear hb5
  repeat (go_big_quiet_step (first
    | (go_at_call 58; exact quiet_touch (HV.out _))
    | (go_at_call 59; exact quiet_touch (HMN.out _))
    | (go_at_call 51; exact quiet_touch (HZ.out _))
    | (go_at_call 50; with_reducible exact quiet_touch (HS.out _))
    | (go_at_call 50; with_reducible exact quiet_touch (HPF.out _))
    | (go_at_call 60; exact quiet_touch (HLN.out _))))
  refine wpQuiet_nil ?_
  intro _ h1
  obtain ⟨T, h2⟩ := h1
  subst h2
  clear c0 c1 c2 c3 c4 c5 c6 c7 c8 c9 c10 c11
  go_wp2
  go_ret
  exact ⟨rfl, HT5.out.trans T.ok⟩

theorem central_calls (h : Hd) (ho : HdOk h) (w : World) (hT : Tabs w) : Calls Tryd.prog 30 #[h.v] w fun e w' => e = .returned (.string (centralB h)) ∧ Touch (fun _ => False) w w' := by
  unfold centralB
  cases hg : goodH h
  · exact central_bad h ho w hT hg
  · rw [if_pos rfl]
    unfold cenB wideL
    by_cases ha : full32 ≤ h.a
    · have ha' : decide ((4294967295 : Int) ≤ (h.a : Int)) = true := by apply decide_eq_true; unfold full32 at ha; omega
      cases hb : bigH h
      · simpa [hb, ha] using central_01 h ho w hT hg hb ha'
      · simpa [hb, ha] using central_11 h ho w hT hg hb ha'
    · have ha' : decide ((4294967295 : Int) ≤ (h.a : Int)) = false := by apply decide_eq_false; unfold full32 at ha; omega
      cases hb : bigH h
      · simpa [hb, ha] using central_00 h ho w hT hg hb ha'
      · simpa [hb, ha] using central_10 h ho w hT hg hb ha'
end Go.Proofs.YtdohhmaggeocjaaDoor

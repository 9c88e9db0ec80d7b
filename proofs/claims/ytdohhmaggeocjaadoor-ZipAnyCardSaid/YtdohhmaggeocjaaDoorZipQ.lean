/- A header is read back (plain): the pieces of a local and of a central header that stand ahead of other bytes, and what is told of them. -/
import Derived.Test.YtdohhmaggeocjaaDoorZipP
namespace Go.Proofs.YtdohhmaggeocjaaDoor
open Go Go.RowKit
set_option maxRecDepth 100000

theorem gN_P (k n : Nat) (h : n < 256 ^ k) : gN (P k n) = n := by
  unfold gN
  rw [P_list, getN_leB, Nat.mod_eq_of_lt h]
def sgnL : ByteArray := ⟨#[80, 75, 3, 4]⟩
theorem sgnL_size : sgnL.size = 4 := rfl

/-- The first thirty bytes. -/
def loc30 (h : Hd) : ByteArray := sgnL ++ P 2 (if bigH h then 45 else 20) ++ manB h ++ Z 4 ++ P 4 (if bigH h then full32 else 0) ++ P 4 (if bigH h then full32 else 0) ++ (P 2 h.n.size ++ P 2 (locE h).size)
theorem loc30_size (h : Hd) : (loc30 h).size = 30 := by
  unfold loc30
  simp only [ByteArray.size_append, P_size, Z_size, manB_size, sgnL_size]
theorem locB_30 (h : Hd) : locB h = loc30 h ++ h.n ++ locE h := rfl

theorem loc30_at (h : Hd) (more : ByteArray) (i j : Nat) (hj : j ≤ 30) : (locB h ++ more).extract i j = (loc30 h).extract i j := by
  rw [locB_30, ext_app_l _ _ _ _ (by simp only [ByteArray.size_append, loc30_size]; omega), ext_app_l _ _ _ _ (by simp only [ByteArray.size_append, loc30_size]; omega), ext_app_l _ _ _ _ (by rw [loc30_size]; exact hj)]
theorem loc30_sign (h : Hd) (k : Nat) (hk : k ≤ 4) : (loc30 h).extract 0 k = sgnL.extract 0 k := by
  unfold loc30
  repeat rw [ext_app_l _ _ _ _ (by simp only [ByteArray.size_append, P_size, Z_size, manB_size, sgnL_size]; omega)]
theorem loc30_man (h : Hd) (i j : Nat) (hi : 6 ≤ i) (hj : j ≤ 14) : (loc30 h).extract i j = (manB h).extract (i - 6) (j - 6) := by
  unfold loc30
  rw [ext_app_l _ _ _ _ (by simp only [ByteArray.size_append, P_size, Z_size, manB_size, sgnL_size]; omega), ext_app_l _ _ _ _ (by simp only [ByteArray.size_append, P_size, Z_size, manB_size, sgnL_size]; omega), ext_app_l _ _ _ _ (by simp only [ByteArray.size_append, P_size, Z_size, manB_size, sgnL_size]; omega), ext_app_l _ _ _ _ (by simp only [ByteArray.size_append, P_size, Z_size, manB_size, sgnL_size]; omega)]
  rw [ext_app_r _ _ _ _ (by simp only [ByteArray.size_append, P_size, sgnL_size]; omega)]
  simp only [ByteArray.size_append, P_size, sgnL_size]
theorem manB_me (h : Hd) : (manB h).extract 2 4 = P 2 (if h.k then 0 else 8) := by
  unfold manB
  rw [ext_app_l _ _ _ _ (by simp only [ByteArray.size_append, P_size]; omega), ext_app_l _ _ _ _ (by simp only [ByteArray.size_append, P_size]; omega), ext_app_r _ _ _ _ (by simp only [P_size]; omega)]
  simp only [P_size]
  exact ext_all _ _ (P_size _ _)
theorem manB_ti (h : Hd) : (manB h).extract 4 6 = P 2 (timeN h.t).toNat := by
  unfold manB
  rw [ext_app_l _ _ _ _ (by simp only [ByteArray.size_append, P_size]; omega), ext_app_r _ _ _ _ (by simp only [ByteArray.size_append, P_size]; omega)]
  simp only [ByteArray.size_append, P_size]
  exact ext_all _ _ (P_size _ _)
theorem manB_da (h : Hd) : (manB h).extract 6 8 = P 2 (dateN h.t).toNat := by
  unfold manB
  rw [ext_app_r _ _ _ _ (by simp only [ByteArray.size_append, P_size]; omega)]
  simp only [ByteArray.size_append, P_size]
  exact ext_all _ _ (P_size _ _)
theorem loc30_nz (h : Hd) : (loc30 h).extract 26 28 = P 2 h.n.size := by
  unfold loc30
  rw [ext_app_r _ _ _ _ (by simp only [ByteArray.size_append, P_size, Z_size, manB_size, sgnL_size]; omega)]
  simp only [ByteArray.size_append, P_size, Z_size, manB_size, sgnL_size]
  rw [ext_app_l _ _ _ _ (by simp only [P_size]; omega)]
  exact ext_all _ _ (P_size _ _)
theorem loc30_ez (h : Hd) : (loc30 h).extract 28 30 = P 2 (locE h).size := by
  unfold loc30
  rw [ext_app_r _ _ _ _ (by simp only [ByteArray.size_append, P_size, Z_size, manB_size, sgnL_size]; omega)]
  simp only [ByteArray.size_append, P_size, Z_size, manB_size, sgnL_size]
  rw [ext_app_r _ _ _ _ (by simp only [P_size]; omega)]
  simp only [P_size]
  exact ext_all _ _ (P_size _ _)
theorem loc_name (h : Hd) (more : ByteArray) : (locB h ++ more).extract 30 (30 + h.n.size) = h.n := by
  rw [ext_app_l _ _ _ _ (by rw [locB_size]; omega)]
  exact locB_name h
theorem loc_extra (h : Hd) (more : ByteArray) : (locB h ++ more).extract (30 + h.n.size) (30 + h.n.size + (locE h).size) = locE h := by
  rw [ext_app_l _ _ _ _ (by rw [locB_size]; omega), locB_30, ext_app_r _ _ _ _ (by simp only [ByteArray.size_append, loc30_size]; omega)]
  simp only [ByteArray.size_append, loc30_size]
  rw [show 30 + h.n.size - (30 + h.n.size) = 0 by omega, show 30 + h.n.size + (locE h).size - (30 + h.n.size) = (locE h).size by omega]
  exact ext_all _ _ rfl
theorem loc_whole (h : Hd) (more : ByteArray) : (locB h ++ more).extract 0 (30 + h.n.size + (locE h).size) = locB h := by
  rw [ext_app_l _ _ _ _ (by rw [locB_size]; omega)]
  exact ext_all _ _ (locB_size h)

theorem locB_congr (h g : Hd) (hn : g.n = h.n) (ht : g.t = h.t) (hk : g.k = h.k) (hb : bigH g = bigH h) : locB g = locB h := by
  unfold locB locE manB
  rw [hn, ht, hk, hb]
/-- What a local header of a head tells. -/
def locH (h : Hd) : Hd := ⟨h.n, h.t, 0, if bigH h then full32 else 0, 0, 0, h.k⟩
theorem goodH_parts {h : Hd} (hg : goodH h = true) : checkB h.n = true ∧ goodB h.t = true ∧ max (max h.p h.z) h.a < 4611686018427387904 ∧ (h.k = true → h.p = 0 ∧ h.z = 0) := by
  unfold goodH at hg
  simp only [Bool.and_eq_true] at hg
  obtain ⟨h1, h2, h3, h4⟩ := hg
  refine ⟨h1, h2, of_decide_eq_true h3, fun hk => ?_⟩
  rw [hk] at h4
  simpa using h4
theorem name_size {h : Hd} (hg : goodH h = true) : h.n.size ≤ 65535 := by
  have := (goodH_parts hg).1
  unfold checkB at this
  simp only [Bool.and_eq_true, decide_eq_true_eq] at this
  exact this.1
theorem big_iff (h : Hd) : bigH h = true ↔ 4294705145 < max h.p h.z := by
  unfold bigH
  rw [decide_eq_true_iff]
theorem big_not {h : Hd} (hb : bigH h = false) : max h.p h.z ≤ 4294705145 := by
  unfold bigH at hb
  have := of_decide_eq_false hb
  omega
theorem locH_big (h : Hd) : bigH (locH h) = bigH h := by
  cases hb : bigH h
  · unfold locH
    rw [hb]
    rfl
  · unfold locH
    rw [hb]
    rfl
theorem locH_good {h : Hd} (hg : goodH h = true) : goodH (locH h) = true := by
  obtain ⟨h1, h2, h3, h4⟩ := goodH_parts hg
  unfold goodH locH
  simp only [h1, h2, Bool.true_and]
  cases hb : bigH h
  · simp only [Bool.false_eq_true, if_false]
    rw [decide_eq_true (by omega : max (max 0 0) 0 < 4611686018427387904)]
    cases h.k <;> rfl
  · have hk : h.k = false := by
      cases hk : h.k
      · rfl
      · have h5 := h4 hk
        have h6 := (big_iff h).1 hb
        omega
    simp only [if_true, hk]
    rw [decide_eq_true (by unfold full32; omega : max (max 0 full32) 0 < 4611686018427387904)]
    rfl
theorem kept_back (k : Bool) : (!((gN (P 2 (if k then 0 else 8)) : Int) == 8)) = k := by
  cases k <;> decide +kernel
theorem time_back {t : Tim} (ht : goodB t = true) : uT (gN (P 2 (dateN t).toNat)) (gN (P 2 (timeN t).toNat)) = t := by
  obtain ⟨d, n, hd, hn, hu, hd6, hn6⟩ := unp_pack t ((good_iff t).1 ht)
  rw [hd, hn, Int.toNat_natCast, Int.toNat_natCast, gN_P 2 d (by omega), gN_P 2 n (by omega)]
  unfold uT
  rw [hu, ht]
  rfl

theorem tL_back (h : Hd) (hg : goodH h = true) (F : ByteArray) (hF : ∀ i j, j ≤ 30 → F.extract i j = (loc30 h).extract i j) : ({ tL F (locE h) with n := h.n } : Hd) = locH h := by
  unfold tL locH
  rw [hF 12 14 (by omega), hF 10 12 (by omega), hF 8 10 (by omega), loc30_man h 12 14 (by omega) (by omega), loc30_man h 10 12 (by omega) (by omega), loc30_man h 8 10 (by omega) (by omega)]
  simp only [Nat.reduceSub]
  rw [manB_da, manB_ti, manB_me, time_back (goodH_parts hg).2.1, kept_back]
  have he := locE_size h
  cases hb : bigH h
  · rw [hb] at he
    simp [he]
  · rw [hb] at he
    simp [he]

theorem back_local (h : Hd) (more : ByteArray) (hg : goodH h = true) : rdL (locB h ++ more) = (locH h, ((locB h).size : Int)) := by
  have hn := name_size hg
  have hsz : (locB h ++ more).size = 30 + h.n.size + (locE h).size + more.size := by rw [ByteArray.size_append, locB_size]
  have heq := locE_size h
  have he : (locE h).size ≤ 20 := by rw [heq]; split <;> omega
  have e1 : gN ((locB h ++ more).extract 26 28) = h.n.size := by
    rw [loc30_at h more 26 28 (by omega), loc30_nz, gN_P 2 _ (by omega)]
  have e2 : gN ((locB h ++ more).extract 28 30) = (locE h).size := by
    rw [loc30_at h more 28 30 (by omega), loc30_ez, gN_P 2 _ (by omega)]
  unfold rdL rdM
  rw [if_pos (by rw [loc30_at h more 0 _ (by omega), loc30_sign h _ (by omega)]; rfl), if_neg (by omega)]
  simp only [Nat.reduceAdd, e1, e2]
  rw [if_neg (by omega), loc_name, loc_extra, loc_whole]
  have hF : ∀ i j, j ≤ 30 → ((locB h ++ more).extract 0 30).extract i j = (loc30 h).extract i j := fun i j hj => by
    rw [ext_ext _ _ _ _ _ (by omega), Nat.zero_add, Nat.zero_add, loc30_at h more i j hj]
  rw [tL_back h hg _ hF]
  rw [if_pos (by unfold localB; rw [locH_good hg, if_pos rfl]; exact locB_congr h (locH h) rfl rfl rfl (locH_big h)), locB_size]

theorem cut_local (h : Hd) (hg : goodH h = true) (k : Nat) (hk : k < (locB h).size) : rdL ((locB h).extract 0 k) = (zeroH, 0) := by
  have hn := name_size hg
  have hls := locB_size h
  have heq := locE_size h
  have he : (locE h).size ≤ 20 := by rw [heq]; split <;> omega
  have hsz : ((locB h).extract 0 k).size = k := by rw [ByteArray.size_extract]; omega
  have hx : ∀ i j, j ≤ k → j ≤ 30 → ((locB h).extract 0 k).extract i j = (loc30 h).extract i j := fun i j hj hj3 => by
    rw [ext_ext _ _ _ _ _ (by omega), Nat.zero_add, Nat.zero_add]
    have := loc30_at h ByteArray.empty i j hj3
    rwa [ByteArray.append_empty] at this
  unfold rdL rdM
  rw [hsz, if_pos (by rw [hx 0 _ (by omega) (by omega), loc30_sign h _ (by omega)]; rfl)]
  by_cases h3 : k < 30
  · rw [if_pos h3]
  · rw [if_neg h3]
    simp only [Nat.reduceAdd]
    rw [hx 26 28 (by omega) (by omega), hx 28 30 (by omega) (by omega), loc30_nz, loc30_ez, gN_P 2 _ (by omega), gN_P 2 _ (by omega), if_pos (by omega)]

def sgnC : ByteArray := ⟨#[80, 75, 1, 2]⟩
theorem sgnC_size : sgnC.size = 4 := rfl
def cen46 (h : Hd) : ByteArray :=
  sgnC ++ P 2 (if (wideL h).isEmpty then 20 else 45) ++ P 2 (if (wideL h).isEmpty then 20 else 45) ++ manB h ++ P 4 h.s ++ P 4 (if bigH h then full32 else h.p) ++ P 4 (if bigH h then full32 else h.z) ++
    (P 2 h.n.size ++ P 2 (fieldB (wideL h)).size) ++ Z 10 ++ P 4 (if full32 ≤ h.a then full32 else h.a)
theorem cenB_46 (h : Hd) : cenB h = cen46 h ++ h.n ++ fieldB (wideL h) := rfl
theorem cen46_size (h : Hd) : (cen46 h).size = 46 := by
  unfold cen46
  simp only [ByteArray.size_append, P_size, Z_size, manB_size, sgnC_size]
theorem cen46_at (h : Hd) (more : ByteArray) (i j : Nat) (hj : j ≤ 46) : (cenB h ++ more).extract i j = (cen46 h).extract i j := by
  rw [cenB_46, ext_app_l _ _ _ _ (by simp only [ByteArray.size_append, cen46_size]; omega), ext_app_l _ _ _ _ (by simp only [ByteArray.size_append, cen46_size]; omega), ext_app_l _ _ _ _ (by rw [cen46_size]; exact hj)]
theorem cen46_sign (h : Hd) (k : Nat) (hk : k ≤ 4) : (cen46 h).extract 0 k = sgnC.extract 0 k := by
  unfold cen46
  repeat rw [ext_app_l _ _ _ _ (by simp only [ByteArray.size_append, P_size, Z_size, manB_size, sgnC_size]; omega)]
/-- The piece that begins at a place. -/
theorem piece (A B C : ByteArray) (a b : Nat) (hA : A.size = a) (hB : B.size = b) : ((A ++ B) ++ C).extract a (a + b) = B := by
  rw [ext_app_l _ _ _ _ (by rw [ByteArray.size_append]; omega), ext_app_r _ _ _ _ (by omega), hA, show a - a = 0 by omega, show a + b - a = b by omega]
  exact ext_all _ _ hB
theorem piece_in (A B C : ByteArray) (a b i j : Nat) (hA : A.size = a) (hB : B.size = b) (hi : a ≤ i) (hj : j ≤ a + b) : ((A ++ B) ++ C).extract i j = B.extract (i - a) (j - a) := by
  rw [ext_app_l _ _ _ _ (by rw [ByteArray.size_append]; omega), ext_app_r _ _ _ _ (by omega), hA]
theorem cen46_man (h : Hd) (i j : Nat) (hi : 8 ≤ i) (hj : j ≤ 16) : (cen46 h).extract i j = (manB h).extract (i - 8) (j - 8) := by
  unfold cen46
  rw [ext_app_l _ _ _ _ (by simp only [ByteArray.size_append, P_size, Z_size, manB_size, sgnC_size]; omega), ext_app_l _ _ _ _ (by simp only [ByteArray.size_append, P_size, Z_size, manB_size, sgnC_size]; omega), ext_app_l _ _ _ _ (by simp only [ByteArray.size_append, P_size, Z_size, manB_size, sgnC_size]; omega),
    ext_app_l _ _ _ _ (by simp only [ByteArray.size_append, P_size, Z_size, manB_size, sgnC_size]; omega), ext_app_l _ _ _ _ (by simp only [ByteArray.size_append, P_size, Z_size, manB_size, sgnC_size]; omega)]
  exact piece_in _ _ _ 8 8 i j (by simp only [ByteArray.size_append, P_size, sgnC_size]) (manB_size h) hi hj
theorem cen46_s (h : Hd) : (cen46 h).extract 16 20 = P 4 h.s := by
  unfold cen46
  rw [ext_app_l _ _ _ _ (by simp only [ByteArray.size_append, P_size, Z_size, manB_size, sgnC_size]; omega), ext_app_l _ _ _ _ (by simp only [ByteArray.size_append, P_size, Z_size, manB_size, sgnC_size]; omega), ext_app_l _ _ _ _ (by simp only [ByteArray.size_append, P_size, Z_size, manB_size, sgnC_size]; omega),
    ext_app_l _ _ _ _ (by simp only [ByteArray.size_append, P_size, Z_size, manB_size, sgnC_size]; omega)]
  exact piece _ _ _ 16 4 (by simp only [ByteArray.size_append, P_size, manB_size, sgnC_size]) (P_size _ _)
theorem cen46_p (h : Hd) : (cen46 h).extract 20 24 = P 4 (if bigH h then full32 else h.p) := by
  unfold cen46
  rw [ext_app_l _ _ _ _ (by simp only [ByteArray.size_append, P_size, Z_size, manB_size, sgnC_size]; omega), ext_app_l _ _ _ _ (by simp only [ByteArray.size_append, P_size, Z_size, manB_size, sgnC_size]; omega), ext_app_l _ _ _ _ (by simp only [ByteArray.size_append, P_size, Z_size, manB_size, sgnC_size]; omega)]
  exact piece _ _ _ 20 4 (by simp only [ByteArray.size_append, P_size, manB_size, sgnC_size]) (P_size _ _)
theorem cen46_z (h : Hd) : (cen46 h).extract 24 28 = P 4 (if bigH h then full32 else h.z) := by
  unfold cen46
  rw [ext_app_l _ _ _ _ (by simp only [ByteArray.size_append, P_size, Z_size, manB_size, sgnC_size]; omega), ext_app_l _ _ _ _ (by simp only [ByteArray.size_append, P_size, Z_size, manB_size, sgnC_size]; omega)]
  exact piece _ _ _ 24 4 (by simp only [ByteArray.size_append, P_size, manB_size, sgnC_size]) (P_size _ _)
theorem cen46_nz (h : Hd) : (cen46 h).extract 28 30 = P 2 h.n.size := by
  unfold cen46
  rw [ext_app_l _ _ _ _ (by simp only [ByteArray.size_append, P_size, Z_size, manB_size, sgnC_size]; omega)]
  rw [piece_in _ _ _ 28 4 28 30 (by simp only [ByteArray.size_append, P_size, manB_size, sgnC_size]) (by simp only [ByteArray.size_append, P_size]) (by omega) (by omega)]
  rw [ext_app_l _ _ _ _ (by simp only [P_size]; omega)]
  exact ext_all _ _ (P_size _ _)
theorem cen46_ez (h : Hd) : (cen46 h).extract 30 32 = P 2 (fieldB (wideL h)).size := by
  unfold cen46
  rw [ext_app_l _ _ _ _ (by simp only [ByteArray.size_append, P_size, Z_size, manB_size, sgnC_size]; omega)]
  rw [piece_in _ _ _ 28 4 30 32 (by simp only [ByteArray.size_append, P_size, manB_size, sgnC_size]) (by simp only [ByteArray.size_append, P_size]) (by omega) (by omega)]
  rw [ext_app_r _ _ _ _ (by simp only [P_size]; omega)]
  simp only [P_size]
  exact ext_all _ _ (P_size _ _)
theorem cen46_a (h : Hd) : (cen46 h).extract 42 46 = P 4 (if full32 ≤ h.a then full32 else h.a) := by
  unfold cen46
  rw [ext_app_r _ _ _ _ (by simp only [ByteArray.size_append, P_size, Z_size, manB_size, sgnC_size]; omega)]
  simp only [ByteArray.size_append, P_size, Z_size, manB_size, sgnC_size]
  exact ext_all _ _ (P_size _ _)
theorem cen_name (h : Hd) (more : ByteArray) : (cenB h ++ more).extract 46 (46 + h.n.size) = h.n := by
  rw [ext_app_l _ _ _ _ (by rw [cenB_size]; omega)]
  exact cenB_name h
theorem cen_extra (h : Hd) (more : ByteArray) : (cenB h ++ more).extract (46 + h.n.size) (46 + h.n.size + (fieldB (wideL h)).size) = fieldB (wideL h) := by
  rw [ext_app_l _ _ _ _ (by rw [cenB_size]; omega), cenB_46, ext_app_r _ _ _ _ (by simp only [ByteArray.size_append, cen46_size]; omega)]
  simp only [ByteArray.size_append, cen46_size]
  rw [show 46 + h.n.size - (46 + h.n.size) = 0 by omega, show 46 + h.n.size + (fieldB (wideL h)).size - (46 + h.n.size) = (fieldB (wideL h)).size by omega]
  exact ext_all _ _ rfl
theorem cen_whole (h : Hd) (more : ByteArray) : (cenB h ++ more).extract 0 (46 + h.n.size + (fieldB (wideL h)).size) = cenB h := by
  rw [ext_app_l _ _ _ _ (by rw [cenB_size]; omega)]
  exact ext_all _ _ (cenB_size h)

theorem xW_field (n : Nat) (L : List Nat) : xW (fieldB (n :: L)) = catP (n :: L) := by
  have hs : (fieldB (n :: L)).size = 4 + 8 * (L.length + 1) := by rw [fieldB_size]; rfl
  have hc := catP_size (n :: L)
  rw [List.length_cons] at hc
  unfold xW
  rw [show min 4 (fieldB (n :: L)).size = 4 by omega, hs]
  show (P 2 1 ++ P 2 (8 * (n :: L).length) ++ catP (n :: L)).extract 4 _ = _
  rw [ext_app_r _ _ _ _ (by simp only [ByteArray.size_append, P_size]; omega)]
  simp only [ByteArray.size_append, P_size]
  rw [show 4 - (2 + 2) = 0 by omega]
  exact ext_all _ _ (by omega)
theorem fN_cat (n : Nat) (L : List Nat) (h : n < 18446744073709551616) : fN (catP (n :: L)) = n := by
  have hc := catP_size (n :: L)
  rw [List.length_cons] at hc
  unfold fN
  rw [show min 8 (catP (n :: L)).size = 8 by omega]
  show gN ((P 8 n ++ catP L).extract 0 8) = n
  rw [ext_app_l _ _ _ _ (by rw [P_size]; omega), ext_all _ _ (P_size _ _), gN_P 8 n (by omega)]
theorem fR_cat (n : Nat) (L : List Nat) : fR (catP (n :: L)) = catP L := by
  have hc := catP_size (n :: L)
  rw [List.length_cons] at hc
  unfold fR
  rw [show min 8 (catP (n :: L)).size = 8 by omega, hc]
  show (P 8 n ++ catP L).extract 8 _ = catP L
  rw [ext_app_r _ _ _ _ (by rw [P_size]; omega), P_size, show 8 - 8 = 0 by omega]
  exact ext_all _ _ (by rw [catP_size]; omega)

theorem tC_back (h : Hd) (ho : HdOk h) (hg : goodH h = true) (F : ByteArray) (hF : ∀ i j, j ≤ 46 → F.extract i j = (cen46 h).extract i j) : tC F (fieldB (wideL h)) = ⟨ByteArray.empty, h.t, h.p, h.z, h.s, h.a, h.k⟩ := by
  have hs := ho.s
  have hf : full32 < 256 ^ 4 := by decide
  have hff : full32 = 4294967295 := rfl
  unfold tC
  rw [hF 14 16 (by omega), hF 12 14 (by omega), hF 24 28 (by omega), hF 20 24 (by omega), hF 16 20 (by omega), hF 42 46 (by omega), hF 10 12 (by omega)]
  rw [cen46_man h 14 16 (by omega) (by omega), cen46_man h 12 14 (by omega) (by omega), cen46_man h 10 12 (by omega) (by omega)]
  simp only [Nat.reduceSub]
  rw [manB_da, manB_ti, manB_me, time_back (goodH_parts hg).2.1, kept_back, cen46_z, cen46_p, cen46_s, cen46_a, gN_P 4 h.s (by omega)]
  have hw : wideL h = (if bigH h then [h.z, h.p] else []) ++ (if full32 ≤ h.a then [h.a] else []) := rfl
  cases hb : bigH h
  · have hm := big_not hb
    rw [hb] at hw
    simp only [Bool.false_eq_true, if_false, List.nil_append] at hw ⊢
    rw [gN_P 4 h.z (by omega), gN_P 4 h.p (by omega)]
    rw [if_neg (by omega), if_neg (by omega)]
    by_cases ha : full32 ≤ h.a
    · rw [if_pos ha] at hw
      rw [if_pos ha, gN_P 4 full32 hf, if_pos rfl, if_neg (by omega), hw, xW_field, fN_cat _ _ ho.a]
    · rw [if_neg ha, gN_P 4 h.a (by omega), if_neg (by omega)]
  · rw [hb] at hw
    simp only [if_true] at hw ⊢
    rw [gN_P 4 full32 hf, if_pos rfl, if_pos rfl, if_pos rfl]
    by_cases ha : full32 ≤ h.a
    · rw [if_pos ha] at hw
      rw [if_pos ha, gN_P 4 full32 hf, if_pos rfl, hw]
      simp only [List.cons_append, List.nil_append]
      rw [xW_field, fR_cat, fR_cat, fN_cat _ _ ho.z, fN_cat _ _ ho.p, fN_cat _ _ ho.a]
    · rw [if_neg ha] at hw
      rw [if_neg ha, gN_P 4 h.a (by omega), if_neg (by omega), hw]
      simp only [List.append_nil]
      rw [xW_field, fR_cat, fN_cat _ _ ho.z, fN_cat _ _ ho.p]

theorem wide_le (h : Hd) : (fieldB (wideL h)).size ≤ 28 := by
  rw [wide_size]
  repeat (any_goals split)
  all_goals omega
theorem back_central (h : Hd) (ho : HdOk h) (more : ByteArray) (hg : goodH h = true) : rdC (cenB h ++ more) = (h, ((cenB h).size : Int)) := by
  have hn := name_size hg
  have hsz : (cenB h ++ more).size = 46 + h.n.size + (fieldB (wideL h)).size + more.size := by rw [ByteArray.size_append, cenB_size]
  have he := wide_le h
  have e1 : gN ((cenB h ++ more).extract 28 30) = h.n.size := by
    rw [cen46_at h more 28 30 (by omega), cen46_nz, gN_P 2 _ (by omega)]
  have e2 : gN ((cenB h ++ more).extract 30 32) = (fieldB (wideL h)).size := by
    rw [cen46_at h more 30 32 (by omega), cen46_ez, gN_P 2 _ (by omega)]
  unfold rdC rdM
  rw [if_pos (by rw [cen46_at h more 0 _ (by omega), cen46_sign h _ (by omega)]; rfl), if_neg (by omega)]
  simp only [Nat.reduceAdd, e1, e2]
  rw [if_neg (by omega), cen_name, cen_extra, cen_whole]
  have hF : ∀ i j, j ≤ 46 → ((cenB h ++ more).extract 0 46).extract i j = (cen46 h).extract i j := fun i j hj => by
    rw [ext_ext _ _ _ _ _ (by omega), Nat.zero_add, Nat.zero_add, cen46_at h more i j hj]
  rw [tC_back h ho hg _ hF]
  have hh : ({ (⟨ByteArray.empty, h.t, h.p, h.z, h.s, h.a, h.k⟩ : Hd) with n := h.n } : Hd) = h := rfl
  rw [hh, if_pos (by unfold centralB; rw [hg]; rfl), cenB_size]

theorem cut_central (h : Hd) (hg : goodH h = true) (k : Nat) (hk : k < (cenB h).size) : rdC ((cenB h).extract 0 k) = (zeroH, 0) := by
  have hn := name_size hg
  have hls := cenB_size h
  have he := wide_le h
  have hsz : ((cenB h).extract 0 k).size = k := by rw [ByteArray.size_extract]; omega
  have hx : ∀ i j, j ≤ k → j ≤ 46 → ((cenB h).extract 0 k).extract i j = (cen46 h).extract i j := fun i j hj hj3 => by
    rw [ext_ext _ _ _ _ _ (by omega), Nat.zero_add, Nat.zero_add]
    have := cen46_at h ByteArray.empty i j hj3
    rwa [ByteArray.append_empty] at this
  unfold rdC rdM
  rw [hsz, if_pos (by rw [hx 0 _ (by omega) (by omega), cen46_sign h _ (by omega)]; rfl)]
  by_cases h3 : k < 46
  · rw [if_pos h3]
  · rw [if_neg h3]
    simp only [Nat.reduceAdd]
    rw [hx 28 30 (by omega) (by omega), hx 30 32 (by omega) (by omega), cen46_nz, cen46_ez, gN_P 2 _ (by omega), gN_P 2 _ (by omega), if_pos (by omega)]
end Go.Proofs.YtdohhmaggeocjaaDoor

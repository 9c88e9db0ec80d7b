/- Headers' sizes and names (plain). -/
import Derived.Test.YtdohhmaggeocjaaDoorZipO
namespace Go.Proofs.YtdohhmaggeocjaaDoor
open Go Go.RowKit
set_option maxRecDepth 100000

theorem ext_app_l (A B : ByteArray) (i j : Nat) (h : j ≤ A.size) : (A ++ B).extract i j = A.extract i j := by
  apply ByteArray.ext
  apply Array.ext'
  rw [ByteArray.data_extract, ByteArray.data_extract, Array.toList_extract, Array.toList_extract, ByteArray.data_append, Array.toList_append, List.extract_eq_take_drop, List.extract_eq_take_drop]
  have hl : A.data.toList.length = A.size := data_length A
  by_cases hi : i ≤ j
  · rw [List.drop_append_of_le_length (by omega), List.take_append_of_le_length (by rw [List.length_drop]; omega)]
  · rw [show j - i = 0 by omega, List.take_zero, List.take_zero]
theorem ext_app_r (A B : ByteArray) (i j : Nat) (h : A.size ≤ i) : (A ++ B).extract i j = B.extract (i - A.size) (j - A.size) := by
  apply ByteArray.ext
  apply Array.ext'
  rw [ByteArray.data_extract, ByteArray.data_extract, Array.toList_extract, Array.toList_extract, ByteArray.data_append, Array.toList_append, List.extract_eq_take_drop, List.extract_eq_take_drop]
  have hl : A.data.toList.length = A.size := data_length A
  rw [List.drop_append, List.drop_eq_nil_of_le (by omega), List.nil_append, hl, show j - A.size - (i - A.size) = j - i by omega]
theorem ext_all (A : ByteArray) (n : Nat) (h : A.size = n) : A.extract 0 n = A := by
  subst h
  exact ByteArray.extract_zero_size

theorem locB_size (h : Hd) : (locB h).size = 30 + h.n.size + (locE h).size := by
  unfold locB
  simp only [ByteArray.size_append, P_size, Z_size, manB_size]
  rfl
theorem locE_size (h : Hd) : (locE h).size = if bigH h then 20 else 0 := by
  unfold locE
  cases bigH h
  · rfl
  · rw [if_pos rfl, if_pos rfl, fieldB_size]; rfl
theorem locB_name (h : Hd) : (locB h).extract 30 (30 + h.n.size) = h.n := by
  unfold locB
  rw [ext_app_l _ _ _ _ (by simp only [ByteArray.size_append, P_size, Z_size, manB_size]; show 30 + h.n.size ≤ 4 + _ + _ + _ + _ + _ + _ + _; omega)]
  have hs : (ByteArray.mk #[80, 75, 3, 4] ++ P 2 (if bigH h then 45 else 20) ++ manB h ++ Z 4 ++ P 4 (if bigH h then full32 else 0) ++ P 4 (if bigH h then full32 else 0) ++ (P 2 h.n.size ++ P 2 (locE h).size)).size = 30 := by
    simp only [ByteArray.size_append, P_size, Z_size, manB_size]
    rfl
  rw [ext_app_r _ _ _ _ (by omega), hs]
  rw [show 30 - 30 = 0 from rfl, show 30 + h.n.size - 30 = h.n.size by omega]
  exact ext_all _ _ rfl
theorem desB_size (h : Hd) : (desB h).size = if bigH h then 24 else 16 := by
  unfold desB
  simp only [ByteArray.size_append, P_size]
  cases bigH h <;> rfl
theorem cenB_size (h : Hd) : (cenB h).size = 46 + h.n.size + (fieldB (wideL h)).size := by
  unfold cenB
  simp only [ByteArray.size_append, P_size, Z_size, manB_size]
  rfl
theorem cenB_name (h : Hd) : (cenB h).extract 46 (46 + h.n.size) = h.n := by
  unfold cenB
  rw [ext_app_l _ _ _ _ (by simp only [ByteArray.size_append, P_size, Z_size, manB_size]; show 46 + h.n.size ≤ 4 + _ + _ + _ + _ + _ + _ + _ + _ + _ + _; omega)]
  have hs : (ByteArray.mk #[80, 75, 1, 2] ++ P 2 (if (wideL h).isEmpty then 20 else 45) ++ P 2 (if (wideL h).isEmpty then 20 else 45) ++ manB h ++ P 4 h.s ++ P 4 (if bigH h then full32 else h.p) ++ P 4 (if bigH h then full32 else h.z) ++
    (P 2 h.n.size ++ P 2 (fieldB (wideL h)).size) ++ Z 10 ++ P 4 (if full32 ≤ h.a then full32 else h.a)).size = 46 := by
    simp only [ByteArray.size_append, P_size, Z_size, manB_size]
    rfl
  rw [ext_app_r _ _ _ _ (by omega), hs]
  rw [show 46 - 46 = 0 from rfl, show 46 + h.n.size - 46 = h.n.size by omega]
  exact ext_all _ _ rfl
theorem wide_size (h : Hd) : (fieldB (wideL h)).size = (if bigH h then (if full32 ≤ h.a then 28 else 20) else (if full32 ≤ h.a then 12 else 0)) := by
  rw [fieldB_size]
  unfold wideL
  cases bigH h <;> by_cases hg : full32 ≤ h.a <;> simp [hg]
end Go.Proofs.YtdohhmaggeocjaaDoor

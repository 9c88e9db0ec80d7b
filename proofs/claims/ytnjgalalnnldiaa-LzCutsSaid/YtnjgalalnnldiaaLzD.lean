
/- Contracts of layer 5's plain program over the translated program: its Good and its Expand answer as package lz's do. -/
import Derived.Test.YtnjgalalnnldiaaLzC
namespace Go.Proofs.Ytnjgalalnnldiaa
open Go Go.RowKit
set_option maxRecDepth 100000
set_option maxRecDepth 100000

theorem refgood_calls (t : Tok) (w : World) : Calls Try.prog 14 #[.agg (tokA t)] w fun e w' => e = .returned (.bool (goodB t)) ∧ Touch (fun _ => False) w w' := by
  obtain ⟨b, n, d⟩ := t
  unfold tokA goodB
  have hb := b.toNat_lt
  simp only
  generalize b.toNat = c at hb ⊢
  by_cases hn : n = 0
  · subst hn
    go_enter Try.func14, Try.ntmps14
    go_wp2_with fail
    go_ret
    exact ⟨ret1 (congrArg Value.bool (by by_cases hd : d = 0 <;> simp [hd])), (Touch.refl _ _).alloc _⟩
  · by_cases hc : c = 0
    · subst hc
      have hne : ¬ (n = 0) := hn
      by_cases h3 : 3 ≤ n
      · by_cases h4 : n ≤ 258
        · by_cases h5 : 1 ≤ d
          · go_enter Try.func14, Try.ntmps14
            go_wp2_with fail
            go_ret
            exact ⟨ret1 (congrArg Value.bool (by first | rfl | (simp; omega) | simp)), (Touch.refl _ _).alloc _⟩
          · go_enter Try.func14, Try.ntmps14
            go_wp2_with fail
            go_ret
            exact ⟨ret1 (congrArg Value.bool (by first | rfl | (simp; omega) | simp)), (Touch.refl _ _).alloc _⟩
        · go_enter Try.func14, Try.ntmps14
          go_wp2_with fail
          go_ret
          exact ⟨ret1 (congrArg Value.bool (by first | rfl | (simp; omega) | simp)), (Touch.refl _ _).alloc _⟩
      · go_enter Try.func14, Try.ntmps14
        go_wp2_with fail
        go_ret
        exact ⟨ret1 (congrArg Value.bool (by first | rfl | (simp; omega) | simp)), (Touch.refl _ _).alloc _⟩
    · have hc0 : (c : Int) ≠ 0 := by omega
      go_enter Try.func14, Try.ntmps14
      go_wp2_with fail
      go_ret
      exact ⟨ret1 (congrArg Value.bool (by simp [hn, hc])), (Touch.refl _ _).alloc _⟩

theorem ext_size (q : ByteArray) (p : Nat) (hp : p < q.size) : (q.extract p (p + 1)).size = 1 := by
  simp
  omega
theorem ext_list (q : ByteArray) (p : Nat) (hp : p < q.size) : (q ++ q.extract p (p + 1)).data.toList = q.data.toList ++ [q.data.toList.getD p 0] := by
  have hp' : p < q.data.toList.length := by rw [data_length]; exact hp
  rw [ByteArray.data_append, ByteArray.data_extract, Array.toList_append, Array.toList_extract]
  congr 1
  rw [List.extract_eq_take_drop, show p + 1 - p = 1 by omega, List.drop_eq_getElem_cons hp']
  simp [List.getD, List.getElem?_eq_getElem hp']
theorem ext_end (q : ByteArray) (n : Nat) : q.extract n q.size = ⟨(q.data.toList.drop n).toArray⟩ := by
  apply ByteArray.ext
  apply Array.ext'
  rw [ByteArray.data_extract, Array.toList_extract, List.extract_eq_take_drop]
  simp only [List.toList_toArray]
  apply List.take_of_length_le
  rw [List.length_drop, data_length]
  exact Nat.le_refl _

end Go.Proofs.Ytnjgalalnnldiaa

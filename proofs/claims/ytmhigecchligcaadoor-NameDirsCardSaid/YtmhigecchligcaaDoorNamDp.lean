/- Plain: the directories that a name is in, as texts and as paths. -/
import Derived.Test.YtmhigecchligcaaDoorNamLiWalk
namespace Go.Proofs.YtmhigecchligcaaDoor
open Go Go.RowKit
set_option maxRecDepth 100000

theorem pth_cons {S : ByteArray} (x : Pt S) (l : List (Pt S)) : pth (x :: l) = x.t.data.toList :: pth l := rfl
theorem pth_at (S : ByteArray) (b : Nat) (hb : b ≤ S.size) : pth (ptsA S b) = spl (S.data.toList.drop b) := by
  have := tsOf_spl S S.size b (by omega) hb
  rw [← this]
  rfl
theorem pt_list (S : ByteArray) (b : Nat) : (ptAt S b).t.data.toList = (S.data.toList.drop b).take (endAt S b - b) := ext_list S b (endAt S b)
theorem pts_join (S : ByteArray) (x : Pt S) : ∀ (pre : List (Pt S)) (b : Nat), b ≤ S.size → pre ++ [x] <+: ptsA S b → b ≤ x.e ∧ Lib.join (pth (pre ++ [x])) [47] = (S.data.toList.drop b).take (x.e - b)
  | [], b, hb, h => by
    rw [ptsA_step S b hb, List.nil_append] at h
    obtain ⟨r, hr⟩ := h
    injection hr with h1 _
    subst h1
    refine ⟨endAt_ge S b hb, ?_⟩
    rw [List.nil_append, pth_cons]
    show Lib.join [(ptAt S b).t.data.toList] [47] = _
    rw [join_sing, pt_list]
    rfl
  | y :: pre, b, hb, h => by
    rw [ptsA_step S b hb, List.cons_append] at h
    obtain ⟨rfl, h2⟩ := List.cons_prefix_cons.1 h
    have hge := endAt_ge S b hb
    have hb' : endAt S b + 1 ≤ S.size := by
      rcases Nat.lt_or_ge S.size (endAt S b + 1) with h3 | h3
      · rw [ptsA_end S _ (by omega)] at h2
        have := List.prefix_nil.1 h2
        simp at this
      · exact h3
    obtain ⟨h3, h4⟩ := pts_join S x pre (endAt S b + 1) hb' h2
    have e1 : S.data.toList.drop b = (ptAt S b).t.data.toList ++ 47 :: S.data.toList.drop (endAt S b + 1) := by
      have j1 := join_spl (S.data.toList.drop b)
      rw [← pth_at S b hb, ptsA_step S b hb, pth_cons, pth_at S _ hb', join_cons _ _ (spl_ne _), join_spl] at j1
      exact j1.symm
    have hlen : (ptAt S b).t.data.toList.length = endAt S b - b := by
      have hs : S.data.toList.length = S.size := by simp
      have hle := endAt_le S b
      rw [pt_list, List.length_take, List.length_drop, hs]
      omega
    refine ⟨by omega, ?_⟩
    have ht : (ptAt S b).t.data.toList.take (x.e - b) = (ptAt S b).t.data.toList := List.take_of_length_le (by omega)
    rw [List.cons_append, pth_cons, join_cons _ _ (by simp [pth]), h4, e1, List.take_append, ht, hlen, show x.e - b - (endAt S b - b) = (x.e - (endAt S b + 1)) + 1 by omega, List.take_succ_cons]
theorem pts_text {S : ByteArray} {x : Pt S} {pre : List (Pt S)} (h : pre ++ [x] <+: ptsA S 0) : spl (S.extract 0 x.e).data.toList = pth (pre ++ [x]) := by
  obtain ⟨_, hj⟩ := pts_join S x pre 0 (Nat.zero_le _) h
  rw [ext_list, ← hj]
  refine spl_join _ (by simp [pth]) (fun p hp => ?_)
  refine spl_no S.data.toList p ?_
  rw [← pth_all]
  obtain ⟨r, hr⟩ := h
  unfold pth at hp ⊢
  rw [← hr, List.map_append]
  exact List.mem_append_left _ hp
theorem ext_whole (S : ByteArray) : (S.extract 0 S.size).data.toList = S.data.toList := by
  have hs : S.data.toList.length = S.size := by simp
  rw [ext_list, List.drop_zero, Nat.sub_zero, ← hs, List.take_length]
theorem pts_last {S : ByteArray} {x : Pt S} {pre : List (Pt S)} (h : pre ++ [x] <+: ptsA S 0) (he : x.e = S.size) : pre ++ [x] = ptsA S 0 := by
  have h1 := pts_text h
  rw [he, ext_whole, ← pth_all] at h1
  have h2 := congrArg List.length h1
  rw [pth_length, pth_length] at h2
  exact h.eq_of_length h2.symm
theorem pts_end (S : ByteArray) (h : ∀ x ∈ ptsA S 0, x.e ≠ S.size) : False := by
  have hne : ptsA S 0 ≠ [] := by rw [ptsA_step S 0 (Nat.zero_le _)]; simp
  obtain ⟨pre, x, hx⟩ : ∃ pre x, ptsA S 0 = pre ++ [x] := ⟨_, _, (List.dropLast_concat_getLast hne).symm⟩
  have h1 := h x (by rw [hx]; simp)
  obtain ⟨_, hj⟩ := pts_join S x pre 0 (Nat.zero_le _) (by rw [← hx]; exact List.prefix_refl _)
  rw [← hx, pth_all, join_spl, List.drop_zero, Nat.sub_zero] at hj
  have h2 := congrArg List.length hj
  have hs : S.data.toList.length = S.size := by simp
  have := x.he
  rw [List.length_take, hs] at h2
  have h3 : x.e ≠ S.size := h1
  omega
/-- The end of some parts, and the text till there. -/
def lastE {S : ByteArray} (y : List (Pt S)) : Nat := match y.getLast? with | some x => x.e | none => 0
def txtOf {S : ByteArray} (y : List (Pt S)) : ByteArray := S.extract 0 (lastE y)
theorem txtOf_snoc {S : ByteArray} (y : List (Pt S)) (x : Pt S) : txtOf (y ++ [x]) = S.extract 0 x.e := by unfold txtOf lastE; simp
theorem txtOf_spl {S : ByteArray} {y : List (Pt S)} (hne : y ≠ []) (h : y <+: ptsA S 0) : spl (txtOf y).data.toList = pth y := by
  obtain ⟨pre, x, rfl⟩ : ∃ pre x, y = pre ++ [x] := ⟨_, _, (List.dropLast_concat_getLast hne).symm⟩
  rw [txtOf_snoc, pts_text h]
theorem below_spl (s d : ByteArray) : belowB s d = true ↔ (spl d.data.toList <+: spl s.data.toList ∧ spl d.data.toList ≠ spl s.data.toList) := by rw [belowB_iff, below_iff]
end Go.Proofs.YtmhigecchligcaaDoor

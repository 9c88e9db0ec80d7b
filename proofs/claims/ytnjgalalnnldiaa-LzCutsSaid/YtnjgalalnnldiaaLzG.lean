/- Contracts of package lz's told, Cover and Clone over the translated program. -/
import Derived.Test.YtnjgalalnnldiaaLzF
import Derived.Test.YtnjgalalnnldiaaOpen
import Derived.Lib.SliceRun
namespace Go.Proofs.Ytnjgalalnnldiaa
open Go Go.RowKit
set_option maxRecDepth 100000

theorem told_calls (t : Tok) (w : World) (h : goodB t = true) : Calls Try.prog 31 #[.agg (tokA t)] w fun e w' => e = .returned (.int .i64 (toldN t : Nat)) ∧ Touch (fun _ => False) w w' := by
  have h0 := good_n h
  clear h
  obtain ⟨b, n, d⟩ := t
  obtain ⟨m, rfl⟩ : ∃ m : Nat, n = m := ⟨n.toNat, by have := h0.1; simp only at this; omega⟩
  simp only at h0
  unfold tokA toldN
  simp only [Int.toNat_natCast]
  have hb := b.toNat_lt
  generalize b.toNat = c at hb ⊢
  rcases Nat.eq_zero_or_pos m with rfl | hm
  · go_enter Try.func31, Try.ntmps31
    go_wp2
    all_goals
      go_ret
      exact ⟨ret1 (congrArg (Value.int .i64) (by omega)), (Touch.refl _ _).alloc _⟩
  · rw [Nat.max_eq_right hm]
    have hm' : (1 : Int) ≤ (m : Int) := by omega
    go_enter Try.func31, Try.ntmps31
    go_wp2
    all_goals
      go_ret
      exact ⟨ret1 (congrArg (Value.int .i64) (by omega)), (Touch.refl _ _).alloc _⟩

theorem clone_toks (l : List Tok) (v : Value) (w : World) (hv : Toks w v l) (hl : l.length ≤ 100) :
    Calls Try.prog 32 #[v] w fun e w' => ∃ r, e = .returned r ∧ w'.ownsRow w.heap.size 37 3 r l.length (toksV l) ∧ Touch (fun _ => False) w w' := by
  obtain ⟨i0, hi, hz0, hz1, hz2⟩ := info_parts Try.infoT
  obtain ⟨a, cap, rfl, hlc, hcm, hcell⟩ := hv
  have heq := fun (a : Option Addr) (n : Nat) (W : World) => Lib.run_eql_slice_nil (P := Try.prog) W 35 37 a n cap 0 0 Try.underlying35
  unfold maxLen at hcm
  cases a with
  | none =>
    obtain rfl : l = [] := by
      rcases hcell with h3 | ⟨_, _, h3, _⟩
      · exact h3
      · cases h3
    go_enter Try.func32, Try.ntmps32
    go_wp2
    go_ret
    exact ⟨_, rfl, World.ownsRow_nil _ _ _ _, Touch.refl _ _⟩
  | some a =>
    have hsrc : ∀ W, Touch (fun _ => False) w W → ∀ j u, (toksV l)[j]? = some u → W.cell? (a.add j) = some u := by
      intro W hW j u hu
      rcases hcell with rfl | ⟨g, off, ha, hcell⟩
      · simp [toksV] at hu
      · injection ha with ha
        subst ha
        have hj : j < l.length * 3 := by rw [← toksV_length]; exact (List.getElem?_eq_some_iff.1 hu).1
        have hk : j / 3 < l.length := by omega
        obtain ⟨c0, c1, c2⟩ := hcell (j / 3) l[j / 3] (List.getElem?_eq_getElem hk)
        obtain ⟨v0, v1, v2⟩ := toksV_get l (j / 3) l[j / 3] (List.getElem?_eq_getElem hk)
        rw [add_plain]
        have hm : j = j / 3 * 3 ∨ j = j / 3 * 3 + 1 ∨ j = j / 3 * 3 + 2 := by omega
        rcases hm with hm | hm | hm
        · rw [hm] at hu ⊢
          rw [v0] at hu
          rw [← Option.some.inj hu]
          exact hW.cell c0 id
        · rw [hm] at hu ⊢
          rw [v1] at hu
          rw [← Option.some.inj hu]
          exact hW.cell c1 id
        · rw [hm] at hu ⊢
          rw [v2] at hu
          rw [← Option.some.inj hu]
          exact hW.cell c2 id
    have hone : ∀ u ∈ toksV l, u.oneCell' = true := by
      intro u hu
      obtain ⟨t, _, ht⟩ := List.mem_flatMap.1 hu
      simp [tokV] at ht
      rcases ht with rfl | rfl | rfl <;> rfl
    clear hcell
    go_enter Try.func32, Try.ntmps32
    go_wp2_with (at_builtin; refine wpList_append_own_at _ rfl (.tmp 5) (.tmp 6) 35 rfl w.heap.size 37 i0 _ 3 24 Try.underlying35 hi hz0 hz1 hz2 rfl (by decide) (.slice (some ⟨w.heap.size, 0, none⟩) 0 0) 0 [] rfl (by exact ⟨rfl, .inr ⟨_, 0, #[], rfl, Nat.le_refl _, heap_alloc_new w _, Nat.le_refl _, Nat.zero_le _, rfl, rfl⟩⟩) a l.length cap (toksV l) rfl (toksV_length l) (by exact hsrc _ ((Touch.refl _ _).alloc _)) hone (by unfold maxLen; omega) (by omega) (by simp) ?_; intro v2 w2 hrow2 hgrow _ hown2)
    go_ret
    refine ⟨_, rfl, by simpa using hrow2, (Touch.refl _ _).alloc _ |>.grown hgrow (fun k hk => ?_)⟩
    simp [Value.ownBlock] at hk
    right; omega

set_option maxHeartbeats 1000000 in
theorem cover_calls (l : List Tok) (v : Value) (w : World) (hv : Toks w v l) (hl : l.length ≤ 100) :
    Calls Try.prog 16 #[v] w fun e w' => e = .returned (.int .i64 (coverZ l)) ∧ Touch (fun _ => False) w w' := by
  obtain ⟨a, cap, rfl, hlc, hcm, hcell⟩ := hv
  go_enter Try.func16, Try.ntmps16
  go_wp2_with fail
  go_loopw [2, 3, 5, 8] (fun r s _ i wr => r = .int .i64 0 ∧ ∃ (k : Nat), k ≤ l.length ∧ i = .int .i64 (k : Nat) ∧ s = .int .i64 (coverN (l.take k) : Nat) ∧ RowKit.Hid (allGood (l.take k) = true) ∧ Touch (fun _ => False) w wr) (fun _ _ _ i _ => l.length - (intOf i).toNat)
  case atStart => exact ⟨rfl, 0, Nat.zero_le _, rfl, rfl, Lib.hid rfl, Touch.refl _ _⟩
  case round =>
    obtain ⟨rfl, k, hk, rfl, rfl, HG0, hT⟩ := hrel
    have hcb := coverN_le HG0.out
    have hlk := List.length_take_le k l
    by_cases hlt : k < l.length
    · rcases hcell with rfl | ⟨g, off, rfl, hcell⟩
      · simp at hlt
      obtain ⟨t, ht⟩ : ∃ t, t = l[k] := ⟨_, rfl⟩
      have hlk2 : l[k]? = some t := by rw [ht]; exact List.getElem?_eq_getElem hlt
      have hcs := coverN_take_succ l k hlt
      have hgs := allGood_take_succ l k hlt
      rw [← ht] at hcs hgs
      have hbad : goodB t = false → allGood l = false := fun h => allGood_bad k hlt (by rw [← ht]; exact h)
      have HCS := Lib.hid hcs
      have HGS := Lib.hid hgs
      have HBAD := Lib.hid hbad
      obtain ⟨a0, a1, a2⟩ := hcell k t hlk2
      have b0 := hT.cell a0 id
      have b1 := hT.cell a1 id
      have b2 := hT.cell a2 id
      have HG := Lib.hid (fun W => good_calls t W)
      have HTD := Lib.hid (fun W => told_calls t W)
      unfold tokA at HG HTD
      have hk0 : (0 : Int) ≤ (k : Int) := by omega
      have hk1 : (k : Int) < (l.length : Int) := by omega
      have hsum : coverN (l.take k) ≤ 25800 := by omega
      clear hcell a0 a1 a2 ht hcs hgs hbad hlk2 hcb hlk
      generalize coverN (l.take k) = c at HCS hsum ⊢
      go_wp2_with fail
      refine (HG.out _).mono ?_
      rintro e w3 ⟨rfl, ht3⟩
      obtain ⟨hlt3, hb3⟩ := box_kept ht3
      have hT3 := ((hT.alloc _).trans ht3)
      clear b0 b1 b2 HG ht3 hT
      generalize wr.heap.size = B at hlt3 hb3 ⊢
      obtain ⟨c0, c1, c2, f0, f1, f2⟩ := box_cells hb3
      by_cases hg : goodB t = true
      · have HT := Lib.hid (fun W => HTD.out W hg)
        have htl := toldN_le hg
        rw [hg] at HGS ⊢
        clear hg HTD HBAD
        generalize toldN t = d at HT HCS htl
        go_wp2_with fail
        refine (HT.out _).mono ?_
        rintro e w4 ⟨rfl, ht4⟩
        go_wp2_with fail
        go_roundw
        case rel => exact ⟨rfl, k + 1, by omega, by go_num, by rw [HCS.out]; go_num, Lib.hid (by rw [HGS.out, HG0.out]; rfl), hT3.trans ht4⟩
        case measure => simp [intOf]; omega
      · have hg' : goodB t = false := by simpa using hg
        have hz : coverZ l = -1 := by unfold coverZ; rw [HBAD.out hg']; rfl
        have HZ := Lib.hid hz
        rw [hg']
        clear hg hg' hz
        go_wp2_with fail
        go_ret
        rw [HZ.out]
        exact ⟨rfl, hT3⟩
    · obtain rfl : k = l.length := by omega
      have HG1 := HG0.out
      rw [List.take_length] at HG1 hcb
      have hz : coverZ l = (coverN l : Nat) := by unfold coverZ; rw [HG1]; rfl
      have HZ := Lib.hid hz
      rw [List.take_length]
      clear HG1 hz hcb hlk
      go_wp2_with fail
      go_ret
      rw [HZ.out]
      exact ⟨rfl, hT⟩
end Go.Proofs.Ytnjgalalnnldiaa

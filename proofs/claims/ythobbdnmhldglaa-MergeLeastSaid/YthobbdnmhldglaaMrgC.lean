/- Package merge: the symbols that come, the rarest first. -/
import Derived.Test.YthobbdnmhldglaaMrgB
import Derived.Test.YthobbdnmhldglaaBitsN
namespace Go.Proofs.Ythobbdnmhldglaa
open Go Go.RowKit
set_option maxRecDepth 100000

/-- The symbols below k that come. -/
def comesL (c : List Nat) (k : Nat) : List Nat := (List.range k).filter fun s => decide (0 < c.getD s 0)
theorem comesL_succ_yes (c : List Nat) (k : Nat) (h : 0 < c.getD k 0) : comesL c (k + 1) = comesL c k ++ [k] := by
  unfold comesL
  rw [List.range_succ, List.filter_append, List.filter_cons_of_pos (by simpa using h)]
  rfl
theorem comesL_succ_no (c : List Nat) (k : Nat) (h : ¬ 0 < c.getD k 0) : comesL c (k + 1) = comesL c k := by
  unfold comesL
  rw [List.range_succ, List.filter_append, List.filter_cons_of_neg (by simpa using h)]
  simp
theorem comesL_lt (c : List Nat) (k : Nat) : ∀ s ∈ comesL c k, s < k := fun _ hs => List.mem_range.1 (List.mem_filter.1 hs).1
theorem comesL_length (c : List Nat) (k : Nat) : (comesL c k).length ≤ k := by
  have := List.length_filter_le (fun s => decide (0 < c.getD s 0)) (List.range k)
  rwa [List.length_range] at this

/-- The symbols that come, the rarest first. -/
def symsM (c : List Nat) : List Nat := (comesL c c.length).mergeSort fun x y => !rarer c y x

theorem sep_touch {n : Nat} {a b d : World} {row : Option Nat} (ht : Touch (fun _ => False) a b) (hs : Sep n none row) (hn : a.heap.size ≤ n) (h : Touch (fun k => row = some k) b d) : Touch (fun _ => False) a d :=
  ht.trans' h (fun i hi => by
    rcases hs with h' | ⟨g', h', hg'⟩
    · rw [h'] at hi; cases hi
    · rw [h'] at hi; injection hi with hi; right; omega)

theorem sort_none (v : Value) (fv : Value) (w : World) (hrow : Row w 3 v []) : Calls Try.prog 24 #[v, fv] w fun e w' => e = .returned (.tuple #[]) ∧ w' = w := by
  obtain ⟨a, cap', hv, _⟩ := hrow.form
  subst hv
  exact AnyF.slices_SortFunc_none { Try.sortInts with } a cap' _ w

set_option maxHeartbeats 1000000 in
theorem rarest_none (v : Value) (w : World) (hv : Reads w v []) :
    Calls Try.prog 14 #[v] w fun e w' => e = .returned (.slice none 0 0) ∧ Touch (fun _ => False) w w' := by
  obtain ⟨a, cap, hv', _⟩ := hv.form
  subst hv'
  have hs := fun fv W => sort_none (.slice none 0 0) fv W (Row.nil _ _)
  clear hv
  go_enter Try.func14, Try.ntmps14
  go_wp2
  go_loopw [3, 4, 5, 8] (fun l _ _ i wr => l = .slice none 0 0 ∧ i = .int .i64 0 ∧ wr = w.alloc (.cells #[.slice a 0 cap] 22)) (fun _ _ _ _ _ => 0)
  case atStart => exact ⟨rfl, rfl, rfl⟩
  case round =>
    obtain ⟨rfl, rfl, rfl⟩ := hrel
    go_wp2_with (go_at_call 24; refine (hs _ _).mono ?_; rintro e w' ⟨rfl, rfl⟩)
    go_ret
    exact ⟨rfl, (Touch.refl _ _).alloc _⟩

set_option maxHeartbeats 1000000 in
theorem rarest_some (c : List Nat) (v : Value) (w : World) (h0 : 0 < c.length) (hlen : c.length ≤ 288) (hv : Reads w v (intVs c)) :
    Calls Try.prog 14 #[v] w fun e w' => ∃ r, e = .returned r ∧ Reads w' r (intVs (symsM c)) ∧ Touch (fun _ => False) w w' := by
  obtain ⟨i0, hi, hz0, hz1, hz2⟩ := info_parts Try.info3
  obtain ⟨g, off, cap, hv', hcap, hcm, hg, hcells⟩ := hv.addr (by rw [intVs_length]; exact h0)
  rw [intVs_length] at hv' hcap
  subst hv'
  have HC := Lib.hid hcells
  have HLT := Lib.hid (comesL_lt c c.length)
  have HLL := Lib.hid (comesL_length c)
  clear hcells hv
  go_enter Try.func14, Try.ntmps14
  go_wp2
  go_loopw [3, 4, 5, 8] (fun l _ _ i wr => ∃ (k : Nat) (rv : Value), k ≤ c.length ∧ rv = l ∧ i = .int .i64 k ∧ Row wr 3 rv (intVs (comesL c k)) ∧ Sep (w.heap.size + 1) none rv.ownBlock ∧ Touch (fun _ => False) (w.alloc (.cells #[.slice (some ⟨g, off, none⟩) c.length cap] 22)) wr) (fun _ _ _ i _ => c.length - (intOf i).toNat)
  case atStart => exact ⟨0, _, Nat.zero_le _, rfl, rfl, Row.nil _ _, .inl rfl, Touch.refl _ _⟩
  case round =>
    obtain ⟨k, rv, hk, rfl, rfl, hrow, hsep, ht⟩ := hrel
    have HSEP := Lib.hid hsep
    clear hsep
    have HSEP2 : Sep (w.alloc (.cells #[.slice (some ⟨g, off, none⟩) c.length cap] 22)).heap.size none rv.ownBlock := by simpa using HSEP.out
    have hbx := ht.cell (p := ⟨w.heap.size, 0, none⟩) (v := .slice (some ⟨g, off, none⟩) c.length cap) (by simp) id
    have hgc : ∀ j u, (intVs c)[j]? = some u → wr.cell? ⟨g, off + j, none⟩ = some u := fun j u hu => ht.cell (by rw [World.cell?_alloc_lt _ _ _ hg]; exact HC.out j u hu) id
    by_cases hlt : k < c.length
    · have hcell := hgc k (.int .i64 (c.getD k 0 : Nat)) (by simp [intVs, hlt])
      clear hgc
      have hlk := comesL_length c k
      by_cases hpos : 0 < c.getD k 0
      · have HE := Lib.hid (comesL_succ_yes c k hpos)
        generalize c.getD k 0 = n at hcell hpos
        generalize hL : comesL c k = L at hrow hlk HE
        clear hL
        go_wp2_with (at_builtin; refine wpList_append_row _ rfl (.tmp 15) (.tmp 17) 22 22 rfl 3 i0 _ 8 Try.underlying22 hi hz0 hz1 hz2 rfl _ (intVs L) rfl (by exact hrow.kept (S := fun _ => False) ((Touch.refl _ _).alloc _) (fun _ _ => id)) (.slice (some ⟨wr.heap.size, 0, none⟩) 1 1) rfl 1 [.int .i64 (k : Nat)] (by exact Src.ofCell Try.underlying22 (heap_alloc_new wr _) rfl) (by rw [intVs_length]; unfold maxLen; omega) (by rw [intVs_length]; omega) ?_; intro v2 w2 hrow2 hgrow hown2)
        go_roundw
        case rel =>
          refine ⟨k + 1, _, by omega, rfl, by go_num, ?_, own_sep HSEP.out hown2 (by have := ht.size; simp at this ⊢; omega), sep_grown (ht.alloc _) HSEP2 hgrow⟩
          rw [HE.out, intVs_append]
          exact hrow2
        case measure => simp [intOf]; omega
      · have HE := Lib.hid (comesL_succ_no c k hpos)
        have hz : c.getD k 0 = 0 := by omega
        rw [hz] at hcell
        clear hpos hz
        go_wp2
        go_roundw
        case rel => exact ⟨k + 1, _, by omega, rfl, by go_num, by rw [HE.out]; exact hrow, HSEP.out, ht⟩
        case measure => simp [intOf]; omega
    · obtain rfl : k = c.length := by omega
      have hs := sort_calls c (comesL c c.length) HLT.out (by have := HLL.out c.length; omega) rv g off cap w.heap.size wr hbx hgc hrow (HSEP.out.ne (h := w.heap.size) (by simp) (by omega)) (HSEP.out.ne (h := g) (by simp) (by omega))
      have HT := Lib.hid ht
      clear hgc hrow
      go_wp2_with (go_at_call 24; refine hs.mono ?_; rintro e w' ⟨rfl, hr, ht2⟩)
      go_ret
      exact ⟨_, rfl, hr, (Touch.refl _ _).alloc _ |>.trans (sep_touch HT.out HSEP.out (by simp) ht2)⟩

theorem rarest_calls (c : List Nat) (v : Value) (w : World) (hlen : c.length ≤ 288) (hv : Reads w v (intVs c)) :
    Calls Try.prog 14 #[v] w fun e w' => ∃ r, e = .returned r ∧ Reads w' r (intVs (symsM c)) ∧ Touch (fun _ => False) w w' := by
  by_cases h0 : 0 < c.length
  · exact rarest_some c v w h0 hlen hv
  · obtain rfl : c = [] := List.eq_nil_of_length_eq_zero (by omega)
    exact (rarest_none v w hv).mono fun e w' ⟨he, ht⟩ => ⟨_, he, by rw [show symsM [] = [] by simp [symsM, comesL]]; exact (Row.nil w' 3).reads, ht⟩
end Go.Proofs.Ythobbdnmhldglaa

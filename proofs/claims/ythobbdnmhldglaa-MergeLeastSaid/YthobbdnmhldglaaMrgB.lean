/- Package merge: the symbols that come, the rarest first: the closure, and the sort by it. -/
import Derived.Test.YthobbdnmhldglaaMrgA
import Derived.Deep.RegionHeld3
namespace Go.Proofs.Ythobbdnmhldglaa
open Go Go.RowKit
set_option maxRecDepth 100000

/-- How the closure orders two symbols. -/
def cfR (c : List Nat) (x y : Nat) : Int := orI (cmpI (c.getD x 0) (c.getD y 0)) (cmpI y x)

set_option maxHeartbeats 1000000 in
theorem rarer_calls (c : List Nat) (g off n cap B : Nat) (W : World) (hB : W.cell? ⟨B, 0, none⟩ = some (.slice (some ⟨g, off, none⟩) n cap)) (x y X Y : Nat) (hx : x < n) (hy : y < n)
    (hX : RowKit.Hid (c.getD x 0 = X)) (hY : RowKit.Hid (c.getD y 0 = Y)) (hcx : W.cell? ⟨g, off + x, none⟩ = some (.int .i64 X)) (hcy : W.cell? ⟨g, off + y, none⟩ = some (.int .i64 Y)) :
    Calls Try.prog 25 #[.int .i64 x, .int .i64 y, .pointer (some ⟨B, 0, none⟩)] W fun e w' => e = .returned (.int .i64 (cfR c x y)) ∧ ∃ q os', w' = Go.Sort.grow (W.drewN q) os' := by
  have hor : ∀ (b cap : Nat) (w : World) (h0 : w.cell? ⟨b, 0, none⟩ = some (.int .i64 (cmpI X Y))) (h1 : w.cell? ⟨b, 0 + 1, none⟩ = some (.int .i64 (cmpI y x))), Calls Try.prog 26 #[.slice (some ⟨b, 0, none⟩) 2 cap] w fun e w' => e = .returned (.int .i64 (cfR c x y)) ∧ w' = w := fun b cap w h0 h1 => (or_calls _ _ b cap w h0 h1).mono fun e w' ⟨he, hw⟩ => ⟨by rw [he]; unfold cfR; rw [hX.out, hY.out], hw⟩
  clear hX hY
  generalize cfR c x y = r3 at hor ⊢
  have hx0 : (0 : Int) ≤ (x : Int) := by omega
  have hy0 : (0 : Int) ≤ (y : Int) := by omega
  have hx1 : (x : Int) < (n : Int) := by omega
  have hy1 : (y : Int) < (n : Int) := by omega
  have HOR := Lib.hid hor
  clear hor
  go_enter Try.func25, Try.ntmps25
  go_wp2_with fail
  go_region_held3 (fun V => V.cell? ⟨B, 0, none⟩ = some (.slice (some ⟨g, off, none⟩) n cap) ∧ V.cell? ⟨g, off + x, none⟩ = some (.int .i64 X) ∧ V.cell? ⟨g, off + y, none⟩ = some (.int .i64 Y)) (go_keep)
    (first | (go_at_call 27; refine (compare_calls _ _ _).mono ?_; rintro e w' ⟨rfl, rfl⟩) | (go_at_call 26; refine (HOR.out _ _ _ (by simp) (by simp)).mono ?_; rintro e w' ⟨rfl, rfl⟩))
  go_wp2_with fail
  go_ret
  exact ⟨rfl, 1, #[_], Go.Sort.alloc_eq_grow (W.drewN 1) _⟩

/-- Symbol x comes ahead of symbol y. -/
def rarer (c : List Nat) (x y : Nat) : Bool := decide (c.getD x 0 < c.getD y 0 ∨ (c.getD x 0 = c.getD y 0 ∧ y < x))

theorem cfR_lt (c : List Nat) (x y : Nat) : decide (cfR c x y < 0) = rarer c x y := by
  unfold cfR orI cmpI rarer
  apply decide_eq_decide.2
  generalize c.getD x 0 = a
  generalize c.getD y 0 = b
  constructor
  · intro h
    split at h <;> split at h <;> (try split at h) <;> (try split at h) <;> omega
  · intro h
    split <;> split <;> (try split) <;> (try split) <;> omega

theorem touch_sortWorld {α : Type} [Inhabited α] (enc : α → Value) (w : World) (blk off m : Nat) (dk : Array α) (os : Array Obj) : Touch (fun k => k = blk) w (sortWorld enc w blk off m dk os) :=
  ⟨rfl, rfl, rfl, by unfold sortWorld; rw [Go.Sort.size_grow, size_putRow]; exact Nat.le_add_right _ _, fun k hk hs => by
    unfold sortWorld
    rw [Go.Sort.heap_grow_old _ _ (by rw [size_putRow]; exact hk)]
    simp only [Go.Sort.putRow, Go.Sort.mapBlock, Go.Sort.ahead, Array.getElem?_modify]
    rw [if_neg (fun e => hs e.symm)]⟩

theorem swoR (c : List Nat) (n : Nat) : Go.Sort.SWO (ltOf fun x y : Fin n => cfR c x.1 y.1) where
  irrefl x := by unfold ltOf; rw [cfR_lt]; simp [rarer]
  trans x y z h1 h2 := by unfold ltOf at *; rw [cfR_lt] at *; simp only [rarer, decide_eq_true_eq] at *; omega
  ntrans x y z h1 h2 := by unfold ltOf at *; rw [cfR_lt] at *; simp only [rarer, decide_eq_false_iff_not] at *; omega

set_option maxHeartbeats 1000000 in
theorem sort_calls (c l : List Nat) (hl : ∀ s ∈ l, s < c.length) (hll : l.length < 4611686018427387904) (v : Value) (g off cap B : Nat) (w : World) (hB : w.cell? ⟨B, 0, none⟩ = some (.slice (some ⟨g, off, none⟩) c.length cap))
    (hc : ∀ j u, (intVs c)[j]? = some u → w.cell? ⟨g, off + j, none⟩ = some u) (hrow : Row w 3 v (intVs l)) (hsB : v.ownBlock ≠ some B) (hsg : v.ownBlock ≠ some g) :
    Calls Try.prog 24 #[v, .func (.func 25) #[] #[.pointer (some ⟨B, 0, none⟩)]] w fun e w' =>
      e = .returned (.tuple #[]) ∧ Reads w' v (intVs (l.mergeSort fun x y => !rarer c y x)) ∧ Touch (fun k => v.ownBlock = some k) w w' := by
  by_cases h0 : l = []
  · subst h0
    have hr := hrow.reads
    obtain ⟨a, cap', hv, _⟩ := hrow.form
    subst hv
    exact (AnyF.slices_SortFunc_none { Try.sortInts with } a cap' _ w).mono fun e w' ⟨he, hw⟩ => ⟨he, by rw [hw]; simpa using hr, by rw [hw]; exact Touch.refl _ _⟩
  · have hl0 : 0 < (intVs l).length := by rw [intVs_length]; exact List.length_pos_iff.2 h0
    have hn : 0 < c.length := by
      obtain ⟨s, hs⟩ := List.exists_mem_of_ne_nil l h0
      have := hl s hs
      omega
    haveI : Inhabited (Fin c.length) := ⟨⟨0, hn⟩⟩
    obtain ⟨b, o, cap', hv, hcap, hlt, hcells⟩ := hrow.addr hl0
    subst hv
    have hfr := fun k => hrow.free (k := k)
    have hrf := hrow.reads
    rw [intVs_length] at hcap
    let d : Array (Fin c.length) := (l.attach.map fun s => ⟨s.1, hl s.1 s.2⟩).toArray
    have hdl : d.toList.map Fin.val = l := by simp [d]
    have hds : d.size = l.length := by simp [d]
    have hH : Go.Sort.Holds (fun x : Fin c.length => Value.int .i64 (x.1 : Nat)) w b o d := fun j hj => by
      refine ⟨hcells j _ ?_, hfr j⟩
      rw [hds] at hj
      have e : d[j]!.1 = l[j] := by
        rw [getElem!_pos d j (by rw [hds]; exact hj)]
        simp [d]
      simp only [intVs, List.getElem?_map]
      rw [List.getElem?_eq_getElem hj, e]
      rfl
    have eg : ∀ args w, (callFunc 25 args).run Try.prog w = .ok (.enter 25 args) w := enters_of Try.func25 (by kernel_rfl) rfl
    have hne : b ≠ B := fun e => hsB (by rw [e]; rfl)
    have hng : b ≠ g := fun e => hsg (by rw [e]; rfl)
    have hcmp : CmpLays1 Try.prog 25 #[.pointer (some ⟨B, 0, none⟩)] (fun x : Fin c.length => Value.int .i64 (x.1 : Nat)) (fun x y => cfR c x.1 y.1) b o d.size w := fun m os dk hs x y => by
      have ht := touch_sortWorld (fun x : Fin c.length => Value.int .i64 (x.1 : Nat)) w b o m dk os
      exact rarer_calls c g off c.length cap B _ (ht.cell hB (fun e => hne e.symm)) x.1 y.1 _ _ x.2 y.2 (Lib.hid rfl) (Lib.hid rfl)
        (ht.cell (hc x.1 _ (by simp [intVs])) (fun e => hng e.symm)) (ht.cell (hc y.1 _ (by simp [intVs])) (fun e => hng e.symm))
    have hcon := Any.slices_SortFunc_total Try.sortInts (fun x : Fin c.length => Value.int .i64 (x.1 : Nat)) (fun _ => rfl) (fun x y => cfR c x.1 y.1) (swoR c c.length) 25 #[.pointer (some ⟨B, 0, none⟩)] b o cap' d w eg hcmp hH hlt
      (by rw [hds]; exact hll)
      (fun x y h1 h2 => by unfold ltOf at h1 h2; rw [cfR_lt] at h1 h2; simp only [rarer, decide_eq_false_iff_not] at h1 h2; exact Fin.ext (by omega))
    rw [hds] at hcon
    rw [intVs_length]
    refine hcon.mono ?_
    rintro e w' ⟨he, n, os, hw⟩
    subst hw
    have ht := touch_sortWorld (fun x : Fin c.length => Value.int .i64 (x.1 : Nat)) w b o n (d.toList.mergeSort fun x y => !(ltOf fun x y : Fin c.length => cfR c x.1 y.1) y x).toArray os
    have hms : (d.toList.mergeSort fun x y => !(ltOf fun x y : Fin c.length => cfR c x.1 y.1) y x).map Fin.val = l.mergeSort fun x y => !rarer c y x := by
      conv => rhs; rw [← hdl]
      rw [List.map_mergeSort]
      intro a _ b _
      unfold ltOf
      rw [cfR_lt]
    refine ⟨he, ?_, ht.mono fun k hk => by rw [hk]; rfl⟩
    have hh := holds_sortWorld (fun x : Fin c.length => Value.int .i64 (x.1 : Nat)) w b o n d (d.toList.mergeSort fun x y => !(ltOf fun x y : Fin c.length => cfR c x.1 y.1) y x).toArray os hlt hH (by simp)
    rw [← hms]
    generalize (d.toList.mergeSort fun x y => !(ltOf fun x y : Fin c.length => cfR c x.1 y.1) y x) = ms at hms hh ht ⊢
    have hml : ms.length = l.length := by
      have := congrArg List.length hms
      simpa using this
    refine ⟨some ⟨b, o, none⟩, cap', by rw [intVs_length, List.length_map, hml], by rw [intVs_length, List.length_map, hml]; exact hcap, ?_, .inr ⟨b, o, rfl, fun j u hu => ?_⟩⟩
    · obtain ⟨_, _, hv, _, h2⟩ := hrow.form
      cases hv
      exact h2
    · have hj : j < ms.length := by
        have := (List.getElem?_eq_some_iff.1 hu).1
        rwa [intVs_length, List.length_map] at this
      have h1 := (hh j (by simpa using hj)).1
      rw [h1]
      simp only [intVs, List.getElem?_map, List.getElem?_eq_getElem hj] at hu
      simp at hu
      rw [← hu]
      simp [getElem!_pos, hj]
end Go.Proofs.Ythobbdnmhldglaa

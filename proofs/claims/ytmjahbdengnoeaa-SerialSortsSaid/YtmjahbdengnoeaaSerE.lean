/- The contract of package serial's Sort. -/
import Derived.Test.YtmjahbdengnoeaaSerD
namespace Go.Proofs.Ytmjahbdengnoeaa
open Go Go.RowKit Go.Maps Go.Sort Go.Shelf
set_option maxRecDepth 100000

def nearL (f : Nat) (l : List Nat) : Bool := l.all fun x => l.all fun y => decide (gapZ f x - gapZ f y < 2147483648)
theorem near_iff (f : Nat) (l dl : List Nat) (hp : dl.Perm l) (hs : dl.Pairwise fun a b => gapZ f a ≤ gapZ f b) (m : Nat) (hm : dl.length = m + 1) :
    nearL f l = decide (gapZ f (dl.getD m 0) - gapZ f (dl.getD 0 0) < 2147483648) := by
  have h0 : ∀ x ∈ dl, gapZ f (dl.getD 0 0) ≤ gapZ f x ∧ gapZ f x ≤ gapZ f (dl.getD m 0) := by
    intro x hx
    obtain ⟨i, hi, rfl⟩ := List.getElem_of_mem hx
    rw [List.getD_eq_getElem?_getD, List.getD_eq_getElem?_getD, List.getElem?_eq_getElem (by omega), List.getElem?_eq_getElem (by omega), Option.getD_some, Option.getD_some]
    rw [List.pairwise_iff_getElem] at hs
    refine ⟨?_, ?_⟩
    · rcases Nat.eq_zero_or_pos i with rfl | h
      · exact Int.le_refl _
      · exact hs 0 i (by omega) hi h
    · by_cases h : i = m
      · subst h; exact Int.le_refl _
      · exact hs i m hi (by omega) (by omega)
  have hfirst : dl.getD 0 0 ∈ l := hp.mem_iff.1 (by rw [List.getD_eq_getElem?_getD, List.getElem?_eq_getElem (by omega), Option.getD_some]; exact List.getElem_mem _)
  have hlast : dl.getD m 0 ∈ l := hp.mem_iff.1 (by rw [List.getD_eq_getElem?_getD, List.getElem?_eq_getElem (by omega), Option.getD_some]; exact List.getElem_mem _)
  by_cases h : gapZ f (dl.getD m 0) - gapZ f (dl.getD 0 0) < 2147483648
  · rw [decide_eq_true h]
    unfold nearL
    simp only [List.all_eq_true, decide_eq_true_eq]
    intro x hx y hy
    have h1 := h0 x (hp.mem_iff.2 hx)
    have h2 := h0 y (hp.mem_iff.2 hy)
    omega
  · rw [decide_eq_false h]
    cases hn : nearL f l
    · rfl
    · unfold nearL at hn
      simp only [List.all_eq_true, decide_eq_true_eq] at hn
      exact absurd (hn _ hlast _ hfirst) h

theorem sort_nil (a : Option Addr) (cap : Nat) (w : World) : Calls Try.prog 18 #[.slice a 0 cap] w fun e w' => e = .returned (.tuple #[.slice none 0 0, .bool true]) ∧ Touch (fun _ => False) w w' := by
  go_enter Try.func18, Try.ntmps18
  go_wp2_with fail
  go_ret2
  exact ⟨rfl, Touch.refl _ _⟩

theorem sorted_list {f : Nat} {d d' : Array U32} (hp : PermIn 0 d.size d d') (hs : SortedIn (ltOf (cfU f)) 0 d.size d') :
    (d'.toList.map Fin.val).Perm (d.toList.map Fin.val) ∧ (d'.toList.map Fin.val).Pairwise (fun a b => gapZ f a ≤ gapZ f b) := by
  obtain ⟨h1, _, h3⟩ := hp
  have e1 : (d'.extract 0 d.size).toList = d'.toList := by rw [← h1, Array.extract_size]
  have e2 : (d.extract 0 d.size).toList = d.toList := by rw [Array.extract_size]
  rw [e1, e2] at h3
  refine ⟨h3.map _, ?_⟩
  rw [List.pairwise_iff_getElem]
  intro i j hi hj hij
  rw [List.length_map] at hi hj
  have hji : j < d.size := by rw [← h1]; simpa using hj
  have hs' := hs i j (Nat.zero_le _) hij hji
  rw [ltU] at hs'
  have hi' : i < d'.size := by simpa using hi
  have hj' : j < d'.size := by simpa using hj
  rw [getElem!_pos d' i hi', getElem!_pos d' j hj'] at hs'
  simp only [List.getElem_map, Array.getElem_toList]
  simpa using hs'

set_option maxHeartbeats 2000000 in
theorem sort_some (l : List Nat) (hl : ∀ n ∈ l, n < 4294967296) (h30 : l.length ≤ 30) (m : Nat) (hm : l.length = m + 1) (v : Value) (w : World) (hv : Reads w v (u32V l)) :
    Calls Try.prog 18 #[v] w fun e w' => ∃ r, e = .returned (.tuple #[r, .bool (nearL (l.getD 0 0) l)]) ∧ Touch (fun _ => False) w w' ∧
      ((nearL (l.getD 0 0) l = false ∧ r = .slice none 0 0) ∨ (nearL (l.getD 0 0) l = true ∧ ∃ dl : List Nat, Reads w' r (u32V dl) ∧ dl.Perm l ∧ dl.Pairwise fun a b => gapZ (l.getD 0 0) a ≤ gapZ (l.getD 0 0) b)) := by
  obtain ⟨f, hf⟩ : ∃ f, f = l.getD 0 0 := ⟨_, rfl⟩
  have hfm : f ∈ l := by rw [hf, List.getD_eq_getElem?_getD, List.getElem?_eq_getElem (by omega), Option.getD_some]; exact List.getElem_mem _
  have hfl := hl f hfm
  rw [← hf]
  obtain ⟨ga, oa, ca, hve, hca, hcm, hga, hcells⟩ := hv.addr (by rw [u32V_length]; omega)
  rw [u32V_length] at hve hca
  subst hve
  have hc0 : w.cell? ⟨ga, oa, none⟩ = some (.int .u32 (f : Nat)) := by
    have := hcells 0 _ (u32V_get l 0 (by omega))
    rw [Nat.add_zero] at this
    rw [this, hf, List.getD_eq_getElem?_getD, List.getElem?_eq_getElem (by omega), Option.getD_some]
  clear hcells hfm
  have HF := Lib.hid hf
  have HV := Lib.hid hv
  have HL := Lib.hid hl
  clear hf hv hl
  rw [hm] at HV ⊢
  rw [hm] at hca
  have hm30 : m ≤ 29 := by omega
  have HM := Lib.hid hm
  clear hm h30
  have hmI : (0 : Int) ≤ (m : Int) := by omega
  have hne : ((m : Int) + 1 == 0) = false := beq_eq_false_iff_ne.2 (by omega)
  go_enter Try.func18, Try.ntmps18
  go_wp2_with fail
  have hB1 : (w.alloc (.cells #[.int .u32 (f : Nat)] 22)).cell? ⟨w.heap.size, 0, none⟩ = some (.int .u32 (f : Nat)) := cell_of_row _ _ 0 _ _ _ (heap_alloc_new w _)
  have hT1 := (Touch.refl (fun _ => False) w).alloc (.cells #[.int .u32 (f : Nat)] 22)
  have hz1 : (w.alloc (.cells #[.int .u32 (f : Nat)] 22)).heap.size = w.heap.size + 1 := Array.size_push ..
  generalize w.alloc (.cells #[.int .u32 (f : Nat)] 22) = w1 at hB1 hT1 hz1 ⊢
  obtain ⟨B, hB⟩ : ∃ B, w.heap.size = B := ⟨_, rfl⟩
  rw [hB] at hB1 hz1 ⊢
  refine (clone_u32 (u32V l) _ w1 (HV.out.still hT1) (u32V_one l) (by rw [u32V_length, HM.out]; omega)).mono ?_
  rintro e w2 ⟨r, rfl, hrow, hfr, hT2⟩
  have hB2 := hT2.cell hB1 id
  have hT02 := hT1.trans hT2
  rcases hrow with ⟨_, h0⟩ | ⟨g, off, cap, cur, rfl, hb, h1, h2, h3, h4⟩
  · have := congrArg List.length h0
    rw [u32V_length, HM.out] at this
    simp at this
  have hgB := hfr g rfl
  rw [hz1] at hgB
  obtain ⟨d, hd1, hd2, hd3⟩ := encU_of l HL.out
  have hdm : d.size = m + 1 := by rw [hd3, HM.out]
  rw [u32V_length, HM.out] at h1 h4 ⊢
  have hgl : g < w2.heap.size := (Array.getElem?_eq_some_iff.1 hb).1
  have hHolds : Holds encU w2 g off d := by
    intro j hj
    refine ⟨?_, by simp [World.frozen?, hb]⟩
    rw [cell_of_row w2 g (off + j) cur _ _ hb, ← Array.getElem?_toList]
    have h5 := congrArg (fun q => q[j]?) h4
    rw [List.getElem?_take_of_lt (by omega), List.getElem?_drop] at h5
    rw [h5, ← hd1]
    simp [hj]
  have hcmp : CmpReads Try.prog 31 #[.pointer (some ⟨B, 0, none⟩)] encU (cfU f) g off d.size w2 := fun m os dk hs x y => by
    have hT := touch_sortedU (w := w2) (g := g) (off := off) (m := m) (os := os) dk
    exact sort1_calls hfl (hT.cell hB2 (by show B ≠ g; omega)) x y
  have eg : ∀ args w, (callFunc 31 args).run Try.prog w = .ok (.enter 31 args) w := enters_of Try.func31 (by kernel_rfl) rfl
  have hcon := Any.slices_SortFunc Try.serSort encU (fun _ => rfl) (cfU f) (swoU f) 31 #[.pointer (some ⟨B, 0, none⟩)] g off cap d w2 eg hcmp.lays hHolds hgl (by omega)
  have hcon : Calls Try.prog 30 #[.slice (some ⟨g, off, none⟩) (m + 1) cap, .func (.func 31) #[] #[.pointer (some ⟨B, 0, none⟩)]] w2 (fun e w' => e = .returned (.tuple #[]) ∧ ∃ d' n os, PermIn 0 d.size d d' ∧ SortedIn (ltOf (cfU f)) 0 d.size d' ∧ w' = sortWorld encU w2 g off n d' os) := by
    rw [← hdm]; exact hcon
  have HH := Lib.hid (⟨hb, h1, h2, h3, hd2, hdm, hT02, hB, hgB, hB2⟩ : _ ∧ _ ∧ _ ∧ _ ∧ _ ∧ _ ∧ _ ∧ _ ∧ _ ∧ _)
  have HCON := Lib.hid hcon
  clear hcon hcmp eg hb h1 h2 h3 h4 hd1 hd2 hd3 hT02 hB hgB hB2 hHolds hgl hdm hT1 hT2 hB1 hz1 hfr hc0 hga hca hcm
  go_wp2_with fail
  refine HCON.out.mono ?_
  rintro e w3 ⟨rfl, d', k, os, hp, hs, hw3⟩
  obtain ⟨hb, h1, h2, h3, hd2, hdm, hT02, hB, hgB, hB2⟩ := HH.out
  obtain ⟨hperm, hsort⟩ := sorted_list hp hs
  rw [hd2] at hperm
  have hsz' : d'.size = m + 1 := by rw [hp.1, hdm]
  have hT := touch_sortedU (w := w2) (g := g) (off := off) (m := k) (os := os) d'
  have hb3 := heap_sortedU (off := off) (m := k) (os := os) d' hb
  rw [← hw3] at hT hb3
  have hB3 := hT.cell hB2 (show ¬ B = g by omega)
  have hT03 : Touch (fun _ => False) w w3 := hT02.trans' hT (fun i hi => .inr (by rw [hi, hB]; omega))
  have hcs := drop_putCells cur off d' (by omega)
  have hrow3 : Row w3 22 (.slice (some ⟨g, off, none⟩) (m + 1) cap) (u32V (d'.toList.map Fin.val)) := by
    have e9 : u32V (d'.toList.map Fin.val) = d'.toList.map encU := by unfold u32V; rw [List.map_map]; rfl
    rw [e9]
    refine .inr ⟨g, off, cap, _, by simp [hsz'], hb3, by simp [hsz']; omega, h2, by simp [putCells]; omega, ?_⟩
    rw [List.length_map, Array.length_toList]
    exact hcs
  have hdl : (d'.toList.map Fin.val).length = m + 1 := by simp [hsz']
  generalize d'.toList.map Fin.val = dl at hperm hsort hrow3 hdl
  have hnear := near_iff f l dl hperm hsort m hdl
  have hdlt : ∀ x ∈ dl, x < 4294967296 := fun x hx => HL.out x (hperm.mem_iff.1 hx)
  have hread := hrow3.reads
  have hcl := hrow3.cells.2
  have k0 : w3.cell? ⟨g, off, none⟩ = some (.int .u32 (dl.getD 0 0 : Nat)) := by
    have := hcl 0 _ (u32V_get dl 0 (by omega))
    rw [Nat.add_zero] at this
    rw [this, List.getD_eq_getElem?_getD, List.getElem?_eq_getElem (by omega), Option.getD_some]
  have km : w3.cell? ⟨g, off + m, none⟩ = some (.int .u32 (dl.getD m 0 : Nat)) := by
    have := hcl m _ (u32V_get dl m (by omega))
    rw [this, List.getD_eq_getElem?_getD, List.getElem?_eq_getElem (by omega), Option.getD_some]
  have l0 : dl.getD 0 0 < 4294967296 := hdlt _ (by rw [List.getD_eq_getElem?_getD, List.getElem?_eq_getElem (by omega), Option.getD_some]; exact List.getElem_mem _)
  have lm : dl.getD m 0 < 4294967296 := hdlt _ (by rw [List.getD_eq_getElem?_getD, List.getElem?_eq_getElem (by omega), Option.getD_some]; exact List.getElem_mem _)
  generalize dl.getD 0 0 = x0 at k0 l0 hnear
  generalize dl.getD m 0 = xm at km lm hnear
  have hlo0 := gap_lo f x0
  have hhi0 := gap_hi f x0
  have hlom := gap_lo f xm
  have hhim := gap_hi f xm
  have g0 : RowKit.Hid (∀ W, Calls Try.prog 14 #[.int .u32 (f : Nat), .int .u32 (x0 : Nat)] W fun e w' => e = .returned (.int .i64 (gapZ f x0)) ∧ w' = W) := Lib.hid (fun W => (sgap_calls f x0 hfl l0 W).mono fun _ _ ⟨he, hw⟩ => ⟨he, hw.symm⟩)
  have gm : RowKit.Hid (∀ W, Calls Try.prog 14 #[.int .u32 (f : Nat), .int .u32 (xm : Nat)] W fun e w' => e = .returned (.int .i64 (gapZ f xm)) ∧ w' = W) := Lib.hid (fun W => (sgap_calls f xm hfl lm W).mono fun _ _ ⟨he, hw⟩ => ⟨he, hw.symm⟩)
  generalize gapZ f x0 = a at *
  generalize gapZ f xm = b at *
  obtain ⟨nr, hnr⟩ : ∃ nr, nearL f l = nr := ⟨_, rfl⟩
  rw [hnr] at hnear
  have HNR := Lib.hid hnr
  clear hnr
  have HR := Lib.hid (⟨hperm, hsort, hread, hT03⟩ : _ ∧ _ ∧ _ ∧ _)
  have HN := Lib.hid hnear
  clear hperm hsort hread hT03 hrow3 hcl hdl hdlt hnear hcs hb3 hT hw3 hsz' hdm hd2 hB2 hgB hB hT02 h3 h2 h1 hb hp hs HH HCON l0 lm
  cases nr
  · have hge : ¬ (b - a < 2147483648) := of_decide_eq_false HN.out.symm
    have hge2 : 2147483648 ≤ b - a := by omega
    have hw64 : wrap64 (b - a) = b - a := by unfold wrap64; omega
    go_wp2_with fail
    go_quiet (first
      | (go_at_call 14; with_reducible exact Calls.quiet_of_same (g0.out _))
      | (go_at_call 14; with_reducible exact Calls.quiet_of_same (gm.out _)))
    go_wp2_with fail
    go_ret2
    exact ⟨_, by rw [HNR.out]; rfl, HR.out.2.2.2.drewN _, .inl ⟨HNR.out, rfl⟩⟩
  · have hge : b - a < 2147483648 := of_decide_eq_true HN.out.symm
    go_wp2_with fail
    go_quiet (first
      | (go_at_call 14; with_reducible exact Calls.quiet_of_same (g0.out _))
      | (go_at_call 14; with_reducible exact Calls.quiet_of_same (gm.out _)))
    go_wp2_with fail
    go_ret2
    exact ⟨_, by rw [HNR.out]; rfl, HR.out.2.2.2.drewN _, .inr ⟨HNR.out, dl, HR.out.2.2.1.still ((Touch.refl _ _).drewN _), HR.out.1, HR.out.2.1⟩⟩
end Go.Proofs.Ytmjahbdengnoeaa

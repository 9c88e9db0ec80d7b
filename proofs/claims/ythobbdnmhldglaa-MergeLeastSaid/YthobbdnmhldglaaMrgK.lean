/- The contract of package merge's Lengths over the translated program. -/
import Derived.Test.YthobbdnmhldglaaMrgJ
import Derived.Test.YthobbdnmhldglaaMrgG
namespace Go.Proofs.Ythobbdnmhldglaa
open Go Go.RowKit Go.Shelf
set_option maxRecDepth 100000

theorem symsM_perm (c : List Nat) : (symsM c).Perm (comesL c c.length) := List.mergeSort_perm _ _
theorem symsM_length (c : List Nat) : (symsM c).length = (comesL c c.length).length := (symsM_perm c).length_eq
theorem symsM_nodup (c : List Nat) : (symsM c).Nodup := (symsM_perm c).nodup_iff.2 (List.Nodup.sublist List.filter_sublist List.nodup_range)
theorem symsM_mem (c : List Nat) (s : Nat) : s ∈ symsM c ↔ s < c.length ∧ 0 < c.getD s 0 := by
  rw [(symsM_perm c).mem_iff]
  unfold comesL
  rw [List.mem_filter, List.mem_range]
  simp
theorem symsM_lt (c : List Nat) : ∀ s ∈ symsM c, s < c.length := fun s hs => ((symsM_mem c s).1 hs).1
/-- The symbols' costs, the least first. -/
def costsM (c : List Nat) : List Nat := (symsM c).map fun s => c.getD s 0
theorem costsM_length (c : List Nat) : (costsM c).length = (symsM c).length := by simp [costsM]
theorem costsM_sorted (c : List Nat) : (costsM c).Pairwise (· ≤ ·) := by
  unfold costsM
  rw [List.pairwise_map]
  have h := List.pairwise_mergeSort (le := fun x y => !rarer c y x) (by
    intro a b d h1 h2
    simp only [rarer, Bool.not_eq_true', decide_eq_false_iff_not] at h1 h2 ⊢
    omega) (by
    intro a b
    simp only [rarer, Bool.or_eq_true, Bool.not_eq_true', decide_eq_false_iff_not]
    omega) (comesL c c.length)
  refine List.Pairwise.imp ?_ h
  intro a b hab
  simp only [rarer, Bool.not_eq_true', decide_eq_false_iff_not] at hab
  omega
theorem sum_le_mul (l : List Nat) (B : Nat) (h : ∀ x ∈ l, x ≤ B) : l.sum ≤ l.length * B := by
  induction l with
  | nil => simp
  | cons x l ih =>
    have h1 := h x List.mem_cons_self
    have h2 := ih (fun y hy => h y (List.mem_cons_of_mem _ hy))
    rw [List.sum_cons, List.length_cons, Nat.succ_mul]
    omega
theorem costsM_sum (c : List Nat) (h : ∀ x ∈ c, x ≤ 1099511627776) (h288 : c.length ≤ 288) : (costsM c).sum < 72057594037927936 := by
  have h1 := sum_le_mul (costsM c) 1099511627776 (fun x hx => by
    obtain ⟨s, hs, rfl⟩ := List.mem_map.1 hx
    have hl := symsM_lt c s hs
    simp only [List.getD_eq_getElem?_getD, List.getElem?_eq_getElem hl, Option.getD_some]
    exact h _ (List.getElem_mem hl))
  have h2 := comesL_length c c.length
  rw [← symsM_length, ← costsM_length] at h2
  have h3 : (costsM c).length * 1099511627776 ≤ 288 * 1099511627776 := Nat.mul_le_mul_right _ (by omega)
  omega

/-- The lengths. -/
def lensM (c : List Nat) (N : Nat) : List Nat :=
  if (symsM c).length = 1 then (List.replicate c.length 0).set ((symsM c).getD 0 0) 1
  else (spreadK (symsM c) (costsM c) N (List.replicate c.length 0) N).2
theorem lensM_length (c : List Nat) (N : Nat) : (lensM c N).length = c.length := by
  unfold lensM
  split
  · simp
  · rw [spreadK_length]; simp

/-- A count that may not be. -/
def badCnt (x : Int) : Bool := decide (x < 0) || decide (1099511627776 < x)
theorem asks_cnt : Asks 13 badCnt := fun x w => by
  unfold badCnt
  by_cases h1 : x < 0
  · go_enter Try.func13, Try.ntmps13
    go_wp2
    go_ret
    exact ⟨ret1 (by simp [h1]), rfl⟩
  · by_cases h2 : 1099511627776 < x
    · go_enter Try.func13, Try.ntmps13
      go_wp2
      go_ret
      exact ⟨ret1 (by simp [h2]), rfl⟩
    · go_enter Try.func13, Try.ntmps13
      go_wp2
      go_ret
      exact ⟨ret1 (by simp [h1, h2]), rfl⟩
theorem enters_cnt : ∀ args w, (callFunc 13 args).run Try.prog w = .ok (.enter 13 args) w := enters_of Try.func13 (by kernel_rfl) rfl

theorem mlen_arg (xs : List Int) (most : Int) (v : Value) (w : World) (hv : Reads w v (intsV xs)) (h : xs.any badCnt = true ∨ 288 < xs.length ∨ most < 1 ∨ 15 < most) :
    Calls Try.prog 7 #[v, .int .i64 most] w fun e w' => e = .returned (.tuple #[.slice none 0 0, .int .i64 1]) ∧ Touch (fun _ => False) w w' := by
  have hA := any_calls 13 badCnt enters_cnt asks_cnt xs v w hv
  obtain ⟨a, cap, hv', hc1, hc2⟩ := hv.form
  subst hv'
  rw [intsV_length] at hA hc1 ⊢
  cases hb : xs.any badCnt with
  | true =>
    rw [hb] at hA
    have HA := Lib.hid hA
    clear hA hb hv h
    go_enter Try.func7, Try.ntmps7
    go_wp2_with (go_at_call 12; refine HA.out.mono ?_; rintro e w1 ⟨rfl, ht1⟩)
    go_ret2
    exact ⟨rfl, ht1⟩
  | false =>
    rw [hb] at hA h
    have HA := Lib.hid hA
    clear hA hb hv
    by_cases h1 : 288 < xs.length
    · have h1' : (288 : Int) < (xs.length : Int) := by omega
      clear h
      go_enter Try.func7, Try.ntmps7
      go_wp2_with (go_at_call 12; refine HA.out.mono ?_; rintro e w1 ⟨rfl, ht1⟩)
      go_ret2
      exact ⟨rfl, ht1⟩
    · have h1' : ¬ (288 : Int) < (xs.length : Int) := by omega
      by_cases h2 : most < 1
      · clear h
        go_enter Try.func7, Try.ntmps7
        go_wp2_with (go_at_call 12; refine HA.out.mono ?_; rintro e w1 ⟨rfl, ht1⟩)
        go_ret2
        exact ⟨rfl, ht1⟩
      · have h3 : 15 < most := by
          rcases h with h | h | h | h
          · cases h
          · omega
          · omega
          · exact h
        clear h
        go_enter Try.func7, Try.ntmps7
        go_wp2_with (go_at_call 12; refine HA.out.mono ?_; rintro e w1 ⟨rfl, ht1⟩)
        go_ret2
        exact ⟨rfl, ht1⟩

theorem not_bad (c : List Nat) (h : ∀ x ∈ c, x ≤ 1099511627776) : (c.map Int.ofNat).any badCnt = false := by
  rw [List.any_eq_false]
  intro x hx
  obtain ⟨n, hn, rfl⟩ := List.mem_map.1 hx
  have := h n hn
  unfold badCnt
  simp
  omega

theorem wrap_pow (N : Nat) (h : N ≤ 15) : wrap64 ((2 : Int) ^ N) = ((2 ^ N : Nat) : Int) := by
  have : ∀ n : Fin 16, wrap64 ((2 : Int) ^ n.val) = ((2 ^ n.val : Nat) : Int) := by decide +kernel
  exact this ⟨N, by omega⟩

set_option maxHeartbeats 1000000 in
theorem mlen_many (c : List Nat) (N : Nat) (v : Value) (w : World) (hv : Reads w v (intVs c)) (hc : ∀ x ∈ c, x ≤ 1099511627776) (h288 : c.length ≤ 288) (hN1 : 1 ≤ N) (hN2 : N ≤ 15) (hn : 2 ^ N < (symsM c).length) :
    Calls Try.prog 7 #[v, .int .i64 (N : Nat)] w fun e w' => e = .returned (.tuple #[.slice none 0 0, .int .i64 11]) ∧ Touch (fun _ => False) w w' := by
  have hA := any_calls 13 badCnt enters_cnt asks_cnt (c.map Int.ofNat) v w (by rw [intsV_nat]; exact hv)
  rw [not_bad c hc] at hA
  have HA := Lib.hid hA
  have HR := Lib.hid (fun W (hW : Touch (fun _ => False) w W) => rarest_calls c v W h288 (hv.still hW))
  obtain ⟨a, cap, hv', hc1, hc2⟩ := hv.form
  subst hv'
  rw [intVs_length] at HA HR hc1 ⊢
  have h1 : ¬ (288 : Int) < (c.length : Int) := by omega
  have h2 : ¬ (N : Int) < 1 := by omega
  have h3 : ¬ (15 : Int) < (N : Int) := by omega
  have h0 : (0 : Int) ≤ (N : Int) := by omega
  have hw := wrap_pow N hN2
  clear hA hv hc
  generalize symsM c = ss at HR hn
  generalize 2 ^ N = P at hw hn
  have hn1 : decide (P < ss.length) = true := decide_eq_true hn
  have hn2 : (P : Int) < (ss.length : Int) := by omega
  go_enter Try.func7, Try.ntmps7
  go_wp2_with (first
    | (go_at_call 12; refine HA.out.mono ?_; rintro e w1 ⟨rfl, ht1⟩)
    | (go_at_call 14; refine (HR.out _ ht1).mono ?_; rintro e w2 ⟨r, rfl, hr, ht2⟩; obtain ⟨ra, rcap, hre, hrc, _⟩ := hr.form; rw [intVs_length] at hre hrc; subst hre))
  go_ret2
  exact ⟨rfl, ht1.trans ht2⟩

theorem own_of_reads {w : World} {v : Value} {xs : List Value} (h : Reads w v xs) : 0 < xs.length → v.ownBlock ≠ some w.heap.size := by
  intro h0 e
  obtain ⟨g, off, cap, rfl, _, _, hg, _⟩ := h.addr h0
  have : g = w.heap.size := Option.some.inj e
  omega
theorem sep_ne {n G : Nat} {row : Option Nat} (h : Sep n none row) (hG : G < n) : row ≠ some G := by
  rcases h with rfl | ⟨g, rfl, hg⟩
  · intro e; cases e
  · intro e
    have := Option.some.inj e
    omega
theorem made_z (n : Nat) : (madeCells (Value.int .i64 0).cells (n * 1)).toList = intVs (List.replicate n 0) := by
  rw [Nat.mul_one, show (Value.int .i64 0).cells = #[Value.int .i64 0] from rfl, toList_madeCells_one]
  simp [intVs]

set_option maxHeartbeats 2000000 in
theorem mlen_one (c : List Nat) (N : Nat) (v : Value) (w : World) (hv : Reads w v (intVs c)) (hc : ∀ x ∈ c, x ≤ 1099511627776) (h288 : c.length ≤ 288) (hN1 : 1 ≤ N) (hN2 : N ≤ 15) (hn : (symsM c).length = 1) :
    Calls Try.prog 7 #[v, .int .i64 (N : Nat)] w fun e w' => ∃ r, e = .returned (.tuple #[r, .int .i64 0]) ∧ Row w' 3 r (intVs (lensM c N)) ∧ Sep w.heap.size none r.ownBlock ∧ Touch (fun _ => False) w w' := by
  obtain ⟨i0, hi, hz0, hz1, hz2⟩ := info_parts Try.info3
  have hA := any_calls 13 badCnt enters_cnt asks_cnt (c.map Int.ofNat) v w (by rw [intsV_nat]; exact hv)
  rw [not_bad c hc] at hA
  have HA := Lib.hid hA
  have HR := Lib.hid (fun W (hW : Touch (fun _ => False) w W) => rarest_calls c v W h288 (hv.still hW))
  have HV := Lib.hid hv
  obtain ⟨a, cap, hv', hc1, hc2⟩ := hv.form
  subst hv'
  rw [intVs_length] at HA HR HV hc1 ⊢
  have h1 : ¬ (288 : Int) < (c.length : Int) := by omega
  have h2 : ¬ (N : Int) < 1 := by omega
  have h3 : ¬ (15 : Int) < (N : Int) := by omega
  have h0 : (0 : Int) ≤ (N : Int) := by omega
  have hw := wrap_pow N hN2
  have hL : lensM c N = (List.replicate c.length 0).set ((symsM c).getD 0 0) 1 := if_pos hn
  have HL := Lib.hid hL
  obtain ⟨sy, hsy⟩ := List.length_eq_one_iff.1 hn
  have hsl : sy < c.length := symsM_lt c sy (by rw [hsy]; simp)
  rw [hsy] at HR HL
  clear hA hv hc hn hsy hL HV
  have hP : 1 ≤ 2 ^ N := Nat.one_le_two_pow
  generalize 2 ^ N = P at hw hP
  have hn1 : decide (P < 1) = false := decide_eq_false (by omega)
  have hn2 : ¬ ((P : Int) < 1) := by omega
  have hs0 : (0 : Int) ≤ (sy : Int) := by omega
  have hs1 : (sy : Int) < (c.length : Int) := by omega
  go_enter Try.func7, Try.ntmps7
  go_wp2_with (first
    | (go_at_call 12; refine HA.out.mono ?_; rintro e w1 ⟨rfl, ht1⟩)
    | (go_at_call 14; refine (HR.out _ ht1).mono ?_; rintro e w2 ⟨r, rfl, hr, ht2⟩; obtain ⟨sg, so, scap, hre, hrc, _, hsg, hcs⟩ := hr.addr (by simp [intVs]); rw [show (intVs [sy]).length = 1 from rfl] at hre; subst hre; have hsc : w2.cell? ⟨sg, so, none⟩ = some (.int .i64 (sy : Nat)) := hcs 0 (.int .i64 (sy : Nat)) (by simp [intVs]); clear hr hcs)
    | (at_make; refine wpList_make_full _ rfl (.tmp 34) (.tmp 34) 22 rfl w2.heap.size 3 i0 _ 1 Try.underlying22 hi hz0 hz1 .i64 .i64 _ _ c.length rfl rfl rfl rfl (by rw [hz2]; omega) (by unfold maxLen; omega) (Nat.le_refl _) ?_; intro w3 hown hgrow; rw [made_z] at hown; have hrow := Row.of_own hown; have hT3 := (Touch.refl (fun _ => False) w2).grown hgrow (fun k h => by cases h); clear hown hgrow; have hsc3 := hT3.cell hsc id; have hz3 := hrow.cells.2 sy (.int .i64 0) (by simp [intVs, hsl]); rw [Nat.zero_add] at hz3; have hf3 := hrow.free (k := sy); rw [Nat.zero_add] at hf3; clear hsc))
  go_ret2
  have h5 := hrow.set (k := sy) hsl (.int .i64 1)
  rw [Nat.zero_add] at h5
  have h6 : (intVs (List.replicate c.length 0)).set sy (.int .i64 1) = intVs ((List.replicate c.length 0).set sy 1) := by simp [intVs, List.map_set]
  rw [h6] at h5
  have hTT := (ht1.trans ht2).trans hT3
  have hsz := (ht1.trans ht2).size
  refine ⟨_, rfl, ?_, .inr ⟨w2.heap.size, rfl, hsz⟩, hTT.setCell (.inr hsz) _⟩
  rw [HL.out]
  exact h5

set_option maxHeartbeats 2000000 in
theorem mlen_some (c : List Nat) (N : Nat) (v : Value) (w : World) (hv : Reads w v (intVs c)) (hc : ∀ x ∈ c, x ≤ 1099511627776) (h288 : c.length ≤ 288) (hN1 : 1 ≤ N) (hN2 : N ≤ 15) (hn : (symsM c).length ≤ 2 ^ N) (hn0 : (symsM c).length ≠ 1) :
    Calls Try.prog 7 #[v, .int .i64 (N : Nat)] w fun e w' => ∃ r, e = .returned (.tuple #[r, .int .i64 0]) ∧ Row w' 3 r (intVs (lensM c N)) ∧ Sep w.heap.size none r.ownBlock ∧ Touch (fun _ => False) w w' := by
  obtain ⟨i0, hi, hz0, hz1, hz2⟩ := info_parts Try.info3
  have hA := any_calls 13 badCnt enters_cnt asks_cnt (c.map Int.ofNat) v w (by rw [intsV_nat]; exact hv)
  rw [not_bad c hc] at hA
  have HA := Lib.hid hA
  have HR := Lib.hid (fun W (hW : Touch (fun _ => False) w W) => rarest_calls c v W h288 (hv.still hW))
  have HV := Lib.hid hv
  obtain ⟨a, cap, hv', hc1, hc2⟩ := hv.form
  subst hv'
  rw [intVs_length] at HA HR HV hc1 ⊢
  have h1 : ¬ (288 : Int) < (c.length : Int) := by omega
  have h2 : ¬ (N : Int) < 1 := by omega
  have h3 : ¬ (15 : Int) < (N : Int) := by omega
  have h0 : (0 : Int) ≤ (N : Int) := by omega
  have hw := wrap_pow N hN2
  have hL : lensM c N = (spreadK (symsM c) (costsM c) N (List.replicate c.length 0) N).2 := if_neg hn0
  have HL := Lib.hid hL
  have hsl := comesL_length c c.length
  rw [← symsM_length] at hsl
  have HM := Lib.hid (fun (sv : Value) W (h1 : Reads W (.slice a c.length cap) (intVs c)) (h2 : Reads W sv (intVs (symsM c))) => merged_calls c (symsM c) (costsM c) N (costsM c).sum (.slice a c.length cap) sv W h1 h2 (symsM_lt c) (by omega) hN2 rfl rfl (costsM_sum c hc h288))
  have HS := Lib.hid (fun (Lb : Nat) (sv lsv : Value) W (h1 : Row W 3 (.slice (some ⟨Lb, 0, none⟩) c.length c.length) (intVs (List.replicate c.length 0))) (h2 : Reads W sv (intVs (symsM c))) (h3 : 0 < (symsM c).length → sv.ownBlock ≠ some Lb) (base : Nat) (h4 : Lists base W lsv (levelsM (costsM c) N)) (h5 : Lb < base) (h6 : lsv.ownBlock ≠ some Lb) =>
    spread_calls (symsM c) (costsM c) (List.replicate c.length 0) N Lb c.length sv lsv W (by rw [List.length_replicate]; exact h1) h2 h3 base h4 h5 h6 (costsM_length c) hN1 hN2 hn (by omega) (fun s hs => by rw [List.length_replicate]; exact symsM_lt c s hs) (symsM_nodup c) (fun p => by simp [List.getD_eq_getElem?_getD, List.getElem?_replicate]; split <;> rfl))
  rw [List.length_replicate] at HS
  clear hA hv hc hL
  generalize 2 ^ N = P at hw hn
  have hn1 : decide (P < (symsM c).length) = false := decide_eq_false (by omega)
  have hn2 : ¬ ((P : Int) < ((symsM c).length : Int)) := by omega
  have hn3 : (((symsM c).length : Int) == 1) = false := beq_eq_false_iff_ne.2 (by omega)
  go_enter Try.func7, Try.ntmps7
  go_wp2_with (first
    | (go_at_call 12; refine HA.out.mono ?_; rintro e w1 ⟨rfl, ht1⟩)
    | (go_at_call 14; refine (HR.out _ ht1).mono ?_; rintro e w2 ⟨r, rfl, hr, ht2⟩; have HRR := Lib.hid hr; have HNB := Lib.hid (own_of_reads hr); obtain ⟨ra, rcap, hre, hrc, _⟩ := hr.form; rw [intVs_length] at hre hrc; subst hre; clear hr)
    | (at_make; refine wpList_make_full _ rfl (.tmp 34) (.tmp 34) 22 rfl w2.heap.size 3 i0 _ 1 Try.underlying22 hi hz0 hz1 .i64 .i64 _ _ c.length rfl rfl rfl rfl (by rw [hz2]; omega) (by unfold maxLen; omega) (Nat.le_refl _) ?_; intro w3 hown hgrow; rw [made_z] at hown; have hrow := Row.of_own hown; have hT3 := (Touch.refl (fun _ => False) w2).grown hgrow (fun k h => by cases h); clear hown hgrow; have HROW := Lib.hid hrow; clear hrow)
    | (go_at_call 15; refine (HM.out _ _ (HV.out.still ((ht1.trans ht2).trans hT3)) (HRR.out.still hT3)).mono ?_; rintro e w4 ⟨r4, rfl, hL4, hs4, ht4⟩; have HL4 := Lib.hid hL4; have HNL := Lib.hid (sep_ne hs4 (HROW.out.lt _ rfl)); clear hL4)
    | (go_at_call 16; refine (HS.out _ _ _ _ (HROW.out.kept ht4 (fun _ _ => id)) (HRR.out.still (hT3.trans ht4)) (fun h => HNB.out (by rw [intVs_length]; exact h)) w3.heap.size HL4.out (HROW.out.lt _ rfl) HNL.out).mono ?_; rintro e w5 ⟨⟨v5, rfl⟩, hr5, ht5⟩))
  go_ret2
  have hTT := (ht1.trans ht2).trans (hT3.trans ht4)
  have hsz := (ht1.trans ht2).size
  refine ⟨_, rfl, ?_, .inr ⟨w2.heap.size, rfl, hsz⟩, hTT.trans' ht5 (fun i hi => .inr (by omega))⟩
  rw [HL.out]
  exact hr5
end Go.Proofs.Ythobbdnmhldglaa

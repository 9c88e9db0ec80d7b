/- Contract: sorting texts. -/
import Derived.Test.YtmhigecchligcaaDoorNamDa
import Derived.Test.YtmhigecchligcaaDoorNamShelf3
namespace Go.Proofs.YtmhigecchligcaaDoor
open Go Go.RowKit Go.Shelf Go.Sort
set_option maxRecDepth 100000

theorem bytesLess_lt : ∀ (x y : List UInt8), Op.bytesLess x y = decide (x < y)
  | x, [] => by
    have : Op.bytesLess x [] = false := by cases x <;> rfl
    rw [this]
    symm
    exact decide_eq_false (List.not_lt_nil x)
  | [], b :: y => by
    have : Op.bytesLess [] (b :: y) = true := rfl
    rw [this]
    symm
    exact decide_eq_true (List.nil_lt_cons b y)
  | a :: x, b :: y => by
    have e : Op.bytesLess (a :: x) (b :: y) = (decide (a < b) || (a == b && Op.bytesLess x y)) := rfl
    rw [e, bytesLess_lt x y]
    rw [Bool.eq_iff_iff]
    simp only [Bool.or_eq_true, Bool.and_eq_true, decide_eq_true_eq, beq_iff_eq]
    exact (List.cons_lt_cons_iff).symm

/-- Texts, sorted. -/
def srtL (Z : List ByteArray) : List (List UInt8) := (Z.map fun d => d.data.toList).mergeSort fun x y => decide (x ≤ y)
def srt (Z : List ByteArray) : List ByteArray := (srtL Z).map fun l => ⟨l.toArray⟩
theorem srt_list (Z : List ByteArray) : (srt Z).map (fun d => d.data.toList) = srtL Z := by
  unfold srt
  rw [List.map_map]
  conv => rhs; rw [← List.map_id (srtL Z)]
  rfl
theorem srt_length (Z : List ByteArray) : (srt Z).length = Z.length := by simp [srt, srtL]
theorem srtL_perm (Z : List ByteArray) : (srtL Z).Perm (Z.map fun d => d.data.toList) := List.mergeSort_perm _ _
theorem srt_mem (Z : List ByteArray) (d : ByteArray) : d ∈ srt Z ↔ d ∈ Z := by
  constructor
  · intro h
    obtain ⟨l, hl, rfl⟩ := List.mem_map.1 h
    obtain ⟨z, hz, e⟩ := List.mem_map.1 ((srtL_perm Z).mem_iff.1 hl)
    have : (⟨l.toArray⟩ : ByteArray) = z := bytes_inj (by show l = _; exact e.symm)
    rw [this]; exact hz
  · intro h
    exact List.mem_map.2 ⟨d.data.toList, (srtL_perm Z).mem_iff.2 (List.mem_map.2 ⟨d, h, rfl⟩), rfl⟩
theorem srtL_pairwise (Z : List ByteArray) : (srtL Z).Pairwise (fun x y => decide (x ≤ y) = true) := by
  refine List.pairwise_mergeSort (fun a b c h1 h2 => ?_) (fun a b => ?_) _
  · simp only [decide_eq_true_eq] at *
    exact List.le_trans h1 h2
  · simp only [Bool.or_eq_true, decide_eq_true_eq]
    exact List.le_total a b
theorem srt_rise (Z : List ByteArray) (hn : (Z.map fun d => d.data.toList).Nodup) (i : Nat) (a b : ByteArray) (ha : (srt Z)[i]? = some a) (hb : (srt Z)[i + 1]? = some b) : Op.bytesLess a.toList b.toList = true := by
  have hl : ∀ (k : Nat) (c : ByteArray), (srt Z)[k]? = some c → (srtL Z)[k]? = some c.data.toList := fun k c h => by
    rw [← srt_list, List.getElem?_map, h]
    rfl
  obtain ⟨h1, e1⟩ := List.getElem?_eq_some_iff.1 (hl i a ha)
  obtain ⟨h2, e2⟩ := List.getElem?_eq_some_iff.1 (hl (i + 1) b hb)
  have hp := List.pairwise_iff_getElem.1 (srtL_pairwise Z) i (i + 1) h1 h2 (Nat.lt_succ_self i)
  rw [e1, e2, decide_eq_true_eq] at hp
  have hnd : (srtL Z).Nodup := (srtL_perm Z).nodup_iff.2 hn
  have hne : a.data.toList ≠ b.data.toList := fun e => by
    have := (List.getElem_inj hnd (h₀ := h1) (h₁ := h2)).1 (by rw [e1, e2, e])
    omega
  rw [ByteArray.toList_eq, ByteArray.toList_eq, bytesLess_lt, decide_eq_true_eq]
  exact List.not_le.1 (fun h => hne (List.le_antisymm hp h))

theorem grow_touch (w : World) (os : Array Obj) : Touch (fun _ => False) w (grow w os) := ⟨rfl, rfl, rfl, by simp, fun k hk _ => by
  show (w.heap ++ os)[k]? = _
  rw [Array.getElem?_append_left hk]⟩
theorem putRow_touch {α : Type} [Inhabited α] (enc : α → Value) (w : World) (n blk off : Nat) (d : Array α) : Touch (fun k => k = blk) w (putRow enc (Sort.ahead w n) blk off d) := ⟨rfl, rfl, rfl, by simp [Sort.ahead], fun k hk hn => by
  show ((Sort.ahead w n).heap.modify blk _)[k]? = _
  rw [Array.getElem?_modify]
  rw [if_neg (fun e => hn e.symm)]
  rfl⟩
theorem sort_strs (Z : List ByteArray) (v : Value) (w : World) (hrow : Row w 9 v (strs Z)) (hl : Z.length ≤ 4000000000) :
    Calls Tryd.prog 30 #[v] w fun e w' => e = .returned (.tuple #[]) ∧ Touch (fun k => v.ownBlock = some k) w w' ∧ Reads w' v (strs (srt Z)) := by
  rcases Nat.eq_zero_or_pos Z.length with h0 | h0
  · obtain rfl := List.eq_nil_of_length_eq_zero h0
    obtain ⟨a, c, rfl, h1, h2⟩ := hrow.form
    refine (Any.slices_Sort_string_none Tryd.laySort a c w).mono fun e w' ⟨he, hw⟩ => ⟨he, hw ▸ Touch.refl _ _, ?_⟩
    subst hw
    have e : strs (srt []) = strs [] := by simp [srt, srtL, strs]
    rw [e]
    exact hrow.reads
  · obtain ⟨g, off, cap, rfl, hc, _, hcs⟩ := hrow.addr (by rw [strs_length]; exact h0)
    have hfr := fun k => hrow.free (k := k)
    have hlt := hrow.lt g rfl
    rw [strs_length] at *
    have hH : Holds encStr w g off (Z.map fun d => d.data.toList).toArray := fun j hj => by
      have hj' : j < Z.length := by simpa using hj
      refine ⟨?_, hfr j⟩
      have := hcs j (.string Z[j]) (by simp [strs, hj'])
      rw [this]
      simp [encStr, hj']
    have H := Any.slices_Sort_string Tryd.laySort g off cap (Z.map fun d => d.data.toList) w hH hlt (by rw [List.length_map]; omega)
    rw [List.length_map] at H
    refine H.mono ?_
    rintro e w' ⟨he, n, os, rfl⟩
    have hsl : ((Z.map fun d => d.data.toList).mergeSort fun x y => decide (x ≤ y)).length = Z.length := by simp
    have ht1 := putRow_touch encStr w n g off ((Z.map fun d => d.data.toList).mergeSort fun x y => decide (x ≤ y)).toArray
    have ht2 := grow_touch (putRow encStr (Sort.ahead w n) g off ((Z.map fun d => d.data.toList).mergeSort fun x y => decide (x ≤ y)).toArray) os
    refine ⟨he, (ht1.trans (ht2.mono (fun _ e => e.elim))).mono (fun k hk => by rw [hk]; rfl), ?_⟩
    have hH1 : Holds encStr (Sort.ahead w n) g off (Z.map fun d => d.data.toList).toArray := fun j hj => hH j hj
    have hH2 := holds_putRow encStr (Sort.ahead w n) g off (Z.map fun d => d.data.toList).toArray ((Z.map fun d => d.data.toList).mergeSort fun x y => decide (x ≤ y)).toArray hH1 (by simp)
    obtain ⟨_, _, e5, _, hm5⟩ := hrow.form
    injection e5 with _ _ e5
    rw [← e5] at hm5
    refine ⟨some ⟨g, off, none⟩, cap, by rw [strs_length, srt_length], by rw [strs_length, srt_length]; exact hc, hm5, .inr ⟨g, off, rfl, fun j u hu => ?_⟩⟩
    have hj : j < Z.length := by
      have := (List.getElem?_eq_some_iff.1 hu).1
      rw [strs_length, srt_length] at this
      exact this
    have h2 := (hH2 j (by simpa using hj)).1
    refine ht2.cell (p := ⟨g, off + j, none⟩) ?_ id
    rw [h2]
    rw [← hu]
    have hs1 : j < (srtL Z).length := by unfold srtL; omega
    have : (strs (srt Z))[j]? = some (encStr (srtL Z)[j]) := by simp [strs, srt, encStr, hs1]
    rw [this]
    have hs2 : j < ((Z.map fun d => d.data.toList).mergeSort fun x y => decide (x ≤ y)).length := by omega
    simp [srtL, hj]
/-- A row of texts is none of a tree's blocks. -/
theorem row_apart2 {W : World} {tb mb n base : Nat} {fv v : Value} {P : List Path} {F : List Bool} {xs : List Value} (h : TrAt W tb mb n base fv P F) (hr : Row W 9 v xs) {g : Nat} (hg : v.ownBlock = some g) : ¬ TrS tb mb fv g := by
  rcases hr with ⟨rfl, _⟩ | ⟨g', off, cap, cur, rfl, hgb, _⟩
  · simp [Value.ownBlock] at hg
  · have e : g' = g := by simpa [Value.ownBlock] using hg
    subst e
    rintro (rfl | rfl | hf)
    · have := (show W.heap[g']? = _ from h.box).symm.trans hgb
      simp at this
    · obtain ⟨D, ⟨es, clock, h1, _⟩, _⟩ := h.map
      rw [h1] at hgb
      cases hgb
    · rcases h.row with ⟨e1, _⟩ | ⟨g2, off, cap2, cur2, e1, hh, _⟩
      · rw [e1] at hf; simp [Value.ownBlock] at hf
      · rw [e1] at hf
        have e2 : g2 = g' := by simpa [Value.ownBlock] using hf
        subst e2
        rw [hgb] at hh
        simp at hh

theorem len_few {p i m : Nat} (h : p ≤ 1 + i * 65537) (hi : i ≤ m) (hm : m ≤ 1000) : p ≤ 900000000 := by
  have := Nat.mul_le_mul_right 65537 (Nat.le_trans hi hm)
  exact Nat.le_trans h (Nat.le_trans (Nat.add_le_add_left this 1) (by decide))
theorem len_end {m : Nat} (hm : m ≤ 1000) : m * 65537 ≤ 4000000000 := Nat.le_trans (Nat.mul_le_mul_right 65537 hm) (by decide)
theorem len_more {p i : Nat} (h : p ≤ 1 + i * 65537) : p ≤ 1 + (i + 1) * 65537 := Nat.le_trans h (Nat.add_le_add_left (Nat.mul_le_mul_right _ (Nat.le_succ i)) 1)
theorem len_more2 {p i : Nat} (h : p ≤ i * 65537) : p ≤ (i + 1) * 65537 := Nat.le_trans h (Nat.mul_le_mul_right _ (Nat.le_succ i))
theorem len_step {p p3 s i : Nat} (h : p ≤ 1 + i * 65537) (h3 : p3 ≤ p + s + 1) (hs : s ≤ 65535) : p3 ≤ 1 + (i + 1) * 65537 := by
  rw [Nat.succ_mul]
  generalize i * 65537 = t at h ⊢
  omega
theorem len_step2 {z z3 s i : Nat} (h : z ≤ i * 65537) (h3 : z3 ≤ s + 1) (hs : s ≤ 65535) : z + z3 ≤ (i + 1) * 65537 := by
  rw [Nat.succ_mul]
  generalize i * 65537 = t at h ⊢
  omega
theorem len_both {z z3 s i m : Nat} (h : z ≤ i * 65537) (h3 : z3 ≤ s + 1) (hs : s ≤ 65535) (hi : i ≤ m) (hm : m ≤ 1000) : z + z3 ≤ maxLen ∧ (z + z3) * 16 ≤ 140737488355328 := by
  have h1 := Nat.mul_le_mul_right 65537 (Nat.le_trans hi hm)
  have h2 : z ≤ 65537000 := Nat.le_trans h (Nat.le_trans h1 (by decide))
  clear h h1
  unfold maxLen
  omega
set_option maxHeartbeats 2000000 in
theorem dirs_of (L : List ByteArray) (v : Value) (w : World) (hv : Reads w v (strs L)) (hsz : ∀ s ∈ L, s.size ≤ 9223372036854775807) (hl : L.length ≤ 1000) (hT : Tabs w) :
    Calls Tryd.prog 19 #[v] w fun e w' => Touch (fun _ => False) w w' ∧ ∃ (dv : Value) (Z : List ByteArray), e = .returned dv ∧ Reads w' dv (strs (srt Z)) ∧ (Z.map fun d => d.data.toList).Nodup ∧ Z.length ≤ 4000000000 ∧
      (∀ d ∈ Z, ∃ s ∈ L, checkB s = true ∧ belowB s d = true) ∧ (∀ s ∈ L, checkB s = true → ∀ d, belowB s d = true → d ∈ Z) := by
  obtain ⟨i0, hi, hz0, hz1, hz2⟩ := info_parts Tryd.infoSD
  obtain ⟨va, vc, hve, hvc, hvm⟩ := hv.form
  rw [strs_length] at hve hvc
  subst hve
  have HV := Lib.hid hv
  have HSZ := Lib.hid hsz
  have HTB := Lib.hid hT
  clear hv hsz hT
  obtain ⟨m, hm⟩ : ∃ m, L.length = m := ⟨_, rfl⟩
  rw [hm] at hvc hl ⊢
  have HM := Lib.hid hm
  rw [hm] at HV
  clear hm
  go_enter Tryd.func19, Tryd.ntmps19
  go_wp2_with (go_at_call 25; refine (newTree_calls _).mono ?_; rintro e w1 ⟨tb, mb, fv, rfl, hTr, ht1⟩; have HTR0 := Lib.hid hTr; have HT1 := Lib.hid ht1; clear hTr ht1)
  go_loopw [3, 10] (fun d3 iv wr => ∃ (i n' : Nat) (fv dv : Value) (P : List Path) (F : List Bool) (Z : List ByteArray), d3 = dv ∧ iv = .int .i64 (i : Nat) ∧ i ≤ m ∧ P.length ≤ 1 + i * 65537 ∧ Z.length ≤ i * 65537 ∧ RowKit.Hid (TrAt wr tb mb n' w.heap.size fv P F) ∧ RowKit.Hid (Row wr 9 dv (strs Z)) ∧ RowKit.Hid (∀ g, dv.ownBlock = some g → w.heap.size ≤ g) ∧ RowKit.Hid (P = [] :: Z.map fun d => spl d.data.toList) ∧
    RowKit.Hid (∀ d ∈ Z, ∃ s ∈ L, checkB s = true ∧ belowB s d = true) ∧ RowKit.Hid (∀ j s, j < i → L[j]? = some s → checkB s = true → ∀ d, belowB s d = true → spl d.data.toList ∈ P) ∧ RowKit.Hid (Touch (fun _ => False) w wr)) (fun _ iv _ => m - (intOf iv).toNat)
  case atStart => exact ⟨0, 0, fv, _, [[]], [false], [], rfl, rfl, Nat.zero_le _, by simp, by simp, HTR0, Lib.hid (Row.nil _ _), Lib.hid (fun g hg => by simp [Value.ownBlock] at hg), Lib.hid rfl, Lib.hid (fun d hd => by cases hd), Lib.hid (fun j s h => absurd h (Nat.not_lt_zero j)), HT1⟩
  case round =>
    obtain ⟨i, n', fv', dv, P, F, Z, rfl, rfl, hin, hP, hZ, HTR, HR, HO, HPZ, HIN, HALL, HT⟩ := hrel
    clear HTR0 HT1
    obtain ⟨da, dc, hde, hdc, hdm⟩ := HR.out.form
    rw [strs_length] at hde hdc
    subst hde
    have hi0 : (0 : Int) ≤ (i : Int) := by omega
    by_cases hlt : i < m
    · have hi1 : (i : Int) < (m : Int) := by omega
      obtain ⟨s, hs⟩ : ∃ s, L[i]? = some s := ⟨_, List.getElem?_eq_getElem (by rw [HM.out]; exact hlt)⟩
      obtain ⟨g, off, cap, hge, _, _, _, hcs⟩ := HV.out.addr (by rw [strs_length, HM.out]; omega)
      rw [strs_length, HM.out] at hge
      injection hge with hg1 _ hg2
      subst hg1 hg2
      have hc := hcs i (.string s) (by simp [strs, hs])
      have hc' := HT.out.cell hc id
      have hss := HSZ.out s (List.mem_of_getElem? hs)
      have HCK := Lib.hid (check_any s wr hss (HTB.out.kept HT.out))
      have HS := Lib.hid hs
      clear hcs hc hs
      cases hck : checkB s
      · rw [hck] at HCK
        have HB := Lib.hid hck
        clear hck
        go_wp2_with (go_at_call 9; refine HCK.out.mono ?_; rintro e w2 ⟨rfl, ht2⟩; have HT2 := Lib.hid ht2; clear ht2)
        go_roundw
        case rel =>
          have HREL : ∃ (i' n' : Nat) (fv dv : Value) (P : List Path) (F : List Bool) (Z' : List ByteArray), Value.slice da Z.length dc = dv ∧ Value.int .i64 ((i : Int) + 1) = .int .i64 (i' : Nat) ∧ i' ≤ m ∧ P.length ≤ 1 + i' * 65537 ∧ Z'.length ≤ i' * 65537 ∧ RowKit.Hid (TrAt w2 tb mb n' w.heap.size fv P F) ∧ RowKit.Hid (Row w2 9 dv (strs Z')) ∧ RowKit.Hid (∀ g, dv.ownBlock = some g → w.heap.size ≤ g) ∧ RowKit.Hid (P = [] :: Z'.map fun d => spl d.data.toList) ∧
    RowKit.Hid (∀ d ∈ Z', ∃ s ∈ L, checkB s = true ∧ belowB s d = true) ∧ RowKit.Hid (∀ j s, j < i' → L[j]? = some s → checkB s = true → ∀ d, belowB s d = true → spl d.data.toList ∈ P) ∧ RowKit.Hid (Touch (fun _ => False) w w2) :=
            ⟨i + 1, n', fv', _, P, F, Z, rfl, by go_num, hlt, len_more hP, len_more2 hZ, Lib.hid (HTR.out.still HT2.out), Lib.hid (HR.out.kept HT2.out (fun _ _ => id)), HO, HPZ, HIN, Lib.hid (fun j s' hj hs' hg => by
              rcases Nat.lt_or_ge j i with h | h
              · exact HALL.out j s' h hs' hg
              · obtain rfl : j = i := by omega
                obtain rfl := Option.some.inj (HS.out.symm.trans hs')
                rw [HB.out] at hg; cases hg), Lib.hid (HT.out.trans HT2.out)⟩
          first
            | exact HREL
            | (repeat apply Exists.intro; exact ⟨HREL, rfl⟩)
        case measure => simp [intOf]; omega
      · rw [hck] at HCK
        have HB := Lib.hid hck
        have hs5 := check_size hck
        clear hck
        have hadd : ∀ w2, Touch (fun _ => False) wr w2 → _ := fun w2 h2 => newDirs_calls s (HTR.out.still h2) hs5 (len_few hP hin hl)
        have HA := Lib.hid hadd
        clear hadd
        go_wp2_with (first
          | (go_at_call 9; refine HCK.out.mono ?_; rintro e w2 ⟨rfl, ht2⟩; have HT2 := Lib.hid ht2; clear ht2)
          | (go_at_call 29; refine (HA.out _ HT2.out).mono ?_; rintro e w3 ⟨ht3, v3, Z3, n3, fv3, P3, F3, rfl, hown3, hZ3, hTr3, hP3, hin3, hall3, hlen3, _⟩; have HT3 := Lib.hid ht3; have HR3 := Lib.hid (Row.of_own hown3); have HTR3 := Lib.hid hTr3; have HP3 := Lib.hid hP3; have HIN3 := Lib.hid hin3; have HALL3 := Lib.hid hall3; have HLB := Lib.hid (len_both hZ hZ3 hs5 hin hl); have HLN := Lib.hid (len_step hP hlen3 hs5); have HLZ := Lib.hid (len_step2 hZ hZ3 hs5); clear ht3 hown3 hTr3 hP3 hin3 hall3; obtain ⟨a3, c3, hve3, hvc3, hvm3⟩ := HR3.out.form; rw [strs_length] at hve3 hvc3; subst hve3; have HRD := Lib.hid ((HR.out.kept HT2.out (fun _ _ => id)).kept HT3.out (fun g hg => row_apart2 (HTR.out.still HT2.out) (HR.out.kept HT2.out (fun _ _ => id)) hg)))
          | (at_builtin; refine wpList_append_row _ rfl (.tmp 17) (.tmp 20) 27 27 rfl 9 i0 _ 16 Tryd.underlying27 hi hz0 hz1 hz2 rfl (.slice da Z.length dc) (strs Z) rfl (by exact HRD.out) (.slice a3 Z3.length c3) rfl Z3.length (strs Z3) (by have h := (HR3.out.reads).src (P := Tryd.prog) (tx := 27) Tryd.underlying27 (fun u hu => by obtain ⟨y, _, rfl⟩ := List.mem_map.1 hu; rfl); rw [strs_length] at h; exact h) (by rw [strs_length]; exact HLB.out.1) (by rw [strs_length]; exact HLB.out.2) ?_; intro v4 w4 hrow4 hgrow4 hown4; have HR4 := Lib.hid hrow4; have HG4 := Lib.hid hgrow4; have HO4 := Lib.hid hown4; clear hrow4 hgrow4 hown4))
        have hgt : Touch (fun k => (Value.slice da Z.length dc).ownBlock = some k) w3 w4 := (Touch.refl (fun k => (Value.slice da Z.length dc).ownBlock = some k) w3).grown HG4.out (fun k hk => .inl hk)
        have hap : ∀ g, (Value.slice da Z.length dc).ownBlock = some g → ¬ TrS tb mb fv3 g := fun g hg => row_apart2 HTR3.out HRD.out hg
        have ht13 : Touch (fun _ => False) w w3 := HT.out.trans' ((HT2.out.mono (fun _ e => e.elim)).trans HT3.out) (fun k hk => .inr (TrS.le HTR.out hk))
        have hmeq : (P3 : List Path) = [] :: (Z ++ Z3).map fun d => spl d.data.toList := by rw [HP3.out, HPZ.out, List.map_append, List.cons_append]
        refine ⟨⟨i + 1, n3, fv3, v4, P3, F3, Z ++ Z3, rfl, by go_num, hlt, HLN.out, by rw [List.length_append]; exact HLZ.out, Lib.hid (HTR3.out.kept hgt (fun e => hap tb e (.inl rfl)) (fun e => hap mb e (.inr (.inl rfl))) (fun g hg e => hap g e (.inr (.inr hg)))), Lib.hid (by rw [show strs (Z ++ Z3) = strs Z ++ strs Z3 by simp [strs]]; exact HR4.out), Lib.hid (fun g hg => ?_), Lib.hid hmeq, Lib.hid (fun d hd => ?_), Lib.hid (fun j s' hj hs' hg d hd => ?_), Lib.hid (ht13.trans' hgt (fun k hk => .inr (HO.out k hk)))⟩, by simp [intOf]; omega⟩
        · rcases HO4.out with h | h
          · exact HO.out g (h ▸ hg)
          · rw [h] at hg
            have e := Option.some.inj hg
            have := ht13.size
            omega
        · rw [List.mem_append] at hd
          rcases hd with hd | hd
          · exact HIN.out d hd
          · exact ⟨s, List.mem_of_getElem? HS.out, HB.out, HIN3.out d hd⟩
        · rcases Nat.lt_or_ge j i with h | h
          · have := HALL.out j s' h hs' hg d hd
            rw [HP3.out]
            exact List.mem_append_left _ this
          · obtain rfl : j = i := by omega
            obtain rfl := Option.some.inj (HS.out.symm.trans hs')
            exact HALL3.out d hd
    · obtain rfl : i = m := by omega
      have HSO := Lib.hid (sort_strs Z _ wr HR.out (Nat.le_trans hZ (len_end hl)))
      go_wp2_with (go_at_call 30; refine HSO.out.mono ?_; rintro e w5 ⟨rfl, ht5, hrd5⟩)
      go_ret
      have hnd : (Z.map fun d => d.data.toList).Nodup := by
        have h1 := HTR.out.tree.nodup
        rw [HPZ.out, List.nodup_cons] at h1
        have h2 := h1.2
        rw [show (Z.map fun d => spl d.data.toList) = (Z.map fun d => d.data.toList).map spl by rw [List.map_map]; rfl] at h2
        exact List.Pairwise.imp (fun hne e => hne (by rw [e])) (List.pairwise_map.1 h2)
      refine ⟨HT.out.trans' ht5 (fun k hk => .inr (HO.out k hk)), _, Z, rfl, hrd5, hnd, Nat.le_trans hZ (len_end hl), HIN.out, fun s hs hg d hd => ?_⟩
      obtain ⟨j, hj⟩ := List.mem_iff_getElem?.1 hs
      have hji : j < i := by have := (List.getElem?_eq_some_iff.1 hj).1; rw [HM.out] at this; exact this
      have hm := HALL.out j s hji hj hg d hd
      rw [HPZ.out] at hm
      rcases List.mem_cons.1 hm with h | h
      · exact absurd h (spl_ne _)
      · obtain ⟨z, hz, e⟩ := List.mem_map.1 h
        have : z = d := bytes_inj (spl_inj e)
        rw [← this]; exact hz
end Go.Proofs.YtmhigecchligcaaDoor

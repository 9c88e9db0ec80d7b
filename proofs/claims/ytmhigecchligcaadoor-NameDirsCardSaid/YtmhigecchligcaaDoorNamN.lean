
/- Contract: the reference's text cleaned. -/
import Derived.Test.YtmhigecchligcaaDoorNamM
namespace Go.Proofs.YtmhigecchligcaaDoor
open Go Go.RowKit
set_option maxRecDepth 100000

/-- What a text cleaned answers. -/
def clnV (S : ByteArray) : ByteArray × Bool := match cleanC S with | some t => (t, true) | none => (ByteArray.empty, false)
theorem clnV_none {S : ByteArray} (h : cfold (spl S.data.toList) = none) : clnV S = (ByteArray.empty, false) := by
  unfold clnV cleanC; rw [h]
theorem clnV_some {S : ByteArray} {L : List (List UInt8)} (h : cfold (spl S.data.toList) = some L) : clnV S = (if checkB (joinT L) = true then (joinT L, true) else (ByteArray.empty, false)) := by
  unfold clnV cleanC; rw [h]
  by_cases hc : checkB (joinT L) = true
  · simp [hc]
  · simp [hc]
/-- The first parts joined. -/
def joinK (L : List (List UInt8)) (k : Nat) : ByteArray := joinT (L.take k)
theorem joinK_zero (L : List (List UInt8)) : joinK L 0 = ⟨#[]⟩ := by simp [joinK, joinT, Lib.join, List.intercalate]
theorem join_snoc (L : List (List UInt8)) (p : List UInt8) (h : L ≠ []) : Lib.join (L ++ [p]) [47] = Lib.join L [47] ++ 47 :: p := by
  induction L with
  | nil => exact absurd rfl h
  | cons x r ih =>
    cases r with
    | nil => simp [Lib.join, List.intercalate]
    | cons y r =>
      rw [List.cons_append, join_cons x _ (by simp), ih (by simp), join_cons x (y :: r) (by simp), List.append_assoc]
      rfl
theorem joinK_one (L : List (List UInt8)) (p : List UInt8) (hp : L[0]? = some p) : joinK L 1 = ⟨#[]⟩ ++ ⟨p.toArray⟩ := by
  obtain ⟨h, rfl⟩ := List.getElem?_eq_some_iff.1 hp
  cases L with
  | nil => simp at h
  | cons x r =>
    apply ByteArray.ext
    apply Array.ext'
    simp [joinK, joinT, join_sing]
theorem joinK_succ (L : List (List UInt8)) (k : Nat) (p : List UInt8) (h0 : 0 < k) (hp : L[k]? = some p) : joinK L (k + 1) = joinK L k ++ ⟨#[47]⟩ ++ ⟨p.toArray⟩ := by
  obtain ⟨h, rfl⟩ := List.getElem?_eq_some_iff.1 hp
  have e : L.take (k + 1) = L.take k ++ [L[k]] := List.take_succ_eq_append_getElem h
  have hne : L.take k ≠ [] := by
    intro e
    have := congrArg List.length e
    simp only [List.length_take, List.length_nil] at this
    omega
  apply ByteArray.ext
  apply Array.ext'
  rw [ByteArray.data_append, ByteArray.data_append, Array.toList_append, Array.toList_append]
  show Lib.join (L.take (k + 1)) [47] = Lib.join (L.take k) [47] ++ [47] ++ L[k]
  rw [e, join_snoc _ _ hne, List.append_assoc]
  rfl
theorem joinK_all (L : List (List UInt8)) : joinK L L.length = joinT L := by unfold joinK; rw [List.take_length]
theorem joinK_size (L : List (List UInt8)) (m k : Nat) (h : ∀ p ∈ L, p.length ≤ m) (hk : k ≤ L.length) : (joinK L k).size ≤ L.length * (m + 1) := by
  have h1 := join_len m (L.take k) (fun p hp => h p (List.mem_of_mem_take hp))
  have h2 : (L.take k).length ≤ L.length := by rw [List.length_take]; omega
  have h3 := Nat.mul_le_mul_right (m + 1) h2
  show (List.toArray _).size ≤ _
  rw [List.size_toArray]
  omega
theorem tEq_t {p q : List UInt8} (h : p = q) : ((⟨p.toArray⟩ : ByteArray).toList == q) = true := by
  rw [ByteArray.toList_eq, beq_iff_eq]; exact h
theorem tEq_f {p q : List UInt8} (h : p ≠ q) : ((⟨p.toArray⟩ : ByteArray).toList == q) = false := by
  rw [ByteArray.toList_eq]; exact beq_eq_false_iff_ne.2 h
theorem ret_pair {R : ByteArray × Bool} {a : ByteArray} {b : Bool} (h : R = (a, b)) : Ending.returned (.tuple #[.string a, .bool b]) = .returned (.tuple #[.string R.1, .bool R.2]) := by rw [h]
theorem ownBlock_len (a : Option Addr) (m q c c' : Nat) : (Value.slice a q c).ownBlock = (Value.slice a m c').ownBlock := by cases a <;> rfl
theorem part_kinds (p : List UInt8) : (p = [46, 46]) ∨ (p ≠ [46, 46] ∧ p = []) ∨ (p ≠ [46, 46] ∧ p ≠ [] ∧ p = [46]) ∨ (p ≠ [46, 46] ∧ p ≠ [] ∧ p ≠ [46]) := by
  by_cases h1 : p = [46, 46]
  · exact .inl h1
  · by_cases h2 : p = []
    · exact .inr (.inl ⟨h1, h2⟩)
    · by_cases h3 : p = [46]
      · exact .inr (.inr (.inl ⟨h1, h2, h3⟩))
      · exact .inr (.inr (.inr ⟨h1, h2, h3⟩))
theorem tEmpty_t {p : List UInt8} (h : p = []) : (⟨p.toArray⟩ : ByteArray).toList.isEmpty = true := by rw [ByteArray.toList_eq]; subst h; rfl
theorem tEmpty_f {p : List UInt8} (h : p ≠ []) : (⟨p.toArray⟩ : ByteArray).toList.isEmpty = false := by
  rw [ByteArray.toList_eq]
  cases p with
  | nil => exact absurd rfl h
  | cons => rfl

set_option maxHeartbeats 4000000 in
theorem refClean_calls (S : ByteArray) (w : World) (hs : S.size ≤ 500) :
    Calls Tryd.prog 16 #[.string S] w fun e w' => e = .returned (.tuple #[.string (clnV S).1, .bool (clnV S).2]) ∧ Touch (fun _ => False) w w' := by
  obtain ⟨i0, hi, hz0, hz1, hz2⟩ := info_parts Tryd.infoS
  have HP := Lib.hid (fun W => refParts_calls S W (by omega))
  obtain ⟨ts, hts⟩ : ∃ ts, spl S.data.toList = ts := ⟨_, rfl⟩
  have hsz : S.data.toList.length = S.size := by simp
  have hn0 : 0 < ts.length := by rw [← hts]; exact List.length_pos_iff.2 (spl_ne _)
  have hn1 : ts.length ≤ 501 := by rw [← hts]; have := spl_len S.data.toList; omega
  have hpl : ∀ p ∈ ts, p.length ≤ 500 := by rw [← hts]; intro p hp; have := spl_part _ p hp; omega
  have HN := Lib.hid (fun h => clnV_none (S := S) (by rw [hts]; exact h))
  have HSM := Lib.hid (fun L h => clnV_some (S := S) (L := L) (by rw [hts]; exact h))
  rw [hts] at HP
  obtain ⟨R, hR⟩ : ∃ R, clnV S = R := ⟨_, rfl⟩
  rw [hR] at HN HSM
  rw [hR]
  have HPL := Lib.hid hpl
  clear hsz hts hR hpl
  obtain ⟨n, hn⟩ : ∃ n, ts.length = n := ⟨_, rfl⟩
  have hvl : (strVs ts).length = n := by rw [strVs_length, hn]
  have HVL := Lib.hid hvl
  have HNN := Lib.hid hn
  rw [hn] at hn0 hn1
  clear hvl hn
  go_enter Tryd.func16, Tryd.ntmps16
  go_wp2_with (go_at_call 18; refine (HP.out _).mono ?_; rintro e w1 ⟨r, rfl, hrow, hsep, ht1⟩; obtain ⟨g, off, cap, rfl, hcap, hg, hcell⟩ := hrow.addr (by rw [HVL.out]; exact hn0); rw [HVL.out] at *; have HC := Lib.hid hcell; have HROW := Lib.hid hrow; have HT1 := Lib.hid ht1; clear hcell hrow hsep ht1)
  go_loopw [5, 6] (fun o i wr => ∃ (k : Nat) (L : List (List UInt8)) (rv : Value), k ≤ n ∧ i = .int .i64 (k : Int) ∧ rv = o ∧ cfold (ts.take k) = some L ∧ Row wr 9 rv (strVs L) ∧ Sep w1.heap.size none rv.ownBlock ∧ Touch (fun _ => False) w1 wr) (fun _ i _ => n - (intOf i).toNat)
  case atStart => exact ⟨0, [], _, Nat.zero_le _, rfl, rfl, rfl, Row.nil _ _, .inl rfl, Touch.refl _ _⟩
  case round =>
    obtain ⟨k, L, rv, hk, rfl, rfl, hcf, hro, hso, hto⟩ := hrel
    have hLl : L.length ≤ k := by
      have h1 := (cfold_props _ L hcf).1
      rw [List.length_take] at h1
      omega
    obtain ⟨a, c2, rfl, hc2, hc3⟩ := hro.form
    rw [strVs_length] at *
    generalize hm : L.length = m at *
    have HCF := Lib.hid hcf
    have HRO := Lib.hid hro
    have HSO := Lib.hid hso
    have HTO := Lib.hid hto
    have HM := Lib.hid hm
    clear hcf hro hso hto hm
    by_cases hlt : k < n
    · obtain ⟨p, hp⟩ : ∃ p, ts[k]? = some p := ⟨_, List.getElem?_eq_getElem (by rw [HNN.out]; exact hlt)⟩
      have hcl : wr.cell? ⟨g, off + k, none⟩ = some (.string ⟨p.toArray⟩) := HTO.out.cell (HC.out k _ (by simp [strVs, hp])) id
      have htk : ts.take (k + 1) = ts.take k ++ [p] := by
        obtain ⟨h, rfl⟩ := List.getElem?_eq_some_iff.1 hp
        exact List.take_succ_eq_append_getElem h
      have hst : cfold (ts.take (k + 1)) = cstep (some L) p := by rw [htk, cfold_snoc, HCF.out]
      have HST := Lib.hid hst
      have hgl : g < wr.heap.size := Nat.lt_of_lt_of_le hg HTO.out.size
      clear htk hst hp HCF
      rcases part_kinds p with h1 | ⟨h1, h2⟩ | ⟨h1, h2, h3⟩ | ⟨h1, h2, h3⟩
      · have t1 := tEq_t h1
        have hst : cfold (ts.take (k + 1)) = if L = [] then none else some L.dropLast := by rw [HST.out]; subst h1; rfl
        have HS2 := Lib.hid hst
        generalize (⟨p.toArray⟩ : ByteArray) = P at *
        clear HST h1 hst
        by_cases hm0 : m = 0
        · subst hm0
          have hL : L = [] := List.eq_nil_of_length_eq_zero HM.out
          have hnone : cfold ts = none := cfold_pre (List.take_prefix (k + 1) ts) (by rw [HS2.out, if_pos hL])
          have HNO := Lib.hid hnone
          clear hnone hL HS2
          go_wp2
          go_ret2
          rw [HN.out HNO.out]
          exact ⟨rfl, HT1.out.trans HTO.out⟩
        · obtain ⟨q, hq⟩ : ∃ q, m - 1 = q := ⟨_, rfl⟩
          have hq1 : (m : Int) - 1 = (q : Int) := by omega
          have hq0 : (0 : Int) ≤ (q : Int) := by omega
          have hqc : (q : Int) ≤ (c2 : Int) := by omega
          have hqm : q ≤ m := by omega
          have hqb : (q : Int) ≤ 501 := by omega
          have HQ := Lib.hid hq
          clear hq
          go_wp2
          go_roundw
          case rel =>
            refine ⟨k + 1, L.dropLast, _, by omega, by go_num, rfl, ?_, ?_, ?_, HTO.out⟩
            · rw [HS2.out, if_neg (by intro e; rw [e] at HM; exact hm0 HM.out.symm)]
            · rw [strVs_take, HM.out, HQ.out]; exact HRO.out.upto hqm
            · rw [ownBlock_len a m q c2 c2]; exact HSO.out
          case measure => simp [intOf]; omega
      all_goals
        have t1 := tEq_f h1
      · have t2 := tEmpty_t h2
        have hst : cfold (ts.take (k + 1)) = some L := by rw [HST.out]; subst h2; rfl
        have HS2 := Lib.hid hst
        generalize (⟨p.toArray⟩ : ByteArray) = P at *
        clear HST h1 h2 hst
        go_wp2
        go_roundw
        case rel => exact ⟨k + 1, L, _, by omega, by go_num, rfl, HS2.out, HRO.out, HSO.out, HTO.out⟩
        case measure => simp [intOf]; omega
      · have t2 := tEmpty_f h2
        have t3 := tEq_t h3
        have hst : cfold (ts.take (k + 1)) = some L := by rw [HST.out]; subst h3; rfl
        have HS2 := Lib.hid hst
        generalize (⟨p.toArray⟩ : ByteArray) = P at *
        clear HST h1 h2 h3 hst
        go_wp2
        go_roundw
        case rel => exact ⟨k + 1, L, _, by omega, by go_num, rfl, HS2.out, HRO.out, HSO.out, HTO.out⟩
        case measure => simp [intOf]; omega
      · have t2 := tEmpty_f h2
        have t3 := tEq_f h3
        have hst : cfold (ts.take (k + 1)) = some (L ++ [p]) := by rw [HST.out]; simp [cstep, h1, h2, h3]
        have hsv := strVs_snoc L p
        generalize (⟨p.toArray⟩ : ByteArray) = P at *
        have HS2 := Lib.hid hst
        have HSV := Lib.hid hsv
        clear HST h1 h2 h3 hst hsv
        go_wp2_with (at_builtin; refine wpList_append_row _ rfl (.tmp 42) (.tmp 47) 27 27 rfl 9 i0 _ 16 Tryd.underlying27 hi hz0 hz1 hz2 rfl (.slice a m c2) (strVs L) rfl (by exact HRO.out.kept (S := fun _ => False) ((Touch.refl _ _).alloc _) (fun _ _ => id)) (.slice (some ⟨wr.heap.size, 0, none⟩) 1 1) rfl 1 [.string P] (by exact Src.ofCell Tryd.underlying27 (heap_alloc_new wr _) rfl) (by rw [strVs_length, HM.out]; unfold maxLen; omega) (by rw [strVs_length, HM.out]; omega) ?_; intro v2 w2 hrow2 hgrow hown2)
        go_roundw
        case rel => exact ⟨k + 1, L ++ [p], _, by omega, by go_num, rfl, HS2.out, by rw [HSV.out]; exact hrow2, own_sepS HSO.out hown2 (by have := HTO.out.size; simp; omega), sep_grownS (HTO.out.alloc _) HSO.out hgrow⟩
        case measure => simp [intOf]; omega
    · obtain rfl : k = n := by omega
      have hcf : cfold ts = some L := by have := HCF.out; rwa [List.take_of_length_le (by have := HNN.out; omega)] at this
      have hR := HSM.out L hcf
      have hLp : ∀ p ∈ L, p.length ≤ 500 := fun p hp => HPL.out p ((cfold_props ts L hcf).2 p hp).1
      have hJ := joinK_size L 500 L.length hLp (Nat.le_refl _)
      have hmul : L.length * 501 ≤ 501 * 501 := Nat.mul_le_mul_right _ (by rw [HM.out]; omega)
      have hJs : (joinT L).size ≤ 300000 := by rw [← joinK_all]; omega
      have HCK := Lib.hid (fun W => refCheck_calls (joinT L) W (by omega))
      have HLP := Lib.hid hLp
      have HRR := Lib.hid hR
      have HMU := Lib.hid hmul
      clear hcf hR hLp hJ hmul hJs
      have htr := HT1.out.trans HTO.out
      have HTR := Lib.hid htr
      clear htr
      go_wp2
      go_loop [7, 8] (fun t i => ∃ j : Nat, j ≤ m ∧ i = .int .i64 (j : Int) ∧ t = .string (joinK L j)) (fun _ i => m - (intOf i).toNat)
      case atStart => exact ⟨0, Nat.zero_le _, rfl, by rw [joinK_zero]⟩
      case round =>
        obtain ⟨j, hj, rfl, rfl⟩ := hrel
        by_cases hjm : j < m
        · obtain ⟨p, hp⟩ : ∃ p, L[j]? = some p := ⟨_, List.getElem?_eq_getElem (by rw [HM.out]; exact hjm)⟩
          obtain ⟨g2, off2, cap2, hv, _, hg2, hcell2⟩ := HRO.out.addr (by rw [strVs_length, HM.out]; omega)
          injection hv with hv1 hv2 hv3
          subst hv1
          have hcl := hcell2 j (.string ⟨p.toArray⟩) (by simp [strVs, hp])
          have hjk := joinK_size L 500 j HLP.out (by rw [HM.out]; omega)
          have hpl : p.length ≤ 500 := HLP.out p (List.mem_of_getElem? hp)
          have hps : (⟨p.toArray⟩ : ByteArray).size ≤ 500 := by show (List.toArray _).size ≤ _; rw [List.size_toArray]; exact hpl
          have hjs : (joinK L j).size ≤ 300000 := by have := HMU.out; omega
          have hzz : (joinK L j).size + (⟨p.toArray⟩ : ByteArray).size ≤ 9223372036854775807 := by omega
          have hz1 : (joinK L j).size + 1 ≤ 9223372036854775807 := by omega
          have hz2 : (joinK L j).size + 1 + (⟨p.toArray⟩ : ByteArray).size ≤ 9223372036854775807 := by omega
          by_cases hj0 : j = 0
          · subst hj0
            have hone := joinK_one L p hp
            rw [← joinK_zero L] at hone
            have HON := Lib.hid hone
            have hcl0 : wr.cell? ⟨g2, off2, none⟩ = some (.string ⟨p.toArray⟩) := hcl
            clear hcl
            generalize (⟨p.toArray⟩ : ByteArray) = P at *
            generalize joinK L 0 = J at *
            clear hone hp hjk hcell2 hv2 hv3
            go_wp2
            go_round
            case rel => exact ⟨1, by omega, rfl, by rw [HON.out]⟩
            case measure => simp [intOf]; omega
          · have hsu := joinK_succ L j p (by omega) hp
            have HSU := Lib.hid hsu
            have hj1 : (0 : Int) < (j : Int) := by omega
            generalize (⟨p.toArray⟩ : ByteArray) = P at *
            generalize joinK L j = J at *
            clear hsu hp hjk hcell2 hv2 hv3
            go_wp2
            go_round
            case rel => exact ⟨j + 1, by omega, by go_num, by rw [HSU.out]⟩
            case measure => simp [intOf]; omega
        · obtain rfl : j = m := by omega
          rw [show joinK L j = joinT L by rw [← HM.out]; exact joinK_all L]
          cases hck : checkB (joinT L)
          · have hR2 : R = (ByteArray.empty, false) := by rw [HRR.out, hck]; rfl
            rw [hck] at HCK
            have HR2 := Lib.hid hR2
            generalize joinT L = J at *
            clear hR2 hck HRR
            go_wp2_with (go_at_call 10; refine (HCK.out _).mono ?_; rintro e w3 ⟨rfl, rfl⟩)
            go_ret2
            exact ⟨ret_pair HR2.out, HTR.out⟩
          · have hR2 : R = (joinT L, true) := by rw [HRR.out, hck]; rfl
            rw [hck] at HCK
            have HR2 := Lib.hid hR2
            generalize joinT L = J at *
            clear hR2 hck HRR
            go_wp2_with (go_at_call 10; refine (HCK.out _).mono ?_; rintro e w3 ⟨rfl, rfl⟩)
            go_ret2
            exact ⟨ret_pair HR2.out, HTR.out⟩
end Go.Proofs.YtmhigecchligcaaDoor

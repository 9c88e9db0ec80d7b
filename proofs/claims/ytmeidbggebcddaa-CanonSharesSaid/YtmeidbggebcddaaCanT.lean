/- Contracts of the statement's text of bits and of the document's answer of layer 3 on words, over the translated program. -/
import Derived.Test.YtmeidbggebcddaaCanW
namespace Go.Proofs.Ytmeidbggebcddaa
open Go Go.RowKit
set_option maxRecDepth 100000

/-- Bits as a text of 0 and 1. -/
def bitB (x : Nat) : UInt8 := UInt8.ofNat (48 + x)
def bitsS (b : List Nat) : ByteArray := ⟨(b.map bitB).toArray⟩
theorem bitsS_data (b : List Nat) : (bitsS b).data.toList = b.map bitB := rfl
theorem bitsS_size (b : List Nat) : (bitsS b).size = b.length := by show (b.map bitB).toArray.size = _; simp
theorem bitsS_append (a b : List Nat) : bitsS a ++ bitsS b = bitsS (a ++ b) := by
  apply ByteArray.ext
  rw [ByteArray.data_append]
  apply Array.toList_inj.1
  simp [bitsS]
theorem bitB_inj {x y : Nat} (hx : x < 2) (hy : y < 2) (h : bitB x = bitB y) : x = y := by
  have h1 := congrArg UInt8.toNat h
  simp [bitB] at h1
  omega

theorem run_bit (x : Nat) (hx : x < 2) (W : World) :
    (convert 37 9 (.slice (some ⟨W.heap.size, 0, none⟩) 1 1)).run Try.prog (W.alloc (.cells #[.int .u8 (48 + (x : Int))] 5)) = .ok (.string (bitsS [x])) (W.alloc (.cells #[.int .u8 (48 + (x : Int))] 5)) := by
  have h := run_one_byte' (48 + x) (by omega) W
  rw [show ((48 + x : Nat) : Int) = 48 + (x : Int) by simp] at h
  exact h

set_option maxHeartbeats 400000 in
theorem text_calls (v n : Nat) (w : World) (hv : v < 32768) (hn : n ≤ 15) :
    Calls Try.prog 17 #[.int .u64 v, .int .i64 n] w fun e w' => e = .returned (.string (bitsS (bitsN n v))) ∧ Touch (fun _ => False) w w' := by
  go_enter Try.func17, Try.ntmps17
  go_wp2_with fail
  go_loopw [0, 5, 6] (fun x s i wr => ∃ (k m : Nat) (q : ByteArray), k ≤ n ∧ m < 32768 ∧ x = .int .u64 m ∧ s = .string q ∧ i = .int .i64 k ∧ RowKit.Hid (m = v / 2 ^ k) ∧ RowKit.Hid (q = bitsS (bitsN k v)) ∧ q.size ≤ 15 ∧ Touch (fun _ => False) w wr) (fun _ _ i _ => n - (intOf i).toNat)
  case atStart => exact ⟨0, v, ⟨#[]⟩, Nat.zero_le _, hv, rfl, rfl, rfl, Lib.hid (by simp), Lib.hid rfl, by decide, Touch.refl _ _⟩
  case round =>
    obtain ⟨k, m, q, hk, hm, rfl, rfl, rfl, HM, HQ, hq, ht⟩ := hrel
    by_cases hlt : k < n
    · obtain ⟨x, hx⟩ : ∃ x, x = m % 2 := ⟨_, rfl⟩
      have hx2 : x < 2 := by omega
      have hmod : (m : Int) % 2 = (x : Int) := by omega
      have hsz1 : (bitsS [x]).size = 1 := rfl
      have hconv := run_bit x hx2 wr
      have HX := Lib.hid hx
      clear hx
      go_wp2_with fail
      go_roundw
      case rel => exact ⟨k + 1, m / 2, q ++ bitsS [x], by omega, by omega, by go_num, by first | rfl | trivial, by go_num, Lib.hid (by rw [HM.out, Nat.div_div_eq_div_mul, Nat.pow_succ]), Lib.hid (by rw [HQ.out, bitsS_append, HX.out, HM.out, ← bitsN_snoc]), by rw [HQ.out, bitsS_append, bitsS_size, List.length_append, bitsN_length]; simp; omega, ht.alloc _⟩
      case measure => simp [intOf]; omega
    · obtain rfl : k = n := by omega
      go_wp2_with fail
      go_ret
      exact ⟨by rw [← HQ.out]; rfl, ht⟩

theorem reads_at {w : World} {a : Option Addr} {n cap : Nat} {xs : List Value} (h : Reads w (.slice a n cap) xs) (j : Nat) (u : Value) (hj : xs[j]? = some u) :
    ∃ g off, a = some ⟨g, off, none⟩ ∧ ∀ W, Touch (fun _ => False) w W → W.cell? ⟨g, off + j, none⟩ = some u := by
  have hl := (List.getElem?_eq_some_iff.1 hj).1
  obtain ⟨g, off, cap', hv, hc, _, _, hcell⟩ := h.addr (by omega)
  injection hv with hv1 _ _
  exact ⟨g, off, hv1, fun W hW => hW.cell (hcell j _ hj) id⟩

/-- So many texts by their places. -/
def strTab (n : Nat) (f : Nat → ByteArray) : List Value := (List.range n).map fun k => Value.string (f k)
theorem strTab_length (n : Nat) (f : Nat → ByteArray) : (strTab n f).length = n := by simp [strTab]
theorem strTab_get (n : Nat) (f : Nat → ByteArray) (k : Nat) (hk : k < n) : (strTab n f)[k]? = some (.string (f k)) := by simp [strTab, hk]
theorem strTab_set (n : Nat) (f : Nat → ByteArray) (k : Nat) (x : ByteArray) : (strTab n f).set k (.string x) = strTab n (fun j => if j = k then x else f j) := by
  apply List.ext_getElem?
  intro j
  rw [List.getElem?_set]
  by_cases h : k = j
  · subst h
    by_cases hk : k < n
    · simp [strTab, hk]
    · simp [strTab, hk]
  · rw [if_neg h]
    by_cases hj : j < n
    · simp [strTab, hj, show ¬ j = k from fun e => h e.symm]
    · simp [strTab, hj]
theorem strTab_congr (n : Nat) (f g : Nat → ByteArray) (h : ∀ k, k < n → f k = g k) : strTab n f = strTab n g := by
  unfold strTab
  apply List.map_congr_left
  intro k hk
  rw [h k (List.mem_range.1 hk)]

theorem Try.info9 : (Try.prog.info? 9).map (fun i => (i.zero, i.size, i.bytes)) = some (some (.string ⟨#[]⟩), 1, 16) := by kernel_rfl
theorem made_strs (n : Nat) : (madeCells (Value.string ⟨#[]⟩).cells (n * 1)).toList = strTab n (fun _ => ⟨#[]⟩) := by
  rw [Nat.mul_one, show (Value.string ⟨#[]⟩).cells = #[Value.string ⟨#[]⟩] from rfl, toList_madeCells_one]
  unfold strTab
  apply List.ext_getElem?
  intro j
  by_cases h : j < n
  · simp [h, List.getElem?_replicate]
  · simp [h, List.getElem?_replicate]

/-- A symbol's word as a text. -/
def wordS (ls : List Nat) (s : Nat) : ByteArray := bitsS (wordH (ls.getD s 0) (codeN ls s))
theorem wordS_none (ls : List Nat) (s : Nat) (h : ls.getD s 0 = 0) : wordS ls s = ⟨#[]⟩ := by unfold wordS; rw [h]; rfl
/-- The words of lengths below n, and of n of the symbols below s. -/
def someS (ls : List Nat) (n s j : Nat) : ByteArray := if ls.getD j 0 < n ∨ ls.getD j 0 = n ∧ j < s then wordS ls j else ⟨#[]⟩
theorem someS_next (ls : List Nat) (n j : Nat) (hj : j < ls.length) : someS ls n ls.length j = someS ls (n + 1) 0 j := by
  unfold someS
  by_cases h : ls.getD j 0 < n ∨ ls.getD j 0 = n ∧ j < ls.length
  · rw [if_pos h, if_pos (by omega)]
  · rw [if_neg h, if_neg (by omega)]
theorem someS_skip (ls : List Nat) (n s j : Nat) (h0 : ls.getD s 0 ≠ n) : someS ls n s j = someS ls n (s + 1) j := by
  unfold someS
  by_cases hj : j = s
  · subst hj
    by_cases h : ls.getD j 0 < n
    · rw [if_pos (.inl h), if_pos (.inl h)]
    · rw [if_neg (by omega), if_neg (by omega)]
  · by_cases h : ls.getD j 0 < n ∨ ls.getD j 0 = n ∧ j < s
    · rw [if_pos h, if_pos (by omega)]
    · rw [if_neg h, if_neg (by omega)]
theorem someS_take (ls : List Nat) (n s j : Nat) (h0 : ls.getD s 0 = n) : (if j = s then wordS ls s else someS ls n s j) = someS ls n (s + 1) j := by
  unfold someS
  by_cases hj : j = s
  · subst hj
    rw [if_pos rfl, if_pos (by omega)]
  · rw [if_neg hj]
    by_cases h : ls.getD j 0 < n ∨ ls.getD j 0 = n ∧ j < s
    · rw [if_pos h, if_pos (by omega)]
    · rw [if_neg h, if_neg (by omega)]
theorem someS_first (ls : List Nat) (j : Nat) : someS ls 1 0 j = ⟨#[]⟩ := by
  unfold someS
  by_cases h : ls.getD j 0 = 0
  · rw [if_pos (by omega), wordS_none ls j h]
  · rw [if_neg (by omega)]
theorem someS_last (ls : List Nat) (h15 : ∀ x ∈ ls, x ≤ 15) (j : Nat) (hj : j < ls.length) : someS ls 16 0 j = wordS ls j := by
  unfold someS
  have := mem_15 ls h15 j hj
  rw [if_pos (by omega)]

theorem first_small (ls : List Nat) (h15 : ∀ x ∈ ls, x ≤ 15) (hk : kraftN ls ≤ 32768) (n : Nat) (hn : n ≤ 15) : firstN ls n + cntN ls n ≤ 32768 := by
  have h1 := first_add ls n hn (first_below ls n hn)
  have h2 := below_mono ls (show n + 1 ≤ 16 by omega)
  rw [← kraft_below ls h15] at h2
  have h3 : (firstN ls n + cntN ls n) * 1 ≤ (firstN ls n + cntN ls n) * 2 ^ (15 - n) := Nat.mul_le_mul_left _ (Nat.two_pow_pos _)
  omega
theorem count_take_step (ls : List Nat) (s n : Nat) (hs : s < ls.length) : (ls.take (s + 1)).count n = (ls.take s).count n + if ls.getD s 0 = n then 1 else 0 := by
  rw [← count_step ls s hs n]
  have e : ls.getD s 0 = ls[s] := by simp [hs]
  rw [e]
  by_cases h : n = ls[s]
  · rw [if_pos h, if_pos h.symm, h]
  · rw [if_neg h, if_neg (fun e => h e.symm)]; rfl

set_option maxHeartbeats 1000000 in
theorem refwords_calls (ls : List Nat) (v : Value) (w : World) (hv : Reads w v (intVs ls)) (h15 : ∀ x ∈ ls, x ≤ 15) (hn : ls.length ≤ 288) (hk : kraftN ls ≤ 32768) :
    Calls Try.prog 16 #[v] w fun e w' => ∃ r, e = .returned r ∧ Row w' 9 r (strTab ls.length (wordS ls)) ∧ Sep w.heap.size none r.ownBlock ∧ Touch (fun _ => False) w w' := by
  obtain ⟨i0, hi, hz0, hz1, hz2⟩ := info_parts Try.info9
  obtain ⟨a, cap, hvf, hcl1, hcl2⟩ := hv.form
  rw [intVs_length] at hvf hcl1
  unfold maxLen at hcl2
  have hcell : ∀ j, (hj : j < ls.length) → ∃ g off, a = some ⟨g, off, none⟩ ∧ ∀ W, Touch (fun _ => False) w W → W.cell? ⟨g, off + j, none⟩ = some (.int .i64 (ls.getD j 0 : Nat)) := fun j hj => by
    obtain ⟨g, off, cap', he, _, _, _, hc⟩ := hv.addr (by rw [intVs_length]; omega)
    rw [hvf] at he
    injection he with he1 _ _
    subst he1
    exact ⟨g, off, rfl, fun W hW => hW.cell (hc j _ (by simp [intVs, hj])) id⟩
  subst hvf
  clear hv
  have HFS := Lib.hid (first_small ls h15 hk)
  have HFIT := Lib.hid (fun s hs h0 => code_fits ls s hs h0 h15 hk)
  have H15 := Lib.hid h15
  clear h15 hk
  go_enter Try.func16, Try.ntmps16
  go_wp2_with (at_make; refine wpList_make_full _ rfl (.tmp 11) (.tmp 11) 33 rfl w.heap.size 9 i0 _ 1 Try.underlying33 hi hz0 hz1 .i64 .i64 _ _ ls.length rfl rfl rfl rfl (by rw [hz2]; omega) (by unfold maxLen; omega) (Nat.le_refl _) ?_; intro w2 hown hgrow; rw [made_strs] at hown; have hrow0 := Row.of_own hown; have hT0 := (Touch.refl (fun _ => False) w).grown hgrow (fun k h => by cases h))
  clear hown hgrow
  generalize hG : w.heap.size = G at hrow0
  have HG := Lib.hid hG
  clear hG
  go_loopw [4, 5, 6, 7, 8, 9] (fun nx i _ _ _ _ wr => ∃ n X : Nat, 1 ≤ n ∧ n ≤ 16 ∧ i = .int .i64 n ∧ nx = .int .i64 X ∧ X ≤ 32768 ∧ RowKit.Hid (X = firstN ls (n - 1) + cntN ls (n - 1)) ∧ Row wr 9 (.slice (some ⟨G, 0, none⟩) ls.length ls.length) (strTab ls.length (someS ls n 0)) ∧ Touch (fun _ => False) w wr) (fun _ i _ _ _ _ _ => 16 - (intOf i).toNat)
  case atStart => exact ⟨1, 0, by omega, by omega, rfl, rfl, by omega, Lib.hid rfl, by rw [strTab_congr _ _ _ (fun j _ => someS_first ls j)]; exact hrow0, hT0⟩
  case round =>
    clear hrow0 hT0
    obtain ⟨n, X, hn1, hn16, rfl, rfl, hX, HX, hrow, hT⟩ := hrel
    by_cases hlt : n ≤ 15
    · have HF := Lib.hid (show firstN ls n = 2 * X by rw [HX.out, show n = (n - 1) + 1 by omega, firstN]; rfl)
      have hfs := HFS.out n hlt
      rw [HF.out] at hfs
      have hlti : decide ((n : Int) ≤ 15) = true := by simp; omega
      go_wp2_with fail
      go_loopw [4, 6, 7, 8, 9] (fun nx i _ _ _ wr => ∃ k Y : Nat, k ≤ ls.length ∧ i = .int .i64 k ∧ nx = .int .i64 Y ∧ Y ≤ 32768 ∧ RowKit.Hid (Y = firstN ls n + (ls.take k).count n) ∧ Row wr 9 (.slice (some ⟨G, 0, none⟩) ls.length ls.length) (strTab ls.length (someS ls n k)) ∧ Touch (fun _ => False) w wr) (fun _ i _ _ _ _ => ls.length - (intOf i).toNat)
      case atStart => exact ⟨0, 2 * X, Nat.zero_le _, rfl, by go_num, by omega, Lib.hid (by rw [HF.out]; rfl), hrow, hT⟩
      case round =>
        clear hrow hT
        obtain ⟨k, Y, hk, rfl, rfl, hY, HY, hrow, hT⟩ := hrel
        by_cases hltk : k < ls.length
        · obtain ⟨g, off, rfl, hc⟩ := hcell k hltk
          have hc' := hc _ hT
          have HCT := Lib.hid (count_take_step ls k n hltk)
          have HCD := Lib.hid (show ls.getD k 0 = n → codeN ls k = Y from fun e => by unfold codeN; rw [e, HY.out])
          have hcf := HFIT.out k hltk
          have HS0 := Lib.hid (fun j => someS_skip ls n k j)
          have HS1 := Lib.hid (fun j => someS_take ls n k j)
          have HW := Lib.hid (show wordS ls k = bitsS (wordH (ls.getD k 0) (codeN ls k)) from rfl)
          generalize ls.getD k 0 = x at hc' HCT HCD hcf HS0 HS1 HW
          by_cases hx : x = n
          · subst hx
            have hcd := HCD.out rfl
            rw [hcd] at hcf HW
            have hYb : Y < 32768 := Nat.lt_of_lt_of_le (hcf (by omega)) (Nat.le_trans (Nat.pow_le_pow_right (by decide) hlt) (by decide))
            clear hc hcell hcf HCD hcd
            go_wp2_with fail
            obtain ⟨w5, hw5⟩ : ∃ w5, w5 = wr := ⟨_, rfl⟩
            go_loopw [7, 8, 9] (fun t m i w6 => ∃ (j M : Nat) (q : ByteArray), j ≤ x ∧ M < 32768 ∧ m = .int .i64 M ∧ t = .string q ∧ i = .int .i64 j ∧ RowKit.Hid (M = Y / 2 ^ j) ∧ RowKit.Hid (q = bitsS (wordH j Y)) ∧ q.size ≤ 15 ∧ Row w6 9 (.slice (some ⟨G, 0, none⟩) ls.length ls.length) (strTab ls.length (someS ls x k)) ∧ Touch (fun _ => False) w w6) (fun _ _ i _ => x - (intOf i).toNat)
            case atStart => exact ⟨0, Y, ⟨#[]⟩, Nat.zero_le _, hYb, rfl, rfl, rfl, Lib.hid (by simp), Lib.hid rfl, by decide, hrow, hT⟩
            case round =>
              clear hrow hT hw5 w5
              obtain ⟨j, M, q, hj, hM, rfl, rfl, rfl, HM, HQ, hq, hrow, hT⟩ := hrel
              by_cases hjx : j < x
              · obtain ⟨d, hd⟩ : ∃ d, d = M % 2 := ⟨_, rfl⟩
                have hd2 : d < 2 := by omega
                have hmod : (M : Int).tmod 2 = (d : Int) := by rw [Int.tmod_eq_emod_of_nonneg (by omega)]; omega
                have hdiv : (M : Int).tdiv 2 = ((M / 2 : Nat) : Int) := by rw [Int.tdiv_eq_ediv_of_nonneg (by omega)]; omega
                have hsz1 : (bitsS [d]).size = 1 := rfl
                have hconv := run_bit d hd2 wr
                have HD := Lib.hid hd
                clear hd
                go_wp2_with fail
                go_roundw
                case rel =>
                  refine ⟨j + 1, M / 2, bitsS [d] ++ q, by omega, by omega, by go_num, by first | rfl | trivial, by go_num, Lib.hid (by rw [HM.out, Nat.div_div_eq_div_mul, Nat.pow_succ]), Lib.hid ?_, ?_, ?_, hT.alloc _⟩
                  · rw [HQ.out, bitsS_append]
                    congr 1
                    unfold wordH
                    rw [bitsN_snoc, List.reverse_append, List.reverse_singleton, HD.out, HM.out]
                  · rw [HQ.out, bitsS_append, bitsS_size, List.length_append, wordH_length]; simp; omega
                  · exact hrow.kept (S := fun _ => False) ((Touch.refl _ _).alloc _) (fun _ _ => id)
                case measure => simp [intOf]; omega
              · obtain rfl : j = x := by omega
                have hfr := hrow.free (k := k)
                have hcr := (Row.cells hrow).2 k _ (strTab_get _ _ k hltk)
                rw [Nat.zero_add] at hfr hcr
                have hset := Lib.hid (hrow.set (k := k) hltk (.string q))
                have HT2 := Lib.hid (hT.setCell (p := ⟨G, k, none⟩) (.inr (by rw [HG.out]; exact Nat.le_refl _)) (.string q))
                generalize someS ls j k k = old at hcr
                clear hrow hT
                go_wp2_with fail
                go_roundw
                case rel =>
                  refine ⟨k + 1, Y + 1, by omega, by go_num, by go_num, by omega, Lib.hid (by rw [HCT.out, HY.out]; first | (rw [if_pos rfl]; omega) | (rw [if_pos trivial]; omega)), ?_, HT2.out⟩
                  have h1 := hset.out
                  rw [strTab_set, Nat.zero_add, HQ.out, ← HW.out, strTab_congr _ _ (someS ls j (k + 1)) (fun i _ => by first | exact HS1.out i rfl | exact HS1.out i trivial)] at h1
                  rw [HQ.out, ← HW.out]
                  exact h1
                case measure => simp [intOf]; omega
          · have hxi : ((x : Int) == (n : Int)) = false := by simp; omega
            clear hc hcell hcf HCD
            go_wp2_with fail
            go_roundw
            case rel =>
              refine ⟨k + 1, Y, by omega, by go_num, rfl, hY, Lib.hid (by rw [HCT.out, if_neg hx, HY.out]; rfl), ?_, hT⟩
              rw [strTab_congr _ _ _ (fun j _ => (HS0.out j hx).symm)]
              exact hrow
            case measure => simp [intOf]; omega
        · obtain rfl : k = ls.length := by omega
          go_wp2_with fail
          go_roundw
          case rel =>
            refine ⟨n + 1, Y, by omega, by omega, by go_num, rfl, hY, Lib.hid ?_, ?_, hT⟩
            · have h1 := HY.out
              rw [List.take_length] at h1
              rw [h1, show n + 1 - 1 = n by omega]
              unfold cntN
              rw [if_neg (by omega)]
            · rw [strTab_congr _ _ _ (fun j hj => (someS_next ls n j hj).symm)]
              exact hrow
          case measure => simp [intOf]; omega
    · obtain rfl : n = 16 := by omega
      go_wp2_with fail
      go_ret
      refine ⟨_, rfl, ?_, ?_, hT⟩
      · rw [strTab_congr _ _ _ (fun j hj => (someS_last ls H15.out j hj).symm)]; exact hrow
      · exact .inr ⟨G, rfl, by rw [HG.out]; exact Nat.le_refl _⟩
end Go.Proofs.Ytmeidbggebcddaa

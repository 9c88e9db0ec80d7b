
/- Contracts of the document's own answers of layer 1 that read and make lists of bits, over the translated program. -/
import Derived.Test.YtimiiahhedpfaaaBitsN
namespace Go.Proofs.Ytimiiahhedpfaaa
open Go Go.RowKit
set_option maxRecDepth 100000

theorem Try.info3 : (Try.prog.info? 3).map (fun i => (i.zero, i.size, i.bytes)) = some (some (.int .i64 0), 1, 8) := by kernel_rfl

theorem intVs_snoc (l : List Nat) (b : Nat) : intVs l ++ [Value.int .i64 (b : Int)] = intVs (l ++ [b]) := by simp [intVs]

/-- A row of ints behind one number more. -/
theorem own_sep {n m : Nat} {a b : Option Nat} (h : Sep n none a) (k : b = a ∨ b = some m) (hm : n ≤ m) : Sep n none b := by
  rcases k with rfl | rfl
  · exact h
  · exact .inr ⟨m, rfl, hm⟩
theorem sep_grown {w wr w2 : World} {row : Option Nat} (ht : Touch (fun _ => False) w wr) (hs : Sep w.heap.size none row) (hg : wr.grownBy w2 row) : Touch (fun _ => False) w w2 :=
  ht.grown hg (fun k hk => by
    rcases hs with h | ⟨g, h, hg⟩
    · rw [h] at hk; cases hk
    · rw [h] at hk; injection hk with hk; right; omega)

set_option maxHeartbeats 800000 in
theorem bits_calls (s : ByteArray) (w : World) (hs : s.size ≤ 1048576) :
    Calls Try.prog 43 #[.string s] w fun e w' => ∃ r, e = .returned r ∧ Row w' 3 r (intVs (bitsL s.data.toList)) ∧ Sep w.heap.size none r.ownBlock ∧ Touch (fun _ => False) w w' := by
  obtain ⟨i0, hi, hz0, hz1, hz2⟩ := info_parts Try.info3
  have HSZ := Lib.hid (data_length s)
  go_enter Try.func43, Try.ntmps43
  go_wp2
  go_loopw [3, 4] (fun r i wr => ∃ (j : Nat) (rv : Value), j ≤ s.size ∧ rv = r ∧ i = .int .i64 j ∧ Row wr 3 rv (intVs (bitsL (s.data.toList.take j))) ∧ Sep w.heap.size none rv.ownBlock ∧ Touch (fun _ => False) w wr) (fun _ i _ => s.size - (intOf i).toNat)
  case atStart => exact ⟨0, _, Nat.zero_le _, rfl, rfl, Row.nil _ _, .inl rfl, Touch.refl _ _⟩
  case round =>
    obtain ⟨j, rv, hj, rfl, rfl, hrow, hsep, ht⟩ := hrel
    have HSEP := Lib.hid hsep
    clear hsep
    by_cases hlt : j < s.size
    · have hjd : j < s.data.toList.length := by rw [HSZ.out]; exact hlt
      have HT := Lib.hid (show bitsL (s.data.toList.take (j + 1)) = bitsL (s.data.toList.take j) ++ bitsN 8 s[j].toNat from bitsL_take_succ s.data.toList j hjd)
      have hc := s[j].toNat_lt
      have htl := Lib.hid (show (s.data.toList.take j).length = j by rw [List.length_take]; omega)
      obtain ⟨wo, rfl⟩ : ∃ wo : World, wo = wr := ⟨_, rfl⟩
      go_wp2
      go_loopw [3, 5, 6] (fun r x i wr => ∃ (k m : Nat) (rv2 : Value), k ≤ 8 ∧ m = s[j].toNat / 2 ^ k ∧ rv2 = r ∧ x = .int .i64 m ∧ i = .int .i64 k ∧ Row wr 3 rv2 (intVs (bitsL (s.data.toList.take j) ++ bitsN k s[j].toNat)) ∧ Sep w.heap.size none rv2.ownBlock ∧ Touch (fun _ => False) w wr) (fun _ _ i _ => 8 - (intOf i).toNat)
      case atStart => exact ⟨0, s[j].toNat, _, Nat.zero_le _, by simp, rfl, rfl, rfl, by simpa [bitsN] using hrow, HSEP.out, ht⟩
      case round =>
        clear hrow ht
        obtain ⟨k, m, rv2, hk, hm, rfl, rfl, rfl, hrow, hsep, ht⟩ := hrel
        have HSEP2 := Lib.hid hsep
        have hml : m < 256 := by rw [hm]; exact Nat.lt_of_le_of_lt (Nat.div_le_self _ _) hc
        have HM := Lib.hid hm
        clear hm hsep
        by_cases hlk : k < 8
        · go_wp2_with (at_builtin; refine wpList_append_row _ rfl (.tmp 21) (.tmp 24) 50 50 rfl 3 i0 _ 8 Try.underlying50 hi hz0 hz1 hz2 rfl rv2 (intVs (bitsL (s.data.toList.take j) ++ bitsN k s[j].toNat)) rfl (by exact hrow.kept (S := fun _ => False) ((Touch.refl _ _).alloc _) (fun _ _ => id)) (.slice (some ⟨wr.heap.size, 0, none⟩) 1 1) rfl 1 [.int .i64 ((m : Int) % 2)] (by exact Src.ofCell Try.underlying50 (heap_alloc_new wr _) rfl) (by rw [intVs_length, List.length_append, bitsL_length, bitsN_length, htl.out]; unfold maxLen; omega) (by rw [intVs_length, List.length_append, bitsL_length, bitsN_length, htl.out]; omega) ?_; intro v2 w2 hrow2 hgrow hown2)
          go_roundw
          case rel =>
            refine ⟨k + 1, m / 2, _, by omega, by rw [HM.out, Nat.div_div_eq_div_mul, Nat.pow_succ], rfl, by go_num, by go_num, ?_, own_sep HSEP2.out hown2 (by have := ht.size; simp; omega), sep_grown (ht.alloc _) HSEP2.out hgrow⟩
            have e : (m : Int) % 2 = ((m % 2 : Nat) : Int) := by omega
            rw [e, intVs_snoc, HM.out, List.append_assoc, ← bitsN_snoc] at hrow2
            exact hrow2
          case measure => simp [intOf]; omega
        · obtain rfl : k = 8 := by omega
          rw [← HT.out] at hrow
          go_wp2
          go_roundw
          case rel => exact ⟨j + 1, _, by omega, rfl, by go_num, hrow, HSEP2.out, ht⟩
          case measure => simp [intOf]; omega
    · obtain rfl : j = s.size := by omega
      rw [← HSZ.out, List.take_length] at hrow
      go_wp2
      go_ret
      exact ⟨_, rfl, hrow, HSEP.out, ht⟩

theorem numN_step (l : List Nat) (k : Nat) (h0 : 0 < k) (hk : k ≤ l.length) (hl : l.length ≤ 64) (h2 : ∀ x ∈ l, x < 2) :
    IntKind.u64.wrap (IntKind.u64.wrap (2 * ((numN (l.drop k) : Nat) : Int)) + IntKind.u64.wrap ((l[k - 1]'(by omega) : Nat) : Int)) = ((numN (l.drop (k - 1)) : Nat) : Int) := by
  have h1 := numN_lt (l.drop k) (fun x hx => h2 x (List.mem_of_mem_drop hx))
  rw [List.length_drop] at h1
  have h3 : 2 ^ (l.length - k) ≤ 2 ^ 63 := Nat.pow_le_pow_right (by decide) (by omega)
  have h4 := h2 _ (List.getElem_mem (show k - 1 < l.length by omega))
  rw [numN_drop_pred l k h0 hk, show (2 : Int) * ((numN (l.drop k) : Nat) : Int) = ((2 * numN (l.drop k) : Nat) : Int) by simp, wrap_u64_in _ (by omega), wrap_u64_in _ (by omega),
    show ((2 * numN (l.drop k) : Nat) : Int) + ((l[k - 1]'(by omega) : Nat) : Int) = ((2 * numN (l.drop k) + l[k - 1]'(by omega) : Nat) : Int) by simp, wrap_u64_in _ (by omega)]

set_option maxHeartbeats 400000 in
theorem number_calls (l : List Nat) (r : Value) (w : World) (hrow : Row w 3 r (intVs l)) (hl : l.length ≤ 64) (h2 : ∀ x ∈ l, x < 2) :
    Calls Try.prog 47 #[r] w fun e w' => e = .returned (.int .u64 (numN l)) ∧ w = w' := by
  by_cases h0 : 0 < l.length
  · obtain ⟨g, off, cap, hv, hcap, hg, hcells⟩ := hrow.addr (by rw [intVs_length]; exact h0)
    rw [intVs_length] at hv hcap
    subst hv
    go_enter Try.func47, Try.ntmps47
    go_wp2
    go_loop [3, 4] (fun t i => ∃ k : Nat, k ≤ l.length ∧ i = .int .i64 ((k : Int) - 1) ∧ t = .int .u64 (numN (l.drop k))) (fun _ i => ((intOf i) + 1).toNat)
    case atStart => exact ⟨l.length, Nat.le_refl _, rfl, by rw [List.drop_length]; rfl⟩
    case round =>
      obtain ⟨k, hk, rfl, rfl⟩ := hrel
      by_cases hlt : 0 < k
      · have hcell := hcells (k - 1) (.int .i64 (l[k - 1] : Nat)) (by simp [intVs, show k - 1 < l.length by omega])
        have hx := Lib.hid (numN_step l k hlt hk hl h2)
        clear hcells
        go_wp2
        go_round
        case rel => exact ⟨k - 1, by omega, by go_num, by rw [hx.out]⟩
        case measure => simp [intOf]; omega
      · obtain rfl : k = 0 := by omega
        go_wp2
        go_ret
        exact ⟨rfl, rfl⟩
  · obtain rfl : l = [] := List.eq_nil_of_length_eq_zero (by omega)
    obtain ⟨a, cap, hv, _⟩ := hrow.form
    subst hv
    go_enter Try.func47, Try.ntmps47
    go_wp2
    go_loop [3, 4] (fun t i => t = .int .u64 0 ∧ i = .int .i64 (-1)) (fun _ _ => 0)
    case atStart => exact ⟨rfl, by simp [intVs, wrap64]⟩
    case round =>
      obtain ⟨rfl, rfl⟩ := hrel
      go_wp2
      go_ret
      exact ⟨rfl, rfl⟩
theorem Row.mid {w : World} {e : TypeId} {g off n cap lo m : Nat} {xs : List Value} (h : Row w e (.slice (some ⟨g, off, none⟩) n cap) xs) (hm : lo + m ≤ n) :
    Row w e (.slice (some ⟨g, off + lo, none⟩) m (cap - lo)) ((xs.drop lo).take m) := by
  rcases h with ⟨hv, _⟩ | ⟨g', off', cap', cur, hv, hh, h1, h2, h3, h4⟩
  · cases hv
  · cases hv
    have hl : ((xs.drop lo).take m).length = m := by rw [List.length_take, List.length_drop]; omega
    refine .inr ⟨g, off + lo, cap - lo, cur, by rw [hl], hh, by rw [hl]; omega, by omega, by omega, ?_⟩
    rw [hl]
    have h5 := congrArg (fun l => (l.drop lo).take m) h4
    simp only [List.drop_take, List.take_take, List.drop_drop] at h5
    rw [Nat.min_eq_left (by omega)] at h5
    exact h5

theorem run_one_byte' (c : Nat) (hc : c < 256) (W : World) :
    (convert 56 9 (.slice (some ⟨W.heap.size, 0, none⟩) 1 1)).run Try.prog (W.alloc (.cells #[.int .u8 (c : Int)] 5)) = .ok (.string ⟨#[UInt8.ofNat c]⟩) (W.alloc (.cells #[.int .u8 (c : Int)] 5)) := by
  have h := run_one_byte c W
  rw [show (c : Int) % 256 = (c : Int) by omega, Nat.mod_eq_of_lt hc] at h
  exact h

theorem row_cap {w : World} {e : TypeId} {a : Option Addr} {n cap : Nat} {xs : List Value} (h : Row w e (.slice a n cap) xs) : cap ≤ maxLen := by
  obtain ⟨a', cap', hv, _, h2⟩ := h.form
  injection hv with _ _ h3
  rw [h3]; exact h2

set_option maxHeartbeats 800000 in
theorem bytes_calls (l : List Nat) (r : Value) (w : World) (hrow : Row w 3 r (intVs l)) (hl : l.length ≤ 1048576) (h2 : ∀ x ∈ l, x < 2) :
    Calls Try.prog 44 #[r] w fun e w' => e = .returned (.string ⟨(bytesL l).toArray⟩) ∧ Touch (fun _ => False) w w' := by
  by_cases h0 : 0 < l.length
  · obtain ⟨g, off, cap, hv, hcap, hg, hcells⟩ := hrow.addr (by rw [intVs_length]; exact h0)
    rw [intVs_length] at hv hcap
    subst hv
    clear hcells
    have hc2 := row_cap hrow
    unfold maxLen at hc2
    go_enter Try.func44, Try.ntmps44
    go_wp2
    go_loopw [3, 4] (fun t i wr => ∃ (k : Nat) (q : ByteArray), 8 * k ≤ l.length ∧ q.data.toList = bytesK k l ∧ t = .string q ∧ i = .int .i64 (8 * (k : Int)) ∧ Touch (fun _ => False) w wr) (fun _ i _ => l.length - (intOf i).toNat)
    case atStart => exact ⟨0, ⟨#[]⟩, Nat.zero_le _, rfl, rfl, rfl, Touch.refl _ _⟩
    case round =>
      obtain ⟨k, q, hk, hq, rfl, rfl, ht⟩ := hrel
      have hqs : q.size ≤ 1048576 := by rw [← data_length, hq, bytesK_length]; omega
      have HQ := Lib.hid hq
      clear hq
      by_cases hlt : 8 * k + 8 ≤ l.length
      · have hm := (hrow.kept ht (fun _ _ => id)).mid (lo := 8 * k) (m := 8) hlt
        have em : ((intVs l).drop (8 * k)).take 8 = intVs ((l.drop (8 * k)).take 8) := by simp [intVs, List.map_take, List.map_drop]
        rw [em] at hm
        have h2' : ∀ x ∈ (l.drop (8 * k)).take 8, x < 2 := fun x hx => h2 x (List.mem_of_mem_drop (List.mem_of_mem_take hx))
        have hlen : ((l.drop (8 * k)).take 8).length = 8 := by rw [List.length_take, List.length_drop]; omega
        have hb := numN_lt _ h2'
        rw [hlen] at hb
        have HS := Lib.hid (bytesK_snoc k l)
        have HN := Lib.hid (number_calls _ _ wr hm (by omega) h2')
        clear hm em h2' hlen
        generalize hc : numN ((l.drop (8 * k)).take 8) = c at hb HS HN
        have HC := Lib.hid hc
        clear hc
        have hconv := run_one_byte' c hb wr
        go_wp2_with fail
        refine HN.out.mono ?_
        rintro e w' ⟨rfl, rfl⟩
        go_wp2
        go_roundw
        case rel => exact ⟨k + 1, _, by omega, by rw [HS.out, ByteArray.data_append, Array.toList_append, HQ.out], rfl, by go_num, ht.alloc _⟩
        case measure => simp [intOf]; omega
      · obtain rfl : k = l.length / 8 := by omega
        go_wp2
        go_ret
        exact ⟨ret1 (str_eq HQ.out), ht⟩
  · obtain rfl : l = [] := List.eq_nil_of_length_eq_zero (by omega)
    obtain ⟨a, cap, hv, _⟩ := hrow.form
    subst hv
    go_enter Try.func44, Try.ntmps44
    go_wp2
    go_loop [3, 4] (fun t i => t = .string ⟨#[]⟩ ∧ i = .int .i64 0) (fun _ _ => 0)
    case atStart => exact ⟨rfl, rfl⟩
    case round =>
      obtain ⟨rfl, rfl⟩ := hrel
      go_wp2
      go_ret
      exact ⟨rfl, Touch.refl _ _⟩

end Go.Proofs.Ytimiiahhedpfaaa

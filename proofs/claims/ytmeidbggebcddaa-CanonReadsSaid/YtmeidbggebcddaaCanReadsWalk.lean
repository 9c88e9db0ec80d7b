/- The walk of layer 3's statement on the symbols that any bits tell. -/
import Derived.Test.YtmeidbggebcddaaCanZ
import Derived.Test.YtmeidbggebcddaaCanBackWalk
namespace Go.Proofs.Ytmeidbggebcddaa
open Go Go.RowKit
set_option maxRecDepth 100000

theorem and7_i64 (x : Int) : bits .and .i64 x 7 = x % 8 := by
  show IntKind.i64.wrap ((BitVec.ofInt 64 x &&& BitVec.ofInt 64 ((7 : Nat) : Int)).toNat : Int) = _
  rw [BitVec.toNat_and, ofInt_u64 7 (by decide), BitVec.toNat_ofInt, show (7 : Nat) = 2 ^ 3 - 1 from rfl, Nat.and_two_pow_sub_one_eq_mod]
  simp [IntKind.wrap, IntKind.bits, IntKind.signed]
  omega


theorem found_short (ls l : List Nat) (h15 : ∀ x ∈ ls, x ≤ 15) (s : Nat) : FoundAt ls (l.take 15) s ↔ FoundAt ls l s := by
  constructor
  · rintro ⟨h1, h2, h3, h4⟩
    have h5 := mem_15 ls h15 s h1
    rw [List.length_take] at h3
    rw [List.take_take, Nat.min_eq_left h5] at h4
    exact ⟨h1, h2, by omega, h4⟩
  · rintro ⟨h1, h2, h3, h4⟩
    have h5 := mem_15 ls h15 s h1
    exact ⟨h1, h2, by rw [List.length_take]; omega, by rw [List.take_take, Nat.min_eq_left h5]; exact h4⟩
theorem comes_short (ls l : List Nat) (h15 : ∀ x ∈ ls, x ≤ 15) : ComesAt ls (l.take 15) ↔ ComesAt ls l := by
  constructor
  · rintro ⟨s, h1, h2, h3, h4⟩
    have h5 := mem_15 ls h15 s h1
    have h6 : l.take 15 = l := List.take_of_length_le (by rw [List.length_take] at h3; omega)
    rw [h6] at h3 h4
    exact ⟨s, h1, h2, h3, h4⟩
  · rintro ⟨s, h1, h2, h3, h4⟩
    have h5 := mem_15 ls h15 s h1
    have h6 : l.take 15 = l := List.take_of_length_le (by omega)
    exact ⟨s, h1, h2, by rw [h6]; exact h3, by rw [h6]; exact h4⟩
theorem read_any (b o n : Nat) (l : List Nat) (row : Option Nat) (w : World) (h : RdAt w b o l row) (hl : l.length < 562949953421312) (hn : n ≤ 32) (h8 : l = [] ∨ n ≤ l.length) :
    Calls Try.prog 19 #[.pointer (some ⟨b, o, none⟩), .int .i64 n] w fun e w' => (∃ (V : Nat) (B : Bool), e = .returned (.tuple #[.int .u64 V, .bool B])) ∧ RdAt w' b o (l.drop n) row ∧ Touch (fun k => k = b) w w' := by
  by_cases hle : n ≤ l.length
  · exact (read_some b o n l row w h hl hn hle).mono fun e w' ⟨h1, h2, h3⟩ => ⟨⟨_, _, h1⟩, h2, h3⟩
  · obtain rfl : l = [] := h8.resolve_right hle
    exact (read_less b o n [] row w h hl hn (by omega)).mono fun e w' ⟨h1, h2⟩ => ⟨⟨0, _, h1⟩, by rw [h2, List.drop_nil]; exact h.kept (Touch.refl (fun _ => False) _).drew id (fun _ _ => id), by rw [h2]; exact (Touch.refl _ _).drew⟩

/-- A Reader of some bits that came since w1, each nought or one, not too many. -/
structure RdBits (w1 wr : World) (b : Nat) (l : List Nat) (row : Option Nat) : Prop where
  fr : FrR w1 wr b l row
  two : ∀ x ∈ l, x < 2
  few : l.length ≤ 480

set_option maxHeartbeats 4000000 in
theorem creads_calls (xs : List Int) (s : ByteArray) (z : Int) (v : Value) (w : World) (hv : Reads w v (intsV xs)) (hs : s.size ≤ maxLen) (hz : -9223372036854775808 ≤ z ∧ z ≤ 9223372036854775807) :
    Calls Try.prog 4 #[v, .string s, .int .i64 z] w fun e w' => e = .returned (.bool true) ∧ Touch (fun _ => False) w w' := by
  unfold maxLen at hs
  obtain ⟨a, cap, hvf, hxl⟩ := ints_form hv
  subst hvf
  go_enter Try.func4, Try.ntmps4
  go_wp2_with fail
  refine (speaks3_calls w).mono ?_
  rintro e w1 ⟨rfl, ht1⟩
  go_wp2_with fail
  refine (new_calls xs true _ w1 (hv.still ht1)).mono ?_
  rintro e w2 ⟨ht2, ⟨hne, rfl⟩ | ⟨hw0, hxs, b, rfl, hC⟩⟩
  · have hne' : ((whyN xs true : Nat) : Int) ≠ 0 := by omega
    have HT := Lib.hid (ht1.trans ht2)
    clear ht1 ht2 hne
    generalize ((whyN xs true : Nat) : Int) = q at hne'
    go_wp2_with fail
    go_ret
    exact ⟨rfl, HT.out⟩
  · have hwh := whole_why xs true hw0
    have hT := ht1.trans ht2
    have hlen : (xs.map Int.toNat).length = xs.length := List.length_map ..
    have hv2 : Reads w2 (.slice a xs.length cap) (intVs (xs.map Int.toNat)) := by
      have h := hv.still hT
      rw [hxs, intsV_nat] at h
      rw [List.length_map, hlen] at h
      exact h
    clear hw0 hxs hv ht1 ht2
    generalize xs.map Int.toNat = ls at hC hwh hlen hv2
    have H15 := Lib.hid hC.h15
    have HK := Lib.hid hC.hk
    have hln := hC.hn
    have HWH := Lib.hid hwh
    have hrw := Lib.hid (refwords_calls ls _ w2 hv2 hC.h15 hC.hn hC.hk)
    generalize w1.heap.size = n0 at hC
    have HC := Lib.hid hC
    have HT := Lib.hid hT
    generalize hn1 : w2.heap.size = B at HC
    have HN1 := Lib.hid hn1
    clear hC hwh hv2 hlen hT hn1
    go_wp2_with fail
    refine hrw.out.mono ?_
    rintro e w3 ⟨rw3, rfl, hw3, _, ht3⟩
    obtain ⟨aw, cw, hrf, _, _⟩ := hw3.form
    rw [strTab_length] at hrf
    subst hrf
    have HW3 := Lib.hid hw3
    have HC3 := Lib.hid (HC.out.still ht3)
    have HT3 := Lib.hid (HT.out.trans ht3)
    have hB3 := ht3.size
    rw [HN1.out] at hB3
    clear hw3 ht3 hrw HC HT
    by_cases h60 : s.size ≤ 60
    · obtain ⟨T, hTs⟩ : ∃ T, T = s := ⟨_, rfl⟩
      subst hTs
      have hT60 : T.size ≤ 60 := h60
      go_wp2_with fail
      have hl0len := bitsL_length T.data.toList
      rw [data_length] at hl0len
      have HL2 := Lib.hid (bitsL_lt T.data.toList)
      have hfe := Lib.hid (feed_calls w3.heap.size 0 T [] none _ (RdAt.new w3) (by show 0 + 8 * T.size < _; omega))
      have HBC := Lib.hid (fun W => bits_calls T W (by omega))
      have HALT := Lib.hid (List.take_length (l := bitsL T.data.toList))
      have HF0 := Lib.hid (FrR.new w3)
      refine hfe.out.mono ?_
      rintro e w4 ⟨rfl, row4, h1, h2, h3⟩
      have HF4 := Lib.hid (HF0.out.step h1 h2 h3)
      rw [List.nil_append] at HF4
      clear h1 h2 h3 hfe HF0
      generalize hl0 : bitsL T.data.toList = l0 at hl0len HL2 HF4 HBC HALT
      clear hl0
      have hl0b : l0.length ≤ 480 := by omega
      have HL0 := Lib.hid hl0len
      have HLB := Lib.hid hl0b
      obtain ⟨n, hn⟩ : ∃ n : Nat, (n : Int) = z % 8 := ⟨(z % 8).toNat, by omega⟩
      have hand : bits .and .i64 z 7 = (n : Int) := by rw [and7_i64, hn]
      have hn8 : n < 8 := by omega
      have h80 : l0 = [] ∨ n ≤ l0.length := by
        by_cases h : T.size = 0
        · left; exact List.eq_nil_of_length_eq_zero (by omega)
        · right; omega
      have hrd := Lib.hid (read_any w3.heap.size 0 n l0 row4 w4 HF4.out.at_ (by omega) (by omega) h80)
      clear hn h80 hl0len
      go_wp2_with fail
      refine hrd.out.mono ?_
      rintro e w5 ⟨⟨V5, B5, rfl⟩, h1, h2⟩
      have HF5 := Lib.hid (HF4.out.step1 h1 h2)
      clear h1 h2 hrd HF4
      go_wp2_with fail
      refine (HBC.out w5).mono ?_
      rintro e w6 ⟨rv6, rfl, hr6, hs6, ht6⟩
      have HF6 := Lib.hid (HF5.out.kept ht6)
      have HR6 := Lib.hid hr6
      obtain ⟨a6, c6, hrf6, hc61, hc62⟩ := hr6.form
      rw [intVs_length] at hrf6
      subst hrf6
      clear hr6 hs6 ht6 HF5 HBC hc61 hc62
      generalize hRB : w3.heap.size = rb at HF6 hB3 ⊢
      clear hRB
      have hself := Lib.hid (Touch.refl (fun _ => False) w6)
      go_wp2_with fail
      go_loopw [11, 13] (fun al i wr => ∃ (k : Nat) (q : ByteArray), k ≤ l0.length ∧ i = .int .i64 k ∧ al = .string q ∧ q.size ≤ 480 ∧ RowKit.Hid (q = bitsS (l0.take k)) ∧ RowKit.Hid (Touch (fun _ => False) w6 wr)) (fun _ i _ => l0.length - (intOf i).toNat)
      case atStart => exact ⟨0, ⟨#[]⟩, Nat.zero_le _, rfl, rfl, by decide, Lib.hid rfl, hself⟩
      case round =>
        obtain ⟨k, q, hk, rfl, rfl, hq, HQ, HS⟩ := hrel
        by_cases hlt : k < l0.length
        · obtain ⟨g6, o6, e6, hc6⟩ := row_at HR6.out k (.int .i64 (l0[k] : Nat)) (by simp [intVs, hlt])
          subst e6
          have hx2 := HL2.out _ (List.getElem_mem hlt)
          have hc6' := HS.out.cell hc6 id
          have HTK := Lib.hid (List.take_succ_eq_append_getElem hlt)
          generalize l0[k] = x at hx2 hc6' HTK
          have hconv := run_bit x hx2 wr
          have hsz1 : (bitsS [x]).size = 1 := rfl
          clear hc6
          go_wp2_with fail
          go_roundw
          case rel => exact ⟨k + 1, q ++ bitsS [x], by omega, by go_num, by go_num, by rw [HQ.out, bitsS_append, bitsS_size, List.length_append, List.length_take]; simp; omega, Lib.hid (by rw [HQ.out, bitsS_append, HTK.out]), Lib.hid (HS.out.alloc _)⟩
          case measure => simp [intOf]; omega
        · obtain rfl : k = l0.length := by omega
          have hqq : q = bitsS l0 := by rw [HQ.out, HALT.out]
          subst hqq
          have hszq := bitsS_size l0
          have HF9 := Lib.hid (HF6.out.kept HS.out)
          clear HF6 HR6 hself HQ HS
          by_cases hT0 : T.size = 0
          · obtain rfl : l0 = [] := List.eq_nil_of_length_eq_zero (by have := HL0.out; omega)
            rw [List.drop_nil] at HF9
            have HRB := Lib.hid (show RdBits w3 wr rb [] row4 from ⟨HF9.out, (fun x hx => (by cases hx)), Nat.zero_le _⟩)
            have HALL := Lib.hid (show Value.string ⟨#[]⟩ = Value.string (bitsS []) from rfl)
            clear HF9
            go_wp2_with fail
            all_goals
              go_loopw [6, 11, 14, 15, 16, 17] (fun r al i _ _ _ wr => r = .bool false ∧ ∃ (k : Nat) (l : List Nat), k ≤ 500 ∧ i = .int .i64 k ∧ al = .string (bitsS l) ∧ RowKit.Hid (RdBits w3 wr rb l row4)) (fun _ _ i _ _ _ _ => 500 - (intOf i).toNat)
              case atStart => exact ⟨by first | rfl | trivial, 0, _, by omega, rfl, by first | rfl | exact HALL.out, HRB.out⟩
              case round =>
                clear HRB HALL
                obtain ⟨rfl, k, l, hk, rfl, rfl, HRB⟩ := hrel
                by_cases hlt : k < 500
                · have hbits := HRB.out
                  have hnx := Lib.hid (next_calls b n0 B ls rb 0 l row4 wr (HC3.out.still hbits.fr.touch) HWH.out hbits.fr.at_ hbits.two (by have := hbits.few; omega) (fun e => by have := hbits.fr.fresh; omega))
                  clear hbits
                  go_wp2_with fail
                  refine hnx.out.mono ?_
                  rintro e w7 (⟨s7, hf7, rfl, hr7, ht7⟩ | ⟨hn7, hc7, rfl, hr7, ht7⟩ | ⟨hn7, hc7, rfl, hr7, ht7⟩)
                  · have hbits := HRB.out
                    have HF8 := Lib.hid (hbits.fr.step1 hr7 ht7)
                    have HTW := Lib.hid HF8.out.touch
                    clear hr7 ht7 hnx
                    have hfew1 := hbits.few
                    have hszl := bitsS_size l
                    by_cases h15l : l.length ≤ 15
                    · have hfind := Lib.hid (find_calls ls (l.take 15) _ _ (HW3.out.reads.still HTW.out) H15.out hln (fun x hx => hbits.two x (List.mem_of_mem_take hx)) (by rw [List.length_take]; omega))
                      rw [List.take_of_length_le (l := l) (i := 15) h15l] at hfind
                      have hx15 : (bitsS l).extract 0 l.length = bitsS l := by rw [bitsS_take, List.take_length]
                      go_wp2_with fail
                      refine hfind.out.mono ?_
                      rintro e w8 ⟨rfl, ⟨t, hft, rfl⟩ | ⟨hn8, hc8, rfl⟩ | ⟨hn8, hc8, rfl⟩⟩
                      · obtain rfl : t = s7 := found_one ls l H15.out HK.out hbits.two (hft) hf7
                        obtain ⟨gw, ow, ew, hcw⟩ := reads_at HW3.out.reads t _ (strTab_get _ _ t hf7.1)
                        subst ew
                        have hcw' := hcw _ HTW.out
                        have hws : (wordS ls t).size = ls.getD t 0 := by unfold wordS; rw [bitsS_size, wordH_length]
                        have hle7 := hf7.2.2.1
                        have hts := hf7.1
                        have hlen2 : (l.drop (ls.getD t 0)).length = l.length - ls.getD t 0 := List.length_drop ..
                        have hleft := Lib.hid (left_calls rb 0 (l.drop (ls.getD t 0)) row4 _ HF8.out.at_ (by have := hbits.few; omega))
                        have hex := bitsS_drop l (ls.getD t 0) l.length rfl
                        have hsz2 := bitsS_size (l.drop (ls.getD t 0))
                        have HB2 := Lib.hid (show ∀ x ∈ l.drop (ls.getD t 0), x < 2 from fun x hx => hbits.two x (List.mem_of_mem_drop hx))
                        have hfew := hbits.few
                        rw [hlen2] at hleft hsz2
                        clear hft hf7 hfind hcw hbits hlen2
                        generalize wordS ls t = S at hcw' hws
                        generalize hnn : ls.getD t 0 = n at *
                        have HF9 := Lib.hid (HF8.out.kept ((Touch.refl (fun _ => False) _).drew))
                        generalize hlt2 : l.drop n = l2 at *
                        have hl2 : l2.length ≤ 480 := by rw [← hlt2, List.length_drop]; omega
                        obtain ⟨d, hd⟩ : ∃ d, d = l.length - n := ⟨_, rfl⟩
                        rw [← hd] at hsz2 hleft
                        clear hnn hlt2 HF8
                        go_wp2_with fail
                        refine hleft.out.mono ?_
                        rintro e w10 ⟨rfl, rfl⟩
                        go_wp2_with fail
                        go_roundw
                        case rel => exact ⟨by first | rfl | trivial, k + 1, l2, by omega, by go_num, by first | rfl | trivial, Lib.hid ⟨HF9.out, HB2.out, hl2⟩⟩
                        case measure => simp [intOf]; omega
                      · exact absurd (hf7) (hn8 s7)
                      · exact absurd (hf7) (hn8 s7)
                    · have hfind := Lib.hid (find_calls ls (l.take 15) _ _ (HW3.out.reads.still HTW.out) H15.out hln (fun x hx => hbits.two x (List.mem_of_mem_take hx)) (by rw [List.length_take]; omega))
                      have hx15 := bitsS_take l 15
                      go_wp2_with fail
                      refine hfind.out.mono ?_
                      rintro e w8 ⟨rfl, ⟨t, hft, rfl⟩ | ⟨hn8, hc8, rfl⟩ | ⟨hn8, hc8, rfl⟩⟩
                      · obtain rfl : t = s7 := found_one ls l H15.out HK.out hbits.two ((found_short ls l H15.out t).1 hft) hf7
                        obtain ⟨gw, ow, ew, hcw⟩ := reads_at HW3.out.reads t _ (strTab_get _ _ t hf7.1)
                        subst ew
                        have hcw' := hcw _ HTW.out
                        have hws : (wordS ls t).size = ls.getD t 0 := by unfold wordS; rw [bitsS_size, wordH_length]
                        have hle7 := hf7.2.2.1
                        have hts := hf7.1
                        have hlen2 : (l.drop (ls.getD t 0)).length = l.length - ls.getD t 0 := List.length_drop ..
                        have hleft := Lib.hid (left_calls rb 0 (l.drop (ls.getD t 0)) row4 _ HF8.out.at_ (by have := hbits.few; omega))
                        have hex := bitsS_drop l (ls.getD t 0) l.length rfl
                        have hsz2 := bitsS_size (l.drop (ls.getD t 0))
                        have HB2 := Lib.hid (show ∀ x ∈ l.drop (ls.getD t 0), x < 2 from fun x hx => hbits.two x (List.mem_of_mem_drop hx))
                        have hfew := hbits.few
                        rw [hlen2] at hleft hsz2
                        clear hft hf7 hfind hcw hbits hlen2
                        generalize wordS ls t = S at hcw' hws
                        generalize hnn : ls.getD t 0 = n at *
                        have HF9 := Lib.hid (HF8.out.kept ((Touch.refl (fun _ => False) _).drew))
                        generalize hlt2 : l.drop n = l2 at *
                        have hl2 : l2.length ≤ 480 := by rw [← hlt2, List.length_drop]; omega
                        obtain ⟨d, hd⟩ : ∃ d, d = l.length - n := ⟨_, rfl⟩
                        rw [← hd] at hsz2 hleft
                        clear hnn hlt2 HF8
                        go_wp2_with fail
                        refine hleft.out.mono ?_
                        rintro e w10 ⟨rfl, rfl⟩
                        go_wp2_with fail
                        go_roundw
                        case rel => exact ⟨by first | rfl | trivial, k + 1, l2, by omega, by go_num, by first | rfl | trivial, Lib.hid ⟨HF9.out, HB2.out, hl2⟩⟩
                        case measure => simp [intOf]; omega
                      · exact absurd ((found_short ls l H15.out s7).2 hf7) (hn8 s7)
                      · exact absurd ((found_short ls l H15.out s7).2 hf7) (hn8 s7)
                  · have hbits := HRB.out
                    have HF8 := Lib.hid (hbits.fr.kept ht7)
                    have HTW := Lib.hid HF8.out.touch
                    clear hr7 ht7 hnx
                    have hfew1 := hbits.few
                    have hszl := bitsS_size l
                    by_cases h15l : l.length ≤ 15
                    · have hfind := Lib.hid (find_calls ls (l.take 15) _ _ (HW3.out.reads.still HTW.out) H15.out hln (fun x hx => hbits.two x (List.mem_of_mem_take hx)) (by rw [List.length_take]; omega))
                      rw [List.take_of_length_le (l := l) (i := 15) h15l] at hfind
                      have hx15 : (bitsS l).extract 0 l.length = bitsS l := by rw [bitsS_take, List.take_length]
                      go_wp2_with fail
                      refine hfind.out.mono ?_
                      rintro e w8 ⟨rfl, ⟨t, hft, rfl⟩ | ⟨hn8, hc8, rfl⟩ | ⟨hn8, hc8, rfl⟩⟩
                      · exact absurd (hft) (hn7 t)
                      · have hleft := Lib.hid (left_calls rb 0 l row4 _ HF8.out.at_ (by have := hbits.few; omega))
                        have hsz2 := bitsS_size l
                        have HTF := Lib.hid (HT3.out.trans HF8.out.touch)
                        clear hn7 hc7 hn8 hc8 hfind hbits HF8
                        go_wp2_with (go_at_call 23; refine hleft.out.mono ?_; rintro e w10 ⟨rfl, rfl⟩)
                        go_ret
                        exact ⟨by first | rfl | simp, HTF.out.drew⟩
                      · exact absurd (hc7) hc8
                    · have hfind := Lib.hid (find_calls ls (l.take 15) _ _ (HW3.out.reads.still HTW.out) H15.out hln (fun x hx => hbits.two x (List.mem_of_mem_take hx)) (by rw [List.length_take]; omega))
                      have hx15 := bitsS_take l 15
                      go_wp2_with fail
                      refine hfind.out.mono ?_
                      rintro e w8 ⟨rfl, ⟨t, hft, rfl⟩ | ⟨hn8, hc8, rfl⟩ | ⟨hn8, hc8, rfl⟩⟩
                      · exact absurd ((found_short ls l H15.out t).1 hft) (hn7 t)
                      · have hleft := Lib.hid (left_calls rb 0 l row4 _ HF8.out.at_ (by have := hbits.few; omega))
                        have hsz2 := bitsS_size l
                        have HTF := Lib.hid (HT3.out.trans HF8.out.touch)
                        clear hn7 hc7 hn8 hc8 hfind hbits HF8
                        go_wp2_with (go_at_call 23; refine hleft.out.mono ?_; rintro e w10 ⟨rfl, rfl⟩)
                        go_ret
                        exact ⟨by first | rfl | simp, HTF.out.drew⟩
                      · exact absurd ((comes_short ls l H15.out).2 hc7) hc8
                  · have hbits := HRB.out
                    have HF8 := Lib.hid (hbits.fr.kept ht7)
                    have HTW := Lib.hid HF8.out.touch
                    clear hr7 ht7 hnx
                    have hfew1 := hbits.few
                    have hszl := bitsS_size l
                    by_cases h15l : l.length ≤ 15
                    · have hfind := Lib.hid (find_calls ls (l.take 15) _ _ (HW3.out.reads.still HTW.out) H15.out hln (fun x hx => hbits.two x (List.mem_of_mem_take hx)) (by rw [List.length_take]; omega))
                      rw [List.take_of_length_le (l := l) (i := 15) h15l] at hfind
                      have hx15 : (bitsS l).extract 0 l.length = bitsS l := by rw [bitsS_take, List.take_length]
                      go_wp2_with fail
                      refine hfind.out.mono ?_
                      rintro e w8 ⟨rfl, ⟨t, hft, rfl⟩ | ⟨hn8, hc8, rfl⟩ | ⟨hn8, hc8, rfl⟩⟩
                      · exact absurd (hft) (hn7 t)
                      · exact absurd (hc8) hc7
                      · have hleft := Lib.hid (left_calls rb 0 l row4 _ HF8.out.at_ (by have := hbits.few; omega))
                        have hsz2 := bitsS_size l
                        have HTF := Lib.hid (HT3.out.trans HF8.out.touch)
                        clear hn7 hc7 hn8 hc8 hfind hbits HF8
                        go_wp2_with (go_at_call 23; refine hleft.out.mono ?_; rintro e w10 ⟨rfl, rfl⟩)
                        go_ret
                        exact ⟨by first | rfl | simp, HTF.out.drew⟩
                    · have hfind := Lib.hid (find_calls ls (l.take 15) _ _ (HW3.out.reads.still HTW.out) H15.out hln (fun x hx => hbits.two x (List.mem_of_mem_take hx)) (by rw [List.length_take]; omega))
                      have hx15 := bitsS_take l 15
                      go_wp2_with fail
                      refine hfind.out.mono ?_
                      rintro e w8 ⟨rfl, ⟨t, hft, rfl⟩ | ⟨hn8, hc8, rfl⟩ | ⟨hn8, hc8, rfl⟩⟩
                      · exact absurd ((found_short ls l H15.out t).1 hft) (hn7 t)
                      · exact absurd ((comes_short ls l H15.out).1 hc8) hc7
                      · have hleft := Lib.hid (left_calls rb 0 l row4 _ HF8.out.at_ (by have := hbits.few; omega))
                        have hsz2 := bitsS_size l
                        have HTF := Lib.hid (HT3.out.trans HF8.out.touch)
                        clear hn7 hc7 hn8 hc8 hfind hbits HF8
                        go_wp2_with (go_at_call 23; refine hleft.out.mono ?_; rintro e w10 ⟨rfl, rfl⟩)
                        go_ret
                        exact ⟨by first | rfl | simp, HTF.out.drew⟩
                · obtain rfl : k = 500 := by omega
                  go_wp2_with fail
                  go_ret
                  exact ⟨rfl, HT3.out.trans HRB.out.fr.touch⟩
          · have hnl : n ≤ l0.length := by have := HL0.out; omega
            have hx9 := bitsS_drop l0 n l0.length rfl
            have hdl := List.length_drop (i := n) (l := l0)
            have HRB := Lib.hid (show RdBits w3 wr rb (l0.drop n) row4 from ⟨HF9.out, fun x hx => HL2.out x (List.mem_of_mem_drop hx), by rw [List.length_drop]; exact Nat.le_trans (Nat.sub_le _ _) HLB.out⟩)
            have HALL := Lib.hid (show Value.string (bitsS (l0.drop n)) = Value.string (bitsS (l0.drop n)) from rfl)
            have hT0i : ((T.size : Int) == 0) = false := beq_eq_false_iff_ne.2 (by omega)
            clear HF9 hdl
            go_wp2_with fail
            all_goals
              go_loopw [6, 11, 14, 15, 16, 17] (fun r al i _ _ _ wr => r = .bool false ∧ ∃ (k : Nat) (l : List Nat), k ≤ 500 ∧ i = .int .i64 k ∧ al = .string (bitsS l) ∧ RowKit.Hid (RdBits w3 wr rb l row4)) (fun _ _ i _ _ _ _ => 500 - (intOf i).toNat)
              case atStart => exact ⟨by first | rfl | trivial, 0, _, by omega, rfl, by first | rfl | exact HALL.out, HRB.out⟩
              case round =>
                clear HRB HALL
                obtain ⟨rfl, k, l, hk, rfl, rfl, HRB⟩ := hrel
                by_cases hlt : k < 500
                · have hbits := HRB.out
                  have hnx := Lib.hid (next_calls b n0 B ls rb 0 l row4 wr (HC3.out.still hbits.fr.touch) HWH.out hbits.fr.at_ hbits.two (by have := hbits.few; omega) (fun e => by have := hbits.fr.fresh; omega))
                  clear hbits
                  go_wp2_with fail
                  refine hnx.out.mono ?_
                  rintro e w7 (⟨s7, hf7, rfl, hr7, ht7⟩ | ⟨hn7, hc7, rfl, hr7, ht7⟩ | ⟨hn7, hc7, rfl, hr7, ht7⟩)
                  · have hbits := HRB.out
                    have HF8 := Lib.hid (hbits.fr.step1 hr7 ht7)
                    have HTW := Lib.hid HF8.out.touch
                    clear hr7 ht7 hnx
                    have hfew1 := hbits.few
                    have hszl := bitsS_size l
                    by_cases h15l : l.length ≤ 15
                    · have hfind := Lib.hid (find_calls ls (l.take 15) _ _ (HW3.out.reads.still HTW.out) H15.out hln (fun x hx => hbits.two x (List.mem_of_mem_take hx)) (by rw [List.length_take]; omega))
                      rw [List.take_of_length_le (l := l) (i := 15) h15l] at hfind
                      have hx15 : (bitsS l).extract 0 l.length = bitsS l := by rw [bitsS_take, List.take_length]
                      go_wp2_with fail
                      refine hfind.out.mono ?_
                      rintro e w8 ⟨rfl, ⟨t, hft, rfl⟩ | ⟨hn8, hc8, rfl⟩ | ⟨hn8, hc8, rfl⟩⟩
                      · obtain rfl : t = s7 := found_one ls l H15.out HK.out hbits.two (hft) hf7
                        obtain ⟨gw, ow, ew, hcw⟩ := reads_at HW3.out.reads t _ (strTab_get _ _ t hf7.1)
                        subst ew
                        have hcw' := hcw _ HTW.out
                        have hws : (wordS ls t).size = ls.getD t 0 := by unfold wordS; rw [bitsS_size, wordH_length]
                        have hle7 := hf7.2.2.1
                        have hts := hf7.1
                        have hlen2 : (l.drop (ls.getD t 0)).length = l.length - ls.getD t 0 := List.length_drop ..
                        have hleft := Lib.hid (left_calls rb 0 (l.drop (ls.getD t 0)) row4 _ HF8.out.at_ (by have := hbits.few; omega))
                        have hex := bitsS_drop l (ls.getD t 0) l.length rfl
                        have hsz2 := bitsS_size (l.drop (ls.getD t 0))
                        have HB2 := Lib.hid (show ∀ x ∈ l.drop (ls.getD t 0), x < 2 from fun x hx => hbits.two x (List.mem_of_mem_drop hx))
                        have hfew := hbits.few
                        rw [hlen2] at hleft hsz2
                        clear hft hf7 hfind hcw hbits hlen2
                        generalize wordS ls t = S at hcw' hws
                        generalize hnn : ls.getD t 0 = n at *
                        have HF9 := Lib.hid (HF8.out.kept ((Touch.refl (fun _ => False) _).drew))
                        generalize hlt2 : l.drop n = l2 at *
                        have hl2 : l2.length ≤ 480 := by rw [← hlt2, List.length_drop]; omega
                        obtain ⟨d, hd⟩ : ∃ d, d = l.length - n := ⟨_, rfl⟩
                        rw [← hd] at hsz2 hleft
                        clear hnn hlt2 HF8
                        go_wp2_with fail
                        refine hleft.out.mono ?_
                        rintro e w10 ⟨rfl, rfl⟩
                        go_wp2_with fail
                        go_roundw
                        case rel => exact ⟨by first | rfl | trivial, k + 1, l2, by omega, by go_num, by first | rfl | trivial, Lib.hid ⟨HF9.out, HB2.out, hl2⟩⟩
                        case measure => simp [intOf]; omega
                      · exact absurd (hf7) (hn8 s7)
                      · exact absurd (hf7) (hn8 s7)
                    · have hfind := Lib.hid (find_calls ls (l.take 15) _ _ (HW3.out.reads.still HTW.out) H15.out hln (fun x hx => hbits.two x (List.mem_of_mem_take hx)) (by rw [List.length_take]; omega))
                      have hx15 := bitsS_take l 15
                      go_wp2_with fail
                      refine hfind.out.mono ?_
                      rintro e w8 ⟨rfl, ⟨t, hft, rfl⟩ | ⟨hn8, hc8, rfl⟩ | ⟨hn8, hc8, rfl⟩⟩
                      · obtain rfl : t = s7 := found_one ls l H15.out HK.out hbits.two ((found_short ls l H15.out t).1 hft) hf7
                        obtain ⟨gw, ow, ew, hcw⟩ := reads_at HW3.out.reads t _ (strTab_get _ _ t hf7.1)
                        subst ew
                        have hcw' := hcw _ HTW.out
                        have hws : (wordS ls t).size = ls.getD t 0 := by unfold wordS; rw [bitsS_size, wordH_length]
                        have hle7 := hf7.2.2.1
                        have hts := hf7.1
                        have hlen2 : (l.drop (ls.getD t 0)).length = l.length - ls.getD t 0 := List.length_drop ..
                        have hleft := Lib.hid (left_calls rb 0 (l.drop (ls.getD t 0)) row4 _ HF8.out.at_ (by have := hbits.few; omega))
                        have hex := bitsS_drop l (ls.getD t 0) l.length rfl
                        have hsz2 := bitsS_size (l.drop (ls.getD t 0))
                        have HB2 := Lib.hid (show ∀ x ∈ l.drop (ls.getD t 0), x < 2 from fun x hx => hbits.two x (List.mem_of_mem_drop hx))
                        have hfew := hbits.few
                        rw [hlen2] at hleft hsz2
                        clear hft hf7 hfind hcw hbits hlen2
                        generalize wordS ls t = S at hcw' hws
                        generalize hnn : ls.getD t 0 = n at *
                        have HF9 := Lib.hid (HF8.out.kept ((Touch.refl (fun _ => False) _).drew))
                        generalize hlt2 : l.drop n = l2 at *
                        have hl2 : l2.length ≤ 480 := by rw [← hlt2, List.length_drop]; omega
                        obtain ⟨d, hd⟩ : ∃ d, d = l.length - n := ⟨_, rfl⟩
                        rw [← hd] at hsz2 hleft
                        clear hnn hlt2 HF8
                        go_wp2_with fail
                        refine hleft.out.mono ?_
                        rintro e w10 ⟨rfl, rfl⟩
                        go_wp2_with fail
                        go_roundw
                        case rel => exact ⟨by first | rfl | trivial, k + 1, l2, by omega, by go_num, by first | rfl | trivial, Lib.hid ⟨HF9.out, HB2.out, hl2⟩⟩
                        case measure => simp [intOf]; omega
                      · exact absurd ((found_short ls l H15.out s7).2 hf7) (hn8 s7)
                      · exact absurd ((found_short ls l H15.out s7).2 hf7) (hn8 s7)
                  · have hbits := HRB.out
                    have HF8 := Lib.hid (hbits.fr.kept ht7)
                    have HTW := Lib.hid HF8.out.touch
                    clear hr7 ht7 hnx
                    have hfew1 := hbits.few
                    have hszl := bitsS_size l
                    by_cases h15l : l.length ≤ 15
                    · have hfind := Lib.hid (find_calls ls (l.take 15) _ _ (HW3.out.reads.still HTW.out) H15.out hln (fun x hx => hbits.two x (List.mem_of_mem_take hx)) (by rw [List.length_take]; omega))
                      rw [List.take_of_length_le (l := l) (i := 15) h15l] at hfind
                      have hx15 : (bitsS l).extract 0 l.length = bitsS l := by rw [bitsS_take, List.take_length]
                      go_wp2_with fail
                      refine hfind.out.mono ?_
                      rintro e w8 ⟨rfl, ⟨t, hft, rfl⟩ | ⟨hn8, hc8, rfl⟩ | ⟨hn8, hc8, rfl⟩⟩
                      · exact absurd (hft) (hn7 t)
                      · have hleft := Lib.hid (left_calls rb 0 l row4 _ HF8.out.at_ (by have := hbits.few; omega))
                        have hsz2 := bitsS_size l
                        have HTF := Lib.hid (HT3.out.trans HF8.out.touch)
                        clear hn7 hc7 hn8 hc8 hfind hbits HF8
                        go_wp2_with (go_at_call 23; refine hleft.out.mono ?_; rintro e w10 ⟨rfl, rfl⟩)
                        go_ret
                        exact ⟨by first | rfl | simp, HTF.out.drew⟩
                      · exact absurd (hc7) hc8
                    · have hfind := Lib.hid (find_calls ls (l.take 15) _ _ (HW3.out.reads.still HTW.out) H15.out hln (fun x hx => hbits.two x (List.mem_of_mem_take hx)) (by rw [List.length_take]; omega))
                      have hx15 := bitsS_take l 15
                      go_wp2_with fail
                      refine hfind.out.mono ?_
                      rintro e w8 ⟨rfl, ⟨t, hft, rfl⟩ | ⟨hn8, hc8, rfl⟩ | ⟨hn8, hc8, rfl⟩⟩
                      · exact absurd ((found_short ls l H15.out t).1 hft) (hn7 t)
                      · have hleft := Lib.hid (left_calls rb 0 l row4 _ HF8.out.at_ (by have := hbits.few; omega))
                        have hsz2 := bitsS_size l
                        have HTF := Lib.hid (HT3.out.trans HF8.out.touch)
                        clear hn7 hc7 hn8 hc8 hfind hbits HF8
                        go_wp2_with (go_at_call 23; refine hleft.out.mono ?_; rintro e w10 ⟨rfl, rfl⟩)
                        go_ret
                        exact ⟨by first | rfl | simp, HTF.out.drew⟩
                      · exact absurd ((comes_short ls l H15.out).2 hc7) hc8
                  · have hbits := HRB.out
                    have HF8 := Lib.hid (hbits.fr.kept ht7)
                    have HTW := Lib.hid HF8.out.touch
                    clear hr7 ht7 hnx
                    have hfew1 := hbits.few
                    have hszl := bitsS_size l
                    by_cases h15l : l.length ≤ 15
                    · have hfind := Lib.hid (find_calls ls (l.take 15) _ _ (HW3.out.reads.still HTW.out) H15.out hln (fun x hx => hbits.two x (List.mem_of_mem_take hx)) (by rw [List.length_take]; omega))
                      rw [List.take_of_length_le (l := l) (i := 15) h15l] at hfind
                      have hx15 : (bitsS l).extract 0 l.length = bitsS l := by rw [bitsS_take, List.take_length]
                      go_wp2_with fail
                      refine hfind.out.mono ?_
                      rintro e w8 ⟨rfl, ⟨t, hft, rfl⟩ | ⟨hn8, hc8, rfl⟩ | ⟨hn8, hc8, rfl⟩⟩
                      · exact absurd (hft) (hn7 t)
                      · exact absurd (hc8) hc7
                      · have hleft := Lib.hid (left_calls rb 0 l row4 _ HF8.out.at_ (by have := hbits.few; omega))
                        have hsz2 := bitsS_size l
                        have HTF := Lib.hid (HT3.out.trans HF8.out.touch)
                        clear hn7 hc7 hn8 hc8 hfind hbits HF8
                        go_wp2_with (go_at_call 23; refine hleft.out.mono ?_; rintro e w10 ⟨rfl, rfl⟩)
                        go_ret
                        exact ⟨by first | rfl | simp, HTF.out.drew⟩
                    · have hfind := Lib.hid (find_calls ls (l.take 15) _ _ (HW3.out.reads.still HTW.out) H15.out hln (fun x hx => hbits.two x (List.mem_of_mem_take hx)) (by rw [List.length_take]; omega))
                      have hx15 := bitsS_take l 15
                      go_wp2_with fail
                      refine hfind.out.mono ?_
                      rintro e w8 ⟨rfl, ⟨t, hft, rfl⟩ | ⟨hn8, hc8, rfl⟩ | ⟨hn8, hc8, rfl⟩⟩
                      · exact absurd ((found_short ls l H15.out t).1 hft) (hn7 t)
                      · exact absurd ((comes_short ls l H15.out).1 hc8) hc7
                      · have hleft := Lib.hid (left_calls rb 0 l row4 _ HF8.out.at_ (by have := hbits.few; omega))
                        have hsz2 := bitsS_size l
                        have HTF := Lib.hid (HT3.out.trans HF8.out.touch)
                        clear hn7 hc7 hn8 hc8 hfind hbits HF8
                        go_wp2_with (go_at_call 23; refine hleft.out.mono ?_; rintro e w10 ⟨rfl, rfl⟩)
                        go_ret
                        exact ⟨by first | rfl | simp, HTF.out.drew⟩
                · obtain rfl : k = 500 := by omega
                  go_wp2_with fail
                  go_ret
                  exact ⟨rfl, HT3.out.trans HRB.out.fr.touch⟩
    · have hT60 : (s.extract 0 60).size ≤ 60 := by rw [ByteArray.size_extract]; omega
      go_wp2_with fail
      generalize s.extract 0 60 = T at hT60 ⊢
      have hl0len := bitsL_length T.data.toList
      rw [data_length] at hl0len
      have HL2 := Lib.hid (bitsL_lt T.data.toList)
      have hfe := Lib.hid (feed_calls w3.heap.size 0 T [] none _ (RdAt.new w3) (by show 0 + 8 * T.size < _; omega))
      have HBC := Lib.hid (fun W => bits_calls T W (by omega))
      have HALT := Lib.hid (List.take_length (l := bitsL T.data.toList))
      have HF0 := Lib.hid (FrR.new w3)
      refine hfe.out.mono ?_
      rintro e w4 ⟨rfl, row4, h1, h2, h3⟩
      have HF4 := Lib.hid (HF0.out.step h1 h2 h3)
      rw [List.nil_append] at HF4
      clear h1 h2 h3 hfe HF0
      generalize hl0 : bitsL T.data.toList = l0 at hl0len HL2 HF4 HBC HALT
      clear hl0
      have hl0b : l0.length ≤ 480 := by omega
      have HL0 := Lib.hid hl0len
      have HLB := Lib.hid hl0b
      obtain ⟨n, hn⟩ : ∃ n : Nat, (n : Int) = z % 8 := ⟨(z % 8).toNat, by omega⟩
      have hand : bits .and .i64 z 7 = (n : Int) := by rw [and7_i64, hn]
      have hn8 : n < 8 := by omega
      have h80 : l0 = [] ∨ n ≤ l0.length := by
        by_cases h : T.size = 0
        · left; exact List.eq_nil_of_length_eq_zero (by omega)
        · right; omega
      have hrd := Lib.hid (read_any w3.heap.size 0 n l0 row4 w4 HF4.out.at_ (by omega) (by omega) h80)
      clear hn h80 hl0len
      go_wp2_with fail
      refine hrd.out.mono ?_
      rintro e w5 ⟨⟨V5, B5, rfl⟩, h1, h2⟩
      have HF5 := Lib.hid (HF4.out.step1 h1 h2)
      clear h1 h2 hrd HF4
      go_wp2_with fail
      refine (HBC.out w5).mono ?_
      rintro e w6 ⟨rv6, rfl, hr6, hs6, ht6⟩
      have HF6 := Lib.hid (HF5.out.kept ht6)
      have HR6 := Lib.hid hr6
      obtain ⟨a6, c6, hrf6, hc61, hc62⟩ := hr6.form
      rw [intVs_length] at hrf6
      subst hrf6
      clear hr6 hs6 ht6 HF5 HBC hc61 hc62
      generalize hRB : w3.heap.size = rb at HF6 hB3 ⊢
      clear hRB
      have hself := Lib.hid (Touch.refl (fun _ => False) w6)
      go_wp2_with fail
      go_loopw [11, 13] (fun al i wr => ∃ (k : Nat) (q : ByteArray), k ≤ l0.length ∧ i = .int .i64 k ∧ al = .string q ∧ q.size ≤ 480 ∧ RowKit.Hid (q = bitsS (l0.take k)) ∧ RowKit.Hid (Touch (fun _ => False) w6 wr)) (fun _ i _ => l0.length - (intOf i).toNat)
      case atStart => exact ⟨0, ⟨#[]⟩, Nat.zero_le _, rfl, rfl, by decide, Lib.hid rfl, hself⟩
      case round =>
        obtain ⟨k, q, hk, rfl, rfl, hq, HQ, HS⟩ := hrel
        by_cases hlt : k < l0.length
        · obtain ⟨g6, o6, e6, hc6⟩ := row_at HR6.out k (.int .i64 (l0[k] : Nat)) (by simp [intVs, hlt])
          subst e6
          have hx2 := HL2.out _ (List.getElem_mem hlt)
          have hc6' := HS.out.cell hc6 id
          have HTK := Lib.hid (List.take_succ_eq_append_getElem hlt)
          generalize l0[k] = x at hx2 hc6' HTK
          have hconv := run_bit x hx2 wr
          have hsz1 : (bitsS [x]).size = 1 := rfl
          clear hc6
          go_wp2_with fail
          go_roundw
          case rel => exact ⟨k + 1, q ++ bitsS [x], by omega, by go_num, by go_num, by rw [HQ.out, bitsS_append, bitsS_size, List.length_append, List.length_take]; simp; omega, Lib.hid (by rw [HQ.out, bitsS_append, HTK.out]), Lib.hid (HS.out.alloc _)⟩
          case measure => simp [intOf]; omega
        · obtain rfl : k = l0.length := by omega
          have hqq : q = bitsS l0 := by rw [HQ.out, HALT.out]
          subst hqq
          have hszq := bitsS_size l0
          have HF9 := Lib.hid (HF6.out.kept HS.out)
          clear HF6 HR6 hself HQ HS
          by_cases hT0 : T.size = 0
          · obtain rfl : l0 = [] := List.eq_nil_of_length_eq_zero (by have := HL0.out; omega)
            rw [List.drop_nil] at HF9
            have HRB := Lib.hid (show RdBits w3 wr rb [] row4 from ⟨HF9.out, (fun x hx => (by cases hx)), Nat.zero_le _⟩)
            have HALL := Lib.hid (show Value.string ⟨#[]⟩ = Value.string (bitsS []) from rfl)
            clear HF9
            go_wp2_with fail
            all_goals
              go_loopw [6, 11, 14, 15, 16, 17] (fun r al i _ _ _ wr => r = .bool false ∧ ∃ (k : Nat) (l : List Nat), k ≤ 500 ∧ i = .int .i64 k ∧ al = .string (bitsS l) ∧ RowKit.Hid (RdBits w3 wr rb l row4)) (fun _ _ i _ _ _ _ => 500 - (intOf i).toNat)
              case atStart => exact ⟨by first | rfl | trivial, 0, _, by omega, rfl, by first | rfl | exact HALL.out, HRB.out⟩
              case round =>
                clear HRB HALL
                obtain ⟨rfl, k, l, hk, rfl, rfl, HRB⟩ := hrel
                by_cases hlt : k < 500
                · have hbits := HRB.out
                  have hnx := Lib.hid (next_calls b n0 B ls rb 0 l row4 wr (HC3.out.still hbits.fr.touch) HWH.out hbits.fr.at_ hbits.two (by have := hbits.few; omega) (fun e => by have := hbits.fr.fresh; omega))
                  clear hbits
                  go_wp2_with fail
                  refine hnx.out.mono ?_
                  rintro e w7 (⟨s7, hf7, rfl, hr7, ht7⟩ | ⟨hn7, hc7, rfl, hr7, ht7⟩ | ⟨hn7, hc7, rfl, hr7, ht7⟩)
                  · have hbits := HRB.out
                    have HF8 := Lib.hid (hbits.fr.step1 hr7 ht7)
                    have HTW := Lib.hid HF8.out.touch
                    clear hr7 ht7 hnx
                    have hfew1 := hbits.few
                    have hszl := bitsS_size l
                    by_cases h15l : l.length ≤ 15
                    · have hfind := Lib.hid (find_calls ls (l.take 15) _ _ (HW3.out.reads.still HTW.out) H15.out hln (fun x hx => hbits.two x (List.mem_of_mem_take hx)) (by rw [List.length_take]; omega))
                      rw [List.take_of_length_le (l := l) (i := 15) h15l] at hfind
                      have hx15 : (bitsS l).extract 0 l.length = bitsS l := by rw [bitsS_take, List.take_length]
                      go_wp2_with fail
                      refine hfind.out.mono ?_
                      rintro e w8 ⟨rfl, ⟨t, hft, rfl⟩ | ⟨hn8, hc8, rfl⟩ | ⟨hn8, hc8, rfl⟩⟩
                      · obtain rfl : t = s7 := found_one ls l H15.out HK.out hbits.two (hft) hf7
                        obtain ⟨gw, ow, ew, hcw⟩ := reads_at HW3.out.reads t _ (strTab_get _ _ t hf7.1)
                        subst ew
                        have hcw' := hcw _ HTW.out
                        have hws : (wordS ls t).size = ls.getD t 0 := by unfold wordS; rw [bitsS_size, wordH_length]
                        have hle7 := hf7.2.2.1
                        have hts := hf7.1
                        have hlen2 : (l.drop (ls.getD t 0)).length = l.length - ls.getD t 0 := List.length_drop ..
                        have hleft := Lib.hid (left_calls rb 0 (l.drop (ls.getD t 0)) row4 _ HF8.out.at_ (by have := hbits.few; omega))
                        have hex := bitsS_drop l (ls.getD t 0) l.length rfl
                        have hsz2 := bitsS_size (l.drop (ls.getD t 0))
                        have HB2 := Lib.hid (show ∀ x ∈ l.drop (ls.getD t 0), x < 2 from fun x hx => hbits.two x (List.mem_of_mem_drop hx))
                        have hfew := hbits.few
                        rw [hlen2] at hleft hsz2
                        clear hft hf7 hfind hcw hbits hlen2
                        generalize wordS ls t = S at hcw' hws
                        generalize hnn : ls.getD t 0 = n at *
                        have HF9 := Lib.hid (HF8.out.kept ((Touch.refl (fun _ => False) _).drew))
                        generalize hlt2 : l.drop n = l2 at *
                        have hl2 : l2.length ≤ 480 := by rw [← hlt2, List.length_drop]; omega
                        obtain ⟨d, hd⟩ : ∃ d, d = l.length - n := ⟨_, rfl⟩
                        rw [← hd] at hsz2 hleft
                        clear hnn hlt2 HF8
                        go_wp2_with fail
                        refine hleft.out.mono ?_
                        rintro e w10 ⟨rfl, rfl⟩
                        go_wp2_with fail
                        go_roundw
                        case rel => exact ⟨by first | rfl | trivial, k + 1, l2, by omega, by go_num, by first | rfl | trivial, Lib.hid ⟨HF9.out, HB2.out, hl2⟩⟩
                        case measure => simp [intOf]; omega
                      · exact absurd (hf7) (hn8 s7)
                      · exact absurd (hf7) (hn8 s7)
                    · have hfind := Lib.hid (find_calls ls (l.take 15) _ _ (HW3.out.reads.still HTW.out) H15.out hln (fun x hx => hbits.two x (List.mem_of_mem_take hx)) (by rw [List.length_take]; omega))
                      have hx15 := bitsS_take l 15
                      go_wp2_with fail
                      refine hfind.out.mono ?_
                      rintro e w8 ⟨rfl, ⟨t, hft, rfl⟩ | ⟨hn8, hc8, rfl⟩ | ⟨hn8, hc8, rfl⟩⟩
                      · obtain rfl : t = s7 := found_one ls l H15.out HK.out hbits.two ((found_short ls l H15.out t).1 hft) hf7
                        obtain ⟨gw, ow, ew, hcw⟩ := reads_at HW3.out.reads t _ (strTab_get _ _ t hf7.1)
                        subst ew
                        have hcw' := hcw _ HTW.out
                        have hws : (wordS ls t).size = ls.getD t 0 := by unfold wordS; rw [bitsS_size, wordH_length]
                        have hle7 := hf7.2.2.1
                        have hts := hf7.1
                        have hlen2 : (l.drop (ls.getD t 0)).length = l.length - ls.getD t 0 := List.length_drop ..
                        have hleft := Lib.hid (left_calls rb 0 (l.drop (ls.getD t 0)) row4 _ HF8.out.at_ (by have := hbits.few; omega))
                        have hex := bitsS_drop l (ls.getD t 0) l.length rfl
                        have hsz2 := bitsS_size (l.drop (ls.getD t 0))
                        have HB2 := Lib.hid (show ∀ x ∈ l.drop (ls.getD t 0), x < 2 from fun x hx => hbits.two x (List.mem_of_mem_drop hx))
                        have hfew := hbits.few
                        rw [hlen2] at hleft hsz2
                        clear hft hf7 hfind hcw hbits hlen2
                        generalize wordS ls t = S at hcw' hws
                        generalize hnn : ls.getD t 0 = n at *
                        have HF9 := Lib.hid (HF8.out.kept ((Touch.refl (fun _ => False) _).drew))
                        generalize hlt2 : l.drop n = l2 at *
                        have hl2 : l2.length ≤ 480 := by rw [← hlt2, List.length_drop]; omega
                        obtain ⟨d, hd⟩ : ∃ d, d = l.length - n := ⟨_, rfl⟩
                        rw [← hd] at hsz2 hleft
                        clear hnn hlt2 HF8
                        go_wp2_with fail
                        refine hleft.out.mono ?_
                        rintro e w10 ⟨rfl, rfl⟩
                        go_wp2_with fail
                        go_roundw
                        case rel => exact ⟨by first | rfl | trivial, k + 1, l2, by omega, by go_num, by first | rfl | trivial, Lib.hid ⟨HF9.out, HB2.out, hl2⟩⟩
                        case measure => simp [intOf]; omega
                      · exact absurd ((found_short ls l H15.out s7).2 hf7) (hn8 s7)
                      · exact absurd ((found_short ls l H15.out s7).2 hf7) (hn8 s7)
                  · have hbits := HRB.out
                    have HF8 := Lib.hid (hbits.fr.kept ht7)
                    have HTW := Lib.hid HF8.out.touch
                    clear hr7 ht7 hnx
                    have hfew1 := hbits.few
                    have hszl := bitsS_size l
                    by_cases h15l : l.length ≤ 15
                    · have hfind := Lib.hid (find_calls ls (l.take 15) _ _ (HW3.out.reads.still HTW.out) H15.out hln (fun x hx => hbits.two x (List.mem_of_mem_take hx)) (by rw [List.length_take]; omega))
                      rw [List.take_of_length_le (l := l) (i := 15) h15l] at hfind
                      have hx15 : (bitsS l).extract 0 l.length = bitsS l := by rw [bitsS_take, List.take_length]
                      go_wp2_with fail
                      refine hfind.out.mono ?_
                      rintro e w8 ⟨rfl, ⟨t, hft, rfl⟩ | ⟨hn8, hc8, rfl⟩ | ⟨hn8, hc8, rfl⟩⟩
                      · exact absurd (hft) (hn7 t)
                      · have hleft := Lib.hid (left_calls rb 0 l row4 _ HF8.out.at_ (by have := hbits.few; omega))
                        have hsz2 := bitsS_size l
                        have HTF := Lib.hid (HT3.out.trans HF8.out.touch)
                        clear hn7 hc7 hn8 hc8 hfind hbits HF8
                        go_wp2_with (go_at_call 23; refine hleft.out.mono ?_; rintro e w10 ⟨rfl, rfl⟩)
                        go_ret
                        exact ⟨by first | rfl | simp, HTF.out.drew⟩
                      · exact absurd (hc7) hc8
                    · have hfind := Lib.hid (find_calls ls (l.take 15) _ _ (HW3.out.reads.still HTW.out) H15.out hln (fun x hx => hbits.two x (List.mem_of_mem_take hx)) (by rw [List.length_take]; omega))
                      have hx15 := bitsS_take l 15
                      go_wp2_with fail
                      refine hfind.out.mono ?_
                      rintro e w8 ⟨rfl, ⟨t, hft, rfl⟩ | ⟨hn8, hc8, rfl⟩ | ⟨hn8, hc8, rfl⟩⟩
                      · exact absurd ((found_short ls l H15.out t).1 hft) (hn7 t)
                      · have hleft := Lib.hid (left_calls rb 0 l row4 _ HF8.out.at_ (by have := hbits.few; omega))
                        have hsz2 := bitsS_size l
                        have HTF := Lib.hid (HT3.out.trans HF8.out.touch)
                        clear hn7 hc7 hn8 hc8 hfind hbits HF8
                        go_wp2_with (go_at_call 23; refine hleft.out.mono ?_; rintro e w10 ⟨rfl, rfl⟩)
                        go_ret
                        exact ⟨by first | rfl | simp, HTF.out.drew⟩
                      · exact absurd ((comes_short ls l H15.out).2 hc7) hc8
                  · have hbits := HRB.out
                    have HF8 := Lib.hid (hbits.fr.kept ht7)
                    have HTW := Lib.hid HF8.out.touch
                    clear hr7 ht7 hnx
                    have hfew1 := hbits.few
                    have hszl := bitsS_size l
                    by_cases h15l : l.length ≤ 15
                    · have hfind := Lib.hid (find_calls ls (l.take 15) _ _ (HW3.out.reads.still HTW.out) H15.out hln (fun x hx => hbits.two x (List.mem_of_mem_take hx)) (by rw [List.length_take]; omega))
                      rw [List.take_of_length_le (l := l) (i := 15) h15l] at hfind
                      have hx15 : (bitsS l).extract 0 l.length = bitsS l := by rw [bitsS_take, List.take_length]
                      go_wp2_with fail
                      refine hfind.out.mono ?_
                      rintro e w8 ⟨rfl, ⟨t, hft, rfl⟩ | ⟨hn8, hc8, rfl⟩ | ⟨hn8, hc8, rfl⟩⟩
                      · exact absurd (hft) (hn7 t)
                      · exact absurd (hc8) hc7
                      · have hleft := Lib.hid (left_calls rb 0 l row4 _ HF8.out.at_ (by have := hbits.few; omega))
                        have hsz2 := bitsS_size l
                        have HTF := Lib.hid (HT3.out.trans HF8.out.touch)
                        clear hn7 hc7 hn8 hc8 hfind hbits HF8
                        go_wp2_with (go_at_call 23; refine hleft.out.mono ?_; rintro e w10 ⟨rfl, rfl⟩)
                        go_ret
                        exact ⟨by first | rfl | simp, HTF.out.drew⟩
                    · have hfind := Lib.hid (find_calls ls (l.take 15) _ _ (HW3.out.reads.still HTW.out) H15.out hln (fun x hx => hbits.two x (List.mem_of_mem_take hx)) (by rw [List.length_take]; omega))
                      have hx15 := bitsS_take l 15
                      go_wp2_with fail
                      refine hfind.out.mono ?_
                      rintro e w8 ⟨rfl, ⟨t, hft, rfl⟩ | ⟨hn8, hc8, rfl⟩ | ⟨hn8, hc8, rfl⟩⟩
                      · exact absurd ((found_short ls l H15.out t).1 hft) (hn7 t)
                      · exact absurd ((comes_short ls l H15.out).1 hc8) hc7
                      · have hleft := Lib.hid (left_calls rb 0 l row4 _ HF8.out.at_ (by have := hbits.few; omega))
                        have hsz2 := bitsS_size l
                        have HTF := Lib.hid (HT3.out.trans HF8.out.touch)
                        clear hn7 hc7 hn8 hc8 hfind hbits HF8
                        go_wp2_with (go_at_call 23; refine hleft.out.mono ?_; rintro e w10 ⟨rfl, rfl⟩)
                        go_ret
                        exact ⟨by first | rfl | simp, HTF.out.drew⟩
                · obtain rfl : k = 500 := by omega
                  go_wp2_with fail
                  go_ret
                  exact ⟨rfl, HT3.out.trans HRB.out.fr.touch⟩
          · have hnl : n ≤ l0.length := by have := HL0.out; omega
            have hx9 := bitsS_drop l0 n l0.length rfl
            have hdl := List.length_drop (i := n) (l := l0)
            have HRB := Lib.hid (show RdBits w3 wr rb (l0.drop n) row4 from ⟨HF9.out, fun x hx => HL2.out x (List.mem_of_mem_drop hx), by rw [List.length_drop]; exact Nat.le_trans (Nat.sub_le _ _) HLB.out⟩)
            have HALL := Lib.hid (show Value.string (bitsS (l0.drop n)) = Value.string (bitsS (l0.drop n)) from rfl)
            have hT0i : ((T.size : Int) == 0) = false := beq_eq_false_iff_ne.2 (by omega)
            clear HF9 hdl
            go_wp2_with fail
            all_goals
              go_loopw [6, 11, 14, 15, 16, 17] (fun r al i _ _ _ wr => r = .bool false ∧ ∃ (k : Nat) (l : List Nat), k ≤ 500 ∧ i = .int .i64 k ∧ al = .string (bitsS l) ∧ RowKit.Hid (RdBits w3 wr rb l row4)) (fun _ _ i _ _ _ _ => 500 - (intOf i).toNat)
              case atStart => exact ⟨by first | rfl | trivial, 0, _, by omega, rfl, by first | rfl | exact HALL.out, HRB.out⟩
              case round =>
                clear HRB HALL
                obtain ⟨rfl, k, l, hk, rfl, rfl, HRB⟩ := hrel
                by_cases hlt : k < 500
                · have hbits := HRB.out
                  have hnx := Lib.hid (next_calls b n0 B ls rb 0 l row4 wr (HC3.out.still hbits.fr.touch) HWH.out hbits.fr.at_ hbits.two (by have := hbits.few; omega) (fun e => by have := hbits.fr.fresh; omega))
                  clear hbits
                  go_wp2_with fail
                  refine hnx.out.mono ?_
                  rintro e w7 (⟨s7, hf7, rfl, hr7, ht7⟩ | ⟨hn7, hc7, rfl, hr7, ht7⟩ | ⟨hn7, hc7, rfl, hr7, ht7⟩)
                  · have hbits := HRB.out
                    have HF8 := Lib.hid (hbits.fr.step1 hr7 ht7)
                    have HTW := Lib.hid HF8.out.touch
                    clear hr7 ht7 hnx
                    have hfew1 := hbits.few
                    have hszl := bitsS_size l
                    by_cases h15l : l.length ≤ 15
                    · have hfind := Lib.hid (find_calls ls (l.take 15) _ _ (HW3.out.reads.still HTW.out) H15.out hln (fun x hx => hbits.two x (List.mem_of_mem_take hx)) (by rw [List.length_take]; omega))
                      rw [List.take_of_length_le (l := l) (i := 15) h15l] at hfind
                      have hx15 : (bitsS l).extract 0 l.length = bitsS l := by rw [bitsS_take, List.take_length]
                      go_wp2_with fail
                      refine hfind.out.mono ?_
                      rintro e w8 ⟨rfl, ⟨t, hft, rfl⟩ | ⟨hn8, hc8, rfl⟩ | ⟨hn8, hc8, rfl⟩⟩
                      · obtain rfl : t = s7 := found_one ls l H15.out HK.out hbits.two (hft) hf7
                        obtain ⟨gw, ow, ew, hcw⟩ := reads_at HW3.out.reads t _ (strTab_get _ _ t hf7.1)
                        subst ew
                        have hcw' := hcw _ HTW.out
                        have hws : (wordS ls t).size = ls.getD t 0 := by unfold wordS; rw [bitsS_size, wordH_length]
                        have hle7 := hf7.2.2.1
                        have hts := hf7.1
                        have hlen2 : (l.drop (ls.getD t 0)).length = l.length - ls.getD t 0 := List.length_drop ..
                        have hleft := Lib.hid (left_calls rb 0 (l.drop (ls.getD t 0)) row4 _ HF8.out.at_ (by have := hbits.few; omega))
                        have hex := bitsS_drop l (ls.getD t 0) l.length rfl
                        have hsz2 := bitsS_size (l.drop (ls.getD t 0))
                        have HB2 := Lib.hid (show ∀ x ∈ l.drop (ls.getD t 0), x < 2 from fun x hx => hbits.two x (List.mem_of_mem_drop hx))
                        have hfew := hbits.few
                        rw [hlen2] at hleft hsz2
                        clear hft hf7 hfind hcw hbits hlen2
                        generalize wordS ls t = S at hcw' hws
                        generalize hnn : ls.getD t 0 = n at *
                        have HF9 := Lib.hid (HF8.out.kept ((Touch.refl (fun _ => False) _).drew))
                        generalize hlt2 : l.drop n = l2 at *
                        have hl2 : l2.length ≤ 480 := by rw [← hlt2, List.length_drop]; omega
                        obtain ⟨d, hd⟩ : ∃ d, d = l.length - n := ⟨_, rfl⟩
                        rw [← hd] at hsz2 hleft
                        clear hnn hlt2 HF8
                        go_wp2_with fail
                        refine hleft.out.mono ?_
                        rintro e w10 ⟨rfl, rfl⟩
                        go_wp2_with fail
                        go_roundw
                        case rel => exact ⟨by first | rfl | trivial, k + 1, l2, by omega, by go_num, by first | rfl | trivial, Lib.hid ⟨HF9.out, HB2.out, hl2⟩⟩
                        case measure => simp [intOf]; omega
                      · exact absurd (hf7) (hn8 s7)
                      · exact absurd (hf7) (hn8 s7)
                    · have hfind := Lib.hid (find_calls ls (l.take 15) _ _ (HW3.out.reads.still HTW.out) H15.out hln (fun x hx => hbits.two x (List.mem_of_mem_take hx)) (by rw [List.length_take]; omega))
                      have hx15 := bitsS_take l 15
                      go_wp2_with fail
                      refine hfind.out.mono ?_
                      rintro e w8 ⟨rfl, ⟨t, hft, rfl⟩ | ⟨hn8, hc8, rfl⟩ | ⟨hn8, hc8, rfl⟩⟩
                      · obtain rfl : t = s7 := found_one ls l H15.out HK.out hbits.two ((found_short ls l H15.out t).1 hft) hf7
                        obtain ⟨gw, ow, ew, hcw⟩ := reads_at HW3.out.reads t _ (strTab_get _ _ t hf7.1)
                        subst ew
                        have hcw' := hcw _ HTW.out
                        have hws : (wordS ls t).size = ls.getD t 0 := by unfold wordS; rw [bitsS_size, wordH_length]
                        have hle7 := hf7.2.2.1
                        have hts := hf7.1
                        have hlen2 : (l.drop (ls.getD t 0)).length = l.length - ls.getD t 0 := List.length_drop ..
                        have hleft := Lib.hid (left_calls rb 0 (l.drop (ls.getD t 0)) row4 _ HF8.out.at_ (by have := hbits.few; omega))
                        have hex := bitsS_drop l (ls.getD t 0) l.length rfl
                        have hsz2 := bitsS_size (l.drop (ls.getD t 0))
                        have HB2 := Lib.hid (show ∀ x ∈ l.drop (ls.getD t 0), x < 2 from fun x hx => hbits.two x (List.mem_of_mem_drop hx))
                        have hfew := hbits.few
                        rw [hlen2] at hleft hsz2
                        clear hft hf7 hfind hcw hbits hlen2
                        generalize wordS ls t = S at hcw' hws
                        generalize hnn : ls.getD t 0 = n at *
                        have HF9 := Lib.hid (HF8.out.kept ((Touch.refl (fun _ => False) _).drew))
                        generalize hlt2 : l.drop n = l2 at *
                        have hl2 : l2.length ≤ 480 := by rw [← hlt2, List.length_drop]; omega
                        obtain ⟨d, hd⟩ : ∃ d, d = l.length - n := ⟨_, rfl⟩
                        rw [← hd] at hsz2 hleft
                        clear hnn hlt2 HF8
                        go_wp2_with fail
                        refine hleft.out.mono ?_
                        rintro e w10 ⟨rfl, rfl⟩
                        go_wp2_with fail
                        go_roundw
                        case rel => exact ⟨by first | rfl | trivial, k + 1, l2, by omega, by go_num, by first | rfl | trivial, Lib.hid ⟨HF9.out, HB2.out, hl2⟩⟩
                        case measure => simp [intOf]; omega
                      · exact absurd ((found_short ls l H15.out s7).2 hf7) (hn8 s7)
                      · exact absurd ((found_short ls l H15.out s7).2 hf7) (hn8 s7)
                  · have hbits := HRB.out
                    have HF8 := Lib.hid (hbits.fr.kept ht7)
                    have HTW := Lib.hid HF8.out.touch
                    clear hr7 ht7 hnx
                    have hfew1 := hbits.few
                    have hszl := bitsS_size l
                    by_cases h15l : l.length ≤ 15
                    · have hfind := Lib.hid (find_calls ls (l.take 15) _ _ (HW3.out.reads.still HTW.out) H15.out hln (fun x hx => hbits.two x (List.mem_of_mem_take hx)) (by rw [List.length_take]; omega))
                      rw [List.take_of_length_le (l := l) (i := 15) h15l] at hfind
                      have hx15 : (bitsS l).extract 0 l.length = bitsS l := by rw [bitsS_take, List.take_length]
                      go_wp2_with fail
                      refine hfind.out.mono ?_
                      rintro e w8 ⟨rfl, ⟨t, hft, rfl⟩ | ⟨hn8, hc8, rfl⟩ | ⟨hn8, hc8, rfl⟩⟩
                      · exact absurd (hft) (hn7 t)
                      · have hleft := Lib.hid (left_calls rb 0 l row4 _ HF8.out.at_ (by have := hbits.few; omega))
                        have hsz2 := bitsS_size l
                        have HTF := Lib.hid (HT3.out.trans HF8.out.touch)
                        clear hn7 hc7 hn8 hc8 hfind hbits HF8
                        go_wp2_with (go_at_call 23; refine hleft.out.mono ?_; rintro e w10 ⟨rfl, rfl⟩)
                        go_ret
                        exact ⟨by first | rfl | simp, HTF.out.drew⟩
                      · exact absurd (hc7) hc8
                    · have hfind := Lib.hid (find_calls ls (l.take 15) _ _ (HW3.out.reads.still HTW.out) H15.out hln (fun x hx => hbits.two x (List.mem_of_mem_take hx)) (by rw [List.length_take]; omega))
                      have hx15 := bitsS_take l 15
                      go_wp2_with fail
                      refine hfind.out.mono ?_
                      rintro e w8 ⟨rfl, ⟨t, hft, rfl⟩ | ⟨hn8, hc8, rfl⟩ | ⟨hn8, hc8, rfl⟩⟩
                      · exact absurd ((found_short ls l H15.out t).1 hft) (hn7 t)
                      · have hleft := Lib.hid (left_calls rb 0 l row4 _ HF8.out.at_ (by have := hbits.few; omega))
                        have hsz2 := bitsS_size l
                        have HTF := Lib.hid (HT3.out.trans HF8.out.touch)
                        clear hn7 hc7 hn8 hc8 hfind hbits HF8
                        go_wp2_with (go_at_call 23; refine hleft.out.mono ?_; rintro e w10 ⟨rfl, rfl⟩)
                        go_ret
                        exact ⟨by first | rfl | simp, HTF.out.drew⟩
                      · exact absurd ((comes_short ls l H15.out).2 hc7) hc8
                  · have hbits := HRB.out
                    have HF8 := Lib.hid (hbits.fr.kept ht7)
                    have HTW := Lib.hid HF8.out.touch
                    clear hr7 ht7 hnx
                    have hfew1 := hbits.few
                    have hszl := bitsS_size l
                    by_cases h15l : l.length ≤ 15
                    · have hfind := Lib.hid (find_calls ls (l.take 15) _ _ (HW3.out.reads.still HTW.out) H15.out hln (fun x hx => hbits.two x (List.mem_of_mem_take hx)) (by rw [List.length_take]; omega))
                      rw [List.take_of_length_le (l := l) (i := 15) h15l] at hfind
                      have hx15 : (bitsS l).extract 0 l.length = bitsS l := by rw [bitsS_take, List.take_length]
                      go_wp2_with fail
                      refine hfind.out.mono ?_
                      rintro e w8 ⟨rfl, ⟨t, hft, rfl⟩ | ⟨hn8, hc8, rfl⟩ | ⟨hn8, hc8, rfl⟩⟩
                      · exact absurd (hft) (hn7 t)
                      · exact absurd (hc8) hc7
                      · have hleft := Lib.hid (left_calls rb 0 l row4 _ HF8.out.at_ (by have := hbits.few; omega))
                        have hsz2 := bitsS_size l
                        have HTF := Lib.hid (HT3.out.trans HF8.out.touch)
                        clear hn7 hc7 hn8 hc8 hfind hbits HF8
                        go_wp2_with (go_at_call 23; refine hleft.out.mono ?_; rintro e w10 ⟨rfl, rfl⟩)
                        go_ret
                        exact ⟨by first | rfl | simp, HTF.out.drew⟩
                    · have hfind := Lib.hid (find_calls ls (l.take 15) _ _ (HW3.out.reads.still HTW.out) H15.out hln (fun x hx => hbits.two x (List.mem_of_mem_take hx)) (by rw [List.length_take]; omega))
                      have hx15 := bitsS_take l 15
                      go_wp2_with fail
                      refine hfind.out.mono ?_
                      rintro e w8 ⟨rfl, ⟨t, hft, rfl⟩ | ⟨hn8, hc8, rfl⟩ | ⟨hn8, hc8, rfl⟩⟩
                      · exact absurd ((found_short ls l H15.out t).1 hft) (hn7 t)
                      · exact absurd ((comes_short ls l H15.out).1 hc8) hc7
                      · have hleft := Lib.hid (left_calls rb 0 l row4 _ HF8.out.at_ (by have := hbits.few; omega))
                        have hsz2 := bitsS_size l
                        have HTF := Lib.hid (HT3.out.trans HF8.out.touch)
                        clear hn7 hc7 hn8 hc8 hfind hbits HF8
                        go_wp2_with (go_at_call 23; refine hleft.out.mono ?_; rintro e w10 ⟨rfl, rfl⟩)
                        go_ret
                        exact ⟨by first | rfl | simp, HTF.out.drew⟩
                · obtain rfl : k = 500 := by omega
                  go_wp2_with fail
                  go_ret
                  exact ⟨rfl, HT3.out.trans HRB.out.fr.touch⟩
end Go.Proofs.Ytmeidbggebcddaa

/- The walk of layer 3's statement that symbols that are written are read again. -/
import Derived.Test.YtmeidbggebcddaaCanY
namespace Go.Proofs.Ytmeidbggebcddaa
open Go Go.RowKit
set_option maxRecDepth 100000

theorem whole_why (xs : List Int) (loose : Bool) (h : whyN xs loose = 0) : WholeN (xs.map Int.toNat) := by
  unfold whyN at h
  unfold WholeN
  by_cases h1 : xs.any badLen = true ∨ 288 < xs.length
  · rw [if_pos h1] at h; cases h
  · rw [if_neg h1] at h
    by_cases h2 : 32768 < kraftN (xs.map Int.toNat)
    · rw [if_pos h2] at h; cases h
    · rw [if_neg h2] at h
      by_cases h3 : kraftN (xs.map Int.toNat) < 32768 ∧ ¬ (loose = true ∧ (kraftN (xs.map Int.toNat) = 0 ∨ kraftN (xs.map Int.toNat) = 16384 ∧ cntN (xs.map Int.toNat) 1 = 1))
      · rw [if_pos h3] at h; cases h
      · by_cases h4 : kraftN (xs.map Int.toNat) = 32768
        · exact .inl h4
        · apply Classical.byContradiction
          intro h5
          refine h3 ⟨by omega, fun h6 => ?_⟩
          rcases h6.2 with h7 | h7
          · exact h5 (.inr (.inl h7))
          · exact h5 (.inr (.inr h7))

theorem drained (w : World) (b o : Nat) (l : List Nat) (row : Option Nat) (h : WrAt w b o (l ++ List.replicate (padN l.length) 0) row) :
    ∃ xs, bitsL xs = l ++ List.replicate (padN l.length) 0 ∧ bytesL (l ++ List.replicate (padN l.length) 0) = xs := by
  obtain ⟨xs, p, s, v, _, _, hs8, _, hl⟩ := h
  have hlen := congrArg List.length hl
  rw [List.length_append, List.length_append, List.length_replicate, bitsL_length, bitsN_length] at hlen
  have hs0 : s = 0 := by unfold padN at hlen; omega
  subst hs0
  refine ⟨xs, by rw [hl]; simp [bitsN], ?_⟩
  rw [hl]
  exact bytesL_bits xs _ (by rw [bitsN_length]; decide)

/-- Which word a symbol has: n bits, where it has one. -/
theorem word_asks (b n0 n1 : Nat) (ls : List Nat) (z : Int) (w : World) (h : CodeAt w b ls n0 n1) :
    Calls Try.prog 14 #[.pointer (some ⟨b, 0, none⟩), .int .i64 z] w fun e w' => ∃ (V N : Nat), e = .returned (.tuple #[.int .u64 (V : Nat), .int .i64 (N : Nat)]) ∧ (N ≠ 0 → ∃ s : Nat, z = s ∧ s < ls.length ∧ ls.getD s 0 ≠ 0) ∧ Touch (fun _ => False) w w' := by
  by_cases hz : z < 0 ∨ (ls.length : Int) ≤ z
  · exact (word_out b n0 n1 ls z w h hz).mono fun e w' ⟨he, hw⟩ => ⟨0, 0, he, fun h => absurd rfl h, by rw [hw]; exact Touch.refl _ _⟩
  · obtain ⟨s, rfl⟩ : ∃ s : Nat, z = s := ⟨z.toNat, by omega⟩
    exact (word_in b n0 n1 ls s w h (by omega)).mono fun e w' ⟨he, q, hw⟩ => ⟨_, _, he, fun h' => ⟨s, rfl, by omega, h'⟩, by rw [hw]; exact (Touch.refl _ _).drewN q⟩

set_option maxHeartbeats 1000000 in
theorem cback_calls (xs ys : List Int) (v v1 : Value) (w : World) (hv : Reads w v (intsV xs)) (hy : Reads w v1 (intsV ys)) (hwf : ∀ x ∈ ys, -9223372036854775808 ≤ x ∧ x ≤ 9223372036854775807) :
    Calls Try.prog 5 #[v, v1] w fun e w' => e = .returned (.bool true) ∧ Touch (fun _ => False) w w' := by
  obtain ⟨i0, hi, hz0, hz1, hz2⟩ := info_parts Try.info3
  obtain ⟨ay, capy, hyf, hyl⟩ := ints_form hy
  subst hyf
  have hcell := reads_cell hy
  clear hy
  go_enter Try.func5, Try.ntmps5
  go_wp2_with fail
  refine (speaks3_calls w).mono ?_
  rintro e w1 ⟨rfl, ht1⟩
  go_wp2_with fail
  refine (new_calls xs true _ w1 (hv.still ht1)).mono ?_
  rintro e w2 ⟨ht2, ⟨hne, rfl⟩ | ⟨hw0, hxs, b, rfl, hC⟩⟩
  · have hne' : ((whyN xs true : Nat) : Int) ≠ 0 := by omega
    have HT := Lib.hid (ht1.trans ht2)
    clear ht1 ht2 hne
    generalize ((whyN xs true : Nat) : Int) = z at hne'
    go_wp2_with fail
    go_ret
    exact ⟨rfl, HT.out⟩
  · have hwh := whole_why xs true hw0
    have HT := Lib.hid (ht1.trans ht2)
    clear hw0 hxs hv ht1 ht2
    generalize xs.map Int.toNat = ls at hC hwh
    have H15 := Lib.hid hC.h15
    have HK := Lib.hid hC.hk
    have hln := hC.hn
    have HWH := Lib.hid hwh
    generalize w1.heap.size = n0 at hC
    have HC := Lib.hid hC
    clear hC hwh
    go_wp2_with fail
    have hB0 : WrInts w2 w2.heap.size [] none (.slice none 0 0) [] (w2.alloc (.cells #[.slice none 0 0, .int .u64 0, .int .i64 0] 51)) :=
      ⟨FrW.new w2, Row.nil _ _, .inl rfl, by simp [Value.ownBlock]⟩
    have HB0 := Lib.hid hB0
    clear hB0
    generalize hn1 : w2.heap.size = B at HC HB0 ⊢
    have HN1 := Lib.hid hn1
    clear hn1
    generalize w2.alloc _ = w3 at HB0 ⊢
    go_loopw [8, 9, 10, 11] (fun r i _ _ wr => ∃ (k : Nat) (ss : List Nat) (row : Option Nat) (rv : Value), rv = r ∧ k ≤ ys.length ∧ k ≤ 60 ∧ ss.length ≤ k ∧ i = .int .i64 k ∧ RowKit.Hid (WrInts w2 B (flatW ls ss) row rv ss wr) ∧ RowKit.Hid (∀ s ∈ ss, s < ls.length ∧ ls.getD s 0 ≠ 0)) (fun _ i _ _ _ => 60 - (intOf i).toNat)
    case atStart => exact ⟨0, [], none, _, rfl, Nat.zero_le _, by omega, by simp, rfl, HB0, Lib.hid (fun s hs => by cases hs)⟩
    case round =>
      clear HB0
      obtain ⟨k, ss, row, rv, rfl, hk, hk6, hsl, rfl, HB, HSS⟩ := hrel
      by_cases hlt : k < ys.length ∧ k < 60
      · obtain ⟨hlt1, hlt2⟩ := hlt
        obtain ⟨g, off, rfl, hc⟩ := hcell k hlt1
        have hd1 : decide ((k : Int) < (ys.length : Int)) = true := by simp; omega
        have hd2 : decide ((k : Int) < 60) = true := by simp; omega
        have HC2 := Lib.hid hc
        have hwk := hwf _ (List.getElem_mem hlt1)
        have HT2 := Lib.hid (HT.out.trans HB.out.fr.touch)
        have hc1 := hc wr HT2.out
        have HCW := Lib.hid (HC.out.still HB.out.fr.touch)
        generalize ys[k] = z at hc1 HC2 hwk
        clear hc
        have hask := Lib.hid (word_asks b n0 B ls z wr HCW.out)
        go_wp2_with fail
        refine hask.out.mono ?_
        rintro e w4 ⟨V, N, rfl, hN, ht4⟩
        have HB4 := Lib.hid (HB.out.kept ht4)
        have hc4 := HC2.out w4 (HT2.out.trans ht4)
        have HT4 := Lib.hid (HT2.out.trans ht4)
        have HCW4 := Lib.hid (HCW.out.still ht4)
        clear ht4 hask HB HCW hc1 HT2
        by_cases hN0 : N = 0
        · subst hN0
          clear hN hcell hwf
          go_wp2_with fail
          go_roundw
          case rel => exact ⟨k + 1, ss, row, _, rfl, by omega, by omega, by omega, by go_num, HB4, HSS⟩
          case measure => simp [intOf]; omega
        · obtain ⟨s, rfl, hs, hs0⟩ := hN hN0
          have hN1 : 0 < (N : Int) := by omega
          have hwl : (flatW ls ss).length < 562949953421312 := by
            have := flatW_len ls ss (fun t ht => mem_15 ls H15.out t (HSS.out t ht).1)
            omega
          have hwr := Lib.hid (cwrite_calls b n0 B ls s B (flatW ls ss) row w4 HCW4.out hs hs0 HB4.out.fr.at_ hwl)
          clear hN hN0 hcell hwf
          go_wp2_with fail
          refine hwr.out.mono ?_
          rintro e w5 ⟨rfl, row5, h1, h2, h3⟩
          have hB5 := HB4.out.wrote h1 h2 h3
          rw [← flatW_snoc] at hB5
          have HB5 := Lib.hid hB5
          have hT5 := HT.out.trans hB5.fr.touch
          have hc5 := HC2.out w5 hT5
          have hrow5 := hB5.rowI
          obtain ⟨av, cv, hrv, hcv1, hcv2⟩ := hrow5.form
          rw [intVs_length] at hrv
          subst hrv
          clear h1 h2 h3 hB5 hwr HB4 hc4
          go_wp2_with (at_builtin; refine wpList_append_row _ rfl (.tmp 52) (.tmp 57) 22 22 rfl 3 i0 _ 8 Try.underlying22 hi hz0 hz1 hz2 rfl (.slice av ss.length cv) (intVs ss) rfl (by exact hrow5.kept (S := fun _ => False) ((Touch.refl _ _).alloc _) (fun _ _ => id)) (.slice (some ⟨w5.heap.size, 0, none⟩) 1 1) rfl 1 [.int .i64 (s : Int)] (by exact Src.ofCell Try.underlying22 (heap_alloc_new w5 _) rfl) (by rw [intVs_length]; unfold maxLen; omega) (by rw [intVs_length]; omega) ?_; intro v6 w6 hrow6 hgrow hown6)
          go_roundw
          case rel =>
            have h6 := HB5.out.pushed (w3 := w5.alloc (.cells #[.int .i64 (s : Int)] 3)) ((Touch.refl _ _).alloc _) (ss' := ss ++ [s]) (by rw [← intVs_snoc]; exact hrow6) hgrow hown6
            refine ⟨k + 1, ss ++ [s], row5, v6, by first | rfl | trivial, by omega, by omega, by simp; omega, by go_num, Lib.hid h6, Lib.hid fun t ht => ?_⟩
            rcases List.mem_append.1 ht with ht | ht
            · exact HSS.out t ht
            · obtain rfl := List.mem_singleton.1 ht
              exact ⟨hs, hs0⟩
          case measure => simp [intOf]; omega
      · by_cases hk1 : k < ys.length
        · have hd1 : decide ((k : Int) < (ys.length : Int)) = true := by simp; omega
          have hd2 : decide ((k : Int) < 60) = false := by simp; omega
          have hl0 : (flatW ls ss).length ≤ 900 := by
            have := flatW_len ls ss (fun t ht => mem_15 ls H15.out t (HSS.out t ht).1)
            omega
          have hw7 := Lib.hid (write_calls B 0 0 7 (flatW ls ss) row wr HB.out.fr.at_ (by omega) (by omega) (by omega) (by omega))
          clear hcell hwf hlt
          go_wp2_with fail
          refine hw7.out.mono ?_
          rintro e w5 ⟨rfl, row5, h1, h2, h3⟩
          have HB5 := Lib.hid (HB.out.wrote h1 h2 h3)
          clear h1 h2 h3 hw7 HB
          have hal := Lib.hid (walign_calls B 0 _ row5 w5 HB5.out.fr.at_ (by rw [List.length_append, bitsN_length]; omega))
          go_wp2_with fail
          refine hal.out.mono ?_
          rintro e w6 ⟨rfl, row6, h1, h2, h3⟩
          have HB6 := Lib.hid (HB5.out.wrote h1 h2 h3)
          clear h1 h2 h3 hal HB5
          obtain ⟨bs, hbs, hby⟩ := drained w6 B 0 _ row6 HB6.out.fr.at_
          have hbl := congrArg List.length hbs
          rw [bitsL_length, List.length_append, List.length_append, List.length_replicate, bitsN_length] at hbl
          have hpad : ∀ n, padN n < 8 := fun n => by unfold padN; omega
          have hp1 := hpad ((flatW ls ss).length + 7)
          have hbl2 : bs.length ≤ 200 := by omega
          obtain ⟨R, hR⟩ : ∃ R, R = bitsN 7 0 ++ List.replicate (padN (flatW ls ss ++ bitsN 7 0).length) 0 := ⟨_, rfl⟩
          have HBITS := Lib.hid (show bitsL bs = flatW ls ss ++ R by rw [hbs, hR, List.append_assoc])
          have HR2 := Lib.hid (show ∀ x ∈ R, x < 2 by
            rw [hR]
            intro x hx
            rcases List.mem_append.1 hx with hx | hx
            · exact bitsN_lt _ _ x hx
            · rw [(List.mem_replicate.1 hx).2]; decide)
          have HBY := Lib.hid hby
          clear hbs hbl hpad hp1 hR hby
          have hrd0 := Lib.hid (RdAt.new w6)
          have HB7 := Lib.hid (HB6.out.kept ((Touch.refl (fun _ => False) _).alloc (.cells #[.slice none 0 0, .int .i64 0] 39)))
          have hBlt := HB6.out.fr.at_.lt
          have hrvlt := Lib.hid HB6.out.rowI.lt
          have hdr := Lib.hid (drain_calls B 0 _ row6 _ HB7.out.fr.at_)
          rw [HBY.out] at hdr
          clear HB6
          generalize hRB : w6.heap.size = rb at hrd0 hBlt hrvlt
          have HRB := Lib.hid hRB
          have hrbB : rb ≠ B := by omega
          go_wp2_with fail
          clear hRB
          refine hdr.out.mono ?_
          rintro e w8 ⟨rfl, _, ht8⟩
          have hRd8 := hrd0.out.kept ht8 hrbB (fun _ h => by cases h)
          have hfe := Lib.hid (feed_calls rb 0 ⟨bs.toArray⟩ [] none w8 hRd8 (by show 0 + 8 * bs.toArray.size < _; simp; omega))
          have hrow8 := HB7.out.rowI.kept ht8 (fun g hg e => HB7.out.ne (by rw [hg, e]))
          have hT8 := fresh_step1 HB7.out.fr.touch HB7.out.fr.fresh ht8
          have HT8 := Lib.hid hT8
          have HROW8 := Lib.hid hrow8
          have hBrb : B < rb := hBlt
          clear hRd8 hrow8 hT8 ht8 hdr
          go_wp2_with fail
          refine hfe.out.mono ?_
          rintro e w10 ⟨rfl, row10, hrd, hsep, ht10⟩
          rw [List.nil_append, HBITS.out] at hrd
          have hrow10 := HROW8.out.kept ht10 (fun g hg e => by
            have h9 := hrvlt.out g hg
            rcases e with e | e
            · omega
            · cases e)
          have hT10 : Touch (fun _ => False) w2 w10 := HT8.out.trans' ht10 (fun i hi => by
            rcases hi with rfl | hi
            · right; rw [HN1.out]; omega
            · cases hi)
          have HC10 := Lib.hid (HC.out.still hT10)
          have HRD := Lib.hid hrd
          have HROW := Lib.hid hrow10
          have HT10 := Lib.hid (HT.out.trans hT10)
          obtain ⟨av, cv, hrv, hcv1, hcv2⟩ := hrow10.form
          rw [intVs_length] at hrv
          subst hrv
          clear hrd hrow10 hT10 hfe hsep ht10 HROW8 HT8 HB7 hrd0
          have hself := Lib.hid (Touch.refl (fun k => k = rb) w10)
          have hsl2 : ss.length ≤ 60 := by omega
          clear hk hk6 hsl
          go_wp2_with fail
          go_loopw [4, 13, 14, 15] (fun r i _ _ wr => r = .bool false ∧ ∃ k : Nat, k ≤ ss.length ∧ i = .int .i64 k ∧ RowKit.Hid (RdAt wr rb 0 (flatW ls (ss.drop k) ++ R) row10) ∧ RowKit.Hid (Touch (fun k => k = rb) w10 wr)) (fun _ i _ _ _ => ss.length - (intOf i).toNat)
          case atStart => exact ⟨by first | rfl | trivial, 0, Nat.zero_le _, rfl, Lib.hid HRD.out, hself⟩
          case round =>
            clear HRD hself
            obtain ⟨rfl, m, hm, rfl, HRD, HTR⟩ := hrel
            by_cases hltm : m < ss.length
            · have hsm := HSS.out _ (List.getElem_mem hltm)
              have hdrop := Lib.hid (List.drop_eq_getElem_cons hltm)
              obtain ⟨gv, ov, ev, hcw⟩ := row_at HROW.out m (.int .i64 (ss[m] : Nat)) (by simp [intVs, hltm])
              subst ev
              have hgv : gv ≠ rb := fun e => by have := hrvlt.out gv rfl; omega
              have HCW := Lib.hid (fun W (hW : Touch (fun k => k = rb) w10 W) => hW.cell hcw hgv)
              generalize ss[m] = s at hsm hdrop HCW
              have HRD2 := HRD.out
              rw [hdrop.out, flatW_cons, List.append_assoc] at HRD2
              have HFND := Lib.hid (found_head ls s (flatW ls (ss.drop (m + 1)) ++ R) hsm.1 hsm.2)
              have h2 : ∀ x ∈ wordH (ls.getD s 0) (codeN ls s) ++ (flatW ls (ss.drop (m + 1)) ++ R), x < 2 := fun x hx => by
                rcases List.mem_append.1 hx with hx | hx
                · exact wordH_lt _ _ x hx
                · rcases List.mem_append.1 hx with hx | hx
                  · exact flatW_lt _ _ x hx
                  · exact HR2.out x hx
              have HL2 := Lib.hid h2
              have hll : (wordH (ls.getD s 0) (codeN ls s) ++ (flatW ls (ss.drop (m + 1)) ++ R)).length ≤ 8 * bs.length := by
                have h9 := congrArg List.length HBITS.out
                rw [bitsL_length] at h9
                have h10 := congrArg List.length (flatW_append ls (ss.take m) (ss.drop m))
                rw [List.take_append_drop, List.length_append] at h10
                rw [hdrop.out, flatW_cons, List.length_append] at h10
                rw [List.length_append] at h9
                rw [List.length_append, List.length_append]
                omega
              have hnx := Lib.hid (next_calls b n0 B ls rb 0 _ row10 wr (HC10.out.kept HTR.out (fun k _ hk e => by omega)) HWH.out HRD2 h2 (by omega) (fun e => by omega))
              clear hcw HRD2 h2 hll
              go_wp2_with fail
              refine hnx.out.mono ?_
              rintro e w12 (⟨t, hft, rfl, hrd12, ht12⟩ | ⟨hn12, _⟩ | ⟨hn12, _⟩)
              · obtain rfl : t = s := found_one ls _ H15.out HK.out HL2.out hft HFND.out
                rw [List.drop_left' (wordH_length _ _)] at hrd12
                have HRD12 := Lib.hid hrd12
                have HT12 := Lib.hid (HTR.out.trans ht12)
                have hcc := HCW.out w12 HT12.out
                clear hft hrd12 ht12 hnx
                go_wp2_with fail
                go_roundw
                case rel => exact ⟨by first | rfl | trivial, m + 1, by omega, by go_num, HRD12, HT12⟩
                case measure => simp [intOf]; omega
              · exact absurd HFND.out (hn12 s)
              · exact absurd HFND.out (hn12 s)
            · obtain rfl : m = ss.length := by omega
              go_wp2_with fail
              go_ret
              exact ⟨rfl, HT10.out.trans' HTR.out (fun i hi => by
                right
                have h9 := HT.out.size
                rw [HN1.out] at h9
                omega)⟩
        · have hd1 : decide ((k : Int) < (ys.length : Int)) = false := by simp; omega
          have hl0 : (flatW ls ss).length ≤ 900 := by
            have := flatW_len ls ss (fun t ht => mem_15 ls H15.out t (HSS.out t ht).1)
            omega
          have hw7 := Lib.hid (write_calls B 0 0 7 (flatW ls ss) row wr HB.out.fr.at_ (by omega) (by omega) (by omega) (by omega))
          clear hcell hwf hlt
          go_wp2_with fail
          refine hw7.out.mono ?_
          rintro e w5 ⟨rfl, row5, h1, h2, h3⟩
          have HB5 := Lib.hid (HB.out.wrote h1 h2 h3)
          clear h1 h2 h3 hw7 HB
          have hal := Lib.hid (walign_calls B 0 _ row5 w5 HB5.out.fr.at_ (by rw [List.length_append, bitsN_length]; omega))
          go_wp2_with fail
          refine hal.out.mono ?_
          rintro e w6 ⟨rfl, row6, h1, h2, h3⟩
          have HB6 := Lib.hid (HB5.out.wrote h1 h2 h3)
          clear h1 h2 h3 hal HB5
          obtain ⟨bs, hbs, hby⟩ := drained w6 B 0 _ row6 HB6.out.fr.at_
          have hbl := congrArg List.length hbs
          rw [bitsL_length, List.length_append, List.length_append, List.length_replicate, bitsN_length] at hbl
          have hpad : ∀ n, padN n < 8 := fun n => by unfold padN; omega
          have hp1 := hpad ((flatW ls ss).length + 7)
          have hbl2 : bs.length ≤ 200 := by omega
          obtain ⟨R, hR⟩ : ∃ R, R = bitsN 7 0 ++ List.replicate (padN (flatW ls ss ++ bitsN 7 0).length) 0 := ⟨_, rfl⟩
          have HBITS := Lib.hid (show bitsL bs = flatW ls ss ++ R by rw [hbs, hR, List.append_assoc])
          have HR2 := Lib.hid (show ∀ x ∈ R, x < 2 by
            rw [hR]
            intro x hx
            rcases List.mem_append.1 hx with hx | hx
            · exact bitsN_lt _ _ x hx
            · rw [(List.mem_replicate.1 hx).2]; decide)
          have HBY := Lib.hid hby
          clear hbs hbl hpad hp1 hR hby
          have hrd0 := Lib.hid (RdAt.new w6)
          have HB7 := Lib.hid (HB6.out.kept ((Touch.refl (fun _ => False) _).alloc (.cells #[.slice none 0 0, .int .i64 0] 39)))
          have hBlt := HB6.out.fr.at_.lt
          have hrvlt := Lib.hid HB6.out.rowI.lt
          have hdr := Lib.hid (drain_calls B 0 _ row6 _ HB7.out.fr.at_)
          rw [HBY.out] at hdr
          clear HB6
          generalize hRB : w6.heap.size = rb at hrd0 hBlt hrvlt
          have HRB := Lib.hid hRB
          have hrbB : rb ≠ B := by omega
          go_wp2_with fail
          clear hRB
          refine hdr.out.mono ?_
          rintro e w8 ⟨rfl, _, ht8⟩
          have hRd8 := hrd0.out.kept ht8 hrbB (fun _ h => by cases h)
          have hfe := Lib.hid (feed_calls rb 0 ⟨bs.toArray⟩ [] none w8 hRd8 (by show 0 + 8 * bs.toArray.size < _; simp; omega))
          have hrow8 := HB7.out.rowI.kept ht8 (fun g hg e => HB7.out.ne (by rw [hg, e]))
          have hT8 := fresh_step1 HB7.out.fr.touch HB7.out.fr.fresh ht8
          have HT8 := Lib.hid hT8
          have HROW8 := Lib.hid hrow8
          have hBrb : B < rb := hBlt
          clear hRd8 hrow8 hT8 ht8 hdr
          go_wp2_with fail
          refine hfe.out.mono ?_
          rintro e w10 ⟨rfl, row10, hrd, hsep, ht10⟩
          rw [List.nil_append, HBITS.out] at hrd
          have hrow10 := HROW8.out.kept ht10 (fun g hg e => by
            have h9 := hrvlt.out g hg
            rcases e with e | e
            · omega
            · cases e)
          have hT10 : Touch (fun _ => False) w2 w10 := HT8.out.trans' ht10 (fun i hi => by
            rcases hi with rfl | hi
            · right; rw [HN1.out]; omega
            · cases hi)
          have HC10 := Lib.hid (HC.out.still hT10)
          have HRD := Lib.hid hrd
          have HROW := Lib.hid hrow10
          have HT10 := Lib.hid (HT.out.trans hT10)
          obtain ⟨av, cv, hrv, hcv1, hcv2⟩ := hrow10.form
          rw [intVs_length] at hrv
          subst hrv
          clear hrd hrow10 hT10 hfe hsep ht10 HROW8 HT8 HB7 hrd0
          have hself := Lib.hid (Touch.refl (fun k => k = rb) w10)
          have hsl2 : ss.length ≤ 60 := by omega
          clear hk hk6 hsl
          go_wp2_with fail
          go_loopw [4, 13, 14, 15] (fun r i _ _ wr => r = .bool false ∧ ∃ k : Nat, k ≤ ss.length ∧ i = .int .i64 k ∧ RowKit.Hid (RdAt wr rb 0 (flatW ls (ss.drop k) ++ R) row10) ∧ RowKit.Hid (Touch (fun k => k = rb) w10 wr)) (fun _ i _ _ _ => ss.length - (intOf i).toNat)
          case atStart => exact ⟨by first | rfl | trivial, 0, Nat.zero_le _, rfl, Lib.hid HRD.out, hself⟩
          case round =>
            clear HRD hself
            obtain ⟨rfl, m, hm, rfl, HRD, HTR⟩ := hrel
            by_cases hltm : m < ss.length
            · have hsm := HSS.out _ (List.getElem_mem hltm)
              have hdrop := Lib.hid (List.drop_eq_getElem_cons hltm)
              obtain ⟨gv, ov, ev, hcw⟩ := row_at HROW.out m (.int .i64 (ss[m] : Nat)) (by simp [intVs, hltm])
              subst ev
              have hgv : gv ≠ rb := fun e => by have := hrvlt.out gv rfl; omega
              have HCW := Lib.hid (fun W (hW : Touch (fun k => k = rb) w10 W) => hW.cell hcw hgv)
              generalize ss[m] = s at hsm hdrop HCW
              have HRD2 := HRD.out
              rw [hdrop.out, flatW_cons, List.append_assoc] at HRD2
              have HFND := Lib.hid (found_head ls s (flatW ls (ss.drop (m + 1)) ++ R) hsm.1 hsm.2)
              have h2 : ∀ x ∈ wordH (ls.getD s 0) (codeN ls s) ++ (flatW ls (ss.drop (m + 1)) ++ R), x < 2 := fun x hx => by
                rcases List.mem_append.1 hx with hx | hx
                · exact wordH_lt _ _ x hx
                · rcases List.mem_append.1 hx with hx | hx
                  · exact flatW_lt _ _ x hx
                  · exact HR2.out x hx
              have HL2 := Lib.hid h2
              have hll : (wordH (ls.getD s 0) (codeN ls s) ++ (flatW ls (ss.drop (m + 1)) ++ R)).length ≤ 8 * bs.length := by
                have h9 := congrArg List.length HBITS.out
                rw [bitsL_length] at h9
                have h10 := congrArg List.length (flatW_append ls (ss.take m) (ss.drop m))
                rw [List.take_append_drop, List.length_append] at h10
                rw [hdrop.out, flatW_cons, List.length_append] at h10
                rw [List.length_append] at h9
                rw [List.length_append, List.length_append]
                omega
              have hnx := Lib.hid (next_calls b n0 B ls rb 0 _ row10 wr (HC10.out.kept HTR.out (fun k _ hk e => by omega)) HWH.out HRD2 h2 (by omega) (fun e => by omega))
              clear hcw HRD2 h2 hll
              go_wp2_with fail
              refine hnx.out.mono ?_
              rintro e w12 (⟨t, hft, rfl, hrd12, ht12⟩ | ⟨hn12, _⟩ | ⟨hn12, _⟩)
              · obtain rfl : t = s := found_one ls _ H15.out HK.out HL2.out hft HFND.out
                rw [List.drop_left' (wordH_length _ _)] at hrd12
                have HRD12 := Lib.hid hrd12
                have HT12 := Lib.hid (HTR.out.trans ht12)
                have hcc := HCW.out w12 HT12.out
                clear hft hrd12 ht12 hnx
                go_wp2_with fail
                go_roundw
                case rel => exact ⟨by first | rfl | trivial, m + 1, by omega, by go_num, HRD12, HT12⟩
                case measure => simp [intOf]; omega
              · exact absurd HFND.out (hn12 s)
              · exact absurd HFND.out (hn12 s)
            · obtain rfl : m = ss.length := by omega
              go_wp2_with fail
              go_ret
              exact ⟨rfl, HT10.out.trans' HTR.out (fun i hi => by
                right
                have h9 := HT.out.size
                rw [HN1.out] at h9
                omega)⟩
end Go.Proofs.Ytmeidbggebcddaa

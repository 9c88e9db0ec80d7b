/- The statement WalEntries over the translated program. -/
import Derived.Test.YtpgjheckdblggaaWlW
import Derived.Test.YtpgjheckdblggaaWlTeaWalk
import Derived.Test.YtpgjheckdblggaaWlPutWalk
namespace Go.Proofs.Ytpgjheckdblggaa
open Go Go.RowKit Go.Maps
set_option maxRecDepth 100000

theorem Try.infoStr : (Try.prog.info? 9).map (fun i => (i.zero, i.size, i.bytes)) = some (some (.string ⟨#[]⟩), 1, 16) := by kernel_rfl
def noteL (all : List ByteArray) : List (List UInt8) := all.map fun s => s.data.toList

theorem lput2_calls {w : World} {b lb mb c n : Nat} {L : List UInt8} {t : Nat} {gb at' sn : Nat} {s0 : ByteArray} {all : List ByteArray} (h : Live w b lb mb c n L t (-1) gb at' sn all.length s0) (hA : LogAll (secsOf L at' sn) (noteL all)) (h2 : 2 ≤ sn) (hfit : at' + sn ≤ n) (s : ByteArray) (hs : s.size ≤ 23) (hN : all.length < 1000000) (ht : t < 1000000) :
    Calls Try.prog 32 #[.pointer (some ⟨gb, 0, none⟩), .string s] w fun e w' => e = .returned (.int .i64 0) ∧ Touch (fun k => DkS b lb mb k ∨ k = gb) w w' ∧ ∃ L', Live w' b lb mb c n L' (t + 1) (-1) gb at' sn (all.length + 1) s ∧ LogAll (secsOf L' at' sn) (noteL (all ++ [s])) := by
  refine (put_calls h.disk h.log h.sep h2 hfit s hN hs ht).mono ?_
  rintro e w' ⟨hT, ⟨hf0, hf1, rfl, hL, L', hL', hD⟩ | ⟨hf, _⟩⟩
  · have hr : (all.length + 1) % sn < sn := Nat.mod_lt _ (by omega)
    have hsz : s.data.toList.length ≤ 23 := by rw [Array.length_toList]; exact hs
    have hp := h.secs.put (by rw [secsOf_len]; exact h2) s.data.toList hsz
    have hq := hA.put (by rw [secsOf_len]; exact h2) s.data.toList hsz
    rw [secsOf_len] at hp hq
    rw [show (noteL all).length = all.length by simp [noteL]] at hq
    have e1 := secsOf_put hr hfit hL'
    rw [burn_none'] at hD
    exact ⟨rfl, hT, L', ⟨hD, hL, h.sep, by rw [e1]; exact hp⟩, by rw [e1, show noteL (all ++ [s]) = noteL all ++ [s.data.toList] by simp [noteL]]; exact hq⟩
  · omega

theorem Live.away' {S : Nat → Prop} {w w' : World} {b lb mb c n : Nat} {L : List UInt8} {t : Nat} {f : Int} {gb at' sn N : Nat} {s : ByteArray} (h : Live w b lb mb c n L t f gb at' sn N s) (ht : Touch S w w') (hs : ∀ k, DkS b lb mb k ∨ k = gb → ¬ S k) : Live w' b lb mb c n L t f gb at' sn N s :=
  ⟨h.disk.kept ht (hs _ (.inl (.inl rfl))) (hs _ (.inl (.inr (.inl rfl)))) (hs _ (.inl (.inr (.inr rfl)))), h.log.kept ht (hs _ (.inr rfl)), h.sep, h.secs⟩
theorem noteL_at (all : List ByteArray) (q : Nat) (hq : q < all.length) : (⟨((noteL all).getD q []).toArray⟩ : ByteArray) = all[q] := by
  unfold noteL
  rw [List.getD_eq_getElem?_getD, List.getElem?_map, List.getElem?_eq_getElem hq]
  exact ba_self _
theorem min_facts {N sn k : Nat} (h : k = min N sn) : min (N : Int) (sn : Int) = (k : Int) ∧ (if (sn : Int) < (N : Int) then (sn : Int) else (N : Int)) = (k : Int) ∧ (if sn < N then (sn : Int) else (N : Int)) = (k : Int) := by
  refine ⟨by omega, ?_, ?_⟩ <;> split <;> omega
theorem lastT_at (all : List (List UInt8)) (s i : Nat) (hi : i < min all.length s) : numE (lastT all s) i = all.length - min all.length s + i + 1 ∧ ((lastT all s).getD i (0, [])).2 = all.getD (all.length - min all.length s + i) [] := by
  unfold numE lastT
  rw [List.getD_eq_getElem?_getD, List.getElem?_map, List.getElem?_range hi]
  exact ⟨rfl, rfl⟩

set_option maxHeartbeats 4000000 in
theorem wentries_calls (l : List ByteArray) (zs : Int) (v0 : Value) (w : World) (hl : Reads w v0 (l.map Value.string)) (hsz : ∀ s ∈ l, s.size ≤ 9223372036854775807) :
    Calls Try.prog 10 #[v0, .int .i64 zs] w fun e w' => e = .returned (.bool true) ∧ Touch (fun _ => False) w w' := by
  obtain ⟨i0, hi, hz0, hz1, hz2⟩ := info_parts Try.infoStr
  obtain ⟨a, cap, hv, hc1, hc2⟩ := hl.form
  rw [List.length_map] at hv hc1
  unfold maxLen at hc2
  have HL := Lib.hid hl
  have HSZ := Lib.hid hsz
  clear hl hsz
  subst hv
  obtain ⟨r, hr⟩ : ∃ r : Nat, zs % 8 = (r : Int) := ⟨(zs % 8).toNat, by omega⟩
  have hr8 : r < 8 := by omega
  have h7 : bits .and .i64 zs 7 = (r : Int) := by rw [i64_and7', hr]
  clear hr
  obtain ⟨sn, hsn⟩ : ∃ sn : Nat, 2 + r = sn := ⟨_, rfl⟩
  have hsnw : IntKind.i64.wrap (2 + (r : Int)) = (sn : Int) := by rw [IntWalk.i64_in _ (by omega)]; omega
  have hsnI : (2 : Int) + (r : Int) = (sn : Int) := by omega
  have hs2 : 2 ≤ sn := by omega
  have hs9 : sn ≤ 9 := by omega
  have hfit : 1 + sn ≤ 12 := by omega
  clear hsn
  go_enter Try.func10, Try.ntmps10
  go_wp2_with fail
  refine (speaks18_calls w).mono ?_
  rintro e w0 ⟨rfl, hT0⟩
  go_wp2_with fail
  refine (new_calls 12 w0 (by omega) (by omega)).mono ?_
  rintro e w1 ⟨b, lb, mb, rfl, hD1, hN, hT1⟩
  have HD1 := Lib.hid hD1
  have HNB := Lib.hid hN
  clear hD1 hN
  go_wp2_with fail
  refine (lopen_calls HD1.out 1 sn hs2 hfit (N := 0) (s := ⟨#[]⟩) (by omega) (by rw [secsOf_zero hfit]; exact LogSecs.start sn)).mono ?_
  rintro e w2 ⟨gb, rfl, hV2, hg2, hT2⟩
  have HV2 := Lib.hid hV2
  have HLT : Hid (∀ k, DkS b lb mb k ∨ k = gb → k < w2.heap.size) := Lib.hid (fun k hk => by
    have h1 := hV2.disk.lt; have h2 := hV2.log.lt
    rcases hk with (h | h | h) | h <;> omega)
  have hT02 := (hT0.trans hT1).trans hT2
  have HNN : Hid (∀ k, DkS b lb mb k ∨ k = gb → w.heap.size ≤ k) := Lib.hid (fun k hk => by
    have := HNB.out; have := hT0.size; have := hT1.size
    rcases hk with (h | h | h) | h <;> omega)
  have HT2 := Lib.hid hT02
  clear hV2 hT0 hT1 hT2 hT02 hg2 h7 hsnw hsnI
  go_wp2_with fail
  go_loopw [9, 10] (fun v9 v10 wr => ∃ (all : List ByteArray) (s : ByteArray) (L : List UInt8), v10 = .int .i64 all.length ∧ all.length ≤ 25 ∧ all.length ≤ l.length ∧ wr.ownsRow w2.heap.size 9 1 v9 all.length (all.map Value.string) ∧ Live wr b lb mb (12 * 64) 12 L all.length (-1) gb 1 sn all.length s ∧ LogAll (secsOf L 1 sn) (noteL all) ∧ Touch (fun _ => False) w wr ∧ w2.heap.size ≤ wr.heap.size) (fun _ i _ => l.length - (intOf i).toNat)
  case atStart => exact ⟨[], ⟨#[]⟩, _, rfl, by simp, by simp, World.ownsRow_nil _ _ _ _, HV2.out, by rw [secsOf_zero hfit]; exact LogAll.start sn, HT2.out, Nat.le_refl _⟩
  case round =>
    obtain ⟨all, s, L, rfl, hN25, hNl, hO, hV, hA, hT, hzz⟩ := hrel
    obtain ⟨N, hN⟩ : ∃ N, all.length = N := ⟨_, rfl⟩
    rw [hN] at hN25 hNl hO hV ⊢
    have HV := Lib.hid (⟨hV, hA, hT, hzz, hN⟩ : _ ∧ _ ∧ _ ∧ _ ∧ _)
    obtain ⟨aa, ca, hv9, hcc1, hcc2⟩ := own_form hO
    subst hv9
    have HO := Lib.hid hO
    clear hV hA hT hzz hN hO
    unfold maxLen at hcc2
    by_cases hlt : N < l.length ∧ N < 25
    · obtain ⟨hlt, hlt25⟩ := hlt
      have hI1 : (N : Int) < (l.length : Int) := by omega
      have hI2 : (N : Int) < 25 := by omega
      go_upto_region 10 with fail
      obtain ⟨x, hx⟩ : ∃ x, l[N]? = some x := ⟨_, List.getElem?_eq_getElem (by omega)⟩
      obtain ⟨g, off, cap', hga, _, _, _, hcell⟩ := (HL.out.still HV.out.2.2.1).addr (by rw [List.length_map]; omega)
      injection hga with hga hq1 hq2
      clear hq1 hq2
      subst hga
      have hxs : x.size ≤ 9223372036854775807 := HSZ.out x (List.mem_of_getElem? hx)
      have p0 : wr.cell? ⟨g, off + N, none⟩ = some (.string x) := hcell N _ (by rw [List.getElem?_map, hx]; rfl)
      obtain ⟨k, hk⟩ : ∃ k, k = min x.size 23 := ⟨_, rfl⟩
      obtain ⟨S, hS⟩ : ∃ S, x.extract 0 k = S := ⟨_, rfl⟩
      have HS23 : Hid (S.size ≤ 23) := Lib.hid (by rw [← hS, hk]; exact T23_size x)
      have hk1 : min (x.size : Int) 23 = (k : Int) := by omega
      have hk3 : (if (23 : Int) < (x.size : Int) then (23 : Int) else (x.size : Int)) = (k : Int) := by split <;> omega
      have hk2 : (k : Int) ≤ (x.size : Int) := by omega
      have hk0 : (0 : Int) ≤ (k : Int) := by omega
      clear hk hcell hx
      go_quiet (fail)
      clear hk1 hk2 hk3 hk0 hS p0 hxs
      have hiw : IntKind.i64.wrap ((N : Int) + 1) = (N : Int) + 1 := IntWalk.i64_in _ (by omega)
      go_wp2_with fail
      have hput := HV.out.1
      rw [← HV.out.2.2.2.2] at hput
      refine (lput2_calls (hput.still ((Touch.refl _ wr).drewN _)) HV.out.2.1 hs2 hfit S HS23.out (by have := HV.out.2.2.2.2; omega) (by have := HV.out.2.2.2.2; omega)).mono ?_
      clear hput
      rintro e wb ⟨rfl, hTb, L', hVb, hAb⟩
      rw [HV.out.2.2.2.2] at hVb
      have hTrb := ((Touch.refl (fun _ => False) wr).drewN _).weak.trans hTb
      have hTnb : Touch (fun _ => False) w wb := HV.out.2.2.1.trans' hTrb (fun i hi => .inr (HNN.out i hi))
      have hnew := heap_alloc_new wb (.cells #[.string S] 9)
      have hTa := (Touch.refl (fun _ => False) wb).alloc (.cells #[.string S] 9)
      have hOn := own_still (own_still HO.out hTrb (fun g hg hS => by have := own_base HO.out g hg; have := HLT.out g hS; omega)) hTa (fun _ _ => id)
      have hsb := hTrb.size
      have hsz1 : (wb.alloc (.cells #[.string S] 9)).heap.size = wb.heap.size + 1 := Array.size_push ..
      have hcl : ∀ j u, [Value.string S][j]? = some u → (wb.alloc (.cells #[.string S] 9)).cell? ((⟨wb.heap.size, 0, none⟩ : Addr).add j) = some u := fun j u hu => by rw [add_plain, Nat.zero_add, cell_of_row _ _ _ _ _ _ hnew]; simpa using hu
      have HCL := Lib.hid hcl
      have hzz := HV.out.2.2.2.1
      have HB := Lib.hid (⟨hVb, hAb, hTnb, hnew, hTa, hOn, hTrb⟩ : _ ∧ _ ∧ _ ∧ _ ∧ _ ∧ _ ∧ _)
      clear hVb hAb hTb hTrb hTnb hnew hTa hOn hcl
      go_wp2_with (at_builtin; refine wpList_append_own_at _ rfl (.tmp 61) (.tmp 63) 44 rfl w2.heap.size 9 i0 _ 1 16 Try.underlying44 hi hz0 hz1 hz2 rfl (by decide) (.slice aa N ca) N _ rfl HB.out.2.2.2.2.2.1 ⟨wb.heap.size, 0, none⟩ 1 1 [.string S] rfl rfl HCL.out (fun u hu => by simp at hu; subst hu; rfl) (by unfold maxLen; omega) (by omega) (by omega) ?_; intro v2 w3 hrow2 hgrow _ hown2)
      go_roundw
      case rel =>
        have hN := HV.out.2.2.2.2
        refine ⟨all ++ [S], S, L', by rw [List.length_append, List.length_singleton, hN]; go_num, by rw [List.length_append, List.length_singleton]; omega, by rw [List.length_append, List.length_singleton]; omega, ?_, ?_, HB.out.2.1, ?_, ?_⟩
        · rw [List.length_append, List.length_singleton, hN, List.map_append]
          exact hrow2
        · rw [List.length_append, List.length_singleton, hN]
          exact (HB.out.1.still HB.out.2.2.2.2.1).away' (Touch.of_grown hgrow) (fun k hk hS => by have := own_base HO.out k hS.symm; have := HLT.out k hk; omega)
        · exact (HB.out.2.2.1.trans HB.out.2.2.2.2.1).trans' (Touch.of_grown hgrow) (fun i hi => .inr (by have := own_base HO.out i hi.symm; have := HT2.out.size; omega))
        · have := (Touch.of_grown hgrow).size; omega
      case measure => simp [intOf]; omega
    · clear hcc2
      have hcase : ¬ ((N : Int) < (l.length : Int)) ∨ ((N : Int) < (l.length : Int) ∧ ¬ ((N : Int) < 25)) := by omega
      rcases hcase with hAA | ⟨hAA, hA2⟩
      all_goals
        go_wp2_with fail
        refine (entries_calls HV.out.1.disk HV.out.1.log hfit hs9).mono ?_
        rintro e w4 ⟨v, k, es', rfl, hk, hP, hS, hT4, hform⟩
        have hNl2 : (noteL all).length = N := by simp [noteL, HV.out.2.2.2.2]
        have hes := entries_are HV.out.2.1 (by rw [secsOf_len]; omega) (by rw [hNl2]; omega) hP (by rw [hP.length_eq, ← hk]; exact hS)
        rw [secsOf_len] at hes
        have hkl : k = min N sn := by rw [hk, ← hP.length_eq, hes, lastT_len, hNl2]
        have hform2 : ∃ av cv, v = .slice av k cv ∧ k ≤ cv ∧ cv ≤ maxLen ∧ (0 < k → ∃ g, av = some ⟨g, 0, none⟩ ∧ EBlk w4 g (lastT (noteL all) sn)) := by
          rcases hform with ⟨h1, h2⟩ | ⟨g, cv, h1, h2, h3, h4⟩
          · exact ⟨none, 0, by rw [h2, h1], by omega, Nat.zero_le _, fun h => by omega⟩
          · exact ⟨_, cv, h1, h2, h3, fun _ => ⟨g, rfl, by rw [← hes]; exact h4⟩⟩
        obtain ⟨av, cv, hv, hcv1, hcv2, hblk⟩ := hform2
        subst hv
        unfold maxLen at hcv2
        have HK := Lib.hid (⟨hkl, hNl2, hT4, hblk⟩ : _ ∧ _ ∧ _ ∧ _)
        have hkN : k ≤ N := by omega
        obtain ⟨hm1, hm2, hm3⟩ := min_facts hkl
        clear hkl hNl2 hT4 hblk hes hk hP hS hform
        go_wp2_with fail
        go_loopw [14, 15] (fun v14 _ wq => ∃ i : Nat, v14 = .int .i64 i ∧ i ≤ k ∧ Touch (fun _ => False) w4 wq) (fun i _ _ => k - (intOf i).toNat)
        case atStart => exact ⟨0, rfl, Nat.zero_le _, Touch.refl _ _⟩
        case round =>
          obtain ⟨i, rfl, hik, hTq⟩ := hrel
          by_cases hlt2 : i < k
          · have hiI : (i : Int) < (k : Int) := by omega
            obtain ⟨g, hg, hblk⟩ := HK.out.2.2.2 (by omega)
            subst hg
            have hlen := lastT_len (noteL all) sn
            rw [HK.out.2.1, ← HK.out.1] at hlen
            obtain ⟨x0, x1⟩ := (hblk.kept hTq id).cells i (by omega)
            obtain ⟨l1, l2⟩ := lastT_at (noteL all) sn i (by rw [HK.out.2.1, ← HK.out.1]; exact hlt2)
            rw [HK.out.2.1, ← HK.out.1] at l1 l2
            obtain ⟨d, hd⟩ : ∃ d : Nat, N - k = d := ⟨_, rfl⟩
            obtain ⟨q, hq⟩ : ∃ q : Nat, d + i = q := ⟨_, rfl⟩
            obtain ⟨M, hM⟩ : ∃ M : Nat, q + 1 = M := ⟨_, rfl⟩
            have hqN : q < N := by omega
            have hqa : q < all.length := by rw [HV.out.2.2.2.2]; exact hqN
            rw [hd, hq, hM] at l1
            rw [hd, hq] at l2
            rw [l1] at x0
            rw [l2, noteL_at all q hqa] at x1
            obtain ⟨ga, capa, hva, _, hcella⟩ := own_cell HO.out (by omega)
            injection hva with hva hva1 hva2
            clear hva1 hva2
            subst hva
            have y0 := hTq.cell (HK.out.2.2.1.cell (hcella q (.string all[q]) (by rw [List.getElem?_map, List.getElem?_eq_getElem hqa]; rfl)) id) id
            generalize all[q] = X at x1 y0
            have hqI : (q : Int) < (N : Int) := by omega
            have hdI : (N : Int) - (k : Int) = (d : Int) := by omega
            have hdw : IntKind.i64.wrap ((N : Int) - (k : Int)) = (d : Int) := by rw [hdI]; exact IntWalk.i64_in _ (by omega)
            have hsI : (d : Int) + (i : Int) = (q : Int) := by omega
            have hsw : IntKind.i64.wrap ((d : Int) + (i : Int)) = (q : Int) := by rw [hsI]; exact IntWalk.i64_in _ (by omega)
            have hMI : (q : Int) + 1 = (M : Int) := by omega
            have hMw : IntKind.i64.wrap ((q : Int) + 1) = (M : Int) := by rw [hMI]; exact IntWalk.i64_in _ (by omega)
            have hMu : IntKind.u64.wrap (M : Int) = (M : Int) := by rw [IntKind.wrap_u64]; omega
            have HTq := Lib.hid hTq
            clear hTq hblk l1 l2 hlen hcella hqa hq hM hd
            go_upto_region 21 with fail
            go_quiet (fail)
            go_wp2_with fail
            go_roundw
            case rel => exact ⟨i + 1, by go_num, by omega, HTq.out.drewN _⟩
            case measure => simp [intOf]; omega
          · obtain rfl : i = k := by omega
            have HTq := Lib.hid (HK.out.2.2.1.trans hTq)
            clear hTq
            go_wp2_with fail
            refine (entries_nil _).mono ?_
            rintro e w5 ⟨rfl, rfl⟩
            go_wp2_with fail
            have hVq := HV.out.1.still HTq.out
            refine (crash_calls hVq.disk (.slice none 0 0) [] ⟨none, 0, rfl, Nat.le_refl _, Nat.zero_le _, .inl rfl⟩ (fun h => by simp at h) (fun z hz => by cases hz)).mono ?_
            rintro e w6 ⟨rfl, hD6, hT6⟩
            have hL6 := hVq.log.kept hT6 hVq.sep
            have HD6 := Lib.hid (⟨hD6, hL6, hT6⟩ : _ ∧ _ ∧ _)
            clear hD6 hL6 hT6 hVq
            go_wp2_with fail
            refine (entries_off HD6.out.1 HD6.out.2.1 (by omega) (by omega) (by omega)).mono ?_
            rintro e w7 ⟨rfl, hT7⟩
            have HT7 := Lib.hid hT7
            clear hT7
            go_wp2_with fail
            go_ret
            exact ⟨rfl, ((HV.out.2.2.1.trans HTq.out).trans' HD6.out.2.2 (fun i hi => .inr (HNN.out i (.inl hi)))).trans HT7.out⟩

end Go.Proofs.Ytpgjheckdblggaa

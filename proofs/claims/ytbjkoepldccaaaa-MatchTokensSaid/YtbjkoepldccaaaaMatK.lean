/- Package match's tokens over the translated program: they tell the text. -/
import Derived.Test.YtbjkoepldccaaaaMatJ
import Derived.Test.YtbjkoepldccaaaaMatTok
import Derived.Deep.CutBlock
import Derived.Deep.DeepCutAuto
namespace Go.Proofs.Ytbjkoepldccaaaa
open Go Go.RowKit Go.Maps
set_option maxRecDepth 100000
theorem tok_one (t : Tok) : ∀ u ∈ tokV t, u.oneCell' = true := by
  intro u hu
  simp [tokV] at hu
  rcases hu with rfl | rfl | rfl <;> rfl
theorem step_byte {X : List UInt8} {lv tr a : Nat} {m m2 : Nat × Nat} {ts L : List Tok} {x : UInt8} (hE : ts ++ restT X lv tr a m = L) (h : a < X.length) (hc : m.1 = 0 ∨ (4 ≤ lv ∧ m.1 < 258 ∧ m.1 < (lookU X (a + 1) tr).1)) (hl : lookU X (a + 1) tr = m2) (hx : x = X.getD a 0) :
    (ts ++ [⟨x, 0, 0⟩]) ++ restT X lv tr (a + 1) m2 = L := by
  rw [← hE, restT_byte X lv tr a m h hc, hl, hx]
  simp
theorem step_match {X : List UInt8} {lv tr a : Nat} {m m2 : Nat × Nat} {ts L : List Tok} (hE : ts ++ restT X lv tr a m = L) (h : a < X.length) (hc : ¬ (m.1 = 0 ∨ (4 ≤ lv ∧ m.1 < 258 ∧ m.1 < (lookU X (a + 1) tr).1))) (hl : lookU X (a + m.1) tr = m2) :
    (ts ++ [⟨0, (m.1 : Nat), (m.2 : Nat)⟩]) ++ restT X lv tr (a + m.1) m2 = L := by
  rw [← hE, restT_match X lv tr a m h hc, hl]
  simp
set_option maxHeartbeats 4000000 in
theorem tokens_calls (b fr mb pb lv : Nat) (T : ByteArray) (ps : List Nat) (w : World) (h : FAt w b T fr mb pb ps) (hn : ∀ p ∈ ps, p < fr) (hT : T.size ≤ 500000) (hpl : ps.length ≤ fr) (hl1 : 1 ≤ lv) (hl2 : lv ≤ 8) (hfr : fr ≤ T.size) (tr : Nat) (htr : tr = 2 * 2 ^ lv) (hfull : Full T.data.toList fr fr ps) :
    Calls Try.prog 15 #[.pointer (some ⟨b, 0, none⟩), .int .i64 (lv : Nat)] w fun e w' => (∃ v ts, e = .returned v ∧ w'.ownsRow w.heap.size 33 3 v ts.length (toksV ts) ∧ restT T.data.toList lv tr fr (lookU T.data.toList fr tr) = ts) ∧ Touch (fun k => k = mb ∨ k = pb) w w' := by
  obtain ⟨i0, hi, hz0, hz1, hz2⟩ := info_parts Try.infoT
  have c1 := h.c1
  have c0 := h.c0
  have htr1 : tr ≤ 1024 := by
    have : ∀ k : Fin 10, 2 * 2 ^ k.val ≤ 1024 := by decide
    rw [htr]; exact this ⟨lv, by omega⟩
  have hsh : wrap64 (2 * 2 ^ lv) = (tr : Int) := by
    have e : (2 * 2 ^ lv : Int) = (tr : Int) := by rw [htr]; simp
    rw [e]; unfold wrap64; omega
  have HL := Lib.hid (longest_any b fr fr mb pb tr T ps w h (by omega) hn (by omega) (by omega) (Nat.le_refl _) hfull)
  have HFU := Lib.hid hfull
  have HF := Lib.hid h
  have HPS := Lib.hid hn
  have hbw : b < w.heap.size := World.block_lt_of_cell? w _ c0
  obtain ⟨D3, d3, _⟩ := h.mp
  obtain ⟨xs3, _, r3, _⟩ := h.row
  have hmw := d3.lt
  have hpw := r3.lt pb rfl
  clear htr h hn d3 r3 hfull
  have hlz : (0 : Int) ≤ (lv : Int) := by omega
  have hl9 : (lv : Int) < 9 := by omega
  go_enter Try.func15, Try.ntmps15
  go_wp2_with fail
  refine HL.out.mono ?_
  rintro e w1 ⟨⟨z0, d0, rfl, hR⟩, ht⟩
  have HR := Lib.hid hR
  have HT := Lib.hid ht
  clear hR ht
  go_wp2_with fail
  clear hsh c1 c0 HL
  go_loopw [6, 8, 9, 10] (fun va vl vz vd wr => ∃ (a z d : Nat) (ps : List Nat) (ts : List Tok) (v : Value), va = .int .i64 (a : Nat) ∧ v = vl ∧ vz = .int .i64 (z : Nat) ∧ vd = .int .i64 (d : Nat) ∧ fr ≤ a ∧ a ≤ T.size ∧ RowKit.Hid (FAt wr b T fr mb pb ps) ∧ RowKit.Hid (∀ p ∈ ps, p < a) ∧ ps.length ≤ a ∧ ts.length ≤ a ∧ RowKit.Hid (wr.ownsRow w.heap.size 33 3 v ts.length (toksV ts)) ∧ RowKit.Hid (ts ++ restT T.data.toList lv tr a (z, d) = restT T.data.toList lv tr fr (lookU T.data.toList fr tr)) ∧ RowKit.Hid (FoundL T.data.toList a (z, d)) ∧ RowKit.Hid (Full T.data.toList fr a ps) ∧ RowKit.Hid (Touch (fun k => k = mb ∨ k = pb) w wr)) (fun va _ _ _ _ => T.size - (intOf va).toNat)
  case atStart => exact ⟨fr, z0, d0, ps, [], _, rfl, rfl, rfl, rfl, Nat.le_refl _, hfr, Lib.hid (HF.out.kept HT.out id id id), HPS, hpl, Nat.zero_le _, Lib.hid (World.ownsRow_nil _ _ _ _), Lib.hid (by rw [← HR.out]; rfl), Lib.hid (by rw [← HR.out]; exact look_found _ _ _), HFU, Lib.hid (HT.out.mono (fun _ h => h.elim))⟩
  case round =>
    obtain ⟨a, z, d, ps1, ts, v, rfl, rfl, rfl, rfl, ha1, ha2, HF1, HP1, hl1', hts, HA, HE, HZ, HFU1, HT1⟩ := hrel
    have c0 := HF1.out.c0
    obtain ⟨aa, ca, hae⟩ := own_form HA.out
    subst hae
    by_cases hlt : a < T.size
    · have hai : (a : Int) < (T.size : Int) := by omega
      have ha0 : (0 : Int) ≤ (a : Int) := by omega
      have hzz := HZ.out.le
      rw [data_length] at hzz
      have HPUT := Lib.hid (put_any b a fr mb pb T ps1 wr HF1.out ha2 HP1.out (by omega) hl1')
      go_wp2_with fail
      refine HPUT.out.mono ?_
      rintro e w2 ⟨rfl, ⟨ps2, hF2, hp2, hl2', hfu2⟩, ht2⟩
      have HFU2 := Lib.hid (hfu2 fr HFU1.out)
      clear hfu2 HFU1
      have HF2 := Lib.hid hF2
      have HP2 := Lib.hid hp2
      have HT2 := Lib.hid (HT1.out.trans ht2)
      have HA2 := Lib.hid (own_still HA.out ht2 (fun g hg => by have := own_base HA.out g hg; omega))
      have c02 := hF2.c0
      have hs2 := ht2.size
      have hs1 := HT1.out.size
      have hL2 := longest_any b (a + 1) fr mb pb tr T ps2 w2 hF2 (by omega) (fun p hp => hp2 p hp) (by omega) (by omega) (by omega) HFU2.out
      rw [show ((a + 1 : Nat) : Int) = (a : Int) + 1 by omega] at hL2
      have HL2 := Lib.hid hL2
      clear hL2
      obtain ⟨x, hx⟩ : ∃ x, x = T.data.toList.getD a 0 := ⟨_, rfl⟩
      have hbx : T[a] = x := by rw [hx]; exact byte_at T a hlt
      have HX := Lib.hid hx
      clear hx
      clear hF2 hp2 ht2 HPUT HA HF1 HP1 c0
      by_cases hz : z = 0
      · subst hz
        go_wp2_with fail
        refine HL2.out.mono ?_
        rintro e w4 ⟨⟨z2, d2, rfl, hZ2⟩, ht4⟩
        have HZ2 := Lib.hid hZ2
        have HA3 := Lib.hid (own_still HA2.out ht4 (fun _ _ => id))
        have hs4 := ht4.size
        have c04 := ht4.cell c02 id
        have HT4 := Lib.hid ht4
        clear hZ2 ht4 HA2 c02
        go_wp2_with (at_builtin; go_loud (refine wpList_append_own_at _ rfl (.tmp 65) (.tmp 73) 26 rfl w.heap.size 33 i0 _ 3 24 Try.underlying26 hi hz0 hz1 hz2 rfl (by decide) (.slice aa ts.length ca) ts.length (toksV ts) rfl (by exact own_still HA3.out ((Touch.refl (fun _ => False) w4).alloc _) (fun _ _ => id)) ⟨w4.heap.size, 0, none⟩ 1 1 (tokV ⟨x, 0, 0⟩) rfl rfl (by exact new_at (x := ⟨x, 0, 0⟩) (heap_alloc_new w4 _)) (tok_one ⟨x, 0, 0⟩) (by unfold maxLen; omega) (by omega) (by simp; omega) ?_); intro v2 w5 hrow2 hgrow _ hown2)
        go_roundw
        case rel =>
          have hg5 : Touch (fun k => w.heap.size ≤ k) w2 w5 := ((HT4.out.mono (fun _ h => h.elim)).alloc _).grown hgrow (fun j hj => .inl (own_base HA3.out j hj))
          refine ⟨a + 1, z2, d2, ps2, ts ++ [⟨x, 0, 0⟩], v2, by go_num, rfl, rfl, rfl, by omega, by omega, Lib.hid (HF2.out.kept hg5 (by omega) (by omega) (by omega)), HP2, hl2', by rw [List.length_append]; simp; omega, Lib.hid ?_, Lib.hid (step_byte HE.out (by rw [data_length]; exact hlt) (.inl rfl) HZ2.out HX.out), Lib.hid (by rw [← HZ2.out]; exact look_found _ _ _), HFU2, Lib.hid (HT2.out.trans' hg5 (fun k hk => .inr hk))⟩
          · rw [toksV_append, show toksV [(⟨x, 0, 0⟩ : Tok)] = tokV ⟨x, 0, 0⟩ by simp [toksV], List.length_append]
            exact hrow2
        case measure => simp [intOf]; omega
      · have hz1i : ((z : Int) == 0) = false := beq_eq_false_iff_ne.2 (by omega)
        have hz2i : ¬ ((z : Int) = 0) := by omega
        by_cases hq : 4 ≤ lv ∧ z < 258
        · have hq1 : (4 : Int) ≤ (lv : Int) := by omega
          have hq2 : (z : Int) < 258 := by omega
          go_wp2_with fail
          refine HL2.out.mono ?_
          rintro e w4 ⟨⟨z2, d2, rfl, hZ2⟩, ht4⟩
          have HZ2 := Lib.hid hZ2
          have HA3 := Lib.hid (own_still HA2.out ht4 (fun _ _ => id))
          have hs4 := ht4.size
          have c04 := ht4.cell c02 id
          have HT4 := Lib.hid ht4
          clear hZ2 ht4 HA2 c02
          by_cases hzz2 : z < z2
          · have hzi : (z : Int) < (z2 : Int) := by omega
            go_wp2_with (at_builtin; go_loud (refine wpList_append_own_at _ rfl (.tmp 65) (.tmp 73) 26 rfl w.heap.size 33 i0 _ 3 24 Try.underlying26 hi hz0 hz1 hz2 rfl (by decide) (.slice aa ts.length ca) ts.length (toksV ts) rfl (by exact own_still HA3.out ((Touch.refl (fun _ => False) w4).alloc _) (fun _ _ => id)) ⟨w4.heap.size, 0, none⟩ 1 1 (tokV ⟨x, 0, 0⟩) rfl rfl (by exact new_at (x := ⟨x, 0, 0⟩) (heap_alloc_new w4 _)) (tok_one ⟨x, 0, 0⟩) (by unfold maxLen; omega) (by omega) (by simp; omega) ?_); intro v2 w5 hrow2 hgrow _ hown2)
            go_roundw
            case rel =>
              have hg5 : Touch (fun k => w.heap.size ≤ k) w2 w5 := ((HT4.out.mono (fun _ h => h.elim)).alloc _).grown hgrow (fun j hj => .inl (own_base HA3.out j hj))
              refine ⟨a + 1, z2, d2, ps2, ts ++ [⟨x, 0, 0⟩], v2, by go_num, rfl, rfl, rfl, by omega, by omega, Lib.hid (HF2.out.kept hg5 (by omega) (by omega) (by omega)), HP2, hl2', by rw [List.length_append]; simp; omega, Lib.hid ?_, Lib.hid (step_byte HE.out (by rw [data_length]; exact hlt) (.inr ⟨hq.1, hq.2, by rw [HZ2.out]; exact hzz2⟩) HZ2.out HX.out), Lib.hid (by rw [← HZ2.out]; exact look_found _ _ _), HFU2, Lib.hid (HT2.out.trans' hg5 (fun k hk => .inr hk))⟩
              · rw [toksV_append, show toksV [(⟨x, 0, 0⟩ : Tok)] = tokV ⟨x, 0, 0⟩ by simp [toksV], List.length_append]
                exact hrow2
            case measure => simp [intOf]; omega
          · have hzi : (z2 : Int) ≤ (z : Int) := by omega
            go_wp2_with (at_builtin; go_loud (refine wpList_append_own_at _ rfl (.tmp 79) (.tmp 83) 26 rfl w.heap.size 33 i0 _ 3 24 Try.underlying26 hi hz0 hz1 hz2 rfl (by decide) (.slice aa ts.length ca) ts.length (toksV ts) rfl (by exact own_still HA3.out ((Touch.refl (fun _ => False) w4).alloc _) (fun _ _ => id)) ⟨w4.heap.size, 0, none⟩ 1 1 (tokV ⟨0, (z : Nat), (d : Nat)⟩) rfl rfl (by exact new_at (x := ⟨0, (z : Nat), (d : Nat)⟩) (heap_alloc_new w4 _)) (tok_one ⟨0, (z : Nat), (d : Nat)⟩) (by unfold maxLen; omega) (by omega) (by simp; omega) ?_); intro v2 w5 hrow2 hgrow _ hown2)
            have hg5 : Touch (fun k => w.heap.size ≤ k) w2 w5 := ((HT4.out.mono (fun _ h => h.elim)).alloc _).grown hgrow (fun j hj => .inl (own_base HA3.out j hj))
            have HF5 := Lib.hid (HF2.out.kept hg5 (by omega) (by omega) (by omega))
            have HT5 := Lib.hid (HT2.out.trans' hg5 (fun k hk => .inr hk))
            have HROW := Lib.hid hrow2
            have HNC : RowKit.Hid (¬ ((z, d).1 = 0 ∨ (4 ≤ lv ∧ (z, d).1 < 258 ∧ (z, d).1 < (lookU T.data.toList (a + 1) tr).1))) := Lib.hid (by rw [HZ2.out]; simp only; omega)
            clear hrow2 hgrow hown2 hg5 HA3 HT4
            go_loopw [13] (fun vk wx => ∃ (k : Nat) (ps3 : List Nat), vk = .int .i64 (k : Nat) ∧ 1 ≤ k ∧ k ≤ z ∧ RowKit.Hid (FAt wx b T fr mb pb ps3) ∧ RowKit.Hid (∀ p ∈ ps3, p < a + k) ∧ ps3.length ≤ a + k ∧ RowKit.Hid (Full T.data.toList fr (a + k) ps3) ∧ RowKit.Hid (wx.ownsRow w.heap.size 33 3 v2 (ts.length + 1) (toksV ts ++ tokV ⟨0, (z : Nat), (d : Nat)⟩)) ∧ RowKit.Hid (Touch (fun k => k = mb ∨ k = pb) w wx)) (fun vk _ => z - (intOf vk).toNat)
            case atStart => exact ⟨1, ps2, rfl, Nat.le_refl _, by omega, HF5, HP2, hl2', HFU2, HROW, HT5⟩
            case round =>
              obtain ⟨k, ps3, rfl, hk1, hk2, HF6, HP6, hl6, HFU6, HA6, HT6⟩ := hrel
              by_cases hkz : k < z
              · have hkz' : (k : Int) < (z : Int) := by omega
                have hk0 : (0 : Int) ≤ (k : Int) := by omega
                have hP := put_any b (a + k) fr mb pb T ps3 _ HF6.out (by omega) HP6.out (by omega) hl6
                rw [show ((a + k : Nat) : Int) = (a : Int) + (k : Int) by omega] at hP
                have HPUT := Lib.hid hP
                clear hP
                go_wp2_with fail
                refine HPUT.out.mono ?_
                rintro e w7 ⟨rfl, ⟨ps7, hF7, hp7, hl7, hfu7⟩, ht7⟩
                have HF7 := Lib.hid hF7; have HFU7 := Lib.hid (hfu7 fr HFU6.out); clear hfu7
                have HP7 := Lib.hid hp7
                have HT7 := Lib.hid ht7
                clear hF7 hp7 ht7
                go_wp2_with fail
                go_roundw
                case rel => exact ⟨k + 1, ps7, by go_num, by omega, by omega, HF7, HP7, hl7, HFU7, Lib.hid (own_still HA6.out HT7.out (fun g hg => by have := own_base HA6.out g hg; omega)), Lib.hid (HT6.out.trans HT7.out)⟩
                case measure => simp [intOf]; omega
              · obtain rfl : k = z := by omega
                have hL8 := longest_any b (a + k) fr mb pb tr T ps3 _ HF6.out (by omega) HP6.out (by omega) (by omega) (by omega) HFU6.out
                rw [show ((a + k : Nat) : Int) = (a : Int) + (k : Int) by omega] at hL8
                have HL8 := Lib.hid hL8
                clear hL8
                go_wp2_with fail
                refine HL8.out.mono ?_
                rintro e w9 ⟨⟨z9, d9, rfl, hZ9⟩, ht9⟩
                have HZ9 := Lib.hid hZ9
                have HT9 := Lib.hid ht9
                clear hZ9 ht9
                go_wp2_with fail
                go_roundw
                case rel =>
                  refine ⟨a + k, z9, d9, ps3, ts ++ [⟨0, (k : Nat), (d : Nat)⟩], v2, by go_num, rfl, rfl, rfl, by omega, by omega, Lib.hid (HF6.out.kept HT9.out id id id), HP6, hl6, by rw [List.length_append]; simp; omega, Lib.hid ?_, Lib.hid (step_match HE.out (by rw [data_length]; exact hlt) HNC.out HZ9.out), Lib.hid (by rw [← HZ9.out]; exact look_found _ _ _), HFU6, Lib.hid (HT6.out.trans (HT9.out.mono (fun _ h => h.elim)))⟩
                  rw [toksV_append, show toksV [(⟨0, (k : Nat), (d : Nat)⟩ : Tok)] = tokV ⟨0, (k : Nat), (d : Nat)⟩ by simp [toksV], List.length_append]
                  exact own_still HA6.out HT9.out (fun _ _ => id)
                case measure => simp [intOf]; omega
        · have HA3 := HA2
          have hs4 := Nat.le_refl w2.heap.size
          have HT4 := Lib.hid (Touch.refl (fun _ => False) w2)
          by_cases hq3 : lv < 4
          · have hq1 : (lv : Int) < 4 := by omega
            go_wp2_with (at_builtin; go_loud (refine wpList_append_own_at _ rfl (.tmp 79) (.tmp 83) 26 rfl w.heap.size 33 i0 _ 3 24 Try.underlying26 hi hz0 hz1 hz2 rfl (by decide) (.slice aa ts.length ca) ts.length (toksV ts) rfl (by exact own_still HA3.out ((Touch.refl (fun _ => False) w2).alloc _) (fun _ _ => id)) ⟨w2.heap.size, 0, none⟩ 1 1 (tokV ⟨0, (z : Nat), (d : Nat)⟩) rfl rfl (by exact new_at (x := ⟨0, (z : Nat), (d : Nat)⟩) (heap_alloc_new w2 _)) (tok_one ⟨0, (z : Nat), (d : Nat)⟩) (by unfold maxLen; omega) (by omega) (by simp; omega) ?_); intro v2 w5 hrow2 hgrow _ hown2)
            have hg5 : Touch (fun k => w.heap.size ≤ k) w2 w5 := ((HT4.out.mono (fun _ h => h.elim)).alloc _).grown hgrow (fun j hj => .inl (own_base HA3.out j hj))
            have HF5 := Lib.hid (HF2.out.kept hg5 (by omega) (by omega) (by omega))
            have HT5 := Lib.hid (HT2.out.trans' hg5 (fun k hk => .inr hk))
            have HROW := Lib.hid hrow2
            have HNC : RowKit.Hid (¬ ((z, d).1 = 0 ∨ (4 ≤ lv ∧ (z, d).1 < 258 ∧ (z, d).1 < (lookU T.data.toList (a + 1) tr).1))) := Lib.hid (by simp only; omega)
            clear hrow2 hgrow hown2 hg5 HA3 HT4
            go_loopw [13] (fun vk wx => ∃ (k : Nat) (ps3 : List Nat), vk = .int .i64 (k : Nat) ∧ 1 ≤ k ∧ k ≤ z ∧ RowKit.Hid (FAt wx b T fr mb pb ps3) ∧ RowKit.Hid (∀ p ∈ ps3, p < a + k) ∧ ps3.length ≤ a + k ∧ RowKit.Hid (Full T.data.toList fr (a + k) ps3) ∧ RowKit.Hid (wx.ownsRow w.heap.size 33 3 v2 (ts.length + 1) (toksV ts ++ tokV ⟨0, (z : Nat), (d : Nat)⟩)) ∧ RowKit.Hid (Touch (fun k => k = mb ∨ k = pb) w wx)) (fun vk _ => z - (intOf vk).toNat)
            case atStart => exact ⟨1, ps2, rfl, Nat.le_refl _, by omega, HF5, HP2, hl2', HFU2, HROW, HT5⟩
            case round =>
              obtain ⟨k, ps3, rfl, hk1, hk2, HF6, HP6, hl6, HFU6, HA6, HT6⟩ := hrel
              by_cases hkz : k < z
              · have hkz' : (k : Int) < (z : Int) := by omega
                have hk0 : (0 : Int) ≤ (k : Int) := by omega
                have hP := put_any b (a + k) fr mb pb T ps3 _ HF6.out (by omega) HP6.out (by omega) hl6
                rw [show ((a + k : Nat) : Int) = (a : Int) + (k : Int) by omega] at hP
                have HPUT := Lib.hid hP
                clear hP
                go_wp2_with fail
                refine HPUT.out.mono ?_
                rintro e w7 ⟨rfl, ⟨ps7, hF7, hp7, hl7, hfu7⟩, ht7⟩
                have HF7 := Lib.hid hF7; have HFU7 := Lib.hid (hfu7 fr HFU6.out); clear hfu7
                have HP7 := Lib.hid hp7
                have HT7 := Lib.hid ht7
                clear hF7 hp7 ht7
                go_wp2_with fail
                go_roundw
                case rel => exact ⟨k + 1, ps7, by go_num, by omega, by omega, HF7, HP7, hl7, HFU7, Lib.hid (own_still HA6.out HT7.out (fun g hg => by have := own_base HA6.out g hg; omega)), Lib.hid (HT6.out.trans HT7.out)⟩
                case measure => simp [intOf]; omega
              · obtain rfl : k = z := by omega
                have hL8 := longest_any b (a + k) fr mb pb tr T ps3 _ HF6.out (by omega) HP6.out (by omega) (by omega) (by omega) HFU6.out
                rw [show ((a + k : Nat) : Int) = (a : Int) + (k : Int) by omega] at hL8
                have HL8 := Lib.hid hL8
                clear hL8
                go_wp2_with fail
                refine HL8.out.mono ?_
                rintro e w9 ⟨⟨z9, d9, rfl, hZ9⟩, ht9⟩
                have HZ9 := Lib.hid hZ9
                have HT9 := Lib.hid ht9
                clear hZ9 ht9
                go_wp2_with fail
                go_roundw
                case rel =>
                  refine ⟨a + k, z9, d9, ps3, ts ++ [⟨0, (k : Nat), (d : Nat)⟩], v2, by go_num, rfl, rfl, rfl, by omega, by omega, Lib.hid (HF6.out.kept HT9.out id id id), HP6, hl6, by rw [List.length_append]; simp; omega, Lib.hid ?_, Lib.hid (step_match HE.out (by rw [data_length]; exact hlt) HNC.out HZ9.out), Lib.hid (by rw [← HZ9.out]; exact look_found _ _ _), HFU6, Lib.hid (HT6.out.trans (HT9.out.mono (fun _ h => h.elim)))⟩
                  rw [toksV_append, show toksV [(⟨0, (k : Nat), (d : Nat)⟩ : Tok)] = tokV ⟨0, (k : Nat), (d : Nat)⟩ by simp [toksV], List.length_append]
                  exact own_still HA6.out HT9.out (fun _ _ => id)
                case measure => simp [intOf]; omega
          · have hq1 : (4 : Int) ≤ (lv : Int) := by omega
            have hq2 : (258 : Int) ≤ (z : Int) := by omega
            go_wp2_with (at_builtin; go_loud (refine wpList_append_own_at _ rfl (.tmp 79) (.tmp 83) 26 rfl w.heap.size 33 i0 _ 3 24 Try.underlying26 hi hz0 hz1 hz2 rfl (by decide) (.slice aa ts.length ca) ts.length (toksV ts) rfl (by exact own_still HA3.out ((Touch.refl (fun _ => False) w2).alloc _) (fun _ _ => id)) ⟨w2.heap.size, 0, none⟩ 1 1 (tokV ⟨0, (z : Nat), (d : Nat)⟩) rfl rfl (by exact new_at (x := ⟨0, (z : Nat), (d : Nat)⟩) (heap_alloc_new w2 _)) (tok_one ⟨0, (z : Nat), (d : Nat)⟩) (by unfold maxLen; omega) (by omega) (by simp; omega) ?_); intro v2 w5 hrow2 hgrow _ hown2)
            have hg5 : Touch (fun k => w.heap.size ≤ k) w2 w5 := ((HT4.out.mono (fun _ h => h.elim)).alloc _).grown hgrow (fun j hj => .inl (own_base HA3.out j hj))
            have HF5 := Lib.hid (HF2.out.kept hg5 (by omega) (by omega) (by omega))
            have HT5 := Lib.hid (HT2.out.trans' hg5 (fun k hk => .inr hk))
            have HROW := Lib.hid hrow2
            have HNC : RowKit.Hid (¬ ((z, d).1 = 0 ∨ (4 ≤ lv ∧ (z, d).1 < 258 ∧ (z, d).1 < (lookU T.data.toList (a + 1) tr).1))) := Lib.hid (by simp only; omega)
            clear hrow2 hgrow hown2 hg5 HA3 HT4
            go_loopw [13] (fun vk wx => ∃ (k : Nat) (ps3 : List Nat), vk = .int .i64 (k : Nat) ∧ 1 ≤ k ∧ k ≤ z ∧ RowKit.Hid (FAt wx b T fr mb pb ps3) ∧ RowKit.Hid (∀ p ∈ ps3, p < a + k) ∧ ps3.length ≤ a + k ∧ RowKit.Hid (Full T.data.toList fr (a + k) ps3) ∧ RowKit.Hid (wx.ownsRow w.heap.size 33 3 v2 (ts.length + 1) (toksV ts ++ tokV ⟨0, (z : Nat), (d : Nat)⟩)) ∧ RowKit.Hid (Touch (fun k => k = mb ∨ k = pb) w wx)) (fun vk _ => z - (intOf vk).toNat)
            case atStart => exact ⟨1, ps2, rfl, Nat.le_refl _, by omega, HF5, HP2, hl2', HFU2, HROW, HT5⟩
            case round =>
              obtain ⟨k, ps3, rfl, hk1, hk2, HF6, HP6, hl6, HFU6, HA6, HT6⟩ := hrel
              by_cases hkz : k < z
              · have hkz' : (k : Int) < (z : Int) := by omega
                have hk0 : (0 : Int) ≤ (k : Int) := by omega
                have hP := put_any b (a + k) fr mb pb T ps3 _ HF6.out (by omega) HP6.out (by omega) hl6
                rw [show ((a + k : Nat) : Int) = (a : Int) + (k : Int) by omega] at hP
                have HPUT := Lib.hid hP
                clear hP
                go_wp2_with fail
                refine HPUT.out.mono ?_
                rintro e w7 ⟨rfl, ⟨ps7, hF7, hp7, hl7, hfu7⟩, ht7⟩
                have HF7 := Lib.hid hF7; have HFU7 := Lib.hid (hfu7 fr HFU6.out); clear hfu7
                have HP7 := Lib.hid hp7
                have HT7 := Lib.hid ht7
                clear hF7 hp7 ht7
                go_wp2_with fail
                go_roundw
                case rel => exact ⟨k + 1, ps7, by go_num, by omega, by omega, HF7, HP7, hl7, HFU7, Lib.hid (own_still HA6.out HT7.out (fun g hg => by have := own_base HA6.out g hg; omega)), Lib.hid (HT6.out.trans HT7.out)⟩
                case measure => simp [intOf]; omega
              · obtain rfl : k = z := by omega
                have hL8 := longest_any b (a + k) fr mb pb tr T ps3 _ HF6.out (by omega) HP6.out (by omega) (by omega) (by omega) HFU6.out
                rw [show ((a + k : Nat) : Int) = (a : Int) + (k : Int) by omega] at hL8
                have HL8 := Lib.hid hL8
                clear hL8
                go_wp2_with fail
                refine HL8.out.mono ?_
                rintro e w9 ⟨⟨z9, d9, rfl, hZ9⟩, ht9⟩
                have HZ9 := Lib.hid hZ9
                have HT9 := Lib.hid ht9
                clear hZ9 ht9
                go_wp2_with fail
                go_roundw
                case rel =>
                  refine ⟨a + k, z9, d9, ps3, ts ++ [⟨0, (k : Nat), (d : Nat)⟩], v2, by go_num, rfl, rfl, rfl, by omega, by omega, Lib.hid (HF6.out.kept HT9.out id id id), HP6, hl6, by rw [List.length_append]; simp; omega, Lib.hid ?_, Lib.hid (step_match HE.out (by rw [data_length]; exact hlt) HNC.out HZ9.out), Lib.hid (by rw [← HZ9.out]; exact look_found _ _ _), HFU6, Lib.hid (HT6.out.trans (HT9.out.mono (fun _ h => h.elim)))⟩
                  rw [toksV_append, show toksV [(⟨0, (k : Nat), (d : Nat)⟩ : Tok)] = tokV ⟨0, (k : Nat), (d : Nat)⟩ by simp [toksV], List.length_append]
                  exact own_still HA6.out HT9.out (fun _ _ => id)
                case measure => simp [intOf]; omega
    · have hai : (T.size : Int) ≤ (a : Int) := by omega
      obtain rfl : a = T.size := by omega
      go_wp2_with fail
      go_ret
      exact ⟨⟨_, ts, rfl, HA.out, by rw [← HE.out, restT_end _ _ _ _ _ (by rw [data_length]; exact Nat.le_refl _), List.append_nil]⟩, HT1.out⟩
end Go.Proofs.Ytbjkoepldccaaaa

/- The walk of the statement DgramBursts over the translated program. -/
import Derived.Test.YtmjahbdengnoeaaDgBuf
import Derived.Test.YtmjahbdengnoeaaDgCoWalk
namespace Go.Proofs.Ytmjahbdengnoeaa
open Go Go.RowKit
set_option maxRecDepth 100000
set_option linter.unusedSimpArgs false

set_option maxHeartbeats 4000000 in
theorem dbursts_nought (d : Dg) (at_ : Int) (w : World) : Calls Try.prog 9 #[d.v, .int .i64 at_, .int .u32 0] w fun e w' => e = .returned (.bool true) ∧ Touch (fun _ => False) w w' := by
  obtain ⟨kind, se, ep, sq, pos, sm, mp, last, text⟩ := d
  unfold Dg.v Dg.cells
  simp only
  go_enter Try.func9, Try.ntmps9
  go_wp2_with fail
  refine (speaks22_calls _).mono ?_
  rintro e w1 ⟨rfl, hT1⟩
  go_wp2_with fail
  refine (speaks22_calls _).mono ?_
  rintro e w2 ⟨rfl, hT2⟩
  go_wp2_with fail
  go_ret
  exact ⟨rfl, (((Touch.refl _ _).alloc _).trans hT1).trans hT2⟩

set_option maxHeartbeats 4000000 in
theorem dbursts_calls (d : Dg) (at_ : Int) (burst : Nat) (hw0 : d.Wf) (hb : burst < 4294967296) (w : World) : Calls Try.prog 9 #[d.v, .int .i64 at_, .int .u32 (burst : Nat)] w fun e w' => e = .returned (.bool true) ∧ Touch (fun _ => False) w w' := by
  by_cases h0 : burst = 0
  · subst h0; exact dbursts_nought d at_ w
  obtain ⟨n, hn⟩ : ∃ n : Nat, n = min d.text.size 256 := ⟨_, rfl⟩
  obtain ⟨t, ht⟩ : ∃ t, d.text.extract 0 n = t := ⟨_, rfl⟩
  have hw := hw0.cut t
  obtain ⟨kind, se, ep, sq, pos, sm, mp, last, text⟩ := d
  simp only at hn ht hw
  obtain ⟨D, hD⟩ : ∃ D : Dg, D = ⟨kind, se, ep, sq, pos, sm, mp, last, t⟩ := ⟨_, rfl⟩
  rw [← hD] at hw
  have he1 := fun W => encode_calls D hw W
  have hee : encE D = if goodD D = true then 0 else 1 := rfl
  have hes : goodD D = true → sumOk (encB D) = true ∧ (encB D).size = D.text.size + 38 := fun h => by
    have he : encB D = bodyB D ++ sealB (bodyB D) := by unfold encB; rw [h]; rfl
    rw [he]
    exact ⟨(sum_sealed (bodyB D)).1, by rw [ByteArray.size_append, bodyB_size, sealB_size]; omega⟩
  have hesz := encB_size D
  obtain ⟨gd, hgd⟩ : ∃ b, goodD D = b := ⟨_, rfl⟩
  rw [hgd] at hee hes
  rw [hee] at he1
  have hvv : D.v = .agg #[.int .i64 kind, .int .u32 se, .int .u32 ep, .int .u32 sq, .int .u64 pos, .int .u32 sm, .int .u32 mp, .bool last, .string t] := by rw [hD]; rfl
  generalize encB D = S at he1 hes hesz
  rw [hvv] at he1
  have hi1 : min (text.size : Int) 256 = (n : Int) := by omega
  have hi2 : (if (text.size : Int) < 256 then (text.size : Int) else 256) = (n : Int) := by split <;> omega
  have hi3 : (if (256 : Int) < (text.size : Int) then 256 else (text.size : Int)) = (n : Int) := by split <;> omega
  have hnn : (n : Int) ≤ (text.size : Int) := by omega
  have hb0 : ((burst : Int) == 0) = false := beq_eq_false_iff_ne.2 (by omega)
  clear hee hw hw0 hn hvv hgd
  unfold Dg.v Dg.cells
  simp only
  cases gd
  · simp only [Bool.false_eq_true, if_false] at he1
    have HE1 := Lib.hid he1
    clear he1 hes
    go_enter Try.func9, Try.ntmps9
    go_wp2_with fail
    have hb0 := Block.new w 36 [.int .i64 kind, .int .u32 se, .int .u32 ep, .int .u32 sq, .int .u64 pos, .int .u32 sm, .int .u32 mp, .bool last, .string text]
    refine (speaks22_calls _).mono ?_
    rintro e w1 ⟨rfl, hT1⟩
    have hT01 := ((Touch.refl (fun _ => False) w).alloc (.cells #[.int .i64 kind, .int .u32 se, .int .u32 ep, .int .u32 sq, .int .u64 pos, .int .u32 sm, .int .u32 mp, .bool last, .string text] 36)).trans hT1
    have hb1 := hb0.kept hT1 id
    clear hb0 hT1
    obtain ⟨G, hG⟩ : ∃ G, w.heap.size = G := ⟨_, rfl⟩
    rw [hG] at hb1 ⊢
    have f8 := Block.free hb1 8
    have c0 := Block.cell hb1 0
    have c1 := Block.cell hb1 1
    have c2 := Block.cell hb1 2
    have c3 := Block.cell hb1 3
    have c4 := Block.cell hb1 4
    have c5 := Block.cell hb1 5
    have c6 := Block.cell hb1 6
    have c7 := Block.cell hb1 7
    have c8 := Block.cell hb1 8
    simp only [List.getElem?_cons_zero, List.getElem?_cons_succ] at c0 c1 c2 c3 c4 c5 c6 c7 c8
    go_upto_region 4 with fail
    have hb2 := Block.set hb1 8 (.string t)
    have hT02 := hT01.trans' ((Touch.refl (fun k => k = G) w1).setCell (p := ⟨G, 8, none⟩) (.inl rfl) (.string t)) (fun i hi => .inr (by rw [hi, hG]; exact Nat.le_refl _))
    simp only [List.set_cons_succ, List.set_cons_zero] at hb2
    clear c0 c1 c2 c3 c4 c5 c6 c7 c8
    clear hb1 hT01 f8 hG
    generalize w1.setCell ⟨G, 8, none⟩ (.string t) = w2 at hb2 hT02 ⊢
    have c0 := Block.cell hb2 0
    have c1 := Block.cell hb2 1
    have c2 := Block.cell hb2 2
    have c3 := Block.cell hb2 3
    have c4 := Block.cell hb2 4
    have c5 := Block.cell hb2 5
    have c6 := Block.cell hb2 6
    have c7 := Block.cell hb2 7
    have c8 := Block.cell hb2 8
    simp only [List.getElem?_cons_zero, List.getElem?_cons_succ] at c0 c1 c2 c3 c4 c5 c6 c7 c8
    go_wp2_with fail
    refine (HE1.out _).mono ?_
    rintro e w4 ⟨rfl, hT4⟩
    have hT04 := hT02.trans hT4
    clear c0 c1 c2 c3 c4 c5 c6 c7 c8
    clear hb2 hT02 hT4
    go_wp2_with fail
    go_ret
    exact ⟨rfl, hT04⟩
  · simp only [if_true] at he1
    obtain ⟨hso, hsz⟩ := hes rfl
    have HE1 := Lib.hid he1
    have HSO := Lib.hid hso
    clear he1 hso hes
    go_enter Try.func9, Try.ntmps9
    go_wp2_with fail
    have hb0 := Block.new w 36 [.int .i64 kind, .int .u32 se, .int .u32 ep, .int .u32 sq, .int .u64 pos, .int .u32 sm, .int .u32 mp, .bool last, .string text]
    refine (speaks22_calls _).mono ?_
    rintro e w1 ⟨rfl, hT1⟩
    have hT01 := ((Touch.refl (fun _ => False) w).alloc (.cells #[.int .i64 kind, .int .u32 se, .int .u32 ep, .int .u32 sq, .int .u64 pos, .int .u32 sm, .int .u32 mp, .bool last, .string text] 36)).trans hT1
    have hb1 := hb0.kept hT1 id
    clear hb0 hT1
    obtain ⟨G, hG⟩ : ∃ G, w.heap.size = G := ⟨_, rfl⟩
    rw [hG] at hb1 ⊢
    have f8 := Block.free hb1 8
    have c0 := Block.cell hb1 0
    have c1 := Block.cell hb1 1
    have c2 := Block.cell hb1 2
    have c3 := Block.cell hb1 3
    have c4 := Block.cell hb1 4
    have c5 := Block.cell hb1 5
    have c6 := Block.cell hb1 6
    have c7 := Block.cell hb1 7
    have c8 := Block.cell hb1 8
    simp only [List.getElem?_cons_zero, List.getElem?_cons_succ] at c0 c1 c2 c3 c4 c5 c6 c7 c8
    go_upto_region 4 with fail
    have hb2 := Block.set hb1 8 (.string t)
    have hT02 := hT01.trans' ((Touch.refl (fun k => k = G) w1).setCell (p := ⟨G, 8, none⟩) (.inl rfl) (.string t)) (fun i hi => .inr (by rw [hi, hG]; exact Nat.le_refl _))
    simp only [List.set_cons_succ, List.set_cons_zero] at hb2
    clear c0 c1 c2 c3 c4 c5 c6 c7 c8
    clear hb1 hT01 f8 hG
    generalize w1.setCell ⟨G, 8, none⟩ (.string t) = w2 at hb2 hT02 ⊢
    have c0 := Block.cell hb2 0
    have c1 := Block.cell hb2 1
    have c2 := Block.cell hb2 2
    have c3 := Block.cell hb2 3
    have c4 := Block.cell hb2 4
    have c5 := Block.cell hb2 5
    have c6 := Block.cell hb2 6
    have c7 := Block.cell hb2 7
    have c8 := Block.cell hb2 8
    simp only [List.getElem?_cons_zero, List.getElem?_cons_succ] at c0 c1 c2 c3 c4 c5 c6 c7 c8
    go_wp2_with fail
    refine (HE1.out _).mono ?_
    rintro e w4 ⟨rfl, hT4⟩
    have hT04 := hT02.trans hT4
    clear c0 c1 c2 c3 c4 c5 c6 c7 c8
    clear hb2 hT02 hT4
    have htl := data_lengthc S
    obtain ⟨n, hn⟩ : ∃ n, n = S.size := ⟨_, rfl⟩
    have hn5 : 38 ≤ n ∧ n ≤ 294 := by omega
    go_wp2_with fail
    rw [run_bytes_of_string w4 9 48 5 S Try.underlying9 Try.underlying48 Try.underlying5]
    have hB := BufAt.new w4.drew S (grownCap w4 S.size 0 5)
    have hT2 := hT04.drew.alloc (.cells (bytesRow S (grownCap w4 S.size 0 5)) 5 ((bytesRow S (grownCap w4 S.size 0 5)).size, (bytesRow S (grownCap w4 S.size 0 5)).size + 1))
    have hGw : w.heap.size ≤ w4.heap.size := hT04.size
    change BufAt _ w4.heap.size _ at hB
    generalize w4.drew.alloc (.cells (bytesRow S (grownCap w4 S.size 0 5)) 5 ((bytesRow S (grownCap w4 S.size 0 5)).size, (bytesRow S (grownCap w4 S.size 0 5)).size + 1)) = w5 at hB hT2 ⊢
    generalize grownCap w4 S.size 0 5 = cap
    generalize hHS : w4.heap.size = H at hB hGw ⊢
    rw [← hn] at htl ⊢
    have HN := Lib.hid hn
    have HD := Lib.hid (fun bit e hl he hbit => burst_sum S e bit burst HSO.out hl he hb h0 hbit : ∀ (bit : Nat) (e : List UInt8), e.length = S.data.toList.length → getN e = getN S.data.toList ^^^ (burst * 2 ^ bit) → bit ≤ 8 * S.data.toList.length → decE ⟨e.toArray⟩ = 7)
    clear hn hsz hesz HE1 hT04 hHS ht hi1 hi2 hi3 hnn
    obtain ⟨r, bit, hr, hr1, hr2, hbit, hbit2⟩ := bit_valD at_ n (by omega)
    have hm1 : wrap64 (8 * (n : Int) - 31) = 8 * (n : Int) - 31 := by unfold wrap64; omega
    go_wp2_with fail
    rw [hbit]
    clear hr hbit hr1 hr2 hm1
    go_loopw [12] (BurstInv w H S.data.toList bit burst) (fun i _ => 32 - (intOf i).toNat)
    case atStart => exact ⟨0, S.data.toList, rfl, by omega, rfl, by rw [Nat.pow_zero, Nat.mod_one, Nat.zero_mul, Nat.xor_zero], hB, hT2⟩
    case round =>
      obtain ⟨k, e, rfl, hk, hel, hge, hBe, hTe⟩ := hrel
      have HGE := Lib.hid hge
      clear hge
      by_cases hlt : k < 32
      · have hb1 : bits .and .u32 ((burst : Int) / 2 ^ k) 1 = ((burst / 2 ^ k % 2 : Nat) : Int) := by
          rw [show (burst : Int) / 2 ^ k = ((burst / 2 ^ k : Nat) : Int) by simp]
          exact and1_u32 _ (Nat.lt_of_le_of_lt (Nat.div_le_self _ _) hb)
        by_cases h1 : burst / 2 ^ k % 2 = 1
        · rw [h1] at hb1
          obtain ⟨j, hj1⟩ : ∃ j, j = (bit + k) / 8 := ⟨_, rfl⟩
          obtain ⟨m, hm1⟩ : ∃ m, m = (bit + k) % 8 := ⟨_, rfl⟩
          have hq : ((bit : Int) + k) / 8 = (j : Int) := by omega
          have hr : ((bit : Int) + k) % 8 = (m : Int) := by omega
          have hjn : j < n := by omega
          have hm8 : m < 8 := by omega
          have hj : j < e.length := by omega
          have hc := hBe.cell hj
          have hf := hBe.free hj
          have hx := e[j].toNat_lt
          have hgs := Lib.hid (getN_set e j m hj hm8)
          have HJ := Lib.hid (show 8 * j + m = bit + k by omega)
          clear hj1 hm1
          generalize hev : e[j].toNat = ev at hc hx hgs
          clear hev
          go_wp2_with fail
          go_region
          go_wp2_with fail
          go_roundw
          case rel =>
            have hxv : bits .xor .u8 (ev : Int) ((2 : Int) ^ m % 256) = ((UInt8.ofNat (ev ^^^ 2 ^ m)).toNat : Int) := by
              have h2 : 2 ^ m < 2 ^ 8 := Nat.pow_lt_pow_right (by decide) hm8
              have h3 : (2 : Int) ^ m % 256 = ((2 ^ m : Nat) : Int) := by
                rw [show (2 : Int) ^ m = ((2 ^ m : Nat) : Int) by simp]
                generalize 2 ^ m = q at h2
                omega
              rw [h3, u8_xor_nat _ _ hx h2, UInt8.toNat_ofNat_of_lt' (Nat.xor_lt_two_pow (n := 8) hx h2)]
            rw [hxv]
            refine ⟨k + 1, e.set j (UInt8.ofNat (ev ^^^ 2 ^ m)), by go_num, by omega, by rw [List.length_set]; exact hel, by rw [hgs.out, HGE.out, HJ.out, burst_step _ _ _ h1, Nat.xor_assoc], ?_, ?_⟩
            · exact (hBe.set j _).kept (Touch.refl (fun _ => False) _).drew id
            · exact (hTe.setCell (.inr (by have := hT2; omega)) _).drew
          case measure => simp [intOf]; omega
        · have h2 : burst / 2 ^ k % 2 = 0 := by omega
          rw [h2] at hb1
          go_wp2_with fail
          go_roundw
          case rel => exact ⟨k + 1, e, by go_num, by omega, hel, by rw [burst_stay _ _ _ h1]; exact HGE.out, hBe, hTe⟩
          case measure => simp [intOf]; omega
      · have hk2 : k = 32 := by omega
        subst hk2
        have hcv : ∀ W : World, BufAt W H e → (convert 48 9 (.slice (some ⟨H, 0, none⟩) n cap)).run Try.prog W = .ok (.string ⟨e.toArray⟩) W := fun W h => by
          have := run_convert_bytes_back (P := Try.prog) W 48 9 5 ⟨H, 0, none⟩ cap e Try.underlying48 Try.underlying5 Try.underlying9 (fun j hj => by
            have h1 := h.cell hj
            have h2 : (⟨H, 0, none⟩ : Addr).add j = ⟨H, j, none⟩ := by
              by_cases h0 : j = 0
              · subst h0; simp [Addr.add]
              · simp [Addr.add, h0]
            rw [h2]; exact h1)
          rwa [hel.trans htl] at this
        have hcvW := hcv _ hBe
        have hde : decE ⟨e.toArray⟩ = 7 := HD.out bit e hel (by rw [HGE.out, Nat.mod_eq_of_lt (by omega)]) (by omega)
        have hse : (⟨e.toArray⟩ : ByteArray).size = n := by rw [← hel.trans htl]; rfl
        have hdd := fun W => decode_calls ⟨e.toArray⟩ (by omega) W
        rw [hde] at hdd
        generalize (⟨e.toArray⟩ : ByteArray) = es at hcvW hdd
        generalize decD es = dd at hdd
        obtain ⟨dk, dse, dep, dsq, dpos, dsm, dmp, dla, dtx⟩ := dd
        unfold Dg.v Dg.cells at hdd
        simp only at hdd
        have HDD := Lib.hid hdd
        clear hdd hde hcv hBe hse
        go_wp2_with fail
        refine (HDD.out _).mono ?_
        rintro e1 w6 ⟨rfl, hT6⟩
        go_wp2_with fail
        go_ret
        exact ⟨rfl, (hTe.trans hT6).alloc _⟩
end Go.Proofs.Ytmjahbdengnoeaa

/- The walk of the statement DgramAny over the translated program. -/
import Derived.Test.YtmjahbdengnoeaaDgBuf
import Derived.Test.YtmjahbdengnoeaaDgCoWalk
namespace Go.Proofs.Ytmjahbdengnoeaa
open Go Go.RowKit
set_option maxRecDepth 100000
set_option linter.unusedSimpArgs false
set_option linter.unusedVariables false

theorem readD_wf (s : ByteArray) : (readD s).Wf := by
  have h2 := byteAt_lt s 2
  have l0 := rd_lt s 4 4
  have l1 := rd_lt s 8 4
  have l2 := rd_lt s 12 4
  have l3 := rd_lt s 16 8
  have l4 := rd_lt s 24 4
  have l5 := rd_lt s 28 4
  refine ⟨?_, ?_, Nat.lt_of_lt_of_le l0 (by decide), Nat.lt_of_lt_of_le l1 (by decide), Nat.lt_of_lt_of_le l2 (by decide), Nat.lt_of_lt_of_le l3 (by decide), Nat.lt_of_lt_of_le l4 (by decide), Nat.lt_of_lt_of_le l5 (by decide)⟩
  · show -9223372036854775808 ≤ ((byteAt s 2 : Nat) : Int); omega
  · show ((byteAt s 2 : Nat) : Int) ≤ 9223372036854775807; omega
theorem ba_two (T : ByteArray) (m : Nat) (hm : m ≤ T.size) : T.extract 0 m ++ T.extract m T.size = T := by
  apply ByteArray.ext
  apply Array.toList_inj.1
  rw [ByteArray.data_append, Array.toList_append, ex_list, ex_list, List.drop_zero, Nat.sub_zero]
  have hl : T.data.toList.length = T.size := Array.length_toList
  rw [List.take_of_length_le (l := T.data.toList.drop m) (by rw [List.length_drop, hl]; omega), List.take_append_drop]
/-- What Decode tells of any bytes: three ways. -/
theorem any_ways (T : ByteArray) : (sumOk T = false ∧ decE T = 7 ∧ decD T = Dg.zero) ∨ (sumOk T = true ∧ decE T = 3 ∧ decD T = Dg.zero) ∨ (sumOk T = true ∧ decE T = 0 ∧ (decD T).Wf ∧ encB (decD T) = T) := by
  cases hs : sumOk T
  · exact .inl ⟨rfl, by unfold decE; rw [hs]; rfl, by unfold decD; rw [hs]; rfl⟩
  · right
    have hE : decE T = if toldB (T.extract 0 (T.size - 4)) = true then 0 else 3 := by unfold decE; rw [hs]; rfl
    have hD : decD T = toldD (T.extract 0 (T.size - 4)) := by unfold decD; rw [hs]; rfl
    cases hb : toldB (T.extract 0 (T.size - 4))
    · rw [hb] at hE
      exact .inl ⟨rfl, hE, by rw [hD]; unfold toldD; rw [hb]; rfl⟩
    · rw [hb] at hE
      have hD2 : decD T = readD (T.extract 0 (T.size - 4)) := by rw [hD]; unfold toldD; rw [hb]; rfl
      refine .inr ⟨rfl, hE, by rw [hD2]; exact readD_wf _, ?_⟩
      rw [hD2]
      unfold toldB at hb
      simp only [Bool.and_eq_true, decide_eq_true_eq] at hb
      unfold sumOk at hs
      simp only [Bool.and_eq_true, decide_eq_true_eq] at hs
      unfold encB
      rw [hb.1, hb.2, hs.2]
      simp only [if_true]
      exact ba_two T _ (by omega)
theorem idx_val (x : Int) (n : Nat) (hn : 1 ≤ n) : ∃ (r : Int) (k : Nat), x.tmod (n : Int) = r ∧ -(n : Int) < r ∧ r < (n : Int) ∧ (r + n) % (n : Int) = k ∧ k < n := by
  have h1 := Int.tmod_lt_of_pos x (show (0 : Int) < (n : Int) by omega)
  have h2 : -(n : Int) < x.tmod (n : Int) := Int.lt_tmod_of_pos x (by omega)
  have h3 := Int.emod_nonneg (x.tmod (n : Int) + n) (show (n : Int) ≠ 0 by omega)
  have h4 := Int.emod_lt_of_pos (x.tmod (n : Int) + n) (show (0 : Int) < (n : Int) by omega)
  exact ⟨x.tmod (n : Int), ((x.tmod (n : Int) + n) % (n : Int)).toNat, rfl, h2, h1, by omega, by omega⟩
theorem byte_val (y : Int) : ∃ x : UInt8, y % 256 = ((x.toNat : Nat) : Int) := by
  refine ⟨UInt8.ofNat (y % 256).toNat, ?_⟩
  rw [UInt8.toNat_ofNat_of_lt' (by show (y % 256).toNat < 256; omega)]
  omega
/-- Decode's answer to some bytes, and the sum of the bytes ahead of their last four. -/
structure Heard (T : ByteArray) (so : Bool) (ee : Int) (dd : Dg) : Prop where
  size : 4 ≤ T.size ∧ T.size ≤ 300
  dec : ∀ W, Calls Try.prog 24 #[.string T] W fun e w' => e = .returned (.tuple #[dd.v, .int .i64 ee]) ∧ Touch (fun _ => False) W w'
  enc : dd.Wf
  so : sumOk T = so
theorem heard_any (T : ByteArray) (h4 : 4 ≤ T.size) (h3 : T.size ≤ 300) : Heard T false 7 Dg.zero ∨ Heard T true 3 Dg.zero ∨ ∃ dd : Dg, Heard T true 0 dd ∧ encB dd = T := by
  have hd := fun W => decode_calls T (by omega) W
  have hz : Dg.zero.Wf := ⟨by decide, by decide, by decide, by decide, by decide, by decide, by decide, by decide⟩
  rcases any_ways T with ⟨h1, h2, h5⟩ | ⟨h1, h2, h5⟩ | ⟨h1, h2, h5, h6⟩
  · rw [h2, h5] at hd; exact .inl ⟨⟨h4, h3⟩, hd, hz, h1⟩
  · rw [h2, h5] at hd; exact .inr (.inl ⟨⟨h4, h3⟩, hd, hz, h1⟩)
  · rw [h2] at hd; exact .inr (.inr ⟨_, ⟨⟨h4, h3⟩, hd, h5, h1⟩, h6⟩)

/-- What each operation of the sum's test leaves. -/
def anI (T Ta Tc q4 : ByteArray) (m cc : Nat) (nb : Bool) (i : Nat) (v : Value) : Prop := match i with
  | 0 => v = .string T
  | 1 => v = .int .i64 (m : Nat)
  | 2 => v = .string Ta
  | 3 => v = .int .u32 (cc : Nat)
  | 4 => v = .int .u64 (cc : Nat)
  | 5 => v = .string q4
  | 6 => v = .string T
  | 7 => v = .int .i64 (m : Nat)
  | 8 => v = .string Tc
  | 9 => v = .bool nb
  | _ => True

set_option maxHeartbeats 40000000 in
theorem dany_bad (d : Dg) (sx sy : Int) (sum : Bool) (hw0 : d.Wf) (hgg : goodD ⟨d.kind, d.se, d.ep, d.sq, d.pos, d.sm, d.mp, d.last, d.text.extract 0 (min d.text.size 256)⟩ = false) (w : World) : Calls Try.prog 8 #[d.v, .agg #[.int .i64 sx, .int .i64 sy], .bool sum] w fun e w' => e = .returned (.bool true) ∧ Touch (fun _ => False) w w' := by
  obtain ⟨n, hn⟩ : ∃ n : Nat, n = min d.text.size 256 := ⟨_, rfl⟩
  obtain ⟨t, ht⟩ : ∃ t, d.text.extract 0 n = t := ⟨_, rfl⟩
  have htz : t.size ≤ 256 := by rw [← ht]; simp; omega
  have hw := hw0.cut t
  obtain ⟨kind, se, ep, sq, pos, sm, mp, last, text⟩ := d
  simp only at hn ht hw
  obtain ⟨D, hD⟩ : ∃ D : Dg, D = ⟨kind, se, ep, sq, pos, sm, mp, last, t⟩ := ⟨_, rfl⟩
  rw [← hD] at hw
  have he2 := fun W => rencode_calls D hw W
  have hesz := encB_size D
  have heg : goodD D = true → 38 ≤ (encB D).size := fun h => by
    have he : encB D = bodyB D ++ sealB (bodyB D) := by unfold encB; rw [h]; rfl
    rw [he, ByteArray.size_append, bodyB_size, sealB_size]; omega
  have heb : goodD D = false → encB D = ⟨#[]⟩ := fun h => by unfold encB; rw [h]; rfl
  have hvv : D.v = .agg #[.int .i64 kind, .int .u32 se, .int .u32 ep, .int .u32 sq, .int .u64 pos, .int .u32 sm, .int .u32 mp, .bool last, .string t] := by rw [hD]; rfl
  rw [hvv] at he2
  have hi1 : min (text.size : Int) 256 = (n : Int) := by omega
  have hi2 : (if (text.size : Int) < 256 then (text.size : Int) else 256) = (n : Int) := by split <;> omega
  have hi3 : (if (256 : Int) < (text.size : Int) then 256 else (text.size : Int)) = (n : Int) := by split <;> omega
  have hnn : (n : Int) ≤ (text.size : Int) := by omega
  have hgd : goodD D = false := by rw [hD, ← ht, hn]; exact hgg
  clear hw hw0 hn hvv hD hgg
  unfold Dg.v Dg.cells
  simp only
  rw [heb hgd] at he2
  have HE2 := Lib.hid he2
  clear he2 heb heg hesz hgd
  go_enter Try.func8, Try.ntmps8
  go_wp2_with fail
  have hs1 : (w.alloc (.cells #[.int .i64 kind, .int .u32 se, .int .u32 ep, .int .u32 sq, .int .u64 pos, .int .u32 sm, .int .u32 mp, .bool last, .string text] 36)).heap.size = w.heap.size + 1 := Array.size_push ..
  have ha0 : Block ((w.alloc (.cells #[.int .i64 kind, .int .u32 se, .int .u32 ep, .int .u32 sq, .int .u64 pos, .int .u32 sm, .int .u32 mp, .bool last, .string text] 36)).alloc (.cells #[.int .i64 sx, .int .i64 sy] 47)) (w.heap.size + 1) 47 [.int .i64 sx, .int .i64 sy] := by rw [← hs1]; exact Block.new _ _ _
  have hb0 : Block ((w.alloc (.cells #[.int .i64 kind, .int .u32 se, .int .u32 ep, .int .u32 sq, .int .u64 pos, .int .u32 sm, .int .u32 mp, .bool last, .string text] 36)).alloc (.cells #[.int .i64 sx, .int .i64 sy] 47)) w.heap.size 36 [.int .i64 kind, .int .u32 se, .int .u32 ep, .int .u32 sq, .int .u64 pos, .int .u32 sm, .int .u32 mp, .bool last, .string text] := (Block.new w 36 [.int .i64 kind, .int .u32 se, .int .u32 ep, .int .u32 sq, .int .u64 pos, .int .u32 sm, .int .u32 mp, .bool last, .string text]).kept ((Touch.refl (fun _ => False) _).alloc _) id
  have hT00 : Touch (fun _ => False) w ((w.alloc (.cells #[.int .i64 kind, .int .u32 se, .int .u32 ep, .int .u32 sq, .int .u64 pos, .int .u32 sm, .int .u32 mp, .bool last, .string text] 36)).alloc (.cells #[.int .i64 sx, .int .i64 sy] 47)) := ((Touch.refl (fun _ => False) w).alloc _).alloc _
  generalize ((w.alloc (.cells #[.int .i64 kind, .int .u32 se, .int .u32 ep, .int .u32 sq, .int .u64 pos, .int .u32 sm, .int .u32 mp, .bool last, .string text] 36)).alloc (.cells #[.int .i64 sx, .int .i64 sy] 47)) = w0 at ha0 hb0 hT00 ⊢
  clear hs1
  obtain ⟨G, hG⟩ : ∃ G, w.heap.size = G := ⟨_, rfl⟩
  rw [hG] at ha0 hb0 ⊢
  refine (speaks22_calls _).mono ?_
  rintro e w1 ⟨rfl, hT1⟩
  have hT01 := hT00.trans hT1
  have hb1 := hb0.kept hT1 id
  have ha1 := ha0.kept hT1 id
  clear hb0 ha0 hT1 hT00
  have f8 := Block.free hb1 8
  have c0 := Block.cell hb1 0
  have c1 := Block.cell hb1 1
  have c2 := Block.cell hb1 2
  have c3 := Block.cell hb1 3
  have c4 := Block.cell hb1 4
  have c5 := Block.cell hb1 5
  have c6 := Block.cell hb1 6
  have c7 := Block.cell hb1 7
  have c8 := Block.cell hb1 8
  simp only [List.getElem?_cons_zero, List.getElem?_cons_succ] at c0 c1 c2 c3 c4 c5 c6 c7 c8
  go_upto_region 4 with fail
  have hb2 := Block.set hb1 8 (.string t)
  have hTs := (Touch.refl (fun k => k = G) w1).setCell (p := ⟨G, 8, none⟩) (.inl rfl) (.string t)
  have ha2 := ha1.kept hTs (show ¬ G + 1 = G by omega)
  have hT02 := hT01.trans' hTs (fun i hi => .inr (by rw [hi, hG]; exact Nat.le_refl _))
  simp only [List.set_cons_succ, List.set_cons_zero] at hb2
  clear c0 c1 c2 c3 c4 c5 c6 c7 c8
  clear hb1 ha1 hT01 hTs f8 hi1 hi2 hi3 hnn ht
  generalize w1.setCell ⟨G, 8, none⟩ (.string t) = w2 at hb2 ha2 hT02 ⊢
  have c0 := Block.cell hb2 0
  have c1 := Block.cell hb2 1
  have c2 := Block.cell hb2 2
  have c3 := Block.cell hb2 3
  have c4 := Block.cell hb2 4
  have c5 := Block.cell hb2 5
  have c6 := Block.cell hb2 6
  have c7 := Block.cell hb2 7
  have c8 := Block.cell hb2 8
  simp only [List.getElem?_cons_zero, List.getElem?_cons_succ] at c0 c1 c2 c3 c4 c5 c6 c7 c8
  go_wp2_with fail
  refine (HE2.out _).mono ?_
  rintro e w3 ⟨rfl, hT3⟩
  have hb3 := hb2.kept hT3 id
  have ha3 := ha2.kept hT3 id
  have hT03 := hT02.trans hT3
  clear c0 c1 c2 c3 c4 c5 c6 c7 c8
  clear hb2 ha2 hT02 hT3
  have c0 := Block.cell hb3 0
  have c1 := Block.cell hb3 1
  have c2 := Block.cell hb3 2
  have c3 := Block.cell hb3 3
  have c4 := Block.cell hb3 4
  have c5 := Block.cell hb3 5
  have c6 := Block.cell hb3 6
  have c7 := Block.cell hb3 7
  have c8 := Block.cell hb3 8
  simp only [List.getElem?_cons_zero, List.getElem?_cons_succ] at c0 c1 c2 c3 c4 c5 c6 c7 c8
  go_upto_region 7 with fail
  clear c0 c1 c2 c3 c4 c5 c6 c7 c8
  have hSz : ((⟨#[76, 71]⟩ : ByteArray) ++ t ++ ⟨#[49, 50, 51, 52]⟩).size = t.size + 6 := by
    rw [ByteArray.size_append, ByteArray.size_append]
    show 2 + t.size + 4 = _
    omega
  generalize ((⟨#[76, 71]⟩ : ByteArray) ++ t ++ ⟨#[49, 50, 51, 52]⟩) = S at hSz ⊢
  clear hb3
  obtain ⟨z, hz⟩ : ∃ z, z = S.size := ⟨_, rfl⟩
  have htl := data_lengthc S
  have hz6 : 6 ≤ z ∧ z ≤ 294 := by omega
  go_wp2_with fail
  rw [run_bytes_of_string w3 9 48 5 S Try.underlying9 Try.underlying48 Try.underlying5]
  have hB := BufAt.new w3.drew S (grownCap w3 S.size 0 5)
  have hTa := (Touch.refl (fun _ => False) w3).drew.alloc (.cells (bytesRow S (grownCap w3 S.size 0 5)) 5 ((bytesRow S (grownCap w3 S.size 0 5)).size, (bytesRow S (grownCap w3 S.size 0 5)).size + 1))
  have ha4 := ha3.kept hTa id
  have hT04 := hT03.trans hTa
  have hGw : w.heap.size ≤ w3.heap.size := hT03.size
  have hHa : G + 1 < w3.heap.size := Block.lt ha3
  change BufAt _ w3.heap.size _ at hB
  generalize w3.drew.alloc (.cells (bytesRow S (grownCap w3 S.size 0 5)) 5 ((bytesRow S (grownCap w3 S.size 0 5)).size, (bytesRow S (grownCap w3 S.size 0 5)).size + 1)) = w5 at hB hTa ha4 hT04 ⊢
  generalize grownCap w3 S.size 0 5 = cap
  generalize w3.heap.size = H at hB hGw hHa ⊢
  rw [← hz] at htl ⊢
  obtain ⟨r, k, hr, hr1, hr2, hkk, hkz⟩ := idx_val sx z (by omega)
  obtain ⟨xb, hxb⟩ := byte_val sy
  have hj : k < S.data.toList.length := by omega
  have hc := hB.cell hj
  have hf := hB.free hj
  have hq0 := Block.cell ha4 0
  have hq1 := Block.cell ha4 1
  simp only [List.getElem?_cons_zero, List.getElem?_cons_succ] at hq0 hq1
  generalize hev : S.data.toList[k].toNat = ev at hc
  have HZ := Lib.hid (⟨hz, htl⟩ : _ ∧ _)
  clear ha3 hTa hT03 hev hz htl
  go_wp2_with fail
  go_region
  have hB6 := (hB.set k xb).kept (Touch.refl (fun _ => False) _).drew id
  have hT06 := (hT04.setCell (p := ⟨H, k, none⟩) (.inr hGw) (.int .u8 (xb.toNat : Int))).drew
  have hel : (S.data.toList.set k xb).length = z := by rw [List.length_set]; exact HZ.out.2
  generalize S.data.toList.set k xb = el at hB6 hel
  generalize (w5.setCell ⟨H, k, none⟩ (.int .u8 (xb.toNat : Int))).drew = w6 at hB6 hT06 ⊢
  have hcv : (convert 48 9 (.slice (some ⟨H, 0, none⟩) z cap)).run Try.prog w6 = .ok (.string ⟨el.toArray⟩) w6 := by
    have := run_convert_bytes_back (P := Try.prog) w6 48 9 5 ⟨H, 0, none⟩ cap el Try.underlying48 Try.underlying5 Try.underlying9 (fun j hj => by
      have h1 := hB6.cell hj
      have h2 : (⟨H, 0, none⟩ : Addr).add j = ⟨H, j, none⟩ := by
        by_cases h0 : j = 0
        · subst h0; simp [Addr.add]
        · simp [Addr.add, h0]
      rw [h2]; exact h1)
    rwa [hel] at this
  have hEz : (⟨el.toArray⟩ : ByteArray).size = z := by rw [← hel]; rfl
  generalize (⟨el.toArray⟩ : ByteArray) = E at hcv hEz
  clear hB hB6 hT04 hc hf hq0 hq1 ha4 hr hr1 hr2 hkk hkz hj hel hxb
  cases sum
  · have hT4 : 4 ≤ E.size := by omega
    have hT3 : E.size ≤ 300 := by omega
    have hTt := hT06
    clear hT06
    obtain ⟨T, hTE⟩ : ∃ T, E = T := ⟨_, rfl⟩
    rw [hTE] at hcv hT4 hT3
    clear hTE
    rcases heard_any T hT4 hT3 with hh | hh | ⟨dd, hh, hen⟩
    · as_aux_lemma =>
        have hdd := fun W => hh.dec W
        obtain ⟨hz4, hz3⟩ := hh.size
        have hso := hh.so
        clear hh
        unfold Dg.zero Dg.v Dg.cells at hdd
        simp only at hdd
        have HDD := Lib.hid hdd
        clear hdd
        obtain ⟨m, hm⟩ : ∃ m : Nat, m = T.size - 4 := ⟨_, rfl⟩
        have hmI : (T.size : Int) - 4 = (m : Int) := by omega
        have hm0 : (0 : Int) ≤ (m : Int) := by omega
        have hm1 : (m : Int) ≤ (T.size : Int) := by omega
        have hsq : sumOk T = decide (sealB (T.extract 0 m) = T.extract m T.size) := by unfold sumOk; rw [decide_eq_true hz4, hm]; rfl
        rw [hso] at hsq
        have hTaz : (T.extract 0 m).size ≤ 1000 := by simp; omega
        obtain ⟨Ta, hTa⟩ : ∃ Ta, T.extract 0 m = Ta := ⟨_, rfl⟩
        obtain ⟨Tc, hTc⟩ : ∃ Tc, T.extract m T.size = Tc := ⟨_, rfl⟩
        rw [hTa, hTc] at hsq
        rw [hTa] at hTaz
        have heq := str_eqD (a := sealB Ta) (b := Tc)
        rw [← hsq] at heq
        clear hsq hso
        have hmo := fun W => refmore_calls 0 Ta W (by decide) (by omega)
        have hcl : moreN 0 Ta.data.toList < 4294967296 := moreN_lt 0 _ (by decide)
        have hpu := fun W => rput_calls (moreN 0 Ta.data.toList) 4 W (by decide) (by omega)
        unfold sealB at heq
        generalize lB 4 (moreN 0 Ta.data.toList) = q4 at heq hpu
        generalize moreN 0 Ta.data.toList = cc at hmo hcl hpu
        have HMO := Lib.hid hmo
        have HPU := Lib.hid hpu
        have hwc : IntKind.u64.wrap (cc : Int) = (cc : Int) := by rw [IntKind.wrap_u64]; omega
        clear hmo hpu hm
        go_wp2_with fail
        refine (HDD.out _).mono ?_
        rintro e w8 ⟨rfl, hT8⟩
        have hT08 := hTt.trans hT8
        clear hTt hT8
        go_upto_region 15 with fail
        have hb9 : DBox (w8.alloc (.cells #[.int .i64 0, .int .u32 0, .int .u32 0, .int .u32 0, .int .u64 0, .int .u32 0, .int .u32 0, .bool false, .string ⟨#[]⟩] 42)) w8.heap.size Dg.zero := dg_new w8 _ _ _ _ _ _ _ _ _
        have hT09 := hT08.alloc (.cells #[.int .i64 0, .int .u32 0, .int .u32 0, .int .u32 0, .int .u64 0, .int .u32 0, .int .u32 0, .bool false, .string ⟨#[]⟩] 42)
        generalize w8.alloc (.cells #[.int .i64 0, .int .u32 0, .int .u32 0, .int .u32 0, .int .u64 0, .int .u32 0, .int .u32 0, .bool false, .string ⟨#[]⟩] 42) = w9 at hb9 hT09 ⊢
        generalize w8.heap.size = H9 at hb9 ⊢
        clear hT08
        have HB9 := Lib.hid hb9
        have HT9 := Lib.hid hT09
        clear hb9 hT09
        refine wp_region_inv (fun W => Touch (fun _ => False) w9 W) (fun i v _ => anI T Ta Tc q4 m cc true i v) (by kernel_rfl) (by kernel_rfl) (by kernel_rfl) (Touch.refl _ _).drew ?_ ?_
        · intro i o hi a W hC hbase hdep
          have hlt := op_lt hi
          obtain ⟨hbd, hbs, hbb⟩ := hbase
          have b9 : a.tmps[9]? = some (.string T) := (hbb 9 (noDst_spec (by kernel_rfl))).trans rfl
          have b12 : a.tmps[12]? = some (.int .i64 (m : Nat)) := (hbb 12 (noDst_spec (by kernel_rfl))).trans rfl
          rcases (by simp at hlt; omega : i = 0 ∨ i = 1 ∨ i = 2 ∨ i = 3 ∨ i = 4 ∨ i = 5 ∨ i = 6 ∨ i = 7 ∨ i = 8 ∨ i = 9) with rfl | rfl | rfl | rfl | rfl | rfl | rfl | rfl | rfl | rfl
          · simp only [List.getElem?_toArray, List.getElem?_cons_zero, List.getElem?_cons_succ, Option.some.injEq] at hi
            subst hi
            clear hdep
            refine kp_val (v := .string T) ?_ ⟨_, rfl, rfl, hC, fun _ _ h => h⟩
            simp [execOp, Act.eval, b9]
          · simp only [List.getElem?_toArray, List.getElem?_cons_zero, List.getElem?_cons_succ, Option.some.injEq] at hi
            subst hi
            clear hdep
            refine kp_val (v := .int .i64 (m : Nat)) ?_ ⟨_, rfl, rfl, hC, fun _ _ h => h⟩
            simp [execOp, Act.eval, b12]
          · simp only [List.getElem?_toArray, List.getElem?_cons_zero, List.getElem?_cons_succ, Option.some.injEq] at hi
            subst hi
            simp [Region.binds, valOf, anI] at hdep
            refine kp_val (v := .string Ta) ?_ ⟨_, rfl, rfl, hC, fun _ _ h => h⟩
            simp [execOp, Act.eval, hdep]
            go_simp
            try (intro h9; exfalso; omega)
          · simp only [List.getElem?_toArray, List.getElem?_cons_zero, List.getElem?_cons_succ, Option.some.injEq] at hi
            subst hi
            simp [Region.binds, valOf, anI] at hdep
            refine kp_call0 (f := 26) (args := #[.int .u32 0, .string Ta]) (v := .int .u32 (cc : Nat)) ?_ (HMO.out W) ⟨_, rfl, rfl, hC, fun _ _ h => h⟩
            simp [execOp, resolve, invoke, Act.eval, hdep]
            try rfl
          · simp only [List.getElem?_toArray, List.getElem?_cons_zero, List.getElem?_cons_succ, Option.some.injEq] at hi
            subst hi
            simp [Region.binds, valOf, anI] at hdep
            refine kp_val (v := .int .u64 (cc : Nat)) ?_ ⟨_, rfl, rfl, hC, fun _ _ h => h⟩
            simp [execOp, Act.eval, hdep]
            go_simp
          · simp only [List.getElem?_toArray, List.getElem?_cons_zero, List.getElem?_cons_succ, Option.some.injEq] at hi
            subst hi
            simp [Region.binds, valOf, anI] at hdep
            refine kp_call (f := 25) (args := #[.int .u64 (cc : Nat), .int .i64 4]) (v := .string q4) ?_ (HPU.out W) (fun w' ht => ⟨_, rfl, rfl, hC.trans ht, fun _ _ h => h⟩)
            simp [execOp, resolve, invoke, Act.eval, hdep]
            try rfl
          · simp only [List.getElem?_toArray, List.getElem?_cons_zero, List.getElem?_cons_succ, Option.some.injEq] at hi
            subst hi
            clear hdep
            refine kp_val (v := .string T) ?_ ⟨_, rfl, rfl, hC, fun _ _ h => h⟩
            simp [execOp, Act.eval, b9]
          · simp only [List.getElem?_toArray, List.getElem?_cons_zero, List.getElem?_cons_succ, Option.some.injEq] at hi
            subst hi
            clear hdep
            refine kp_val (v := .int .i64 (m : Nat)) ?_ ⟨_, rfl, rfl, hC, fun _ _ h => h⟩
            simp [execOp, Act.eval, b12]
          · simp only [List.getElem?_toArray, List.getElem?_cons_zero, List.getElem?_cons_succ, Option.some.injEq] at hi
            subst hi
            simp [Region.binds, valOf, anI] at hdep
            refine kp_val (v := .string Tc) ?_ ⟨_, rfl, rfl, hC, fun _ _ h => h⟩
            simp [execOp, Act.eval, hdep]
            go_simp
            try (intro h9; exfalso; omega)
          · simp only [List.getElem?_toArray, List.getElem?_cons_zero, List.getElem?_cons_succ, Option.some.injEq] at hi
            subst hi
            simp [Region.binds, valOf, anI] at hdep
            refine kp_val (v := .bool true) ?_ ⟨_, rfl, rfl, hC, fun _ _ h => h⟩
            simp [execOp, Act.eval, hdep]
            go_simp
        · intro a W hC hbase hall
          have hx80 : a.tmps.getD 80 undef = .bool true := hall 9 _ rfl
          obtain ⟨hbd, hbs, hbb⟩ := hbase
          have hdf : a.defers = [] := hbd
          clear hall hbd
          rename_i hK
          obtain ⟨⟨l9⟩, df⟩ := a
          have hl : l9.length = 101 := hbs
          clear hbs
          obtain ⟨y0, j0, rfl, hl0⟩ := dg_cons (n := 100) hl
          clear hl
          obtain ⟨y1, j1, rfl, hl1⟩ := dg_cons (n := 99) hl0
          clear hl0
          obtain ⟨y2, j2, rfl, hl2⟩ := dg_cons (n := 98) hl1
          clear hl1
          obtain ⟨y3, j3, rfl, hl3⟩ := dg_cons (n := 97) hl2
          clear hl2
          obtain ⟨y4, j4, rfl, hl4⟩ := dg_cons (n := 96) hl3
          clear hl3
          obtain ⟨y5, j5, rfl, hl5⟩ := dg_cons (n := 95) hl4
          clear hl4
          obtain ⟨y6, j6, rfl, hl6⟩ := dg_cons (n := 94) hl5
          clear hl5
          obtain ⟨y7, j7, rfl, hl7⟩ := dg_cons (n := 93) hl6
          clear hl6
          obtain ⟨y8, j8, rfl, hl8⟩ := dg_cons (n := 92) hl7
          clear hl7
          obtain ⟨y9, j9, rfl, hl9⟩ := dg_cons (n := 91) hl8
          clear hl8
          obtain ⟨y10, j10, rfl, hl10⟩ := dg_cons (n := 90) hl9
          clear hl9
          obtain ⟨y11, j11, rfl, hl11⟩ := dg_cons (n := 89) hl10
          clear hl10
          obtain ⟨y12, j12, rfl, hl12⟩ := dg_cons (n := 88) hl11
          clear hl11
          obtain ⟨y13, j13, rfl, hl13⟩ := dg_cons (n := 87) hl12
          clear hl12
          obtain ⟨y14, j14, rfl, hl14⟩ := dg_cons (n := 86) hl13
          clear hl13
          obtain ⟨y15, j15, rfl, hl15⟩ := dg_cons (n := 85) hl14
          clear hl14
          obtain ⟨y16, j16, rfl, hl16⟩ := dg_cons (n := 84) hl15
          clear hl15
          obtain ⟨y17, j17, rfl, hl17⟩ := dg_cons (n := 83) hl16
          clear hl16
          obtain ⟨y18, j18, rfl, hl18⟩ := dg_cons (n := 82) hl17
          clear hl17
          obtain ⟨y19, j19, rfl, hl19⟩ := dg_cons (n := 81) hl18
          clear hl18
          obtain ⟨y20, j20, rfl, hl20⟩ := dg_cons (n := 80) hl19
          clear hl19
          obtain ⟨y21, j21, rfl, hl21⟩ := dg_cons (n := 79) hl20
          clear hl20
          obtain ⟨y22, j22, rfl, hl22⟩ := dg_cons (n := 78) hl21
          clear hl21
          obtain ⟨y23, j23, rfl, hl23⟩ := dg_cons (n := 77) hl22
          clear hl22
          obtain ⟨y24, j24, rfl, hl24⟩ := dg_cons (n := 76) hl23
          clear hl23
          obtain ⟨y25, j25, rfl, hl25⟩ := dg_cons (n := 75) hl24
          clear hl24
          obtain ⟨y26, j26, rfl, hl26⟩ := dg_cons (n := 74) hl25
          clear hl25
          obtain ⟨y27, j27, rfl, hl27⟩ := dg_cons (n := 73) hl26
          clear hl26
          obtain ⟨y28, j28, rfl, hl28⟩ := dg_cons (n := 72) hl27
          clear hl27
          obtain ⟨y29, j29, rfl, hl29⟩ := dg_cons (n := 71) hl28
          clear hl28
          obtain ⟨y30, j30, rfl, hl30⟩ := dg_cons (n := 70) hl29
          clear hl29
          obtain ⟨y31, j31, rfl, hl31⟩ := dg_cons (n := 69) hl30
          clear hl30
          obtain ⟨y32, j32, rfl, hl32⟩ := dg_cons (n := 68) hl31
          clear hl31
          obtain ⟨y33, j33, rfl, hl33⟩ := dg_cons (n := 67) hl32
          clear hl32
          obtain ⟨y34, j34, rfl, hl34⟩ := dg_cons (n := 66) hl33
          clear hl33
          obtain ⟨y35, j35, rfl, hl35⟩ := dg_cons (n := 65) hl34
          clear hl34
          obtain ⟨y36, j36, rfl, hl36⟩ := dg_cons (n := 64) hl35
          clear hl35
          obtain ⟨y37, j37, rfl, hl37⟩ := dg_cons (n := 63) hl36
          clear hl36
          obtain ⟨y38, j38, rfl, hl38⟩ := dg_cons (n := 62) hl37
          clear hl37
          obtain ⟨y39, j39, rfl, hl39⟩ := dg_cons (n := 61) hl38
          clear hl38
          obtain ⟨y40, j40, rfl, hl40⟩ := dg_cons (n := 60) hl39
          clear hl39
          obtain ⟨y41, j41, rfl, hl41⟩ := dg_cons (n := 59) hl40
          clear hl40
          obtain ⟨y42, j42, rfl, hl42⟩ := dg_cons (n := 58) hl41
          clear hl41
          obtain ⟨y43, j43, rfl, hl43⟩ := dg_cons (n := 57) hl42
          clear hl42
          obtain ⟨y44, j44, rfl, hl44⟩ := dg_cons (n := 56) hl43
          clear hl43
          obtain ⟨y45, j45, rfl, hl45⟩ := dg_cons (n := 55) hl44
          clear hl44
          obtain ⟨y46, j46, rfl, hl46⟩ := dg_cons (n := 54) hl45
          clear hl45
          obtain ⟨y47, j47, rfl, hl47⟩ := dg_cons (n := 53) hl46
          clear hl46
          obtain ⟨y48, j48, rfl, hl48⟩ := dg_cons (n := 52) hl47
          clear hl47
          obtain ⟨y49, j49, rfl, hl49⟩ := dg_cons (n := 51) hl48
          clear hl48
          obtain ⟨y50, j50, rfl, hl50⟩ := dg_cons (n := 50) hl49
          clear hl49
          obtain ⟨y51, j51, rfl, hl51⟩ := dg_cons (n := 49) hl50
          clear hl50
          obtain ⟨y52, j52, rfl, hl52⟩ := dg_cons (n := 48) hl51
          clear hl51
          obtain ⟨y53, j53, rfl, hl53⟩ := dg_cons (n := 47) hl52
          clear hl52
          obtain ⟨y54, j54, rfl, hl54⟩ := dg_cons (n := 46) hl53
          clear hl53
          obtain ⟨y55, j55, rfl, hl55⟩ := dg_cons (n := 45) hl54
          clear hl54
          obtain ⟨y56, j56, rfl, hl56⟩ := dg_cons (n := 44) hl55
          clear hl55
          obtain ⟨y57, j57, rfl, hl57⟩ := dg_cons (n := 43) hl56
          clear hl56
          obtain ⟨y58, j58, rfl, hl58⟩ := dg_cons (n := 42) hl57
          clear hl57
          obtain ⟨y59, j59, rfl, hl59⟩ := dg_cons (n := 41) hl58
          clear hl58
          obtain ⟨y60, j60, rfl, hl60⟩ := dg_cons (n := 40) hl59
          clear hl59
          obtain ⟨y61, j61, rfl, hl61⟩ := dg_cons (n := 39) hl60
          clear hl60
          obtain ⟨y62, j62, rfl, hl62⟩ := dg_cons (n := 38) hl61
          clear hl61
          obtain ⟨y63, j63, rfl, hl63⟩ := dg_cons (n := 37) hl62
          clear hl62
          obtain ⟨y64, j64, rfl, hl64⟩ := dg_cons (n := 36) hl63
          clear hl63
          obtain ⟨y65, j65, rfl, hl65⟩ := dg_cons (n := 35) hl64
          clear hl64
          obtain ⟨y66, j66, rfl, hl66⟩ := dg_cons (n := 34) hl65
          clear hl65
          obtain ⟨y67, j67, rfl, hl67⟩ := dg_cons (n := 33) hl66
          clear hl66
          obtain ⟨y68, j68, rfl, hl68⟩ := dg_cons (n := 32) hl67
          clear hl67
          obtain ⟨y69, j69, rfl, hl69⟩ := dg_cons (n := 31) hl68
          clear hl68
          obtain ⟨y70, j70, rfl, hl70⟩ := dg_cons (n := 30) hl69
          clear hl69
          obtain ⟨y71, j71, rfl, hl71⟩ := dg_cons (n := 29) hl70
          clear hl70
          obtain ⟨y72, j72, rfl, hl72⟩ := dg_cons (n := 28) hl71
          clear hl71
          obtain ⟨y73, j73, rfl, hl73⟩ := dg_cons (n := 27) hl72
          clear hl72
          obtain ⟨y74, j74, rfl, hl74⟩ := dg_cons (n := 26) hl73
          clear hl73
          obtain ⟨y75, j75, rfl, hl75⟩ := dg_cons (n := 25) hl74
          clear hl74
          obtain ⟨y76, j76, rfl, hl76⟩ := dg_cons (n := 24) hl75
          clear hl75
          obtain ⟨y77, j77, rfl, hl77⟩ := dg_cons (n := 23) hl76
          clear hl76
          obtain ⟨y78, j78, rfl, hl78⟩ := dg_cons (n := 22) hl77
          clear hl77
          obtain ⟨y79, j79, rfl, hl79⟩ := dg_cons (n := 21) hl78
          clear hl78
          obtain ⟨y80, j80, rfl, hl80⟩ := dg_cons (n := 20) hl79
          clear hl79
          obtain ⟨y81, j81, rfl, hl81⟩ := dg_cons (n := 19) hl80
          clear hl80
          obtain ⟨y82, j82, rfl, hl82⟩ := dg_cons (n := 18) hl81
          clear hl81
          obtain ⟨y83, j83, rfl, hl83⟩ := dg_cons (n := 17) hl82
          clear hl82
          obtain ⟨y84, j84, rfl, hl84⟩ := dg_cons (n := 16) hl83
          clear hl83
          obtain ⟨y85, j85, rfl, hl85⟩ := dg_cons (n := 15) hl84
          clear hl84
          obtain ⟨y86, j86, rfl, hl86⟩ := dg_cons (n := 14) hl85
          clear hl85
          obtain ⟨y87, j87, rfl, hl87⟩ := dg_cons (n := 13) hl86
          clear hl86
          obtain ⟨y88, j88, rfl, hl88⟩ := dg_cons (n := 12) hl87
          clear hl87
          obtain ⟨y89, j89, rfl, hl89⟩ := dg_cons (n := 11) hl88
          clear hl88
          obtain ⟨y90, j90, rfl, hl90⟩ := dg_cons (n := 10) hl89
          clear hl89
          obtain ⟨y91, j91, rfl, hl91⟩ := dg_cons (n := 9) hl90
          clear hl90
          obtain ⟨y92, j92, rfl, hl92⟩ := dg_cons (n := 8) hl91
          clear hl91
          obtain ⟨y93, j93, rfl, hl93⟩ := dg_cons (n := 7) hl92
          clear hl92
          obtain ⟨y94, j94, rfl, hl94⟩ := dg_cons (n := 6) hl93
          clear hl93
          obtain ⟨y95, j95, rfl, hl95⟩ := dg_cons (n := 5) hl94
          clear hl94
          obtain ⟨y96, j96, rfl, hl96⟩ := dg_cons (n := 4) hl95
          clear hl95
          obtain ⟨y97, j97, rfl, hl97⟩ := dg_cons (n := 3) hl96
          clear hl96
          obtain ⟨y98, j98, rfl, hl98⟩ := dg_cons (n := 2) hl97
          clear hl97
          obtain ⟨y99, j99, rfl, hl99⟩ := dg_cons (n := 1) hl98
          clear hl98
          obtain ⟨y100, j100, rfl, hl100⟩ := dg_cons (n := 0) hl99
          clear hl99
          obtain rfl := List.eq_nil_of_length_eq_zero hl100
          clear hl100
          have eq9 := hbb 9 (noDst_spec (by kernel_rfl))
          simp only [List.getElem?_toArray, List.getElem?_cons_zero, List.getElem?_cons_succ, Option.some.injEq] at eq9
          subst eq9
          have eq10 := hbb 10 (noDst_spec (by kernel_rfl))
          simp only [List.getElem?_toArray, List.getElem?_cons_zero, List.getElem?_cons_succ, Option.some.injEq] at eq10
          subst eq10
          have eq11 := hbb 11 (noDst_spec (by kernel_rfl))
          simp only [List.getElem?_toArray, List.getElem?_cons_zero, List.getElem?_cons_succ, Option.some.injEq] at eq11
          subst eq11
          obtain rfl : y80 = .bool true := hx80
          obtain rfl : df = [] := hdf
          clear hbb
          refine hK _ W ?_
          have ht : ∀ q : List Value, Array.mk q = List.toArray q := fun _ => rfl
          rw [ht]
          have hbb := DBox.kept HB9.out hC id
          have hTfin := HT9.out.trans hC
          obtain ⟨d0, d1, d2, d3, d4, d5, d6, d7, d8⟩ := DBox.cells hbb
          go_wp2_with fail
          go_ret
          exact ⟨rfl, hTfin⟩
    · as_aux_lemma =>
        have hdd := fun W => hh.dec W
        obtain ⟨hz4, hz3⟩ := hh.size
        have hso := hh.so
        clear hh
        unfold Dg.zero Dg.v Dg.cells at hdd
        simp only at hdd
        have HDD := Lib.hid hdd
        clear hdd
        obtain ⟨m, hm⟩ : ∃ m : Nat, m = T.size - 4 := ⟨_, rfl⟩
        have hmI : (T.size : Int) - 4 = (m : Int) := by omega
        have hm0 : (0 : Int) ≤ (m : Int) := by omega
        have hm1 : (m : Int) ≤ (T.size : Int) := by omega
        have hsq : sumOk T = decide (sealB (T.extract 0 m) = T.extract m T.size) := by unfold sumOk; rw [decide_eq_true hz4, hm]; rfl
        rw [hso] at hsq
        have hTaz : (T.extract 0 m).size ≤ 1000 := by simp; omega
        obtain ⟨Ta, hTa⟩ : ∃ Ta, T.extract 0 m = Ta := ⟨_, rfl⟩
        obtain ⟨Tc, hTc⟩ : ∃ Tc, T.extract m T.size = Tc := ⟨_, rfl⟩
        rw [hTa, hTc] at hsq
        rw [hTa] at hTaz
        have heq := str_eqD (a := sealB Ta) (b := Tc)
        rw [← hsq] at heq
        clear hsq hso
        have hmo := fun W => refmore_calls 0 Ta W (by decide) (by omega)
        have hcl : moreN 0 Ta.data.toList < 4294967296 := moreN_lt 0 _ (by decide)
        have hpu := fun W => rput_calls (moreN 0 Ta.data.toList) 4 W (by decide) (by omega)
        unfold sealB at heq
        generalize lB 4 (moreN 0 Ta.data.toList) = q4 at heq hpu
        generalize moreN 0 Ta.data.toList = cc at hmo hcl hpu
        have HMO := Lib.hid hmo
        have HPU := Lib.hid hpu
        have hwc : IntKind.u64.wrap (cc : Int) = (cc : Int) := by rw [IntKind.wrap_u64]; omega
        clear hmo hpu hm
        go_wp2_with fail
        refine (HDD.out _).mono ?_
        rintro e w8 ⟨rfl, hT8⟩
        have hT08 := hTt.trans hT8
        clear hTt hT8
        go_upto_region 15 with fail
        have hb9 : DBox (w8.alloc (.cells #[.int .i64 0, .int .u32 0, .int .u32 0, .int .u32 0, .int .u64 0, .int .u32 0, .int .u32 0, .bool false, .string ⟨#[]⟩] 42)) w8.heap.size Dg.zero := dg_new w8 _ _ _ _ _ _ _ _ _
        have hT09 := hT08.alloc (.cells #[.int .i64 0, .int .u32 0, .int .u32 0, .int .u32 0, .int .u64 0, .int .u32 0, .int .u32 0, .bool false, .string ⟨#[]⟩] 42)
        generalize w8.alloc (.cells #[.int .i64 0, .int .u32 0, .int .u32 0, .int .u32 0, .int .u64 0, .int .u32 0, .int .u32 0, .bool false, .string ⟨#[]⟩] 42) = w9 at hb9 hT09 ⊢
        generalize w8.heap.size = H9 at hb9 ⊢
        clear hT08
        have HB9 := Lib.hid hb9
        have HT9 := Lib.hid hT09
        clear hb9 hT09
        refine wp_region_inv (fun W => Touch (fun _ => False) w9 W) (fun i v _ => anI T Ta Tc q4 m cc false i v) (by kernel_rfl) (by kernel_rfl) (by kernel_rfl) (Touch.refl _ _).drew ?_ ?_
        · intro i o hi a W hC hbase hdep
          have hlt := op_lt hi
          obtain ⟨hbd, hbs, hbb⟩ := hbase
          have b9 : a.tmps[9]? = some (.string T) := (hbb 9 (noDst_spec (by kernel_rfl))).trans rfl
          have b12 : a.tmps[12]? = some (.int .i64 (m : Nat)) := (hbb 12 (noDst_spec (by kernel_rfl))).trans rfl
          rcases (by simp at hlt; omega : i = 0 ∨ i = 1 ∨ i = 2 ∨ i = 3 ∨ i = 4 ∨ i = 5 ∨ i = 6 ∨ i = 7 ∨ i = 8 ∨ i = 9) with rfl | rfl | rfl | rfl | rfl | rfl | rfl | rfl | rfl | rfl
          · simp only [List.getElem?_toArray, List.getElem?_cons_zero, List.getElem?_cons_succ, Option.some.injEq] at hi
            subst hi
            clear hdep
            refine kp_val (v := .string T) ?_ ⟨_, rfl, rfl, hC, fun _ _ h => h⟩
            simp [execOp, Act.eval, b9]
          · simp only [List.getElem?_toArray, List.getElem?_cons_zero, List.getElem?_cons_succ, Option.some.injEq] at hi
            subst hi
            clear hdep
            refine kp_val (v := .int .i64 (m : Nat)) ?_ ⟨_, rfl, rfl, hC, fun _ _ h => h⟩
            simp [execOp, Act.eval, b12]
          · simp only [List.getElem?_toArray, List.getElem?_cons_zero, List.getElem?_cons_succ, Option.some.injEq] at hi
            subst hi
            simp [Region.binds, valOf, anI] at hdep
            refine kp_val (v := .string Ta) ?_ ⟨_, rfl, rfl, hC, fun _ _ h => h⟩
            simp [execOp, Act.eval, hdep]
            go_simp
            try (intro h9; exfalso; omega)
          · simp only [List.getElem?_toArray, List.getElem?_cons_zero, List.getElem?_cons_succ, Option.some.injEq] at hi
            subst hi
            simp [Region.binds, valOf, anI] at hdep
            refine kp_call0 (f := 26) (args := #[.int .u32 0, .string Ta]) (v := .int .u32 (cc : Nat)) ?_ (HMO.out W) ⟨_, rfl, rfl, hC, fun _ _ h => h⟩
            simp [execOp, resolve, invoke, Act.eval, hdep]
            try rfl
          · simp only [List.getElem?_toArray, List.getElem?_cons_zero, List.getElem?_cons_succ, Option.some.injEq] at hi
            subst hi
            simp [Region.binds, valOf, anI] at hdep
            refine kp_val (v := .int .u64 (cc : Nat)) ?_ ⟨_, rfl, rfl, hC, fun _ _ h => h⟩
            simp [execOp, Act.eval, hdep]
            go_simp
          · simp only [List.getElem?_toArray, List.getElem?_cons_zero, List.getElem?_cons_succ, Option.some.injEq] at hi
            subst hi
            simp [Region.binds, valOf, anI] at hdep
            refine kp_call (f := 25) (args := #[.int .u64 (cc : Nat), .int .i64 4]) (v := .string q4) ?_ (HPU.out W) (fun w' ht => ⟨_, rfl, rfl, hC.trans ht, fun _ _ h => h⟩)
            simp [execOp, resolve, invoke, Act.eval, hdep]
            try rfl
          · simp only [List.getElem?_toArray, List.getElem?_cons_zero, List.getElem?_cons_succ, Option.some.injEq] at hi
            subst hi
            clear hdep
            refine kp_val (v := .string T) ?_ ⟨_, rfl, rfl, hC, fun _ _ h => h⟩
            simp [execOp, Act.eval, b9]
          · simp only [List.getElem?_toArray, List.getElem?_cons_zero, List.getElem?_cons_succ, Option.some.injEq] at hi
            subst hi
            clear hdep
            refine kp_val (v := .int .i64 (m : Nat)) ?_ ⟨_, rfl, rfl, hC, fun _ _ h => h⟩
            simp [execOp, Act.eval, b12]
          · simp only [List.getElem?_toArray, List.getElem?_cons_zero, List.getElem?_cons_succ, Option.some.injEq] at hi
            subst hi
            simp [Region.binds, valOf, anI] at hdep
            refine kp_val (v := .string Tc) ?_ ⟨_, rfl, rfl, hC, fun _ _ h => h⟩
            simp [execOp, Act.eval, hdep]
            go_simp
            try (intro h9; exfalso; omega)
          · simp only [List.getElem?_toArray, List.getElem?_cons_zero, List.getElem?_cons_succ, Option.some.injEq] at hi
            subst hi
            simp [Region.binds, valOf, anI] at hdep
            refine kp_val (v := .bool false) ?_ ⟨_, rfl, rfl, hC, fun _ _ h => h⟩
            simp [execOp, Act.eval, hdep]
            go_simp
        · intro a W hC hbase hall
          have hx80 : a.tmps.getD 80 undef = .bool false := hall 9 _ rfl
          obtain ⟨hbd, hbs, hbb⟩ := hbase
          have hdf : a.defers = [] := hbd
          clear hall hbd
          rename_i hK
          obtain ⟨⟨l9⟩, df⟩ := a
          have hl : l9.length = 101 := hbs
          clear hbs
          obtain ⟨y0, j0, rfl, hl0⟩ := dg_cons (n := 100) hl
          clear hl
          obtain ⟨y1, j1, rfl, hl1⟩ := dg_cons (n := 99) hl0
          clear hl0
          obtain ⟨y2, j2, rfl, hl2⟩ := dg_cons (n := 98) hl1
          clear hl1
          obtain ⟨y3, j3, rfl, hl3⟩ := dg_cons (n := 97) hl2
          clear hl2
          obtain ⟨y4, j4, rfl, hl4⟩ := dg_cons (n := 96) hl3
          clear hl3
          obtain ⟨y5, j5, rfl, hl5⟩ := dg_cons (n := 95) hl4
          clear hl4
          obtain ⟨y6, j6, rfl, hl6⟩ := dg_cons (n := 94) hl5
          clear hl5
          obtain ⟨y7, j7, rfl, hl7⟩ := dg_cons (n := 93) hl6
          clear hl6
          obtain ⟨y8, j8, rfl, hl8⟩ := dg_cons (n := 92) hl7
          clear hl7
          obtain ⟨y9, j9, rfl, hl9⟩ := dg_cons (n := 91) hl8
          clear hl8
          obtain ⟨y10, j10, rfl, hl10⟩ := dg_cons (n := 90) hl9
          clear hl9
          obtain ⟨y11, j11, rfl, hl11⟩ := dg_cons (n := 89) hl10
          clear hl10
          obtain ⟨y12, j12, rfl, hl12⟩ := dg_cons (n := 88) hl11
          clear hl11
          obtain ⟨y13, j13, rfl, hl13⟩ := dg_cons (n := 87) hl12
          clear hl12
          obtain ⟨y14, j14, rfl, hl14⟩ := dg_cons (n := 86) hl13
          clear hl13
          obtain ⟨y15, j15, rfl, hl15⟩ := dg_cons (n := 85) hl14
          clear hl14
          obtain ⟨y16, j16, rfl, hl16⟩ := dg_cons (n := 84) hl15
          clear hl15
          obtain ⟨y17, j17, rfl, hl17⟩ := dg_cons (n := 83) hl16
          clear hl16
          obtain ⟨y18, j18, rfl, hl18⟩ := dg_cons (n := 82) hl17
          clear hl17
          obtain ⟨y19, j19, rfl, hl19⟩ := dg_cons (n := 81) hl18
          clear hl18
          obtain ⟨y20, j20, rfl, hl20⟩ := dg_cons (n := 80) hl19
          clear hl19
          obtain ⟨y21, j21, rfl, hl21⟩ := dg_cons (n := 79) hl20
          clear hl20
          obtain ⟨y22, j22, rfl, hl22⟩ := dg_cons (n := 78) hl21
          clear hl21
          obtain ⟨y23, j23, rfl, hl23⟩ := dg_cons (n := 77) hl22
          clear hl22
          obtain ⟨y24, j24, rfl, hl24⟩ := dg_cons (n := 76) hl23
          clear hl23
          obtain ⟨y25, j25, rfl, hl25⟩ := dg_cons (n := 75) hl24
          clear hl24
          obtain ⟨y26, j26, rfl, hl26⟩ := dg_cons (n := 74) hl25
          clear hl25
          obtain ⟨y27, j27, rfl, hl27⟩ := dg_cons (n := 73) hl26
          clear hl26
          obtain ⟨y28, j28, rfl, hl28⟩ := dg_cons (n := 72) hl27
          clear hl27
          obtain ⟨y29, j29, rfl, hl29⟩ := dg_cons (n := 71) hl28
          clear hl28
          obtain ⟨y30, j30, rfl, hl30⟩ := dg_cons (n := 70) hl29
          clear hl29
          obtain ⟨y31, j31, rfl, hl31⟩ := dg_cons (n := 69) hl30
          clear hl30
          obtain ⟨y32, j32, rfl, hl32⟩ := dg_cons (n := 68) hl31
          clear hl31
          obtain ⟨y33, j33, rfl, hl33⟩ := dg_cons (n := 67) hl32
          clear hl32
          obtain ⟨y34, j34, rfl, hl34⟩ := dg_cons (n := 66) hl33
          clear hl33
          obtain ⟨y35, j35, rfl, hl35⟩ := dg_cons (n := 65) hl34
          clear hl34
          obtain ⟨y36, j36, rfl, hl36⟩ := dg_cons (n := 64) hl35
          clear hl35
          obtain ⟨y37, j37, rfl, hl37⟩ := dg_cons (n := 63) hl36
          clear hl36
          obtain ⟨y38, j38, rfl, hl38⟩ := dg_cons (n := 62) hl37
          clear hl37
          obtain ⟨y39, j39, rfl, hl39⟩ := dg_cons (n := 61) hl38
          clear hl38
          obtain ⟨y40, j40, rfl, hl40⟩ := dg_cons (n := 60) hl39
          clear hl39
          obtain ⟨y41, j41, rfl, hl41⟩ := dg_cons (n := 59) hl40
          clear hl40
          obtain ⟨y42, j42, rfl, hl42⟩ := dg_cons (n := 58) hl41
          clear hl41
          obtain ⟨y43, j43, rfl, hl43⟩ := dg_cons (n := 57) hl42
          clear hl42
          obtain ⟨y44, j44, rfl, hl44⟩ := dg_cons (n := 56) hl43
          clear hl43
          obtain ⟨y45, j45, rfl, hl45⟩ := dg_cons (n := 55) hl44
          clear hl44
          obtain ⟨y46, j46, rfl, hl46⟩ := dg_cons (n := 54) hl45
          clear hl45
          obtain ⟨y47, j47, rfl, hl47⟩ := dg_cons (n := 53) hl46
          clear hl46
          obtain ⟨y48, j48, rfl, hl48⟩ := dg_cons (n := 52) hl47
          clear hl47
          obtain ⟨y49, j49, rfl, hl49⟩ := dg_cons (n := 51) hl48
          clear hl48
          obtain ⟨y50, j50, rfl, hl50⟩ := dg_cons (n := 50) hl49
          clear hl49
          obtain ⟨y51, j51, rfl, hl51⟩ := dg_cons (n := 49) hl50
          clear hl50
          obtain ⟨y52, j52, rfl, hl52⟩ := dg_cons (n := 48) hl51
          clear hl51
          obtain ⟨y53, j53, rfl, hl53⟩ := dg_cons (n := 47) hl52
          clear hl52
          obtain ⟨y54, j54, rfl, hl54⟩ := dg_cons (n := 46) hl53
          clear hl53
          obtain ⟨y55, j55, rfl, hl55⟩ := dg_cons (n := 45) hl54
          clear hl54
          obtain ⟨y56, j56, rfl, hl56⟩ := dg_cons (n := 44) hl55
          clear hl55
          obtain ⟨y57, j57, rfl, hl57⟩ := dg_cons (n := 43) hl56
          clear hl56
          obtain ⟨y58, j58, rfl, hl58⟩ := dg_cons (n := 42) hl57
          clear hl57
          obtain ⟨y59, j59, rfl, hl59⟩ := dg_cons (n := 41) hl58
          clear hl58
          obtain ⟨y60, j60, rfl, hl60⟩ := dg_cons (n := 40) hl59
          clear hl59
          obtain ⟨y61, j61, rfl, hl61⟩ := dg_cons (n := 39) hl60
          clear hl60
          obtain ⟨y62, j62, rfl, hl62⟩ := dg_cons (n := 38) hl61
          clear hl61
          obtain ⟨y63, j63, rfl, hl63⟩ := dg_cons (n := 37) hl62
          clear hl62
          obtain ⟨y64, j64, rfl, hl64⟩ := dg_cons (n := 36) hl63
          clear hl63
          obtain ⟨y65, j65, rfl, hl65⟩ := dg_cons (n := 35) hl64
          clear hl64
          obtain ⟨y66, j66, rfl, hl66⟩ := dg_cons (n := 34) hl65
          clear hl65
          obtain ⟨y67, j67, rfl, hl67⟩ := dg_cons (n := 33) hl66
          clear hl66
          obtain ⟨y68, j68, rfl, hl68⟩ := dg_cons (n := 32) hl67
          clear hl67
          obtain ⟨y69, j69, rfl, hl69⟩ := dg_cons (n := 31) hl68
          clear hl68
          obtain ⟨y70, j70, rfl, hl70⟩ := dg_cons (n := 30) hl69
          clear hl69
          obtain ⟨y71, j71, rfl, hl71⟩ := dg_cons (n := 29) hl70
          clear hl70
          obtain ⟨y72, j72, rfl, hl72⟩ := dg_cons (n := 28) hl71
          clear hl71
          obtain ⟨y73, j73, rfl, hl73⟩ := dg_cons (n := 27) hl72
          clear hl72
          obtain ⟨y74, j74, rfl, hl74⟩ := dg_cons (n := 26) hl73
          clear hl73
          obtain ⟨y75, j75, rfl, hl75⟩ := dg_cons (n := 25) hl74
          clear hl74
          obtain ⟨y76, j76, rfl, hl76⟩ := dg_cons (n := 24) hl75
          clear hl75
          obtain ⟨y77, j77, rfl, hl77⟩ := dg_cons (n := 23) hl76
          clear hl76
          obtain ⟨y78, j78, rfl, hl78⟩ := dg_cons (n := 22) hl77
          clear hl77
          obtain ⟨y79, j79, rfl, hl79⟩ := dg_cons (n := 21) hl78
          clear hl78
          obtain ⟨y80, j80, rfl, hl80⟩ := dg_cons (n := 20) hl79
          clear hl79
          obtain ⟨y81, j81, rfl, hl81⟩ := dg_cons (n := 19) hl80
          clear hl80
          obtain ⟨y82, j82, rfl, hl82⟩ := dg_cons (n := 18) hl81
          clear hl81
          obtain ⟨y83, j83, rfl, hl83⟩ := dg_cons (n := 17) hl82
          clear hl82
          obtain ⟨y84, j84, rfl, hl84⟩ := dg_cons (n := 16) hl83
          clear hl83
          obtain ⟨y85, j85, rfl, hl85⟩ := dg_cons (n := 15) hl84
          clear hl84
          obtain ⟨y86, j86, rfl, hl86⟩ := dg_cons (n := 14) hl85
          clear hl85
          obtain ⟨y87, j87, rfl, hl87⟩ := dg_cons (n := 13) hl86
          clear hl86
          obtain ⟨y88, j88, rfl, hl88⟩ := dg_cons (n := 12) hl87
          clear hl87
          obtain ⟨y89, j89, rfl, hl89⟩ := dg_cons (n := 11) hl88
          clear hl88
          obtain ⟨y90, j90, rfl, hl90⟩ := dg_cons (n := 10) hl89
          clear hl89
          obtain ⟨y91, j91, rfl, hl91⟩ := dg_cons (n := 9) hl90
          clear hl90
          obtain ⟨y92, j92, rfl, hl92⟩ := dg_cons (n := 8) hl91
          clear hl91
          obtain ⟨y93, j93, rfl, hl93⟩ := dg_cons (n := 7) hl92
          clear hl92
          obtain ⟨y94, j94, rfl, hl94⟩ := dg_cons (n := 6) hl93
          clear hl93
          obtain ⟨y95, j95, rfl, hl95⟩ := dg_cons (n := 5) hl94
          clear hl94
          obtain ⟨y96, j96, rfl, hl96⟩ := dg_cons (n := 4) hl95
          clear hl95
          obtain ⟨y97, j97, rfl, hl97⟩ := dg_cons (n := 3) hl96
          clear hl96
          obtain ⟨y98, j98, rfl, hl98⟩ := dg_cons (n := 2) hl97
          clear hl97
          obtain ⟨y99, j99, rfl, hl99⟩ := dg_cons (n := 1) hl98
          clear hl98
          obtain ⟨y100, j100, rfl, hl100⟩ := dg_cons (n := 0) hl99
          clear hl99
          obtain rfl := List.eq_nil_of_length_eq_zero hl100
          clear hl100
          have eq9 := hbb 9 (noDst_spec (by kernel_rfl))
          simp only [List.getElem?_toArray, List.getElem?_cons_zero, List.getElem?_cons_succ, Option.some.injEq] at eq9
          subst eq9
          have eq10 := hbb 10 (noDst_spec (by kernel_rfl))
          simp only [List.getElem?_toArray, List.getElem?_cons_zero, List.getElem?_cons_succ, Option.some.injEq] at eq10
          subst eq10
          have eq11 := hbb 11 (noDst_spec (by kernel_rfl))
          simp only [List.getElem?_toArray, List.getElem?_cons_zero, List.getElem?_cons_succ, Option.some.injEq] at eq11
          subst eq11
          obtain rfl : y80 = .bool false := hx80
          obtain rfl : df = [] := hdf
          clear hbb
          refine hK _ W ?_
          have ht : ∀ q : List Value, Array.mk q = List.toArray q := fun _ => rfl
          rw [ht]
          have hbb := DBox.kept HB9.out hC id
          have hTfin := HT9.out.trans hC
          obtain ⟨d0, d1, d2, d3, d4, d5, d6, d7, d8⟩ := DBox.cells hbb
          go_wp2_with fail
          go_ret
          exact ⟨rfl, hTfin⟩
    · as_aux_lemma =>
        obtain ⟨rk, r1, r2, r3, r4, r5, r6, r7, r8⟩ := dd
        have hre := fun W => rencode_calls _ hh.enc W
        rw [hen] at hre
        unfold Dg.v Dg.cells at hre
        simp only at hre
        have HRE := Lib.hid hre
        clear hre hen
        have hdd := fun W => hh.dec W
        obtain ⟨hz4, hz3⟩ := hh.size
        have hso := hh.so
        clear hh
        unfold Dg.v Dg.cells at hdd
        simp only at hdd
        have HDD := Lib.hid hdd
        clear hdd
        obtain ⟨m, hm⟩ : ∃ m : Nat, m = T.size - 4 := ⟨_, rfl⟩
        have hmI : (T.size : Int) - 4 = (m : Int) := by omega
        have hm0 : (0 : Int) ≤ (m : Int) := by omega
        have hm1 : (m : Int) ≤ (T.size : Int) := by omega
        have hsq : sumOk T = decide (sealB (T.extract 0 m) = T.extract m T.size) := by unfold sumOk; rw [decide_eq_true hz4, hm]; rfl
        rw [hso] at hsq
        have hTaz : (T.extract 0 m).size ≤ 1000 := by simp; omega
        obtain ⟨Ta, hTa⟩ : ∃ Ta, T.extract 0 m = Ta := ⟨_, rfl⟩
        obtain ⟨Tc, hTc⟩ : ∃ Tc, T.extract m T.size = Tc := ⟨_, rfl⟩
        rw [hTa, hTc] at hsq
        rw [hTa] at hTaz
        have heq := str_eqD (a := sealB Ta) (b := Tc)
        rw [← hsq] at heq
        clear hsq hso
        have hmo := fun W => refmore_calls 0 Ta W (by decide) (by omega)
        have hcl : moreN 0 Ta.data.toList < 4294967296 := moreN_lt 0 _ (by decide)
        have hpu := fun W => rput_calls (moreN 0 Ta.data.toList) 4 W (by decide) (by omega)
        unfold sealB at heq
        generalize lB 4 (moreN 0 Ta.data.toList) = q4 at heq hpu
        generalize moreN 0 Ta.data.toList = cc at hmo hcl hpu
        have HMO := Lib.hid hmo
        have HPU := Lib.hid hpu
        have hwc : IntKind.u64.wrap (cc : Int) = (cc : Int) := by rw [IntKind.wrap_u64]; omega
        clear hmo hpu hm
        go_wp2_with fail
        refine (HDD.out _).mono ?_
        rintro e w8 ⟨rfl, hT8⟩
        have hT08 := hTt.trans hT8
        clear hTt hT8
        go_upto_region 15 with fail
        have hb9 : DBox (w8.alloc (.cells #[.int .i64 rk, .int .u32 r1, .int .u32 r2, .int .u32 r3, .int .u64 r4, .int .u32 r5, .int .u32 r6, .bool r7, .string r8] 42)) w8.heap.size ⟨rk, r1, r2, r3, r4, r5, r6, r7, r8⟩ := dg_new w8 _ _ _ _ _ _ _ _ _
        have hT09 := hT08.alloc (.cells #[.int .i64 rk, .int .u32 r1, .int .u32 r2, .int .u32 r3, .int .u64 r4, .int .u32 r5, .int .u32 r6, .bool r7, .string r8] 42)
        generalize w8.alloc (.cells #[.int .i64 rk, .int .u32 r1, .int .u32 r2, .int .u32 r3, .int .u64 r4, .int .u32 r5, .int .u32 r6, .bool r7, .string r8] 42) = w9 at hb9 hT09 ⊢
        generalize w8.heap.size = H9 at hb9 ⊢
        clear hT08
        have HB9 := Lib.hid hb9
        have HT9 := Lib.hid hT09
        clear hb9 hT09
        refine wp_region_inv (fun W => Touch (fun _ => False) w9 W) (fun i v _ => anI T Ta Tc q4 m cc false i v) (by kernel_rfl) (by kernel_rfl) (by kernel_rfl) (Touch.refl _ _).drew ?_ ?_
        · intro i o hi a W hC hbase hdep
          have hlt := op_lt hi
          obtain ⟨hbd, hbs, hbb⟩ := hbase
          have b9 : a.tmps[9]? = some (.string T) := (hbb 9 (noDst_spec (by kernel_rfl))).trans rfl
          have b12 : a.tmps[12]? = some (.int .i64 (m : Nat)) := (hbb 12 (noDst_spec (by kernel_rfl))).trans rfl
          rcases (by simp at hlt; omega : i = 0 ∨ i = 1 ∨ i = 2 ∨ i = 3 ∨ i = 4 ∨ i = 5 ∨ i = 6 ∨ i = 7 ∨ i = 8 ∨ i = 9) with rfl | rfl | rfl | rfl | rfl | rfl | rfl | rfl | rfl | rfl
          · simp only [List.getElem?_toArray, List.getElem?_cons_zero, List.getElem?_cons_succ, Option.some.injEq] at hi
            subst hi
            clear hdep
            refine kp_val (v := .string T) ?_ ⟨_, rfl, rfl, hC, fun _ _ h => h⟩
            simp [execOp, Act.eval, b9]
          · simp only [List.getElem?_toArray, List.getElem?_cons_zero, List.getElem?_cons_succ, Option.some.injEq] at hi
            subst hi
            clear hdep
            refine kp_val (v := .int .i64 (m : Nat)) ?_ ⟨_, rfl, rfl, hC, fun _ _ h => h⟩
            simp [execOp, Act.eval, b12]
          · simp only [List.getElem?_toArray, List.getElem?_cons_zero, List.getElem?_cons_succ, Option.some.injEq] at hi
            subst hi
            simp [Region.binds, valOf, anI] at hdep
            refine kp_val (v := .string Ta) ?_ ⟨_, rfl, rfl, hC, fun _ _ h => h⟩
            simp [execOp, Act.eval, hdep]
            go_simp
            try (intro h9; exfalso; omega)
          · simp only [List.getElem?_toArray, List.getElem?_cons_zero, List.getElem?_cons_succ, Option.some.injEq] at hi
            subst hi
            simp [Region.binds, valOf, anI] at hdep
            refine kp_call0 (f := 26) (args := #[.int .u32 0, .string Ta]) (v := .int .u32 (cc : Nat)) ?_ (HMO.out W) ⟨_, rfl, rfl, hC, fun _ _ h => h⟩
            simp [execOp, resolve, invoke, Act.eval, hdep]
            try rfl
          · simp only [List.getElem?_toArray, List.getElem?_cons_zero, List.getElem?_cons_succ, Option.some.injEq] at hi
            subst hi
            simp [Region.binds, valOf, anI] at hdep
            refine kp_val (v := .int .u64 (cc : Nat)) ?_ ⟨_, rfl, rfl, hC, fun _ _ h => h⟩
            simp [execOp, Act.eval, hdep]
            go_simp
          · simp only [List.getElem?_toArray, List.getElem?_cons_zero, List.getElem?_cons_succ, Option.some.injEq] at hi
            subst hi
            simp [Region.binds, valOf, anI] at hdep
            refine kp_call (f := 25) (args := #[.int .u64 (cc : Nat), .int .i64 4]) (v := .string q4) ?_ (HPU.out W) (fun w' ht => ⟨_, rfl, rfl, hC.trans ht, fun _ _ h => h⟩)
            simp [execOp, resolve, invoke, Act.eval, hdep]
            try rfl
          · simp only [List.getElem?_toArray, List.getElem?_cons_zero, List.getElem?_cons_succ, Option.some.injEq] at hi
            subst hi
            clear hdep
            refine kp_val (v := .string T) ?_ ⟨_, rfl, rfl, hC, fun _ _ h => h⟩
            simp [execOp, Act.eval, b9]
          · simp only [List.getElem?_toArray, List.getElem?_cons_zero, List.getElem?_cons_succ, Option.some.injEq] at hi
            subst hi
            clear hdep
            refine kp_val (v := .int .i64 (m : Nat)) ?_ ⟨_, rfl, rfl, hC, fun _ _ h => h⟩
            simp [execOp, Act.eval, b12]
          · simp only [List.getElem?_toArray, List.getElem?_cons_zero, List.getElem?_cons_succ, Option.some.injEq] at hi
            subst hi
            simp [Region.binds, valOf, anI] at hdep
            refine kp_val (v := .string Tc) ?_ ⟨_, rfl, rfl, hC, fun _ _ h => h⟩
            simp [execOp, Act.eval, hdep]
            go_simp
            try (intro h9; exfalso; omega)
          · simp only [List.getElem?_toArray, List.getElem?_cons_zero, List.getElem?_cons_succ, Option.some.injEq] at hi
            subst hi
            simp [Region.binds, valOf, anI] at hdep
            refine kp_val (v := .bool false) ?_ ⟨_, rfl, rfl, hC, fun _ _ h => h⟩
            simp [execOp, Act.eval, hdep]
            go_simp
        · intro a W hC hbase hall
          have hx80 : a.tmps.getD 80 undef = .bool false := hall 9 _ rfl
          obtain ⟨hbd, hbs, hbb⟩ := hbase
          have hdf : a.defers = [] := hbd
          clear hall hbd
          rename_i hK
          obtain ⟨⟨l9⟩, df⟩ := a
          have hl : l9.length = 101 := hbs
          clear hbs
          obtain ⟨y0, j0, rfl, hl0⟩ := dg_cons (n := 100) hl
          clear hl
          obtain ⟨y1, j1, rfl, hl1⟩ := dg_cons (n := 99) hl0
          clear hl0
          obtain ⟨y2, j2, rfl, hl2⟩ := dg_cons (n := 98) hl1
          clear hl1
          obtain ⟨y3, j3, rfl, hl3⟩ := dg_cons (n := 97) hl2
          clear hl2
          obtain ⟨y4, j4, rfl, hl4⟩ := dg_cons (n := 96) hl3
          clear hl3
          obtain ⟨y5, j5, rfl, hl5⟩ := dg_cons (n := 95) hl4
          clear hl4
          obtain ⟨y6, j6, rfl, hl6⟩ := dg_cons (n := 94) hl5
          clear hl5
          obtain ⟨y7, j7, rfl, hl7⟩ := dg_cons (n := 93) hl6
          clear hl6
          obtain ⟨y8, j8, rfl, hl8⟩ := dg_cons (n := 92) hl7
          clear hl7
          obtain ⟨y9, j9, rfl, hl9⟩ := dg_cons (n := 91) hl8
          clear hl8
          obtain ⟨y10, j10, rfl, hl10⟩ := dg_cons (n := 90) hl9
          clear hl9
          obtain ⟨y11, j11, rfl, hl11⟩ := dg_cons (n := 89) hl10
          clear hl10
          obtain ⟨y12, j12, rfl, hl12⟩ := dg_cons (n := 88) hl11
          clear hl11
          obtain ⟨y13, j13, rfl, hl13⟩ := dg_cons (n := 87) hl12
          clear hl12
          obtain ⟨y14, j14, rfl, hl14⟩ := dg_cons (n := 86) hl13
          clear hl13
          obtain ⟨y15, j15, rfl, hl15⟩ := dg_cons (n := 85) hl14
          clear hl14
          obtain ⟨y16, j16, rfl, hl16⟩ := dg_cons (n := 84) hl15
          clear hl15
          obtain ⟨y17, j17, rfl, hl17⟩ := dg_cons (n := 83) hl16
          clear hl16
          obtain ⟨y18, j18, rfl, hl18⟩ := dg_cons (n := 82) hl17
          clear hl17
          obtain ⟨y19, j19, rfl, hl19⟩ := dg_cons (n := 81) hl18
          clear hl18
          obtain ⟨y20, j20, rfl, hl20⟩ := dg_cons (n := 80) hl19
          clear hl19
          obtain ⟨y21, j21, rfl, hl21⟩ := dg_cons (n := 79) hl20
          clear hl20
          obtain ⟨y22, j22, rfl, hl22⟩ := dg_cons (n := 78) hl21
          clear hl21
          obtain ⟨y23, j23, rfl, hl23⟩ := dg_cons (n := 77) hl22
          clear hl22
          obtain ⟨y24, j24, rfl, hl24⟩ := dg_cons (n := 76) hl23
          clear hl23
          obtain ⟨y25, j25, rfl, hl25⟩ := dg_cons (n := 75) hl24
          clear hl24
          obtain ⟨y26, j26, rfl, hl26⟩ := dg_cons (n := 74) hl25
          clear hl25
          obtain ⟨y27, j27, rfl, hl27⟩ := dg_cons (n := 73) hl26
          clear hl26
          obtain ⟨y28, j28, rfl, hl28⟩ := dg_cons (n := 72) hl27
          clear hl27
          obtain ⟨y29, j29, rfl, hl29⟩ := dg_cons (n := 71) hl28
          clear hl28
          obtain ⟨y30, j30, rfl, hl30⟩ := dg_cons (n := 70) hl29
          clear hl29
          obtain ⟨y31, j31, rfl, hl31⟩ := dg_cons (n := 69) hl30
          clear hl30
          obtain ⟨y32, j32, rfl, hl32⟩ := dg_cons (n := 68) hl31
          clear hl31
          obtain ⟨y33, j33, rfl, hl33⟩ := dg_cons (n := 67) hl32
          clear hl32
          obtain ⟨y34, j34, rfl, hl34⟩ := dg_cons (n := 66) hl33
          clear hl33
          obtain ⟨y35, j35, rfl, hl35⟩ := dg_cons (n := 65) hl34
          clear hl34
          obtain ⟨y36, j36, rfl, hl36⟩ := dg_cons (n := 64) hl35
          clear hl35
          obtain ⟨y37, j37, rfl, hl37⟩ := dg_cons (n := 63) hl36
          clear hl36
          obtain ⟨y38, j38, rfl, hl38⟩ := dg_cons (n := 62) hl37
          clear hl37
          obtain ⟨y39, j39, rfl, hl39⟩ := dg_cons (n := 61) hl38
          clear hl38
          obtain ⟨y40, j40, rfl, hl40⟩ := dg_cons (n := 60) hl39
          clear hl39
          obtain ⟨y41, j41, rfl, hl41⟩ := dg_cons (n := 59) hl40
          clear hl40
          obtain ⟨y42, j42, rfl, hl42⟩ := dg_cons (n := 58) hl41
          clear hl41
          obtain ⟨y43, j43, rfl, hl43⟩ := dg_cons (n := 57) hl42
          clear hl42
          obtain ⟨y44, j44, rfl, hl44⟩ := dg_cons (n := 56) hl43
          clear hl43
          obtain ⟨y45, j45, rfl, hl45⟩ := dg_cons (n := 55) hl44
          clear hl44
          obtain ⟨y46, j46, rfl, hl46⟩ := dg_cons (n := 54) hl45
          clear hl45
          obtain ⟨y47, j47, rfl, hl47⟩ := dg_cons (n := 53) hl46
          clear hl46
          obtain ⟨y48, j48, rfl, hl48⟩ := dg_cons (n := 52) hl47
          clear hl47
          obtain ⟨y49, j49, rfl, hl49⟩ := dg_cons (n := 51) hl48
          clear hl48
          obtain ⟨y50, j50, rfl, hl50⟩ := dg_cons (n := 50) hl49
          clear hl49
          obtain ⟨y51, j51, rfl, hl51⟩ := dg_cons (n := 49) hl50
          clear hl50
          obtain ⟨y52, j52, rfl, hl52⟩ := dg_cons (n := 48) hl51
          clear hl51
          obtain ⟨y53, j53, rfl, hl53⟩ := dg_cons (n := 47) hl52
          clear hl52
          obtain ⟨y54, j54, rfl, hl54⟩ := dg_cons (n := 46) hl53
          clear hl53
          obtain ⟨y55, j55, rfl, hl55⟩ := dg_cons (n := 45) hl54
          clear hl54
          obtain ⟨y56, j56, rfl, hl56⟩ := dg_cons (n := 44) hl55
          clear hl55
          obtain ⟨y57, j57, rfl, hl57⟩ := dg_cons (n := 43) hl56
          clear hl56
          obtain ⟨y58, j58, rfl, hl58⟩ := dg_cons (n := 42) hl57
          clear hl57
          obtain ⟨y59, j59, rfl, hl59⟩ := dg_cons (n := 41) hl58
          clear hl58
          obtain ⟨y60, j60, rfl, hl60⟩ := dg_cons (n := 40) hl59
          clear hl59
          obtain ⟨y61, j61, rfl, hl61⟩ := dg_cons (n := 39) hl60
          clear hl60
          obtain ⟨y62, j62, rfl, hl62⟩ := dg_cons (n := 38) hl61
          clear hl61
          obtain ⟨y63, j63, rfl, hl63⟩ := dg_cons (n := 37) hl62
          clear hl62
          obtain ⟨y64, j64, rfl, hl64⟩ := dg_cons (n := 36) hl63
          clear hl63
          obtain ⟨y65, j65, rfl, hl65⟩ := dg_cons (n := 35) hl64
          clear hl64
          obtain ⟨y66, j66, rfl, hl66⟩ := dg_cons (n := 34) hl65
          clear hl65
          obtain ⟨y67, j67, rfl, hl67⟩ := dg_cons (n := 33) hl66
          clear hl66
          obtain ⟨y68, j68, rfl, hl68⟩ := dg_cons (n := 32) hl67
          clear hl67
          obtain ⟨y69, j69, rfl, hl69⟩ := dg_cons (n := 31) hl68
          clear hl68
          obtain ⟨y70, j70, rfl, hl70⟩ := dg_cons (n := 30) hl69
          clear hl69
          obtain ⟨y71, j71, rfl, hl71⟩ := dg_cons (n := 29) hl70
          clear hl70
          obtain ⟨y72, j72, rfl, hl72⟩ := dg_cons (n := 28) hl71
          clear hl71
          obtain ⟨y73, j73, rfl, hl73⟩ := dg_cons (n := 27) hl72
          clear hl72
          obtain ⟨y74, j74, rfl, hl74⟩ := dg_cons (n := 26) hl73
          clear hl73
          obtain ⟨y75, j75, rfl, hl75⟩ := dg_cons (n := 25) hl74
          clear hl74
          obtain ⟨y76, j76, rfl, hl76⟩ := dg_cons (n := 24) hl75
          clear hl75
          obtain ⟨y77, j77, rfl, hl77⟩ := dg_cons (n := 23) hl76
          clear hl76
          obtain ⟨y78, j78, rfl, hl78⟩ := dg_cons (n := 22) hl77
          clear hl77
          obtain ⟨y79, j79, rfl, hl79⟩ := dg_cons (n := 21) hl78
          clear hl78
          obtain ⟨y80, j80, rfl, hl80⟩ := dg_cons (n := 20) hl79
          clear hl79
          obtain ⟨y81, j81, rfl, hl81⟩ := dg_cons (n := 19) hl80
          clear hl80
          obtain ⟨y82, j82, rfl, hl82⟩ := dg_cons (n := 18) hl81
          clear hl81
          obtain ⟨y83, j83, rfl, hl83⟩ := dg_cons (n := 17) hl82
          clear hl82
          obtain ⟨y84, j84, rfl, hl84⟩ := dg_cons (n := 16) hl83
          clear hl83
          obtain ⟨y85, j85, rfl, hl85⟩ := dg_cons (n := 15) hl84
          clear hl84
          obtain ⟨y86, j86, rfl, hl86⟩ := dg_cons (n := 14) hl85
          clear hl85
          obtain ⟨y87, j87, rfl, hl87⟩ := dg_cons (n := 13) hl86
          clear hl86
          obtain ⟨y88, j88, rfl, hl88⟩ := dg_cons (n := 12) hl87
          clear hl87
          obtain ⟨y89, j89, rfl, hl89⟩ := dg_cons (n := 11) hl88
          clear hl88
          obtain ⟨y90, j90, rfl, hl90⟩ := dg_cons (n := 10) hl89
          clear hl89
          obtain ⟨y91, j91, rfl, hl91⟩ := dg_cons (n := 9) hl90
          clear hl90
          obtain ⟨y92, j92, rfl, hl92⟩ := dg_cons (n := 8) hl91
          clear hl91
          obtain ⟨y93, j93, rfl, hl93⟩ := dg_cons (n := 7) hl92
          clear hl92
          obtain ⟨y94, j94, rfl, hl94⟩ := dg_cons (n := 6) hl93
          clear hl93
          obtain ⟨y95, j95, rfl, hl95⟩ := dg_cons (n := 5) hl94
          clear hl94
          obtain ⟨y96, j96, rfl, hl96⟩ := dg_cons (n := 4) hl95
          clear hl95
          obtain ⟨y97, j97, rfl, hl97⟩ := dg_cons (n := 3) hl96
          clear hl96
          obtain ⟨y98, j98, rfl, hl98⟩ := dg_cons (n := 2) hl97
          clear hl97
          obtain ⟨y99, j99, rfl, hl99⟩ := dg_cons (n := 1) hl98
          clear hl98
          obtain ⟨y100, j100, rfl, hl100⟩ := dg_cons (n := 0) hl99
          clear hl99
          obtain rfl := List.eq_nil_of_length_eq_zero hl100
          clear hl100
          have eq9 := hbb 9 (noDst_spec (by kernel_rfl))
          simp only [List.getElem?_toArray, List.getElem?_cons_zero, List.getElem?_cons_succ, Option.some.injEq] at eq9
          subst eq9
          have eq10 := hbb 10 (noDst_spec (by kernel_rfl))
          simp only [List.getElem?_toArray, List.getElem?_cons_zero, List.getElem?_cons_succ, Option.some.injEq] at eq10
          subst eq10
          have eq11 := hbb 11 (noDst_spec (by kernel_rfl))
          simp only [List.getElem?_toArray, List.getElem?_cons_zero, List.getElem?_cons_succ, Option.some.injEq] at eq11
          subst eq11
          obtain rfl : y80 = .bool false := hx80
          obtain rfl : df = [] := hdf
          clear hbb
          refine hK _ W ?_
          have ht : ∀ q : List Value, Array.mk q = List.toArray q := fun _ => rfl
          rw [ht]
          have hbb := DBox.kept HB9.out hC id
          have hTfin := HT9.out.trans hC
          obtain ⟨d0, d1, d2, d3, d4, d5, d6, d7, d8⟩ := DBox.cells hbb
          go_wp2_with fail
          refine (HRE.out _).mono ?_
          rintro e wz ⟨rfl, hTz⟩
          go_wp2_with fail
          go_ret
          exact ⟨rfl, hTfin.trans hTz⟩
  · obtain ⟨u, hu⟩ : ∃ u : Nat, u = z - 4 := ⟨_, rfl⟩
    have huI : (E.size : Int) - 4 = (u : Int) := by omega
    have hu0 : (0 : Int) ≤ (u : Int) := by omega
    have hu1 : (u : Int) ≤ (E.size : Int) := by omega
    obtain ⟨E1, hE1⟩ : ∃ E1, E.extract 0 u = E1 := ⟨_, rfl⟩
    have hE1z : E1.size = u := by rw [← hE1]; simp; omega
    have hmo1 := fun W => refmore_calls 0 E1 W (by decide) (by omega)
    have hcl1 : moreN 0 E1.data.toList < 4294967296 := moreN_lt 0 _ (by decide)
    have hpu1 := fun W => rput_calls (moreN 0 E1.data.toList) 4 W (by decide) (by omega)
    have hx1 := lB_size 4 (moreN 0 E1.data.toList)
    generalize lB 4 (moreN 0 E1.data.toList) = x1 at hpu1 hx1
    generalize moreN 0 E1.data.toList = c1 at hmo1 hcl1 hpu1
    have HMO1 := Lib.hid hmo1
    have HPU1 := Lib.hid hpu1
    have hE1b : E1.size ≤ 290 := by omega
    have hub : u ≤ 290 := by omega
    have HE1Z := Lib.hid hE1z
    clear hmo1 hpu1 hu hEz hz6 hE1z
    go_wp2_with fail
    refine (HMO1.out _).mono ?_
    rintro e w7 ⟨rfl, rfl⟩
    go_wp2_with fail
    refine (HPU1.out _).mono ?_
    rintro e w7 ⟨rfl, hT7⟩
    have hTt := hT06.trans hT7
    clear hT06 hT7
    go_upto_region 13 with fail
    have hTz : (E1 ++ x1).size = u + 4 := by rw [ByteArray.size_append, HE1Z.out, hx1]
    have hT4 : 4 ≤ (E1 ++ x1).size := by omega
    have hT3 : (E1 ++ x1).size ≤ 300 := by omega
    generalize E1 ++ x1 = T at hTz hT4 hT3 ⊢
    clear hTz
    rcases heard_any T hT4 hT3 with hh | hh | ⟨dd, hh, hen⟩
    · as_aux_lemma =>
        have hdd := fun W => hh.dec W
        obtain ⟨hz4, hz3⟩ := hh.size
        have hso := hh.so
        clear hh
        unfold Dg.zero Dg.v Dg.cells at hdd
        simp only at hdd
        have HDD := Lib.hid hdd
        clear hdd
        obtain ⟨m, hm⟩ : ∃ m : Nat, m = T.size - 4 := ⟨_, rfl⟩
        have hmI : (T.size : Int) - 4 = (m : Int) := by omega
        have hm0 : (0 : Int) ≤ (m : Int) := by omega
        have hm1 : (m : Int) ≤ (T.size : Int) := by omega
        have hsq : sumOk T = decide (sealB (T.extract 0 m) = T.extract m T.size) := by unfold sumOk; rw [decide_eq_true hz4, hm]; rfl
        rw [hso] at hsq
        have hTaz : (T.extract 0 m).size ≤ 1000 := by simp; omega
        obtain ⟨Ta, hTa⟩ : ∃ Ta, T.extract 0 m = Ta := ⟨_, rfl⟩
        obtain ⟨Tc, hTc⟩ : ∃ Tc, T.extract m T.size = Tc := ⟨_, rfl⟩
        rw [hTa, hTc] at hsq
        rw [hTa] at hTaz
        have heq := str_eqD (a := sealB Ta) (b := Tc)
        rw [← hsq] at heq
        clear hsq hso
        have hmo := fun W => refmore_calls 0 Ta W (by decide) (by omega)
        have hcl : moreN 0 Ta.data.toList < 4294967296 := moreN_lt 0 _ (by decide)
        have hpu := fun W => rput_calls (moreN 0 Ta.data.toList) 4 W (by decide) (by omega)
        unfold sealB at heq
        generalize lB 4 (moreN 0 Ta.data.toList) = q4 at heq hpu
        generalize moreN 0 Ta.data.toList = cc at hmo hcl hpu
        have HMO := Lib.hid hmo
        have HPU := Lib.hid hpu
        have hwc : IntKind.u64.wrap (cc : Int) = (cc : Int) := by rw [IntKind.wrap_u64]; omega
        clear hmo hpu hm
        go_wp2_with fail
        refine (HDD.out _).mono ?_
        rintro e w8 ⟨rfl, hT8⟩
        have hT08 := hTt.trans hT8
        clear hTt hT8
        go_upto_region 15 with fail
        have hb9 : DBox (w8.alloc (.cells #[.int .i64 0, .int .u32 0, .int .u32 0, .int .u32 0, .int .u64 0, .int .u32 0, .int .u32 0, .bool false, .string ⟨#[]⟩] 42)) w8.heap.size Dg.zero := dg_new w8 _ _ _ _ _ _ _ _ _
        have hT09 := hT08.alloc (.cells #[.int .i64 0, .int .u32 0, .int .u32 0, .int .u32 0, .int .u64 0, .int .u32 0, .int .u32 0, .bool false, .string ⟨#[]⟩] 42)
        generalize w8.alloc (.cells #[.int .i64 0, .int .u32 0, .int .u32 0, .int .u32 0, .int .u64 0, .int .u32 0, .int .u32 0, .bool false, .string ⟨#[]⟩] 42) = w9 at hb9 hT09 ⊢
        generalize w8.heap.size = H9 at hb9 ⊢
        clear hT08
        have HB9 := Lib.hid hb9
        have HT9 := Lib.hid hT09
        clear hb9 hT09
        refine wp_region_inv (fun W => Touch (fun _ => False) w9 W) (fun i v _ => anI T Ta Tc q4 m cc true i v) (by kernel_rfl) (by kernel_rfl) (by kernel_rfl) (Touch.refl _ _).drew ?_ ?_
        · intro i o hi a W hC hbase hdep
          have hlt := op_lt hi
          obtain ⟨hbd, hbs, hbb⟩ := hbase
          have b9 : a.tmps[9]? = some (.string T) := (hbb 9 (noDst_spec (by kernel_rfl))).trans rfl
          have b12 : a.tmps[12]? = some (.int .i64 (m : Nat)) := (hbb 12 (noDst_spec (by kernel_rfl))).trans rfl
          rcases (by simp at hlt; omega : i = 0 ∨ i = 1 ∨ i = 2 ∨ i = 3 ∨ i = 4 ∨ i = 5 ∨ i = 6 ∨ i = 7 ∨ i = 8 ∨ i = 9) with rfl | rfl | rfl | rfl | rfl | rfl | rfl | rfl | rfl | rfl
          · simp only [List.getElem?_toArray, List.getElem?_cons_zero, List.getElem?_cons_succ, Option.some.injEq] at hi
            subst hi
            clear hdep
            refine kp_val (v := .string T) ?_ ⟨_, rfl, rfl, hC, fun _ _ h => h⟩
            simp [execOp, Act.eval, b9]
          · simp only [List.getElem?_toArray, List.getElem?_cons_zero, List.getElem?_cons_succ, Option.some.injEq] at hi
            subst hi
            clear hdep
            refine kp_val (v := .int .i64 (m : Nat)) ?_ ⟨_, rfl, rfl, hC, fun _ _ h => h⟩
            simp [execOp, Act.eval, b12]
          · simp only [List.getElem?_toArray, List.getElem?_cons_zero, List.getElem?_cons_succ, Option.some.injEq] at hi
            subst hi
            simp [Region.binds, valOf, anI] at hdep
            refine kp_val (v := .string Ta) ?_ ⟨_, rfl, rfl, hC, fun _ _ h => h⟩
            simp [execOp, Act.eval, hdep]
            go_simp
            try (intro h9; exfalso; omega)
          · simp only [List.getElem?_toArray, List.getElem?_cons_zero, List.getElem?_cons_succ, Option.some.injEq] at hi
            subst hi
            simp [Region.binds, valOf, anI] at hdep
            refine kp_call0 (f := 26) (args := #[.int .u32 0, .string Ta]) (v := .int .u32 (cc : Nat)) ?_ (HMO.out W) ⟨_, rfl, rfl, hC, fun _ _ h => h⟩
            simp [execOp, resolve, invoke, Act.eval, hdep]
            try rfl
          · simp only [List.getElem?_toArray, List.getElem?_cons_zero, List.getElem?_cons_succ, Option.some.injEq] at hi
            subst hi
            simp [Region.binds, valOf, anI] at hdep
            refine kp_val (v := .int .u64 (cc : Nat)) ?_ ⟨_, rfl, rfl, hC, fun _ _ h => h⟩
            simp [execOp, Act.eval, hdep]
            go_simp
          · simp only [List.getElem?_toArray, List.getElem?_cons_zero, List.getElem?_cons_succ, Option.some.injEq] at hi
            subst hi
            simp [Region.binds, valOf, anI] at hdep
            refine kp_call (f := 25) (args := #[.int .u64 (cc : Nat), .int .i64 4]) (v := .string q4) ?_ (HPU.out W) (fun w' ht => ⟨_, rfl, rfl, hC.trans ht, fun _ _ h => h⟩)
            simp [execOp, resolve, invoke, Act.eval, hdep]
            try rfl
          · simp only [List.getElem?_toArray, List.getElem?_cons_zero, List.getElem?_cons_succ, Option.some.injEq] at hi
            subst hi
            clear hdep
            refine kp_val (v := .string T) ?_ ⟨_, rfl, rfl, hC, fun _ _ h => h⟩
            simp [execOp, Act.eval, b9]
          · simp only [List.getElem?_toArray, List.getElem?_cons_zero, List.getElem?_cons_succ, Option.some.injEq] at hi
            subst hi
            clear hdep
            refine kp_val (v := .int .i64 (m : Nat)) ?_ ⟨_, rfl, rfl, hC, fun _ _ h => h⟩
            simp [execOp, Act.eval, b12]
          · simp only [List.getElem?_toArray, List.getElem?_cons_zero, List.getElem?_cons_succ, Option.some.injEq] at hi
            subst hi
            simp [Region.binds, valOf, anI] at hdep
            refine kp_val (v := .string Tc) ?_ ⟨_, rfl, rfl, hC, fun _ _ h => h⟩
            simp [execOp, Act.eval, hdep]
            go_simp
            try (intro h9; exfalso; omega)
          · simp only [List.getElem?_toArray, List.getElem?_cons_zero, List.getElem?_cons_succ, Option.some.injEq] at hi
            subst hi
            simp [Region.binds, valOf, anI] at hdep
            refine kp_val (v := .bool true) ?_ ⟨_, rfl, rfl, hC, fun _ _ h => h⟩
            simp [execOp, Act.eval, hdep]
            go_simp
        · intro a W hC hbase hall
          have hx80 : a.tmps.getD 80 undef = .bool true := hall 9 _ rfl
          obtain ⟨hbd, hbs, hbb⟩ := hbase
          have hdf : a.defers = [] := hbd
          clear hall hbd
          rename_i hK
          obtain ⟨⟨l9⟩, df⟩ := a
          have hl : l9.length = 101 := hbs
          clear hbs
          obtain ⟨y0, j0, rfl, hl0⟩ := dg_cons (n := 100) hl
          clear hl
          obtain ⟨y1, j1, rfl, hl1⟩ := dg_cons (n := 99) hl0
          clear hl0
          obtain ⟨y2, j2, rfl, hl2⟩ := dg_cons (n := 98) hl1
          clear hl1
          obtain ⟨y3, j3, rfl, hl3⟩ := dg_cons (n := 97) hl2
          clear hl2
          obtain ⟨y4, j4, rfl, hl4⟩ := dg_cons (n := 96) hl3
          clear hl3
          obtain ⟨y5, j5, rfl, hl5⟩ := dg_cons (n := 95) hl4
          clear hl4
          obtain ⟨y6, j6, rfl, hl6⟩ := dg_cons (n := 94) hl5
          clear hl5
          obtain ⟨y7, j7, rfl, hl7⟩ := dg_cons (n := 93) hl6
          clear hl6
          obtain ⟨y8, j8, rfl, hl8⟩ := dg_cons (n := 92) hl7
          clear hl7
          obtain ⟨y9, j9, rfl, hl9⟩ := dg_cons (n := 91) hl8
          clear hl8
          obtain ⟨y10, j10, rfl, hl10⟩ := dg_cons (n := 90) hl9
          clear hl9
          obtain ⟨y11, j11, rfl, hl11⟩ := dg_cons (n := 89) hl10
          clear hl10
          obtain ⟨y12, j12, rfl, hl12⟩ := dg_cons (n := 88) hl11
          clear hl11
          obtain ⟨y13, j13, rfl, hl13⟩ := dg_cons (n := 87) hl12
          clear hl12
          obtain ⟨y14, j14, rfl, hl14⟩ := dg_cons (n := 86) hl13
          clear hl13
          obtain ⟨y15, j15, rfl, hl15⟩ := dg_cons (n := 85) hl14
          clear hl14
          obtain ⟨y16, j16, rfl, hl16⟩ := dg_cons (n := 84) hl15
          clear hl15
          obtain ⟨y17, j17, rfl, hl17⟩ := dg_cons (n := 83) hl16
          clear hl16
          obtain ⟨y18, j18, rfl, hl18⟩ := dg_cons (n := 82) hl17
          clear hl17
          obtain ⟨y19, j19, rfl, hl19⟩ := dg_cons (n := 81) hl18
          clear hl18
          obtain ⟨y20, j20, rfl, hl20⟩ := dg_cons (n := 80) hl19
          clear hl19
          obtain ⟨y21, j21, rfl, hl21⟩ := dg_cons (n := 79) hl20
          clear hl20
          obtain ⟨y22, j22, rfl, hl22⟩ := dg_cons (n := 78) hl21
          clear hl21
          obtain ⟨y23, j23, rfl, hl23⟩ := dg_cons (n := 77) hl22
          clear hl22
          obtain ⟨y24, j24, rfl, hl24⟩ := dg_cons (n := 76) hl23
          clear hl23
          obtain ⟨y25, j25, rfl, hl25⟩ := dg_cons (n := 75) hl24
          clear hl24
          obtain ⟨y26, j26, rfl, hl26⟩ := dg_cons (n := 74) hl25
          clear hl25
          obtain ⟨y27, j27, rfl, hl27⟩ := dg_cons (n := 73) hl26
          clear hl26
          obtain ⟨y28, j28, rfl, hl28⟩ := dg_cons (n := 72) hl27
          clear hl27
          obtain ⟨y29, j29, rfl, hl29⟩ := dg_cons (n := 71) hl28
          clear hl28
          obtain ⟨y30, j30, rfl, hl30⟩ := dg_cons (n := 70) hl29
          clear hl29
          obtain ⟨y31, j31, rfl, hl31⟩ := dg_cons (n := 69) hl30
          clear hl30
          obtain ⟨y32, j32, rfl, hl32⟩ := dg_cons (n := 68) hl31
          clear hl31
          obtain ⟨y33, j33, rfl, hl33⟩ := dg_cons (n := 67) hl32
          clear hl32
          obtain ⟨y34, j34, rfl, hl34⟩ := dg_cons (n := 66) hl33
          clear hl33
          obtain ⟨y35, j35, rfl, hl35⟩ := dg_cons (n := 65) hl34
          clear hl34
          obtain ⟨y36, j36, rfl, hl36⟩ := dg_cons (n := 64) hl35
          clear hl35
          obtain ⟨y37, j37, rfl, hl37⟩ := dg_cons (n := 63) hl36
          clear hl36
          obtain ⟨y38, j38, rfl, hl38⟩ := dg_cons (n := 62) hl37
          clear hl37
          obtain ⟨y39, j39, rfl, hl39⟩ := dg_cons (n := 61) hl38
          clear hl38
          obtain ⟨y40, j40, rfl, hl40⟩ := dg_cons (n := 60) hl39
          clear hl39
          obtain ⟨y41, j41, rfl, hl41⟩ := dg_cons (n := 59) hl40
          clear hl40
          obtain ⟨y42, j42, rfl, hl42⟩ := dg_cons (n := 58) hl41
          clear hl41
          obtain ⟨y43, j43, rfl, hl43⟩ := dg_cons (n := 57) hl42
          clear hl42
          obtain ⟨y44, j44, rfl, hl44⟩ := dg_cons (n := 56) hl43
          clear hl43
          obtain ⟨y45, j45, rfl, hl45⟩ := dg_cons (n := 55) hl44
          clear hl44
          obtain ⟨y46, j46, rfl, hl46⟩ := dg_cons (n := 54) hl45
          clear hl45
          obtain ⟨y47, j47, rfl, hl47⟩ := dg_cons (n := 53) hl46
          clear hl46
          obtain ⟨y48, j48, rfl, hl48⟩ := dg_cons (n := 52) hl47
          clear hl47
          obtain ⟨y49, j49, rfl, hl49⟩ := dg_cons (n := 51) hl48
          clear hl48
          obtain ⟨y50, j50, rfl, hl50⟩ := dg_cons (n := 50) hl49
          clear hl49
          obtain ⟨y51, j51, rfl, hl51⟩ := dg_cons (n := 49) hl50
          clear hl50
          obtain ⟨y52, j52, rfl, hl52⟩ := dg_cons (n := 48) hl51
          clear hl51
          obtain ⟨y53, j53, rfl, hl53⟩ := dg_cons (n := 47) hl52
          clear hl52
          obtain ⟨y54, j54, rfl, hl54⟩ := dg_cons (n := 46) hl53
          clear hl53
          obtain ⟨y55, j55, rfl, hl55⟩ := dg_cons (n := 45) hl54
          clear hl54
          obtain ⟨y56, j56, rfl, hl56⟩ := dg_cons (n := 44) hl55
          clear hl55
          obtain ⟨y57, j57, rfl, hl57⟩ := dg_cons (n := 43) hl56
          clear hl56
          obtain ⟨y58, j58, rfl, hl58⟩ := dg_cons (n := 42) hl57
          clear hl57
          obtain ⟨y59, j59, rfl, hl59⟩ := dg_cons (n := 41) hl58
          clear hl58
          obtain ⟨y60, j60, rfl, hl60⟩ := dg_cons (n := 40) hl59
          clear hl59
          obtain ⟨y61, j61, rfl, hl61⟩ := dg_cons (n := 39) hl60
          clear hl60
          obtain ⟨y62, j62, rfl, hl62⟩ := dg_cons (n := 38) hl61
          clear hl61
          obtain ⟨y63, j63, rfl, hl63⟩ := dg_cons (n := 37) hl62
          clear hl62
          obtain ⟨y64, j64, rfl, hl64⟩ := dg_cons (n := 36) hl63
          clear hl63
          obtain ⟨y65, j65, rfl, hl65⟩ := dg_cons (n := 35) hl64
          clear hl64
          obtain ⟨y66, j66, rfl, hl66⟩ := dg_cons (n := 34) hl65
          clear hl65
          obtain ⟨y67, j67, rfl, hl67⟩ := dg_cons (n := 33) hl66
          clear hl66
          obtain ⟨y68, j68, rfl, hl68⟩ := dg_cons (n := 32) hl67
          clear hl67
          obtain ⟨y69, j69, rfl, hl69⟩ := dg_cons (n := 31) hl68
          clear hl68
          obtain ⟨y70, j70, rfl, hl70⟩ := dg_cons (n := 30) hl69
          clear hl69
          obtain ⟨y71, j71, rfl, hl71⟩ := dg_cons (n := 29) hl70
          clear hl70
          obtain ⟨y72, j72, rfl, hl72⟩ := dg_cons (n := 28) hl71
          clear hl71
          obtain ⟨y73, j73, rfl, hl73⟩ := dg_cons (n := 27) hl72
          clear hl72
          obtain ⟨y74, j74, rfl, hl74⟩ := dg_cons (n := 26) hl73
          clear hl73
          obtain ⟨y75, j75, rfl, hl75⟩ := dg_cons (n := 25) hl74
          clear hl74
          obtain ⟨y76, j76, rfl, hl76⟩ := dg_cons (n := 24) hl75
          clear hl75
          obtain ⟨y77, j77, rfl, hl77⟩ := dg_cons (n := 23) hl76
          clear hl76
          obtain ⟨y78, j78, rfl, hl78⟩ := dg_cons (n := 22) hl77
          clear hl77
          obtain ⟨y79, j79, rfl, hl79⟩ := dg_cons (n := 21) hl78
          clear hl78
          obtain ⟨y80, j80, rfl, hl80⟩ := dg_cons (n := 20) hl79
          clear hl79
          obtain ⟨y81, j81, rfl, hl81⟩ := dg_cons (n := 19) hl80
          clear hl80
          obtain ⟨y82, j82, rfl, hl82⟩ := dg_cons (n := 18) hl81
          clear hl81
          obtain ⟨y83, j83, rfl, hl83⟩ := dg_cons (n := 17) hl82
          clear hl82
          obtain ⟨y84, j84, rfl, hl84⟩ := dg_cons (n := 16) hl83
          clear hl83
          obtain ⟨y85, j85, rfl, hl85⟩ := dg_cons (n := 15) hl84
          clear hl84
          obtain ⟨y86, j86, rfl, hl86⟩ := dg_cons (n := 14) hl85
          clear hl85
          obtain ⟨y87, j87, rfl, hl87⟩ := dg_cons (n := 13) hl86
          clear hl86
          obtain ⟨y88, j88, rfl, hl88⟩ := dg_cons (n := 12) hl87
          clear hl87
          obtain ⟨y89, j89, rfl, hl89⟩ := dg_cons (n := 11) hl88
          clear hl88
          obtain ⟨y90, j90, rfl, hl90⟩ := dg_cons (n := 10) hl89
          clear hl89
          obtain ⟨y91, j91, rfl, hl91⟩ := dg_cons (n := 9) hl90
          clear hl90
          obtain ⟨y92, j92, rfl, hl92⟩ := dg_cons (n := 8) hl91
          clear hl91
          obtain ⟨y93, j93, rfl, hl93⟩ := dg_cons (n := 7) hl92
          clear hl92
          obtain ⟨y94, j94, rfl, hl94⟩ := dg_cons (n := 6) hl93
          clear hl93
          obtain ⟨y95, j95, rfl, hl95⟩ := dg_cons (n := 5) hl94
          clear hl94
          obtain ⟨y96, j96, rfl, hl96⟩ := dg_cons (n := 4) hl95
          clear hl95
          obtain ⟨y97, j97, rfl, hl97⟩ := dg_cons (n := 3) hl96
          clear hl96
          obtain ⟨y98, j98, rfl, hl98⟩ := dg_cons (n := 2) hl97
          clear hl97
          obtain ⟨y99, j99, rfl, hl99⟩ := dg_cons (n := 1) hl98
          clear hl98
          obtain ⟨y100, j100, rfl, hl100⟩ := dg_cons (n := 0) hl99
          clear hl99
          obtain rfl := List.eq_nil_of_length_eq_zero hl100
          clear hl100
          have eq9 := hbb 9 (noDst_spec (by kernel_rfl))
          simp only [List.getElem?_toArray, List.getElem?_cons_zero, List.getElem?_cons_succ, Option.some.injEq] at eq9
          subst eq9
          have eq10 := hbb 10 (noDst_spec (by kernel_rfl))
          simp only [List.getElem?_toArray, List.getElem?_cons_zero, List.getElem?_cons_succ, Option.some.injEq] at eq10
          subst eq10
          have eq11 := hbb 11 (noDst_spec (by kernel_rfl))
          simp only [List.getElem?_toArray, List.getElem?_cons_zero, List.getElem?_cons_succ, Option.some.injEq] at eq11
          subst eq11
          obtain rfl : y80 = .bool true := hx80
          obtain rfl : df = [] := hdf
          clear hbb
          refine hK _ W ?_
          have ht : ∀ q : List Value, Array.mk q = List.toArray q := fun _ => rfl
          rw [ht]
          have hbb := DBox.kept HB9.out hC id
          have hTfin := HT9.out.trans hC
          obtain ⟨d0, d1, d2, d3, d4, d5, d6, d7, d8⟩ := DBox.cells hbb
          go_wp2_with fail
          go_ret
          exact ⟨rfl, hTfin⟩
    · as_aux_lemma =>
        have hdd := fun W => hh.dec W
        obtain ⟨hz4, hz3⟩ := hh.size
        have hso := hh.so
        clear hh
        unfold Dg.zero Dg.v Dg.cells at hdd
        simp only at hdd
        have HDD := Lib.hid hdd
        clear hdd
        obtain ⟨m, hm⟩ : ∃ m : Nat, m = T.size - 4 := ⟨_, rfl⟩
        have hmI : (T.size : Int) - 4 = (m : Int) := by omega
        have hm0 : (0 : Int) ≤ (m : Int) := by omega
        have hm1 : (m : Int) ≤ (T.size : Int) := by omega
        have hsq : sumOk T = decide (sealB (T.extract 0 m) = T.extract m T.size) := by unfold sumOk; rw [decide_eq_true hz4, hm]; rfl
        rw [hso] at hsq
        have hTaz : (T.extract 0 m).size ≤ 1000 := by simp; omega
        obtain ⟨Ta, hTa⟩ : ∃ Ta, T.extract 0 m = Ta := ⟨_, rfl⟩
        obtain ⟨Tc, hTc⟩ : ∃ Tc, T.extract m T.size = Tc := ⟨_, rfl⟩
        rw [hTa, hTc] at hsq
        rw [hTa] at hTaz
        have heq := str_eqD (a := sealB Ta) (b := Tc)
        rw [← hsq] at heq
        clear hsq hso
        have hmo := fun W => refmore_calls 0 Ta W (by decide) (by omega)
        have hcl : moreN 0 Ta.data.toList < 4294967296 := moreN_lt 0 _ (by decide)
        have hpu := fun W => rput_calls (moreN 0 Ta.data.toList) 4 W (by decide) (by omega)
        unfold sealB at heq
        generalize lB 4 (moreN 0 Ta.data.toList) = q4 at heq hpu
        generalize moreN 0 Ta.data.toList = cc at hmo hcl hpu
        have HMO := Lib.hid hmo
        have HPU := Lib.hid hpu
        have hwc : IntKind.u64.wrap (cc : Int) = (cc : Int) := by rw [IntKind.wrap_u64]; omega
        clear hmo hpu hm
        go_wp2_with fail
        refine (HDD.out _).mono ?_
        rintro e w8 ⟨rfl, hT8⟩
        have hT08 := hTt.trans hT8
        clear hTt hT8
        go_upto_region 15 with fail
        have hb9 : DBox (w8.alloc (.cells #[.int .i64 0, .int .u32 0, .int .u32 0, .int .u32 0, .int .u64 0, .int .u32 0, .int .u32 0, .bool false, .string ⟨#[]⟩] 42)) w8.heap.size Dg.zero := dg_new w8 _ _ _ _ _ _ _ _ _
        have hT09 := hT08.alloc (.cells #[.int .i64 0, .int .u32 0, .int .u32 0, .int .u32 0, .int .u64 0, .int .u32 0, .int .u32 0, .bool false, .string ⟨#[]⟩] 42)
        generalize w8.alloc (.cells #[.int .i64 0, .int .u32 0, .int .u32 0, .int .u32 0, .int .u64 0, .int .u32 0, .int .u32 0, .bool false, .string ⟨#[]⟩] 42) = w9 at hb9 hT09 ⊢
        generalize w8.heap.size = H9 at hb9 ⊢
        clear hT08
        have HB9 := Lib.hid hb9
        have HT9 := Lib.hid hT09
        clear hb9 hT09
        refine wp_region_inv (fun W => Touch (fun _ => False) w9 W) (fun i v _ => anI T Ta Tc q4 m cc false i v) (by kernel_rfl) (by kernel_rfl) (by kernel_rfl) (Touch.refl _ _).drew ?_ ?_
        · intro i o hi a W hC hbase hdep
          have hlt := op_lt hi
          obtain ⟨hbd, hbs, hbb⟩ := hbase
          have b9 : a.tmps[9]? = some (.string T) := (hbb 9 (noDst_spec (by kernel_rfl))).trans rfl
          have b12 : a.tmps[12]? = some (.int .i64 (m : Nat)) := (hbb 12 (noDst_spec (by kernel_rfl))).trans rfl
          rcases (by simp at hlt; omega : i = 0 ∨ i = 1 ∨ i = 2 ∨ i = 3 ∨ i = 4 ∨ i = 5 ∨ i = 6 ∨ i = 7 ∨ i = 8 ∨ i = 9) with rfl | rfl | rfl | rfl | rfl | rfl | rfl | rfl | rfl | rfl
          · simp only [List.getElem?_toArray, List.getElem?_cons_zero, List.getElem?_cons_succ, Option.some.injEq] at hi
            subst hi
            clear hdep
            refine kp_val (v := .string T) ?_ ⟨_, rfl, rfl, hC, fun _ _ h => h⟩
            simp [execOp, Act.eval, b9]
          · simp only [List.getElem?_toArray, List.getElem?_cons_zero, List.getElem?_cons_succ, Option.some.injEq] at hi
            subst hi
            clear hdep
            refine kp_val (v := .int .i64 (m : Nat)) ?_ ⟨_, rfl, rfl, hC, fun _ _ h => h⟩
            simp [execOp, Act.eval, b12]
          · simp only [List.getElem?_toArray, List.getElem?_cons_zero, List.getElem?_cons_succ, Option.some.injEq] at hi
            subst hi
            simp [Region.binds, valOf, anI] at hdep
            refine kp_val (v := .string Ta) ?_ ⟨_, rfl, rfl, hC, fun _ _ h => h⟩
            simp [execOp, Act.eval, hdep]
            go_simp
            try (intro h9; exfalso; omega)
          · simp only [List.getElem?_toArray, List.getElem?_cons_zero, List.getElem?_cons_succ, Option.some.injEq] at hi
            subst hi
            simp [Region.binds, valOf, anI] at hdep
            refine kp_call0 (f := 26) (args := #[.int .u32 0, .string Ta]) (v := .int .u32 (cc : Nat)) ?_ (HMO.out W) ⟨_, rfl, rfl, hC, fun _ _ h => h⟩
            simp [execOp, resolve, invoke, Act.eval, hdep]
            try rfl
          · simp only [List.getElem?_toArray, List.getElem?_cons_zero, List.getElem?_cons_succ, Option.some.injEq] at hi
            subst hi
            simp [Region.binds, valOf, anI] at hdep
            refine kp_val (v := .int .u64 (cc : Nat)) ?_ ⟨_, rfl, rfl, hC, fun _ _ h => h⟩
            simp [execOp, Act.eval, hdep]
            go_simp
          · simp only [List.getElem?_toArray, List.getElem?_cons_zero, List.getElem?_cons_succ, Option.some.injEq] at hi
            subst hi
            simp [Region.binds, valOf, anI] at hdep
            refine kp_call (f := 25) (args := #[.int .u64 (cc : Nat), .int .i64 4]) (v := .string q4) ?_ (HPU.out W) (fun w' ht => ⟨_, rfl, rfl, hC.trans ht, fun _ _ h => h⟩)
            simp [execOp, resolve, invoke, Act.eval, hdep]
            try rfl
          · simp only [List.getElem?_toArray, List.getElem?_cons_zero, List.getElem?_cons_succ, Option.some.injEq] at hi
            subst hi
            clear hdep
            refine kp_val (v := .string T) ?_ ⟨_, rfl, rfl, hC, fun _ _ h => h⟩
            simp [execOp, Act.eval, b9]
          · simp only [List.getElem?_toArray, List.getElem?_cons_zero, List.getElem?_cons_succ, Option.some.injEq] at hi
            subst hi
            clear hdep
            refine kp_val (v := .int .i64 (m : Nat)) ?_ ⟨_, rfl, rfl, hC, fun _ _ h => h⟩
            simp [execOp, Act.eval, b12]
          · simp only [List.getElem?_toArray, List.getElem?_cons_zero, List.getElem?_cons_succ, Option.some.injEq] at hi
            subst hi
            simp [Region.binds, valOf, anI] at hdep
            refine kp_val (v := .string Tc) ?_ ⟨_, rfl, rfl, hC, fun _ _ h => h⟩
            simp [execOp, Act.eval, hdep]
            go_simp
            try (intro h9; exfalso; omega)
          · simp only [List.getElem?_toArray, List.getElem?_cons_zero, List.getElem?_cons_succ, Option.some.injEq] at hi
            subst hi
            simp [Region.binds, valOf, anI] at hdep
            refine kp_val (v := .bool false) ?_ ⟨_, rfl, rfl, hC, fun _ _ h => h⟩
            simp [execOp, Act.eval, hdep]
            go_simp
        · intro a W hC hbase hall
          have hx80 : a.tmps.getD 80 undef = .bool false := hall 9 _ rfl
          obtain ⟨hbd, hbs, hbb⟩ := hbase
          have hdf : a.defers = [] := hbd
          clear hall hbd
          rename_i hK
          obtain ⟨⟨l9⟩, df⟩ := a
          have hl : l9.length = 101 := hbs
          clear hbs
          obtain ⟨y0, j0, rfl, hl0⟩ := dg_cons (n := 100) hl
          clear hl
          obtain ⟨y1, j1, rfl, hl1⟩ := dg_cons (n := 99) hl0
          clear hl0
          obtain ⟨y2, j2, rfl, hl2⟩ := dg_cons (n := 98) hl1
          clear hl1
          obtain ⟨y3, j3, rfl, hl3⟩ := dg_cons (n := 97) hl2
          clear hl2
          obtain ⟨y4, j4, rfl, hl4⟩ := dg_cons (n := 96) hl3
          clear hl3
          obtain ⟨y5, j5, rfl, hl5⟩ := dg_cons (n := 95) hl4
          clear hl4
          obtain ⟨y6, j6, rfl, hl6⟩ := dg_cons (n := 94) hl5
          clear hl5
          obtain ⟨y7, j7, rfl, hl7⟩ := dg_cons (n := 93) hl6
          clear hl6
          obtain ⟨y8, j8, rfl, hl8⟩ := dg_cons (n := 92) hl7
          clear hl7
          obtain ⟨y9, j9, rfl, hl9⟩ := dg_cons (n := 91) hl8
          clear hl8
          obtain ⟨y10, j10, rfl, hl10⟩ := dg_cons (n := 90) hl9
          clear hl9
          obtain ⟨y11, j11, rfl, hl11⟩ := dg_cons (n := 89) hl10
          clear hl10
          obtain ⟨y12, j12, rfl, hl12⟩ := dg_cons (n := 88) hl11
          clear hl11
          obtain ⟨y13, j13, rfl, hl13⟩ := dg_cons (n := 87) hl12
          clear hl12
          obtain ⟨y14, j14, rfl, hl14⟩ := dg_cons (n := 86) hl13
          clear hl13
          obtain ⟨y15, j15, rfl, hl15⟩ := dg_cons (n := 85) hl14
          clear hl14
          obtain ⟨y16, j16, rfl, hl16⟩ := dg_cons (n := 84) hl15
          clear hl15
          obtain ⟨y17, j17, rfl, hl17⟩ := dg_cons (n := 83) hl16
          clear hl16
          obtain ⟨y18, j18, rfl, hl18⟩ := dg_cons (n := 82) hl17
          clear hl17
          obtain ⟨y19, j19, rfl, hl19⟩ := dg_cons (n := 81) hl18
          clear hl18
          obtain ⟨y20, j20, rfl, hl20⟩ := dg_cons (n := 80) hl19
          clear hl19
          obtain ⟨y21, j21, rfl, hl21⟩ := dg_cons (n := 79) hl20
          clear hl20
          obtain ⟨y22, j22, rfl, hl22⟩ := dg_cons (n := 78) hl21
          clear hl21
          obtain ⟨y23, j23, rfl, hl23⟩ := dg_cons (n := 77) hl22
          clear hl22
          obtain ⟨y24, j24, rfl, hl24⟩ := dg_cons (n := 76) hl23
          clear hl23
          obtain ⟨y25, j25, rfl, hl25⟩ := dg_cons (n := 75) hl24
          clear hl24
          obtain ⟨y26, j26, rfl, hl26⟩ := dg_cons (n := 74) hl25
          clear hl25
          obtain ⟨y27, j27, rfl, hl27⟩ := dg_cons (n := 73) hl26
          clear hl26
          obtain ⟨y28, j28, rfl, hl28⟩ := dg_cons (n := 72) hl27
          clear hl27
          obtain ⟨y29, j29, rfl, hl29⟩ := dg_cons (n := 71) hl28
          clear hl28
          obtain ⟨y30, j30, rfl, hl30⟩ := dg_cons (n := 70) hl29
          clear hl29
          obtain ⟨y31, j31, rfl, hl31⟩ := dg_cons (n := 69) hl30
          clear hl30
          obtain ⟨y32, j32, rfl, hl32⟩ := dg_cons (n := 68) hl31
          clear hl31
          obtain ⟨y33, j33, rfl, hl33⟩ := dg_cons (n := 67) hl32
          clear hl32
          obtain ⟨y34, j34, rfl, hl34⟩ := dg_cons (n := 66) hl33
          clear hl33
          obtain ⟨y35, j35, rfl, hl35⟩ := dg_cons (n := 65) hl34
          clear hl34
          obtain ⟨y36, j36, rfl, hl36⟩ := dg_cons (n := 64) hl35
          clear hl35
          obtain ⟨y37, j37, rfl, hl37⟩ := dg_cons (n := 63) hl36
          clear hl36
          obtain ⟨y38, j38, rfl, hl38⟩ := dg_cons (n := 62) hl37
          clear hl37
          obtain ⟨y39, j39, rfl, hl39⟩ := dg_cons (n := 61) hl38
          clear hl38
          obtain ⟨y40, j40, rfl, hl40⟩ := dg_cons (n := 60) hl39
          clear hl39
          obtain ⟨y41, j41, rfl, hl41⟩ := dg_cons (n := 59) hl40
          clear hl40
          obtain ⟨y42, j42, rfl, hl42⟩ := dg_cons (n := 58) hl41
          clear hl41
          obtain ⟨y43, j43, rfl, hl43⟩ := dg_cons (n := 57) hl42
          clear hl42
          obtain ⟨y44, j44, rfl, hl44⟩ := dg_cons (n := 56) hl43
          clear hl43
          obtain ⟨y45, j45, rfl, hl45⟩ := dg_cons (n := 55) hl44
          clear hl44
          obtain ⟨y46, j46, rfl, hl46⟩ := dg_cons (n := 54) hl45
          clear hl45
          obtain ⟨y47, j47, rfl, hl47⟩ := dg_cons (n := 53) hl46
          clear hl46
          obtain ⟨y48, j48, rfl, hl48⟩ := dg_cons (n := 52) hl47
          clear hl47
          obtain ⟨y49, j49, rfl, hl49⟩ := dg_cons (n := 51) hl48
          clear hl48
          obtain ⟨y50, j50, rfl, hl50⟩ := dg_cons (n := 50) hl49
          clear hl49
          obtain ⟨y51, j51, rfl, hl51⟩ := dg_cons (n := 49) hl50
          clear hl50
          obtain ⟨y52, j52, rfl, hl52⟩ := dg_cons (n := 48) hl51
          clear hl51
          obtain ⟨y53, j53, rfl, hl53⟩ := dg_cons (n := 47) hl52
          clear hl52
          obtain ⟨y54, j54, rfl, hl54⟩ := dg_cons (n := 46) hl53
          clear hl53
          obtain ⟨y55, j55, rfl, hl55⟩ := dg_cons (n := 45) hl54
          clear hl54
          obtain ⟨y56, j56, rfl, hl56⟩ := dg_cons (n := 44) hl55
          clear hl55
          obtain ⟨y57, j57, rfl, hl57⟩ := dg_cons (n := 43) hl56
          clear hl56
          obtain ⟨y58, j58, rfl, hl58⟩ := dg_cons (n := 42) hl57
          clear hl57
          obtain ⟨y59, j59, rfl, hl59⟩ := dg_cons (n := 41) hl58
          clear hl58
          obtain ⟨y60, j60, rfl, hl60⟩ := dg_cons (n := 40) hl59
          clear hl59
          obtain ⟨y61, j61, rfl, hl61⟩ := dg_cons (n := 39) hl60
          clear hl60
          obtain ⟨y62, j62, rfl, hl62⟩ := dg_cons (n := 38) hl61
          clear hl61
          obtain ⟨y63, j63, rfl, hl63⟩ := dg_cons (n := 37) hl62
          clear hl62
          obtain ⟨y64, j64, rfl, hl64⟩ := dg_cons (n := 36) hl63
          clear hl63
          obtain ⟨y65, j65, rfl, hl65⟩ := dg_cons (n := 35) hl64
          clear hl64
          obtain ⟨y66, j66, rfl, hl66⟩ := dg_cons (n := 34) hl65
          clear hl65
          obtain ⟨y67, j67, rfl, hl67⟩ := dg_cons (n := 33) hl66
          clear hl66
          obtain ⟨y68, j68, rfl, hl68⟩ := dg_cons (n := 32) hl67
          clear hl67
          obtain ⟨y69, j69, rfl, hl69⟩ := dg_cons (n := 31) hl68
          clear hl68
          obtain ⟨y70, j70, rfl, hl70⟩ := dg_cons (n := 30) hl69
          clear hl69
          obtain ⟨y71, j71, rfl, hl71⟩ := dg_cons (n := 29) hl70
          clear hl70
          obtain ⟨y72, j72, rfl, hl72⟩ := dg_cons (n := 28) hl71
          clear hl71
          obtain ⟨y73, j73, rfl, hl73⟩ := dg_cons (n := 27) hl72
          clear hl72
          obtain ⟨y74, j74, rfl, hl74⟩ := dg_cons (n := 26) hl73
          clear hl73
          obtain ⟨y75, j75, rfl, hl75⟩ := dg_cons (n := 25) hl74
          clear hl74
          obtain ⟨y76, j76, rfl, hl76⟩ := dg_cons (n := 24) hl75
          clear hl75
          obtain ⟨y77, j77, rfl, hl77⟩ := dg_cons (n := 23) hl76
          clear hl76
          obtain ⟨y78, j78, rfl, hl78⟩ := dg_cons (n := 22) hl77
          clear hl77
          obtain ⟨y79, j79, rfl, hl79⟩ := dg_cons (n := 21) hl78
          clear hl78
          obtain ⟨y80, j80, rfl, hl80⟩ := dg_cons (n := 20) hl79
          clear hl79
          obtain ⟨y81, j81, rfl, hl81⟩ := dg_cons (n := 19) hl80
          clear hl80
          obtain ⟨y82, j82, rfl, hl82⟩ := dg_cons (n := 18) hl81
          clear hl81
          obtain ⟨y83, j83, rfl, hl83⟩ := dg_cons (n := 17) hl82
          clear hl82
          obtain ⟨y84, j84, rfl, hl84⟩ := dg_cons (n := 16) hl83
          clear hl83
          obtain ⟨y85, j85, rfl, hl85⟩ := dg_cons (n := 15) hl84
          clear hl84
          obtain ⟨y86, j86, rfl, hl86⟩ := dg_cons (n := 14) hl85
          clear hl85
          obtain ⟨y87, j87, rfl, hl87⟩ := dg_cons (n := 13) hl86
          clear hl86
          obtain ⟨y88, j88, rfl, hl88⟩ := dg_cons (n := 12) hl87
          clear hl87
          obtain ⟨y89, j89, rfl, hl89⟩ := dg_cons (n := 11) hl88
          clear hl88
          obtain ⟨y90, j90, rfl, hl90⟩ := dg_cons (n := 10) hl89
          clear hl89
          obtain ⟨y91, j91, rfl, hl91⟩ := dg_cons (n := 9) hl90
          clear hl90
          obtain ⟨y92, j92, rfl, hl92⟩ := dg_cons (n := 8) hl91
          clear hl91
          obtain ⟨y93, j93, rfl, hl93⟩ := dg_cons (n := 7) hl92
          clear hl92
          obtain ⟨y94, j94, rfl, hl94⟩ := dg_cons (n := 6) hl93
          clear hl93
          obtain ⟨y95, j95, rfl, hl95⟩ := dg_cons (n := 5) hl94
          clear hl94
          obtain ⟨y96, j96, rfl, hl96⟩ := dg_cons (n := 4) hl95
          clear hl95
          obtain ⟨y97, j97, rfl, hl97⟩ := dg_cons (n := 3) hl96
          clear hl96
          obtain ⟨y98, j98, rfl, hl98⟩ := dg_cons (n := 2) hl97
          clear hl97
          obtain ⟨y99, j99, rfl, hl99⟩ := dg_cons (n := 1) hl98
          clear hl98
          obtain ⟨y100, j100, rfl, hl100⟩ := dg_cons (n := 0) hl99
          clear hl99
          obtain rfl := List.eq_nil_of_length_eq_zero hl100
          clear hl100
          have eq9 := hbb 9 (noDst_spec (by kernel_rfl))
          simp only [List.getElem?_toArray, List.getElem?_cons_zero, List.getElem?_cons_succ, Option.some.injEq] at eq9
          subst eq9
          have eq10 := hbb 10 (noDst_spec (by kernel_rfl))
          simp only [List.getElem?_toArray, List.getElem?_cons_zero, List.getElem?_cons_succ, Option.some.injEq] at eq10
          subst eq10
          have eq11 := hbb 11 (noDst_spec (by kernel_rfl))
          simp only [List.getElem?_toArray, List.getElem?_cons_zero, List.getElem?_cons_succ, Option.some.injEq] at eq11
          subst eq11
          obtain rfl : y80 = .bool false := hx80
          obtain rfl : df = [] := hdf
          clear hbb
          refine hK _ W ?_
          have ht : ∀ q : List Value, Array.mk q = List.toArray q := fun _ => rfl
          rw [ht]
          have hbb := DBox.kept HB9.out hC id
          have hTfin := HT9.out.trans hC
          obtain ⟨d0, d1, d2, d3, d4, d5, d6, d7, d8⟩ := DBox.cells hbb
          go_wp2_with fail
          go_ret
          exact ⟨rfl, hTfin⟩
    · as_aux_lemma =>
        obtain ⟨rk, r1, r2, r3, r4, r5, r6, r7, r8⟩ := dd
        have hre := fun W => rencode_calls _ hh.enc W
        rw [hen] at hre
        unfold Dg.v Dg.cells at hre
        simp only at hre
        have HRE := Lib.hid hre
        clear hre hen
        have hdd := fun W => hh.dec W
        obtain ⟨hz4, hz3⟩ := hh.size
        have hso := hh.so
        clear hh
        unfold Dg.v Dg.cells at hdd
        simp only at hdd
        have HDD := Lib.hid hdd
        clear hdd
        obtain ⟨m, hm⟩ : ∃ m : Nat, m = T.size - 4 := ⟨_, rfl⟩
        have hmI : (T.size : Int) - 4 = (m : Int) := by omega
        have hm0 : (0 : Int) ≤ (m : Int) := by omega
        have hm1 : (m : Int) ≤ (T.size : Int) := by omega
        have hsq : sumOk T = decide (sealB (T.extract 0 m) = T.extract m T.size) := by unfold sumOk; rw [decide_eq_true hz4, hm]; rfl
        rw [hso] at hsq
        have hTaz : (T.extract 0 m).size ≤ 1000 := by simp; omega
        obtain ⟨Ta, hTa⟩ : ∃ Ta, T.extract 0 m = Ta := ⟨_, rfl⟩
        obtain ⟨Tc, hTc⟩ : ∃ Tc, T.extract m T.size = Tc := ⟨_, rfl⟩
        rw [hTa, hTc] at hsq
        rw [hTa] at hTaz
        have heq := str_eqD (a := sealB Ta) (b := Tc)
        rw [← hsq] at heq
        clear hsq hso
        have hmo := fun W => refmore_calls 0 Ta W (by decide) (by omega)
        have hcl : moreN 0 Ta.data.toList < 4294967296 := moreN_lt 0 _ (by decide)
        have hpu := fun W => rput_calls (moreN 0 Ta.data.toList) 4 W (by decide) (by omega)
        unfold sealB at heq
        generalize lB 4 (moreN 0 Ta.data.toList) = q4 at heq hpu
        generalize moreN 0 Ta.data.toList = cc at hmo hcl hpu
        have HMO := Lib.hid hmo
        have HPU := Lib.hid hpu
        have hwc : IntKind.u64.wrap (cc : Int) = (cc : Int) := by rw [IntKind.wrap_u64]; omega
        clear hmo hpu hm
        go_wp2_with fail
        refine (HDD.out _).mono ?_
        rintro e w8 ⟨rfl, hT8⟩
        have hT08 := hTt.trans hT8
        clear hTt hT8
        go_upto_region 15 with fail
        have hb9 : DBox (w8.alloc (.cells #[.int .i64 rk, .int .u32 r1, .int .u32 r2, .int .u32 r3, .int .u64 r4, .int .u32 r5, .int .u32 r6, .bool r7, .string r8] 42)) w8.heap.size ⟨rk, r1, r2, r3, r4, r5, r6, r7, r8⟩ := dg_new w8 _ _ _ _ _ _ _ _ _
        have hT09 := hT08.alloc (.cells #[.int .i64 rk, .int .u32 r1, .int .u32 r2, .int .u32 r3, .int .u64 r4, .int .u32 r5, .int .u32 r6, .bool r7, .string r8] 42)
        generalize w8.alloc (.cells #[.int .i64 rk, .int .u32 r1, .int .u32 r2, .int .u32 r3, .int .u64 r4, .int .u32 r5, .int .u32 r6, .bool r7, .string r8] 42) = w9 at hb9 hT09 ⊢
        generalize w8.heap.size = H9 at hb9 ⊢
        clear hT08
        have HB9 := Lib.hid hb9
        have HT9 := Lib.hid hT09
        clear hb9 hT09
        refine wp_region_inv (fun W => Touch (fun _ => False) w9 W) (fun i v _ => anI T Ta Tc q4 m cc false i v) (by kernel_rfl) (by kernel_rfl) (by kernel_rfl) (Touch.refl _ _).drew ?_ ?_
        · intro i o hi a W hC hbase hdep
          have hlt := op_lt hi
          obtain ⟨hbd, hbs, hbb⟩ := hbase
          have b9 : a.tmps[9]? = some (.string T) := (hbb 9 (noDst_spec (by kernel_rfl))).trans rfl
          have b12 : a.tmps[12]? = some (.int .i64 (m : Nat)) := (hbb 12 (noDst_spec (by kernel_rfl))).trans rfl
          rcases (by simp at hlt; omega : i = 0 ∨ i = 1 ∨ i = 2 ∨ i = 3 ∨ i = 4 ∨ i = 5 ∨ i = 6 ∨ i = 7 ∨ i = 8 ∨ i = 9) with rfl | rfl | rfl | rfl | rfl | rfl | rfl | rfl | rfl | rfl
          · simp only [List.getElem?_toArray, List.getElem?_cons_zero, List.getElem?_cons_succ, Option.some.injEq] at hi
            subst hi
            clear hdep
            refine kp_val (v := .string T) ?_ ⟨_, rfl, rfl, hC, fun _ _ h => h⟩
            simp [execOp, Act.eval, b9]
          · simp only [List.getElem?_toArray, List.getElem?_cons_zero, List.getElem?_cons_succ, Option.some.injEq] at hi
            subst hi
            clear hdep
            refine kp_val (v := .int .i64 (m : Nat)) ?_ ⟨_, rfl, rfl, hC, fun _ _ h => h⟩
            simp [execOp, Act.eval, b12]
          · simp only [List.getElem?_toArray, List.getElem?_cons_zero, List.getElem?_cons_succ, Option.some.injEq] at hi
            subst hi
            simp [Region.binds, valOf, anI] at hdep
            refine kp_val (v := .string Ta) ?_ ⟨_, rfl, rfl, hC, fun _ _ h => h⟩
            simp [execOp, Act.eval, hdep]
            go_simp
            try (intro h9; exfalso; omega)
          · simp only [List.getElem?_toArray, List.getElem?_cons_zero, List.getElem?_cons_succ, Option.some.injEq] at hi
            subst hi
            simp [Region.binds, valOf, anI] at hdep
            refine kp_call0 (f := 26) (args := #[.int .u32 0, .string Ta]) (v := .int .u32 (cc : Nat)) ?_ (HMO.out W) ⟨_, rfl, rfl, hC, fun _ _ h => h⟩
            simp [execOp, resolve, invoke, Act.eval, hdep]
            try rfl
          · simp only [List.getElem?_toArray, List.getElem?_cons_zero, List.getElem?_cons_succ, Option.some.injEq] at hi
            subst hi
            simp [Region.binds, valOf, anI] at hdep
            refine kp_val (v := .int .u64 (cc : Nat)) ?_ ⟨_, rfl, rfl, hC, fun _ _ h => h⟩
            simp [execOp, Act.eval, hdep]
            go_simp
          · simp only [List.getElem?_toArray, List.getElem?_cons_zero, List.getElem?_cons_succ, Option.some.injEq] at hi
            subst hi
            simp [Region.binds, valOf, anI] at hdep
            refine kp_call (f := 25) (args := #[.int .u64 (cc : Nat), .int .i64 4]) (v := .string q4) ?_ (HPU.out W) (fun w' ht => ⟨_, rfl, rfl, hC.trans ht, fun _ _ h => h⟩)
            simp [execOp, resolve, invoke, Act.eval, hdep]
            try rfl
          · simp only [List.getElem?_toArray, List.getElem?_cons_zero, List.getElem?_cons_succ, Option.some.injEq] at hi
            subst hi
            clear hdep
            refine kp_val (v := .string T) ?_ ⟨_, rfl, rfl, hC, fun _ _ h => h⟩
            simp [execOp, Act.eval, b9]
          · simp only [List.getElem?_toArray, List.getElem?_cons_zero, List.getElem?_cons_succ, Option.some.injEq] at hi
            subst hi
            clear hdep
            refine kp_val (v := .int .i64 (m : Nat)) ?_ ⟨_, rfl, rfl, hC, fun _ _ h => h⟩
            simp [execOp, Act.eval, b12]
          · simp only [List.getElem?_toArray, List.getElem?_cons_zero, List.getElem?_cons_succ, Option.some.injEq] at hi
            subst hi
            simp [Region.binds, valOf, anI] at hdep
            refine kp_val (v := .string Tc) ?_ ⟨_, rfl, rfl, hC, fun _ _ h => h⟩
            simp [execOp, Act.eval, hdep]
            go_simp
            try (intro h9; exfalso; omega)
          · simp only [List.getElem?_toArray, List.getElem?_cons_zero, List.getElem?_cons_succ, Option.some.injEq] at hi
            subst hi
            simp [Region.binds, valOf, anI] at hdep
            refine kp_val (v := .bool false) ?_ ⟨_, rfl, rfl, hC, fun _ _ h => h⟩
            simp [execOp, Act.eval, hdep]
            go_simp
        · intro a W hC hbase hall
          have hx80 : a.tmps.getD 80 undef = .bool false := hall 9 _ rfl
          obtain ⟨hbd, hbs, hbb⟩ := hbase
          have hdf : a.defers = [] := hbd
          clear hall hbd
          rename_i hK
          obtain ⟨⟨l9⟩, df⟩ := a
          have hl : l9.length = 101 := hbs
          clear hbs
          obtain ⟨y0, j0, rfl, hl0⟩ := dg_cons (n := 100) hl
          clear hl
          obtain ⟨y1, j1, rfl, hl1⟩ := dg_cons (n := 99) hl0
          clear hl0
          obtain ⟨y2, j2, rfl, hl2⟩ := dg_cons (n := 98) hl1
          clear hl1
          obtain ⟨y3, j3, rfl, hl3⟩ := dg_cons (n := 97) hl2
          clear hl2
          obtain ⟨y4, j4, rfl, hl4⟩ := dg_cons (n := 96) hl3
          clear hl3
          obtain ⟨y5, j5, rfl, hl5⟩ := dg_cons (n := 95) hl4
          clear hl4
          obtain ⟨y6, j6, rfl, hl6⟩ := dg_cons (n := 94) hl5
          clear hl5
          obtain ⟨y7, j7, rfl, hl7⟩ := dg_cons (n := 93) hl6
          clear hl6
          obtain ⟨y8, j8, rfl, hl8⟩ := dg_cons (n := 92) hl7
          clear hl7
          obtain ⟨y9, j9, rfl, hl9⟩ := dg_cons (n := 91) hl8
          clear hl8
          obtain ⟨y10, j10, rfl, hl10⟩ := dg_cons (n := 90) hl9
          clear hl9
          obtain ⟨y11, j11, rfl, hl11⟩ := dg_cons (n := 89) hl10
          clear hl10
          obtain ⟨y12, j12, rfl, hl12⟩ := dg_cons (n := 88) hl11
          clear hl11
          obtain ⟨y13, j13, rfl, hl13⟩ := dg_cons (n := 87) hl12
          clear hl12
          obtain ⟨y14, j14, rfl, hl14⟩ := dg_cons (n := 86) hl13
          clear hl13
          obtain ⟨y15, j15, rfl, hl15⟩ := dg_cons (n := 85) hl14
          clear hl14
          obtain ⟨y16, j16, rfl, hl16⟩ := dg_cons (n := 84) hl15
          clear hl15
          obtain ⟨y17, j17, rfl, hl17⟩ := dg_cons (n := 83) hl16
          clear hl16
          obtain ⟨y18, j18, rfl, hl18⟩ := dg_cons (n := 82) hl17
          clear hl17
          obtain ⟨y19, j19, rfl, hl19⟩ := dg_cons (n := 81) hl18
          clear hl18
          obtain ⟨y20, j20, rfl, hl20⟩ := dg_cons (n := 80) hl19
          clear hl19
          obtain ⟨y21, j21, rfl, hl21⟩ := dg_cons (n := 79) hl20
          clear hl20
          obtain ⟨y22, j22, rfl, hl22⟩ := dg_cons (n := 78) hl21
          clear hl21
          obtain ⟨y23, j23, rfl, hl23⟩ := dg_cons (n := 77) hl22
          clear hl22
          obtain ⟨y24, j24, rfl, hl24⟩ := dg_cons (n := 76) hl23
          clear hl23
          obtain ⟨y25, j25, rfl, hl25⟩ := dg_cons (n := 75) hl24
          clear hl24
          obtain ⟨y26, j26, rfl, hl26⟩ := dg_cons (n := 74) hl25
          clear hl25
          obtain ⟨y27, j27, rfl, hl27⟩ := dg_cons (n := 73) hl26
          clear hl26
          obtain ⟨y28, j28, rfl, hl28⟩ := dg_cons (n := 72) hl27
          clear hl27
          obtain ⟨y29, j29, rfl, hl29⟩ := dg_cons (n := 71) hl28
          clear hl28
          obtain ⟨y30, j30, rfl, hl30⟩ := dg_cons (n := 70) hl29
          clear hl29
          obtain ⟨y31, j31, rfl, hl31⟩ := dg_cons (n := 69) hl30
          clear hl30
          obtain ⟨y32, j32, rfl, hl32⟩ := dg_cons (n := 68) hl31
          clear hl31
          obtain ⟨y33, j33, rfl, hl33⟩ := dg_cons (n := 67) hl32
          clear hl32
          obtain ⟨y34, j34, rfl, hl34⟩ := dg_cons (n := 66) hl33
          clear hl33
          obtain ⟨y35, j35, rfl, hl35⟩ := dg_cons (n := 65) hl34
          clear hl34
          obtain ⟨y36, j36, rfl, hl36⟩ := dg_cons (n := 64) hl35
          clear hl35
          obtain ⟨y37, j37, rfl, hl37⟩ := dg_cons (n := 63) hl36
          clear hl36
          obtain ⟨y38, j38, rfl, hl38⟩ := dg_cons (n := 62) hl37
          clear hl37
          obtain ⟨y39, j39, rfl, hl39⟩ := dg_cons (n := 61) hl38
          clear hl38
          obtain ⟨y40, j40, rfl, hl40⟩ := dg_cons (n := 60) hl39
          clear hl39
          obtain ⟨y41, j41, rfl, hl41⟩ := dg_cons (n := 59) hl40
          clear hl40
          obtain ⟨y42, j42, rfl, hl42⟩ := dg_cons (n := 58) hl41
          clear hl41
          obtain ⟨y43, j43, rfl, hl43⟩ := dg_cons (n := 57) hl42
          clear hl42
          obtain ⟨y44, j44, rfl, hl44⟩ := dg_cons (n := 56) hl43
          clear hl43
          obtain ⟨y45, j45, rfl, hl45⟩ := dg_cons (n := 55) hl44
          clear hl44
          obtain ⟨y46, j46, rfl, hl46⟩ := dg_cons (n := 54) hl45
          clear hl45
          obtain ⟨y47, j47, rfl, hl47⟩ := dg_cons (n := 53) hl46
          clear hl46
          obtain ⟨y48, j48, rfl, hl48⟩ := dg_cons (n := 52) hl47
          clear hl47
          obtain ⟨y49, j49, rfl, hl49⟩ := dg_cons (n := 51) hl48
          clear hl48
          obtain ⟨y50, j50, rfl, hl50⟩ := dg_cons (n := 50) hl49
          clear hl49
          obtain ⟨y51, j51, rfl, hl51⟩ := dg_cons (n := 49) hl50
          clear hl50
          obtain ⟨y52, j52, rfl, hl52⟩ := dg_cons (n := 48) hl51
          clear hl51
          obtain ⟨y53, j53, rfl, hl53⟩ := dg_cons (n := 47) hl52
          clear hl52
          obtain ⟨y54, j54, rfl, hl54⟩ := dg_cons (n := 46) hl53
          clear hl53
          obtain ⟨y55, j55, rfl, hl55⟩ := dg_cons (n := 45) hl54
          clear hl54
          obtain ⟨y56, j56, rfl, hl56⟩ := dg_cons (n := 44) hl55
          clear hl55
          obtain ⟨y57, j57, rfl, hl57⟩ := dg_cons (n := 43) hl56
          clear hl56
          obtain ⟨y58, j58, rfl, hl58⟩ := dg_cons (n := 42) hl57
          clear hl57
          obtain ⟨y59, j59, rfl, hl59⟩ := dg_cons (n := 41) hl58
          clear hl58
          obtain ⟨y60, j60, rfl, hl60⟩ := dg_cons (n := 40) hl59
          clear hl59
          obtain ⟨y61, j61, rfl, hl61⟩ := dg_cons (n := 39) hl60
          clear hl60
          obtain ⟨y62, j62, rfl, hl62⟩ := dg_cons (n := 38) hl61
          clear hl61
          obtain ⟨y63, j63, rfl, hl63⟩ := dg_cons (n := 37) hl62
          clear hl62
          obtain ⟨y64, j64, rfl, hl64⟩ := dg_cons (n := 36) hl63
          clear hl63
          obtain ⟨y65, j65, rfl, hl65⟩ := dg_cons (n := 35) hl64
          clear hl64
          obtain ⟨y66, j66, rfl, hl66⟩ := dg_cons (n := 34) hl65
          clear hl65
          obtain ⟨y67, j67, rfl, hl67⟩ := dg_cons (n := 33) hl66
          clear hl66
          obtain ⟨y68, j68, rfl, hl68⟩ := dg_cons (n := 32) hl67
          clear hl67
          obtain ⟨y69, j69, rfl, hl69⟩ := dg_cons (n := 31) hl68
          clear hl68
          obtain ⟨y70, j70, rfl, hl70⟩ := dg_cons (n := 30) hl69
          clear hl69
          obtain ⟨y71, j71, rfl, hl71⟩ := dg_cons (n := 29) hl70
          clear hl70
          obtain ⟨y72, j72, rfl, hl72⟩ := dg_cons (n := 28) hl71
          clear hl71
          obtain ⟨y73, j73, rfl, hl73⟩ := dg_cons (n := 27) hl72
          clear hl72
          obtain ⟨y74, j74, rfl, hl74⟩ := dg_cons (n := 26) hl73
          clear hl73
          obtain ⟨y75, j75, rfl, hl75⟩ := dg_cons (n := 25) hl74
          clear hl74
          obtain ⟨y76, j76, rfl, hl76⟩ := dg_cons (n := 24) hl75
          clear hl75
          obtain ⟨y77, j77, rfl, hl77⟩ := dg_cons (n := 23) hl76
          clear hl76
          obtain ⟨y78, j78, rfl, hl78⟩ := dg_cons (n := 22) hl77
          clear hl77
          obtain ⟨y79, j79, rfl, hl79⟩ := dg_cons (n := 21) hl78
          clear hl78
          obtain ⟨y80, j80, rfl, hl80⟩ := dg_cons (n := 20) hl79
          clear hl79
          obtain ⟨y81, j81, rfl, hl81⟩ := dg_cons (n := 19) hl80
          clear hl80
          obtain ⟨y82, j82, rfl, hl82⟩ := dg_cons (n := 18) hl81
          clear hl81
          obtain ⟨y83, j83, rfl, hl83⟩ := dg_cons (n := 17) hl82
          clear hl82
          obtain ⟨y84, j84, rfl, hl84⟩ := dg_cons (n := 16) hl83
          clear hl83
          obtain ⟨y85, j85, rfl, hl85⟩ := dg_cons (n := 15) hl84
          clear hl84
          obtain ⟨y86, j86, rfl, hl86⟩ := dg_cons (n := 14) hl85
          clear hl85
          obtain ⟨y87, j87, rfl, hl87⟩ := dg_cons (n := 13) hl86
          clear hl86
          obtain ⟨y88, j88, rfl, hl88⟩ := dg_cons (n := 12) hl87
          clear hl87
          obtain ⟨y89, j89, rfl, hl89⟩ := dg_cons (n := 11) hl88
          clear hl88
          obtain ⟨y90, j90, rfl, hl90⟩ := dg_cons (n := 10) hl89
          clear hl89
          obtain ⟨y91, j91, rfl, hl91⟩ := dg_cons (n := 9) hl90
          clear hl90
          obtain ⟨y92, j92, rfl, hl92⟩ := dg_cons (n := 8) hl91
          clear hl91
          obtain ⟨y93, j93, rfl, hl93⟩ := dg_cons (n := 7) hl92
          clear hl92
          obtain ⟨y94, j94, rfl, hl94⟩ := dg_cons (n := 6) hl93
          clear hl93
          obtain ⟨y95, j95, rfl, hl95⟩ := dg_cons (n := 5) hl94
          clear hl94
          obtain ⟨y96, j96, rfl, hl96⟩ := dg_cons (n := 4) hl95
          clear hl95
          obtain ⟨y97, j97, rfl, hl97⟩ := dg_cons (n := 3) hl96
          clear hl96
          obtain ⟨y98, j98, rfl, hl98⟩ := dg_cons (n := 2) hl97
          clear hl97
          obtain ⟨y99, j99, rfl, hl99⟩ := dg_cons (n := 1) hl98
          clear hl98
          obtain ⟨y100, j100, rfl, hl100⟩ := dg_cons (n := 0) hl99
          clear hl99
          obtain rfl := List.eq_nil_of_length_eq_zero hl100
          clear hl100
          have eq9 := hbb 9 (noDst_spec (by kernel_rfl))
          simp only [List.getElem?_toArray, List.getElem?_cons_zero, List.getElem?_cons_succ, Option.some.injEq] at eq9
          subst eq9
          have eq10 := hbb 10 (noDst_spec (by kernel_rfl))
          simp only [List.getElem?_toArray, List.getElem?_cons_zero, List.getElem?_cons_succ, Option.some.injEq] at eq10
          subst eq10
          have eq11 := hbb 11 (noDst_spec (by kernel_rfl))
          simp only [List.getElem?_toArray, List.getElem?_cons_zero, List.getElem?_cons_succ, Option.some.injEq] at eq11
          subst eq11
          obtain rfl : y80 = .bool false := hx80
          obtain rfl : df = [] := hdf
          clear hbb
          refine hK _ W ?_
          have ht : ∀ q : List Value, Array.mk q = List.toArray q := fun _ => rfl
          rw [ht]
          have hbb := DBox.kept HB9.out hC id
          have hTfin := HT9.out.trans hC
          obtain ⟨d0, d1, d2, d3, d4, d5, d6, d7, d8⟩ := DBox.cells hbb
          go_wp2_with fail
          refine (HRE.out _).mono ?_
          rintro e wz ⟨rfl, hTz⟩
          go_wp2_with fail
          go_ret
          exact ⟨rfl, hTfin.trans hTz⟩

set_option maxHeartbeats 40000000 in
theorem dany_good (d : Dg) (sx sy : Int) (sum : Bool) (hw0 : d.Wf) (hgg : goodD ⟨d.kind, d.se, d.ep, d.sq, d.pos, d.sm, d.mp, d.last, d.text.extract 0 (min d.text.size 256)⟩ = true) (w : World) : Calls Try.prog 8 #[d.v, .agg #[.int .i64 sx, .int .i64 sy], .bool sum] w fun e w' => e = .returned (.bool true) ∧ Touch (fun _ => False) w w' := by
  obtain ⟨n, hn⟩ : ∃ n : Nat, n = min d.text.size 256 := ⟨_, rfl⟩
  obtain ⟨t, ht⟩ : ∃ t, d.text.extract 0 n = t := ⟨_, rfl⟩
  have htz : t.size ≤ 256 := by rw [← ht]; simp; omega
  have hw := hw0.cut t
  obtain ⟨kind, se, ep, sq, pos, sm, mp, last, text⟩ := d
  simp only at hn ht hw
  obtain ⟨D, hD⟩ : ∃ D : Dg, D = ⟨kind, se, ep, sq, pos, sm, mp, last, t⟩ := ⟨_, rfl⟩
  rw [← hD] at hw
  have he2 := fun W => rencode_calls D hw W
  have hesz := encB_size D
  have heg : goodD D = true → 38 ≤ (encB D).size := fun h => by
    have he : encB D = bodyB D ++ sealB (bodyB D) := by unfold encB; rw [h]; rfl
    rw [he, ByteArray.size_append, bodyB_size, sealB_size]; omega
  have heb : goodD D = false → encB D = ⟨#[]⟩ := fun h => by unfold encB; rw [h]; rfl
  have hvv : D.v = .agg #[.int .i64 kind, .int .u32 se, .int .u32 ep, .int .u32 sq, .int .u64 pos, .int .u32 sm, .int .u32 mp, .bool last, .string t] := by rw [hD]; rfl
  rw [hvv] at he2
  have hi1 : min (text.size : Int) 256 = (n : Int) := by omega
  have hi2 : (if (text.size : Int) < 256 then (text.size : Int) else 256) = (n : Int) := by split <;> omega
  have hi3 : (if (256 : Int) < (text.size : Int) then 256 else (text.size : Int)) = (n : Int) := by split <;> omega
  have hnn : (n : Int) ≤ (text.size : Int) := by omega
  have hgd : goodD D = true := by rw [hD, ← ht, hn]; exact hgg
  clear hw hw0 hn hvv hD hgg
  unfold Dg.v Dg.cells
  simp only
  have hS38 := heg hgd
  obtain ⟨S, hS⟩ : ∃ S, encB D = S := ⟨_, rfl⟩
  rw [hS] at he2 hesz hS38
  have hne : S.toList.isEmpty = false := by rw [empty_iff]; exact decide_eq_false (by omega)
  have HE2 := Lib.hid he2
  clear he2 heb heg hgd hS
  go_enter Try.func8, Try.ntmps8
  go_wp2_with fail
  have hs1 : (w.alloc (.cells #[.int .i64 kind, .int .u32 se, .int .u32 ep, .int .u32 sq, .int .u64 pos, .int .u32 sm, .int .u32 mp, .bool last, .string text] 36)).heap.size = w.heap.size + 1 := Array.size_push ..
  have ha0 : Block ((w.alloc (.cells #[.int .i64 kind, .int .u32 se, .int .u32 ep, .int .u32 sq, .int .u64 pos, .int .u32 sm, .int .u32 mp, .bool last, .string text] 36)).alloc (.cells #[.int .i64 sx, .int .i64 sy] 47)) (w.heap.size + 1) 47 [.int .i64 sx, .int .i64 sy] := by rw [← hs1]; exact Block.new _ _ _
  have hb0 : Block ((w.alloc (.cells #[.int .i64 kind, .int .u32 se, .int .u32 ep, .int .u32 sq, .int .u64 pos, .int .u32 sm, .int .u32 mp, .bool last, .string text] 36)).alloc (.cells #[.int .i64 sx, .int .i64 sy] 47)) w.heap.size 36 [.int .i64 kind, .int .u32 se, .int .u32 ep, .int .u32 sq, .int .u64 pos, .int .u32 sm, .int .u32 mp, .bool last, .string text] := (Block.new w 36 [.int .i64 kind, .int .u32 se, .int .u32 ep, .int .u32 sq, .int .u64 pos, .int .u32 sm, .int .u32 mp, .bool last, .string text]).kept ((Touch.refl (fun _ => False) _).alloc _) id
  have hT00 : Touch (fun _ => False) w ((w.alloc (.cells #[.int .i64 kind, .int .u32 se, .int .u32 ep, .int .u32 sq, .int .u64 pos, .int .u32 sm, .int .u32 mp, .bool last, .string text] 36)).alloc (.cells #[.int .i64 sx, .int .i64 sy] 47)) := ((Touch.refl (fun _ => False) w).alloc _).alloc _
  generalize ((w.alloc (.cells #[.int .i64 kind, .int .u32 se, .int .u32 ep, .int .u32 sq, .int .u64 pos, .int .u32 sm, .int .u32 mp, .bool last, .string text] 36)).alloc (.cells #[.int .i64 sx, .int .i64 sy] 47)) = w0 at ha0 hb0 hT00 ⊢
  clear hs1
  obtain ⟨G, hG⟩ : ∃ G, w.heap.size = G := ⟨_, rfl⟩
  rw [hG] at ha0 hb0 ⊢
  refine (speaks22_calls _).mono ?_
  rintro e w1 ⟨rfl, hT1⟩
  have hT01 := hT00.trans hT1
  have hb1 := hb0.kept hT1 id
  have ha1 := ha0.kept hT1 id
  clear hb0 ha0 hT1 hT00
  have f8 := Block.free hb1 8
  have c0 := Block.cell hb1 0
  have c1 := Block.cell hb1 1
  have c2 := Block.cell hb1 2
  have c3 := Block.cell hb1 3
  have c4 := Block.cell hb1 4
  have c5 := Block.cell hb1 5
  have c6 := Block.cell hb1 6
  have c7 := Block.cell hb1 7
  have c8 := Block.cell hb1 8
  simp only [List.getElem?_cons_zero, List.getElem?_cons_succ] at c0 c1 c2 c3 c4 c5 c6 c7 c8
  go_upto_region 4 with fail
  have hb2 := Block.set hb1 8 (.string t)
  have hTs := (Touch.refl (fun k => k = G) w1).setCell (p := ⟨G, 8, none⟩) (.inl rfl) (.string t)
  have ha2 := ha1.kept hTs (show ¬ G + 1 = G by omega)
  have hT02 := hT01.trans' hTs (fun i hi => .inr (by rw [hi, hG]; exact Nat.le_refl _))
  simp only [List.set_cons_succ, List.set_cons_zero] at hb2
  clear c0 c1 c2 c3 c4 c5 c6 c7 c8
  clear hb1 ha1 hT01 hTs f8 hi1 hi2 hi3 hnn ht
  generalize w1.setCell ⟨G, 8, none⟩ (.string t) = w2 at hb2 ha2 hT02 ⊢
  have c0 := Block.cell hb2 0
  have c1 := Block.cell hb2 1
  have c2 := Block.cell hb2 2
  have c3 := Block.cell hb2 3
  have c4 := Block.cell hb2 4
  have c5 := Block.cell hb2 5
  have c6 := Block.cell hb2 6
  have c7 := Block.cell hb2 7
  have c8 := Block.cell hb2 8
  simp only [List.getElem?_cons_zero, List.getElem?_cons_succ] at c0 c1 c2 c3 c4 c5 c6 c7 c8
  go_wp2_with fail
  refine (HE2.out _).mono ?_
  rintro e w3 ⟨rfl, hT3⟩
  have hb3 := hb2.kept hT3 id
  have ha3 := ha2.kept hT3 id
  have hT03 := hT02.trans hT3
  clear c0 c1 c2 c3 c4 c5 c6 c7 c8
  clear hb2 ha2 hT02 hT3
  clear hb3
  obtain ⟨z, hz⟩ : ∃ z, z = S.size := ⟨_, rfl⟩
  have htl := data_lengthc S
  have hz6 : 6 ≤ z ∧ z ≤ 294 := by omega
  go_wp2_with fail
  rw [run_bytes_of_string w3 9 48 5 S Try.underlying9 Try.underlying48 Try.underlying5]
  have hB := BufAt.new w3.drew S (grownCap w3 S.size 0 5)
  have hTa := (Touch.refl (fun _ => False) w3).drew.alloc (.cells (bytesRow S (grownCap w3 S.size 0 5)) 5 ((bytesRow S (grownCap w3 S.size 0 5)).size, (bytesRow S (grownCap w3 S.size 0 5)).size + 1))
  have ha4 := ha3.kept hTa id
  have hT04 := hT03.trans hTa
  have hGw : w.heap.size ≤ w3.heap.size := hT03.size
  have hHa : G + 1 < w3.heap.size := Block.lt ha3
  change BufAt _ w3.heap.size _ at hB
  generalize w3.drew.alloc (.cells (bytesRow S (grownCap w3 S.size 0 5)) 5 ((bytesRow S (grownCap w3 S.size 0 5)).size, (bytesRow S (grownCap w3 S.size 0 5)).size + 1)) = w5 at hB hTa ha4 hT04 ⊢
  generalize grownCap w3 S.size 0 5 = cap
  generalize w3.heap.size = H at hB hGw hHa ⊢
  rw [← hz] at htl ⊢
  obtain ⟨r, k, hr, hr1, hr2, hkk, hkz⟩ := idx_val sx z (by omega)
  obtain ⟨xb, hxb⟩ := byte_val sy
  have hj : k < S.data.toList.length := by omega
  have hc := hB.cell hj
  have hf := hB.free hj
  have hq0 := Block.cell ha4 0
  have hq1 := Block.cell ha4 1
  simp only [List.getElem?_cons_zero, List.getElem?_cons_succ] at hq0 hq1
  generalize hev : S.data.toList[k].toNat = ev at hc
  have HZ := Lib.hid (⟨hz, htl⟩ : _ ∧ _)
  clear ha3 hTa hT03 hev hz htl
  go_wp2_with fail
  go_region
  have hB6 := (hB.set k xb).kept (Touch.refl (fun _ => False) _).drew id
  have hT06 := (hT04.setCell (p := ⟨H, k, none⟩) (.inr hGw) (.int .u8 (xb.toNat : Int))).drew
  have hel : (S.data.toList.set k xb).length = z := by rw [List.length_set]; exact HZ.out.2
  generalize S.data.toList.set k xb = el at hB6 hel
  generalize (w5.setCell ⟨H, k, none⟩ (.int .u8 (xb.toNat : Int))).drew = w6 at hB6 hT06 ⊢
  have hcv : (convert 48 9 (.slice (some ⟨H, 0, none⟩) z cap)).run Try.prog w6 = .ok (.string ⟨el.toArray⟩) w6 := by
    have := run_convert_bytes_back (P := Try.prog) w6 48 9 5 ⟨H, 0, none⟩ cap el Try.underlying48 Try.underlying5 Try.underlying9 (fun j hj => by
      have h1 := hB6.cell hj
      have h2 : (⟨H, 0, none⟩ : Addr).add j = ⟨H, j, none⟩ := by
        by_cases h0 : j = 0
        · subst h0; simp [Addr.add]
        · simp [Addr.add, h0]
      rw [h2]; exact h1)
    rwa [hel] at this
  have hEz : (⟨el.toArray⟩ : ByteArray).size = z := by rw [← hel]; rfl
  generalize (⟨el.toArray⟩ : ByteArray) = E at hcv hEz
  clear hB hB6 hT04 hc hf hq0 hq1 ha4 hr hr1 hr2 hkk hkz hj hel hxb
  cases sum
  · have hT4 : 4 ≤ E.size := by omega
    have hT3 : E.size ≤ 300 := by omega
    have hTt := hT06
    clear hT06
    obtain ⟨T, hTE⟩ : ∃ T, E = T := ⟨_, rfl⟩
    rw [hTE] at hcv hT4 hT3
    clear hTE
    rcases heard_any T hT4 hT3 with hh | hh | ⟨dd, hh, hen⟩
    · as_aux_lemma =>
        have hdd := fun W => hh.dec W
        obtain ⟨hz4, hz3⟩ := hh.size
        have hso := hh.so
        clear hh
        unfold Dg.zero Dg.v Dg.cells at hdd
        simp only at hdd
        have HDD := Lib.hid hdd
        clear hdd
        obtain ⟨m, hm⟩ : ∃ m : Nat, m = T.size - 4 := ⟨_, rfl⟩
        have hmI : (T.size : Int) - 4 = (m : Int) := by omega
        have hm0 : (0 : Int) ≤ (m : Int) := by omega
        have hm1 : (m : Int) ≤ (T.size : Int) := by omega
        have hsq : sumOk T = decide (sealB (T.extract 0 m) = T.extract m T.size) := by unfold sumOk; rw [decide_eq_true hz4, hm]; rfl
        rw [hso] at hsq
        have hTaz : (T.extract 0 m).size ≤ 1000 := by simp; omega
        obtain ⟨Ta, hTa⟩ : ∃ Ta, T.extract 0 m = Ta := ⟨_, rfl⟩
        obtain ⟨Tc, hTc⟩ : ∃ Tc, T.extract m T.size = Tc := ⟨_, rfl⟩
        rw [hTa, hTc] at hsq
        rw [hTa] at hTaz
        have heq := str_eqD (a := sealB Ta) (b := Tc)
        rw [← hsq] at heq
        clear hsq hso
        have hmo := fun W => refmore_calls 0 Ta W (by decide) (by omega)
        have hcl : moreN 0 Ta.data.toList < 4294967296 := moreN_lt 0 _ (by decide)
        have hpu := fun W => rput_calls (moreN 0 Ta.data.toList) 4 W (by decide) (by omega)
        unfold sealB at heq
        generalize lB 4 (moreN 0 Ta.data.toList) = q4 at heq hpu
        generalize moreN 0 Ta.data.toList = cc at hmo hcl hpu
        have HMO := Lib.hid hmo
        have HPU := Lib.hid hpu
        have hwc : IntKind.u64.wrap (cc : Int) = (cc : Int) := by rw [IntKind.wrap_u64]; omega
        clear hmo hpu hm
        go_wp2_with fail
        refine (HDD.out _).mono ?_
        rintro e w8 ⟨rfl, hT8⟩
        have hT08 := hTt.trans hT8
        clear hTt hT8
        go_upto_region 15 with fail
        have hb9 : DBox (w8.alloc (.cells #[.int .i64 0, .int .u32 0, .int .u32 0, .int .u32 0, .int .u64 0, .int .u32 0, .int .u32 0, .bool false, .string ⟨#[]⟩] 42)) w8.heap.size Dg.zero := dg_new w8 _ _ _ _ _ _ _ _ _
        have hT09 := hT08.alloc (.cells #[.int .i64 0, .int .u32 0, .int .u32 0, .int .u32 0, .int .u64 0, .int .u32 0, .int .u32 0, .bool false, .string ⟨#[]⟩] 42)
        generalize w8.alloc (.cells #[.int .i64 0, .int .u32 0, .int .u32 0, .int .u32 0, .int .u64 0, .int .u32 0, .int .u32 0, .bool false, .string ⟨#[]⟩] 42) = w9 at hb9 hT09 ⊢
        generalize w8.heap.size = H9 at hb9 ⊢
        clear hT08
        have HB9 := Lib.hid hb9
        have HT9 := Lib.hid hT09
        clear hb9 hT09
        refine wp_region_inv (fun W => Touch (fun _ => False) w9 W) (fun i v _ => anI T Ta Tc q4 m cc true i v) (by kernel_rfl) (by kernel_rfl) (by kernel_rfl) (Touch.refl _ _).drew ?_ ?_
        · intro i o hi a W hC hbase hdep
          have hlt := op_lt hi
          obtain ⟨hbd, hbs, hbb⟩ := hbase
          have b9 : a.tmps[9]? = some (.string T) := (hbb 9 (noDst_spec (by kernel_rfl))).trans rfl
          have b12 : a.tmps[12]? = some (.int .i64 (m : Nat)) := (hbb 12 (noDst_spec (by kernel_rfl))).trans rfl
          rcases (by simp at hlt; omega : i = 0 ∨ i = 1 ∨ i = 2 ∨ i = 3 ∨ i = 4 ∨ i = 5 ∨ i = 6 ∨ i = 7 ∨ i = 8 ∨ i = 9) with rfl | rfl | rfl | rfl | rfl | rfl | rfl | rfl | rfl | rfl
          · simp only [List.getElem?_toArray, List.getElem?_cons_zero, List.getElem?_cons_succ, Option.some.injEq] at hi
            subst hi
            clear hdep
            refine kp_val (v := .string T) ?_ ⟨_, rfl, rfl, hC, fun _ _ h => h⟩
            simp [execOp, Act.eval, b9]
          · simp only [List.getElem?_toArray, List.getElem?_cons_zero, List.getElem?_cons_succ, Option.some.injEq] at hi
            subst hi
            clear hdep
            refine kp_val (v := .int .i64 (m : Nat)) ?_ ⟨_, rfl, rfl, hC, fun _ _ h => h⟩
            simp [execOp, Act.eval, b12]
          · simp only [List.getElem?_toArray, List.getElem?_cons_zero, List.getElem?_cons_succ, Option.some.injEq] at hi
            subst hi
            simp [Region.binds, valOf, anI] at hdep
            refine kp_val (v := .string Ta) ?_ ⟨_, rfl, rfl, hC, fun _ _ h => h⟩
            simp [execOp, Act.eval, hdep]
            go_simp
            try (intro h9; exfalso; omega)
          · simp only [List.getElem?_toArray, List.getElem?_cons_zero, List.getElem?_cons_succ, Option.some.injEq] at hi
            subst hi
            simp [Region.binds, valOf, anI] at hdep
            refine kp_call0 (f := 26) (args := #[.int .u32 0, .string Ta]) (v := .int .u32 (cc : Nat)) ?_ (HMO.out W) ⟨_, rfl, rfl, hC, fun _ _ h => h⟩
            simp [execOp, resolve, invoke, Act.eval, hdep]
            try rfl
          · simp only [List.getElem?_toArray, List.getElem?_cons_zero, List.getElem?_cons_succ, Option.some.injEq] at hi
            subst hi
            simp [Region.binds, valOf, anI] at hdep
            refine kp_val (v := .int .u64 (cc : Nat)) ?_ ⟨_, rfl, rfl, hC, fun _ _ h => h⟩
            simp [execOp, Act.eval, hdep]
            go_simp
          · simp only [List.getElem?_toArray, List.getElem?_cons_zero, List.getElem?_cons_succ, Option.some.injEq] at hi
            subst hi
            simp [Region.binds, valOf, anI] at hdep
            refine kp_call (f := 25) (args := #[.int .u64 (cc : Nat), .int .i64 4]) (v := .string q4) ?_ (HPU.out W) (fun w' ht => ⟨_, rfl, rfl, hC.trans ht, fun _ _ h => h⟩)
            simp [execOp, resolve, invoke, Act.eval, hdep]
            try rfl
          · simp only [List.getElem?_toArray, List.getElem?_cons_zero, List.getElem?_cons_succ, Option.some.injEq] at hi
            subst hi
            clear hdep
            refine kp_val (v := .string T) ?_ ⟨_, rfl, rfl, hC, fun _ _ h => h⟩
            simp [execOp, Act.eval, b9]
          · simp only [List.getElem?_toArray, List.getElem?_cons_zero, List.getElem?_cons_succ, Option.some.injEq] at hi
            subst hi
            clear hdep
            refine kp_val (v := .int .i64 (m : Nat)) ?_ ⟨_, rfl, rfl, hC, fun _ _ h => h⟩
            simp [execOp, Act.eval, b12]
          · simp only [List.getElem?_toArray, List.getElem?_cons_zero, List.getElem?_cons_succ, Option.some.injEq] at hi
            subst hi
            simp [Region.binds, valOf, anI] at hdep
            refine kp_val (v := .string Tc) ?_ ⟨_, rfl, rfl, hC, fun _ _ h => h⟩
            simp [execOp, Act.eval, hdep]
            go_simp
            try (intro h9; exfalso; omega)
          · simp only [List.getElem?_toArray, List.getElem?_cons_zero, List.getElem?_cons_succ, Option.some.injEq] at hi
            subst hi
            simp [Region.binds, valOf, anI] at hdep
            refine kp_val (v := .bool true) ?_ ⟨_, rfl, rfl, hC, fun _ _ h => h⟩
            simp [execOp, Act.eval, hdep]
            go_simp
        · intro a W hC hbase hall
          have hx80 : a.tmps.getD 80 undef = .bool true := hall 9 _ rfl
          obtain ⟨hbd, hbs, hbb⟩ := hbase
          have hdf : a.defers = [] := hbd
          clear hall hbd
          rename_i hK
          obtain ⟨⟨l9⟩, df⟩ := a
          have hl : l9.length = 101 := hbs
          clear hbs
          obtain ⟨y0, j0, rfl, hl0⟩ := dg_cons (n := 100) hl
          clear hl
          obtain ⟨y1, j1, rfl, hl1⟩ := dg_cons (n := 99) hl0
          clear hl0
          obtain ⟨y2, j2, rfl, hl2⟩ := dg_cons (n := 98) hl1
          clear hl1
          obtain ⟨y3, j3, rfl, hl3⟩ := dg_cons (n := 97) hl2
          clear hl2
          obtain ⟨y4, j4, rfl, hl4⟩ := dg_cons (n := 96) hl3
          clear hl3
          obtain ⟨y5, j5, rfl, hl5⟩ := dg_cons (n := 95) hl4
          clear hl4
          obtain ⟨y6, j6, rfl, hl6⟩ := dg_cons (n := 94) hl5
          clear hl5
          obtain ⟨y7, j7, rfl, hl7⟩ := dg_cons (n := 93) hl6
          clear hl6
          obtain ⟨y8, j8, rfl, hl8⟩ := dg_cons (n := 92) hl7
          clear hl7
          obtain ⟨y9, j9, rfl, hl9⟩ := dg_cons (n := 91) hl8
          clear hl8
          obtain ⟨y10, j10, rfl, hl10⟩ := dg_cons (n := 90) hl9
          clear hl9
          obtain ⟨y11, j11, rfl, hl11⟩ := dg_cons (n := 89) hl10
          clear hl10
          obtain ⟨y12, j12, rfl, hl12⟩ := dg_cons (n := 88) hl11
          clear hl11
          obtain ⟨y13, j13, rfl, hl13⟩ := dg_cons (n := 87) hl12
          clear hl12
          obtain ⟨y14, j14, rfl, hl14⟩ := dg_cons (n := 86) hl13
          clear hl13
          obtain ⟨y15, j15, rfl, hl15⟩ := dg_cons (n := 85) hl14
          clear hl14
          obtain ⟨y16, j16, rfl, hl16⟩ := dg_cons (n := 84) hl15
          clear hl15
          obtain ⟨y17, j17, rfl, hl17⟩ := dg_cons (n := 83) hl16
          clear hl16
          obtain ⟨y18, j18, rfl, hl18⟩ := dg_cons (n := 82) hl17
          clear hl17
          obtain ⟨y19, j19, rfl, hl19⟩ := dg_cons (n := 81) hl18
          clear hl18
          obtain ⟨y20, j20, rfl, hl20⟩ := dg_cons (n := 80) hl19
          clear hl19
          obtain ⟨y21, j21, rfl, hl21⟩ := dg_cons (n := 79) hl20
          clear hl20
          obtain ⟨y22, j22, rfl, hl22⟩ := dg_cons (n := 78) hl21
          clear hl21
          obtain ⟨y23, j23, rfl, hl23⟩ := dg_cons (n := 77) hl22
          clear hl22
          obtain ⟨y24, j24, rfl, hl24⟩ := dg_cons (n := 76) hl23
          clear hl23
          obtain ⟨y25, j25, rfl, hl25⟩ := dg_cons (n := 75) hl24
          clear hl24
          obtain ⟨y26, j26, rfl, hl26⟩ := dg_cons (n := 74) hl25
          clear hl25
          obtain ⟨y27, j27, rfl, hl27⟩ := dg_cons (n := 73) hl26
          clear hl26
          obtain ⟨y28, j28, rfl, hl28⟩ := dg_cons (n := 72) hl27
          clear hl27
          obtain ⟨y29, j29, rfl, hl29⟩ := dg_cons (n := 71) hl28
          clear hl28
          obtain ⟨y30, j30, rfl, hl30⟩ := dg_cons (n := 70) hl29
          clear hl29
          obtain ⟨y31, j31, rfl, hl31⟩ := dg_cons (n := 69) hl30
          clear hl30
          obtain ⟨y32, j32, rfl, hl32⟩ := dg_cons (n := 68) hl31
          clear hl31
          obtain ⟨y33, j33, rfl, hl33⟩ := dg_cons (n := 67) hl32
          clear hl32
          obtain ⟨y34, j34, rfl, hl34⟩ := dg_cons (n := 66) hl33
          clear hl33
          obtain ⟨y35, j35, rfl, hl35⟩ := dg_cons (n := 65) hl34
          clear hl34
          obtain ⟨y36, j36, rfl, hl36⟩ := dg_cons (n := 64) hl35
          clear hl35
          obtain ⟨y37, j37, rfl, hl37⟩ := dg_cons (n := 63) hl36
          clear hl36
          obtain ⟨y38, j38, rfl, hl38⟩ := dg_cons (n := 62) hl37
          clear hl37
          obtain ⟨y39, j39, rfl, hl39⟩ := dg_cons (n := 61) hl38
          clear hl38
          obtain ⟨y40, j40, rfl, hl40⟩ := dg_cons (n := 60) hl39
          clear hl39
          obtain ⟨y41, j41, rfl, hl41⟩ := dg_cons (n := 59) hl40
          clear hl40
          obtain ⟨y42, j42, rfl, hl42⟩ := dg_cons (n := 58) hl41
          clear hl41
          obtain ⟨y43, j43, rfl, hl43⟩ := dg_cons (n := 57) hl42
          clear hl42
          obtain ⟨y44, j44, rfl, hl44⟩ := dg_cons (n := 56) hl43
          clear hl43
          obtain ⟨y45, j45, rfl, hl45⟩ := dg_cons (n := 55) hl44
          clear hl44
          obtain ⟨y46, j46, rfl, hl46⟩ := dg_cons (n := 54) hl45
          clear hl45
          obtain ⟨y47, j47, rfl, hl47⟩ := dg_cons (n := 53) hl46
          clear hl46
          obtain ⟨y48, j48, rfl, hl48⟩ := dg_cons (n := 52) hl47
          clear hl47
          obtain ⟨y49, j49, rfl, hl49⟩ := dg_cons (n := 51) hl48
          clear hl48
          obtain ⟨y50, j50, rfl, hl50⟩ := dg_cons (n := 50) hl49
          clear hl49
          obtain ⟨y51, j51, rfl, hl51⟩ := dg_cons (n := 49) hl50
          clear hl50
          obtain ⟨y52, j52, rfl, hl52⟩ := dg_cons (n := 48) hl51
          clear hl51
          obtain ⟨y53, j53, rfl, hl53⟩ := dg_cons (n := 47) hl52
          clear hl52
          obtain ⟨y54, j54, rfl, hl54⟩ := dg_cons (n := 46) hl53
          clear hl53
          obtain ⟨y55, j55, rfl, hl55⟩ := dg_cons (n := 45) hl54
          clear hl54
          obtain ⟨y56, j56, rfl, hl56⟩ := dg_cons (n := 44) hl55
          clear hl55
          obtain ⟨y57, j57, rfl, hl57⟩ := dg_cons (n := 43) hl56
          clear hl56
          obtain ⟨y58, j58, rfl, hl58⟩ := dg_cons (n := 42) hl57
          clear hl57
          obtain ⟨y59, j59, rfl, hl59⟩ := dg_cons (n := 41) hl58
          clear hl58
          obtain ⟨y60, j60, rfl, hl60⟩ := dg_cons (n := 40) hl59
          clear hl59
          obtain ⟨y61, j61, rfl, hl61⟩ := dg_cons (n := 39) hl60
          clear hl60
          obtain ⟨y62, j62, rfl, hl62⟩ := dg_cons (n := 38) hl61
          clear hl61
          obtain ⟨y63, j63, rfl, hl63⟩ := dg_cons (n := 37) hl62
          clear hl62
          obtain ⟨y64, j64, rfl, hl64⟩ := dg_cons (n := 36) hl63
          clear hl63
          obtain ⟨y65, j65, rfl, hl65⟩ := dg_cons (n := 35) hl64
          clear hl64
          obtain ⟨y66, j66, rfl, hl66⟩ := dg_cons (n := 34) hl65
          clear hl65
          obtain ⟨y67, j67, rfl, hl67⟩ := dg_cons (n := 33) hl66
          clear hl66
          obtain ⟨y68, j68, rfl, hl68⟩ := dg_cons (n := 32) hl67
          clear hl67
          obtain ⟨y69, j69, rfl, hl69⟩ := dg_cons (n := 31) hl68
          clear hl68
          obtain ⟨y70, j70, rfl, hl70⟩ := dg_cons (n := 30) hl69
          clear hl69
          obtain ⟨y71, j71, rfl, hl71⟩ := dg_cons (n := 29) hl70
          clear hl70
          obtain ⟨y72, j72, rfl, hl72⟩ := dg_cons (n := 28) hl71
          clear hl71
          obtain ⟨y73, j73, rfl, hl73⟩ := dg_cons (n := 27) hl72
          clear hl72
          obtain ⟨y74, j74, rfl, hl74⟩ := dg_cons (n := 26) hl73
          clear hl73
          obtain ⟨y75, j75, rfl, hl75⟩ := dg_cons (n := 25) hl74
          clear hl74
          obtain ⟨y76, j76, rfl, hl76⟩ := dg_cons (n := 24) hl75
          clear hl75
          obtain ⟨y77, j77, rfl, hl77⟩ := dg_cons (n := 23) hl76
          clear hl76
          obtain ⟨y78, j78, rfl, hl78⟩ := dg_cons (n := 22) hl77
          clear hl77
          obtain ⟨y79, j79, rfl, hl79⟩ := dg_cons (n := 21) hl78
          clear hl78
          obtain ⟨y80, j80, rfl, hl80⟩ := dg_cons (n := 20) hl79
          clear hl79
          obtain ⟨y81, j81, rfl, hl81⟩ := dg_cons (n := 19) hl80
          clear hl80
          obtain ⟨y82, j82, rfl, hl82⟩ := dg_cons (n := 18) hl81
          clear hl81
          obtain ⟨y83, j83, rfl, hl83⟩ := dg_cons (n := 17) hl82
          clear hl82
          obtain ⟨y84, j84, rfl, hl84⟩ := dg_cons (n := 16) hl83
          clear hl83
          obtain ⟨y85, j85, rfl, hl85⟩ := dg_cons (n := 15) hl84
          clear hl84
          obtain ⟨y86, j86, rfl, hl86⟩ := dg_cons (n := 14) hl85
          clear hl85
          obtain ⟨y87, j87, rfl, hl87⟩ := dg_cons (n := 13) hl86
          clear hl86
          obtain ⟨y88, j88, rfl, hl88⟩ := dg_cons (n := 12) hl87
          clear hl87
          obtain ⟨y89, j89, rfl, hl89⟩ := dg_cons (n := 11) hl88
          clear hl88
          obtain ⟨y90, j90, rfl, hl90⟩ := dg_cons (n := 10) hl89
          clear hl89
          obtain ⟨y91, j91, rfl, hl91⟩ := dg_cons (n := 9) hl90
          clear hl90
          obtain ⟨y92, j92, rfl, hl92⟩ := dg_cons (n := 8) hl91
          clear hl91
          obtain ⟨y93, j93, rfl, hl93⟩ := dg_cons (n := 7) hl92
          clear hl92
          obtain ⟨y94, j94, rfl, hl94⟩ := dg_cons (n := 6) hl93
          clear hl93
          obtain ⟨y95, j95, rfl, hl95⟩ := dg_cons (n := 5) hl94
          clear hl94
          obtain ⟨y96, j96, rfl, hl96⟩ := dg_cons (n := 4) hl95
          clear hl95
          obtain ⟨y97, j97, rfl, hl97⟩ := dg_cons (n := 3) hl96
          clear hl96
          obtain ⟨y98, j98, rfl, hl98⟩ := dg_cons (n := 2) hl97
          clear hl97
          obtain ⟨y99, j99, rfl, hl99⟩ := dg_cons (n := 1) hl98
          clear hl98
          obtain ⟨y100, j100, rfl, hl100⟩ := dg_cons (n := 0) hl99
          clear hl99
          obtain rfl := List.eq_nil_of_length_eq_zero hl100
          clear hl100
          have eq9 := hbb 9 (noDst_spec (by kernel_rfl))
          simp only [List.getElem?_toArray, List.getElem?_cons_zero, List.getElem?_cons_succ, Option.some.injEq] at eq9
          subst eq9
          have eq10 := hbb 10 (noDst_spec (by kernel_rfl))
          simp only [List.getElem?_toArray, List.getElem?_cons_zero, List.getElem?_cons_succ, Option.some.injEq] at eq10
          subst eq10
          have eq11 := hbb 11 (noDst_spec (by kernel_rfl))
          simp only [List.getElem?_toArray, List.getElem?_cons_zero, List.getElem?_cons_succ, Option.some.injEq] at eq11
          subst eq11
          obtain rfl : y80 = .bool true := hx80
          obtain rfl : df = [] := hdf
          clear hbb
          refine hK _ W ?_
          have ht : ∀ q : List Value, Array.mk q = List.toArray q := fun _ => rfl
          rw [ht]
          have hbb := DBox.kept HB9.out hC id
          have hTfin := HT9.out.trans hC
          obtain ⟨d0, d1, d2, d3, d4, d5, d6, d7, d8⟩ := DBox.cells hbb
          go_wp2_with fail
          go_ret
          exact ⟨rfl, hTfin⟩
    · as_aux_lemma =>
        have hdd := fun W => hh.dec W
        obtain ⟨hz4, hz3⟩ := hh.size
        have hso := hh.so
        clear hh
        unfold Dg.zero Dg.v Dg.cells at hdd
        simp only at hdd
        have HDD := Lib.hid hdd
        clear hdd
        obtain ⟨m, hm⟩ : ∃ m : Nat, m = T.size - 4 := ⟨_, rfl⟩
        have hmI : (T.size : Int) - 4 = (m : Int) := by omega
        have hm0 : (0 : Int) ≤ (m : Int) := by omega
        have hm1 : (m : Int) ≤ (T.size : Int) := by omega
        have hsq : sumOk T = decide (sealB (T.extract 0 m) = T.extract m T.size) := by unfold sumOk; rw [decide_eq_true hz4, hm]; rfl
        rw [hso] at hsq
        have hTaz : (T.extract 0 m).size ≤ 1000 := by simp; omega
        obtain ⟨Ta, hTa⟩ : ∃ Ta, T.extract 0 m = Ta := ⟨_, rfl⟩
        obtain ⟨Tc, hTc⟩ : ∃ Tc, T.extract m T.size = Tc := ⟨_, rfl⟩
        rw [hTa, hTc] at hsq
        rw [hTa] at hTaz
        have heq := str_eqD (a := sealB Ta) (b := Tc)
        rw [← hsq] at heq
        clear hsq hso
        have hmo := fun W => refmore_calls 0 Ta W (by decide) (by omega)
        have hcl : moreN 0 Ta.data.toList < 4294967296 := moreN_lt 0 _ (by decide)
        have hpu := fun W => rput_calls (moreN 0 Ta.data.toList) 4 W (by decide) (by omega)
        unfold sealB at heq
        generalize lB 4 (moreN 0 Ta.data.toList) = q4 at heq hpu
        generalize moreN 0 Ta.data.toList = cc at hmo hcl hpu
        have HMO := Lib.hid hmo
        have HPU := Lib.hid hpu
        have hwc : IntKind.u64.wrap (cc : Int) = (cc : Int) := by rw [IntKind.wrap_u64]; omega
        clear hmo hpu hm
        go_wp2_with fail
        refine (HDD.out _).mono ?_
        rintro e w8 ⟨rfl, hT8⟩
        have hT08 := hTt.trans hT8
        clear hTt hT8
        go_upto_region 15 with fail
        have hb9 : DBox (w8.alloc (.cells #[.int .i64 0, .int .u32 0, .int .u32 0, .int .u32 0, .int .u64 0, .int .u32 0, .int .u32 0, .bool false, .string ⟨#[]⟩] 42)) w8.heap.size Dg.zero := dg_new w8 _ _ _ _ _ _ _ _ _
        have hT09 := hT08.alloc (.cells #[.int .i64 0, .int .u32 0, .int .u32 0, .int .u32 0, .int .u64 0, .int .u32 0, .int .u32 0, .bool false, .string ⟨#[]⟩] 42)
        generalize w8.alloc (.cells #[.int .i64 0, .int .u32 0, .int .u32 0, .int .u32 0, .int .u64 0, .int .u32 0, .int .u32 0, .bool false, .string ⟨#[]⟩] 42) = w9 at hb9 hT09 ⊢
        generalize w8.heap.size = H9 at hb9 ⊢
        clear hT08
        have HB9 := Lib.hid hb9
        have HT9 := Lib.hid hT09
        clear hb9 hT09
        refine wp_region_inv (fun W => Touch (fun _ => False) w9 W) (fun i v _ => anI T Ta Tc q4 m cc false i v) (by kernel_rfl) (by kernel_rfl) (by kernel_rfl) (Touch.refl _ _).drew ?_ ?_
        · intro i o hi a W hC hbase hdep
          have hlt := op_lt hi
          obtain ⟨hbd, hbs, hbb⟩ := hbase
          have b9 : a.tmps[9]? = some (.string T) := (hbb 9 (noDst_spec (by kernel_rfl))).trans rfl
          have b12 : a.tmps[12]? = some (.int .i64 (m : Nat)) := (hbb 12 (noDst_spec (by kernel_rfl))).trans rfl
          rcases (by simp at hlt; omega : i = 0 ∨ i = 1 ∨ i = 2 ∨ i = 3 ∨ i = 4 ∨ i = 5 ∨ i = 6 ∨ i = 7 ∨ i = 8 ∨ i = 9) with rfl | rfl | rfl | rfl | rfl | rfl | rfl | rfl | rfl | rfl
          · simp only [List.getElem?_toArray, List.getElem?_cons_zero, List.getElem?_cons_succ, Option.some.injEq] at hi
            subst hi
            clear hdep
            refine kp_val (v := .string T) ?_ ⟨_, rfl, rfl, hC, fun _ _ h => h⟩
            simp [execOp, Act.eval, b9]
          · simp only [List.getElem?_toArray, List.getElem?_cons_zero, List.getElem?_cons_succ, Option.some.injEq] at hi
            subst hi
            clear hdep
            refine kp_val (v := .int .i64 (m : Nat)) ?_ ⟨_, rfl, rfl, hC, fun _ _ h => h⟩
            simp [execOp, Act.eval, b12]
          · simp only [List.getElem?_toArray, List.getElem?_cons_zero, List.getElem?_cons_succ, Option.some.injEq] at hi
            subst hi
            simp [Region.binds, valOf, anI] at hdep
            refine kp_val (v := .string Ta) ?_ ⟨_, rfl, rfl, hC, fun _ _ h => h⟩
            simp [execOp, Act.eval, hdep]
            go_simp
            try (intro h9; exfalso; omega)
          · simp only [List.getElem?_toArray, List.getElem?_cons_zero, List.getElem?_cons_succ, Option.some.injEq] at hi
            subst hi
            simp [Region.binds, valOf, anI] at hdep
            refine kp_call0 (f := 26) (args := #[.int .u32 0, .string Ta]) (v := .int .u32 (cc : Nat)) ?_ (HMO.out W) ⟨_, rfl, rfl, hC, fun _ _ h => h⟩
            simp [execOp, resolve, invoke, Act.eval, hdep]
            try rfl
          · simp only [List.getElem?_toArray, List.getElem?_cons_zero, List.getElem?_cons_succ, Option.some.injEq] at hi
            subst hi
            simp [Region.binds, valOf, anI] at hdep
            refine kp_val (v := .int .u64 (cc : Nat)) ?_ ⟨_, rfl, rfl, hC, fun _ _ h => h⟩
            simp [execOp, Act.eval, hdep]
            go_simp
          · simp only [List.getElem?_toArray, List.getElem?_cons_zero, List.getElem?_cons_succ, Option.some.injEq] at hi
            subst hi
            simp [Region.binds, valOf, anI] at hdep
            refine kp_call (f := 25) (args := #[.int .u64 (cc : Nat), .int .i64 4]) (v := .string q4) ?_ (HPU.out W) (fun w' ht => ⟨_, rfl, rfl, hC.trans ht, fun _ _ h => h⟩)
            simp [execOp, resolve, invoke, Act.eval, hdep]
            try rfl
          · simp only [List.getElem?_toArray, List.getElem?_cons_zero, List.getElem?_cons_succ, Option.some.injEq] at hi
            subst hi
            clear hdep
            refine kp_val (v := .string T) ?_ ⟨_, rfl, rfl, hC, fun _ _ h => h⟩
            simp [execOp, Act.eval, b9]
          · simp only [List.getElem?_toArray, List.getElem?_cons_zero, List.getElem?_cons_succ, Option.some.injEq] at hi
            subst hi
            clear hdep
            refine kp_val (v := .int .i64 (m : Nat)) ?_ ⟨_, rfl, rfl, hC, fun _ _ h => h⟩
            simp [execOp, Act.eval, b12]
          · simp only [List.getElem?_toArray, List.getElem?_cons_zero, List.getElem?_cons_succ, Option.some.injEq] at hi
            subst hi
            simp [Region.binds, valOf, anI] at hdep
            refine kp_val (v := .string Tc) ?_ ⟨_, rfl, rfl, hC, fun _ _ h => h⟩
            simp [execOp, Act.eval, hdep]
            go_simp
            try (intro h9; exfalso; omega)
          · simp only [List.getElem?_toArray, List.getElem?_cons_zero, List.getElem?_cons_succ, Option.some.injEq] at hi
            subst hi
            simp [Region.binds, valOf, anI] at hdep
            refine kp_val (v := .bool false) ?_ ⟨_, rfl, rfl, hC, fun _ _ h => h⟩
            simp [execOp, Act.eval, hdep]
            go_simp
        · intro a W hC hbase hall
          have hx80 : a.tmps.getD 80 undef = .bool false := hall 9 _ rfl
          obtain ⟨hbd, hbs, hbb⟩ := hbase
          have hdf : a.defers = [] := hbd
          clear hall hbd
          rename_i hK
          obtain ⟨⟨l9⟩, df⟩ := a
          have hl : l9.length = 101 := hbs
          clear hbs
          obtain ⟨y0, j0, rfl, hl0⟩ := dg_cons (n := 100) hl
          clear hl
          obtain ⟨y1, j1, rfl, hl1⟩ := dg_cons (n := 99) hl0
          clear hl0
          obtain ⟨y2, j2, rfl, hl2⟩ := dg_cons (n := 98) hl1
          clear hl1
          obtain ⟨y3, j3, rfl, hl3⟩ := dg_cons (n := 97) hl2
          clear hl2
          obtain ⟨y4, j4, rfl, hl4⟩ := dg_cons (n := 96) hl3
          clear hl3
          obtain ⟨y5, j5, rfl, hl5⟩ := dg_cons (n := 95) hl4
          clear hl4
          obtain ⟨y6, j6, rfl, hl6⟩ := dg_cons (n := 94) hl5
          clear hl5
          obtain ⟨y7, j7, rfl, hl7⟩ := dg_cons (n := 93) hl6
          clear hl6
          obtain ⟨y8, j8, rfl, hl8⟩ := dg_cons (n := 92) hl7
          clear hl7
          obtain ⟨y9, j9, rfl, hl9⟩ := dg_cons (n := 91) hl8
          clear hl8
          obtain ⟨y10, j10, rfl, hl10⟩ := dg_cons (n := 90) hl9
          clear hl9
          obtain ⟨y11, j11, rfl, hl11⟩ := dg_cons (n := 89) hl10
          clear hl10
          obtain ⟨y12, j12, rfl, hl12⟩ := dg_cons (n := 88) hl11
          clear hl11
          obtain ⟨y13, j13, rfl, hl13⟩ := dg_cons (n := 87) hl12
          clear hl12
          obtain ⟨y14, j14, rfl, hl14⟩ := dg_cons (n := 86) hl13
          clear hl13
          obtain ⟨y15, j15, rfl, hl15⟩ := dg_cons (n := 85) hl14
          clear hl14
          obtain ⟨y16, j16, rfl, hl16⟩ := dg_cons (n := 84) hl15
          clear hl15
          obtain ⟨y17, j17, rfl, hl17⟩ := dg_cons (n := 83) hl16
          clear hl16
          obtain ⟨y18, j18, rfl, hl18⟩ := dg_cons (n := 82) hl17
          clear hl17
          obtain ⟨y19, j19, rfl, hl19⟩ := dg_cons (n := 81) hl18
          clear hl18
          obtain ⟨y20, j20, rfl, hl20⟩ := dg_cons (n := 80) hl19
          clear hl19
          obtain ⟨y21, j21, rfl, hl21⟩ := dg_cons (n := 79) hl20
          clear hl20
          obtain ⟨y22, j22, rfl, hl22⟩ := dg_cons (n := 78) hl21
          clear hl21
          obtain ⟨y23, j23, rfl, hl23⟩ := dg_cons (n := 77) hl22
          clear hl22
          obtain ⟨y24, j24, rfl, hl24⟩ := dg_cons (n := 76) hl23
          clear hl23
          obtain ⟨y25, j25, rfl, hl25⟩ := dg_cons (n := 75) hl24
          clear hl24
          obtain ⟨y26, j26, rfl, hl26⟩ := dg_cons (n := 74) hl25
          clear hl25
          obtain ⟨y27, j27, rfl, hl27⟩ := dg_cons (n := 73) hl26
          clear hl26
          obtain ⟨y28, j28, rfl, hl28⟩ := dg_cons (n := 72) hl27
          clear hl27
          obtain ⟨y29, j29, rfl, hl29⟩ := dg_cons (n := 71) hl28
          clear hl28
          obtain ⟨y30, j30, rfl, hl30⟩ := dg_cons (n := 70) hl29
          clear hl29
          obtain ⟨y31, j31, rfl, hl31⟩ := dg_cons (n := 69) hl30
          clear hl30
          obtain ⟨y32, j32, rfl, hl32⟩ := dg_cons (n := 68) hl31
          clear hl31
          obtain ⟨y33, j33, rfl, hl33⟩ := dg_cons (n := 67) hl32
          clear hl32
          obtain ⟨y34, j34, rfl, hl34⟩ := dg_cons (n := 66) hl33
          clear hl33
          obtain ⟨y35, j35, rfl, hl35⟩ := dg_cons (n := 65) hl34
          clear hl34
          obtain ⟨y36, j36, rfl, hl36⟩ := dg_cons (n := 64) hl35
          clear hl35
          obtain ⟨y37, j37, rfl, hl37⟩ := dg_cons (n := 63) hl36
          clear hl36
          obtain ⟨y38, j38, rfl, hl38⟩ := dg_cons (n := 62) hl37
          clear hl37
          obtain ⟨y39, j39, rfl, hl39⟩ := dg_cons (n := 61) hl38
          clear hl38
          obtain ⟨y40, j40, rfl, hl40⟩ := dg_cons (n := 60) hl39
          clear hl39
          obtain ⟨y41, j41, rfl, hl41⟩ := dg_cons (n := 59) hl40
          clear hl40
          obtain ⟨y42, j42, rfl, hl42⟩ := dg_cons (n := 58) hl41
          clear hl41
          obtain ⟨y43, j43, rfl, hl43⟩ := dg_cons (n := 57) hl42
          clear hl42
          obtain ⟨y44, j44, rfl, hl44⟩ := dg_cons (n := 56) hl43
          clear hl43
          obtain ⟨y45, j45, rfl, hl45⟩ := dg_cons (n := 55) hl44
          clear hl44
          obtain ⟨y46, j46, rfl, hl46⟩ := dg_cons (n := 54) hl45
          clear hl45
          obtain ⟨y47, j47, rfl, hl47⟩ := dg_cons (n := 53) hl46
          clear hl46
          obtain ⟨y48, j48, rfl, hl48⟩ := dg_cons (n := 52) hl47
          clear hl47
          obtain ⟨y49, j49, rfl, hl49⟩ := dg_cons (n := 51) hl48
          clear hl48
          obtain ⟨y50, j50, rfl, hl50⟩ := dg_cons (n := 50) hl49
          clear hl49
          obtain ⟨y51, j51, rfl, hl51⟩ := dg_cons (n := 49) hl50
          clear hl50
          obtain ⟨y52, j52, rfl, hl52⟩ := dg_cons (n := 48) hl51
          clear hl51
          obtain ⟨y53, j53, rfl, hl53⟩ := dg_cons (n := 47) hl52
          clear hl52
          obtain ⟨y54, j54, rfl, hl54⟩ := dg_cons (n := 46) hl53
          clear hl53
          obtain ⟨y55, j55, rfl, hl55⟩ := dg_cons (n := 45) hl54
          clear hl54
          obtain ⟨y56, j56, rfl, hl56⟩ := dg_cons (n := 44) hl55
          clear hl55
          obtain ⟨y57, j57, rfl, hl57⟩ := dg_cons (n := 43) hl56
          clear hl56
          obtain ⟨y58, j58, rfl, hl58⟩ := dg_cons (n := 42) hl57
          clear hl57
          obtain ⟨y59, j59, rfl, hl59⟩ := dg_cons (n := 41) hl58
          clear hl58
          obtain ⟨y60, j60, rfl, hl60⟩ := dg_cons (n := 40) hl59
          clear hl59
          obtain ⟨y61, j61, rfl, hl61⟩ := dg_cons (n := 39) hl60
          clear hl60
          obtain ⟨y62, j62, rfl, hl62⟩ := dg_cons (n := 38) hl61
          clear hl61
          obtain ⟨y63, j63, rfl, hl63⟩ := dg_cons (n := 37) hl62
          clear hl62
          obtain ⟨y64, j64, rfl, hl64⟩ := dg_cons (n := 36) hl63
          clear hl63
          obtain ⟨y65, j65, rfl, hl65⟩ := dg_cons (n := 35) hl64
          clear hl64
          obtain ⟨y66, j66, rfl, hl66⟩ := dg_cons (n := 34) hl65
          clear hl65
          obtain ⟨y67, j67, rfl, hl67⟩ := dg_cons (n := 33) hl66
          clear hl66
          obtain ⟨y68, j68, rfl, hl68⟩ := dg_cons (n := 32) hl67
          clear hl67
          obtain ⟨y69, j69, rfl, hl69⟩ := dg_cons (n := 31) hl68
          clear hl68
          obtain ⟨y70, j70, rfl, hl70⟩ := dg_cons (n := 30) hl69
          clear hl69
          obtain ⟨y71, j71, rfl, hl71⟩ := dg_cons (n := 29) hl70
          clear hl70
          obtain ⟨y72, j72, rfl, hl72⟩ := dg_cons (n := 28) hl71
          clear hl71
          obtain ⟨y73, j73, rfl, hl73⟩ := dg_cons (n := 27) hl72
          clear hl72
          obtain ⟨y74, j74, rfl, hl74⟩ := dg_cons (n := 26) hl73
          clear hl73
          obtain ⟨y75, j75, rfl, hl75⟩ := dg_cons (n := 25) hl74
          clear hl74
          obtain ⟨y76, j76, rfl, hl76⟩ := dg_cons (n := 24) hl75
          clear hl75
          obtain ⟨y77, j77, rfl, hl77⟩ := dg_cons (n := 23) hl76
          clear hl76
          obtain ⟨y78, j78, rfl, hl78⟩ := dg_cons (n := 22) hl77
          clear hl77
          obtain ⟨y79, j79, rfl, hl79⟩ := dg_cons (n := 21) hl78
          clear hl78
          obtain ⟨y80, j80, rfl, hl80⟩ := dg_cons (n := 20) hl79
          clear hl79
          obtain ⟨y81, j81, rfl, hl81⟩ := dg_cons (n := 19) hl80
          clear hl80
          obtain ⟨y82, j82, rfl, hl82⟩ := dg_cons (n := 18) hl81
          clear hl81
          obtain ⟨y83, j83, rfl, hl83⟩ := dg_cons (n := 17) hl82
          clear hl82
          obtain ⟨y84, j84, rfl, hl84⟩ := dg_cons (n := 16) hl83
          clear hl83
          obtain ⟨y85, j85, rfl, hl85⟩ := dg_cons (n := 15) hl84
          clear hl84
          obtain ⟨y86, j86, rfl, hl86⟩ := dg_cons (n := 14) hl85
          clear hl85
          obtain ⟨y87, j87, rfl, hl87⟩ := dg_cons (n := 13) hl86
          clear hl86
          obtain ⟨y88, j88, rfl, hl88⟩ := dg_cons (n := 12) hl87
          clear hl87
          obtain ⟨y89, j89, rfl, hl89⟩ := dg_cons (n := 11) hl88
          clear hl88
          obtain ⟨y90, j90, rfl, hl90⟩ := dg_cons (n := 10) hl89
          clear hl89
          obtain ⟨y91, j91, rfl, hl91⟩ := dg_cons (n := 9) hl90
          clear hl90
          obtain ⟨y92, j92, rfl, hl92⟩ := dg_cons (n := 8) hl91
          clear hl91
          obtain ⟨y93, j93, rfl, hl93⟩ := dg_cons (n := 7) hl92
          clear hl92
          obtain ⟨y94, j94, rfl, hl94⟩ := dg_cons (n := 6) hl93
          clear hl93
          obtain ⟨y95, j95, rfl, hl95⟩ := dg_cons (n := 5) hl94
          clear hl94
          obtain ⟨y96, j96, rfl, hl96⟩ := dg_cons (n := 4) hl95
          clear hl95
          obtain ⟨y97, j97, rfl, hl97⟩ := dg_cons (n := 3) hl96
          clear hl96
          obtain ⟨y98, j98, rfl, hl98⟩ := dg_cons (n := 2) hl97
          clear hl97
          obtain ⟨y99, j99, rfl, hl99⟩ := dg_cons (n := 1) hl98
          clear hl98
          obtain ⟨y100, j100, rfl, hl100⟩ := dg_cons (n := 0) hl99
          clear hl99
          obtain rfl := List.eq_nil_of_length_eq_zero hl100
          clear hl100
          have eq9 := hbb 9 (noDst_spec (by kernel_rfl))
          simp only [List.getElem?_toArray, List.getElem?_cons_zero, List.getElem?_cons_succ, Option.some.injEq] at eq9
          subst eq9
          have eq10 := hbb 10 (noDst_spec (by kernel_rfl))
          simp only [List.getElem?_toArray, List.getElem?_cons_zero, List.getElem?_cons_succ, Option.some.injEq] at eq10
          subst eq10
          have eq11 := hbb 11 (noDst_spec (by kernel_rfl))
          simp only [List.getElem?_toArray, List.getElem?_cons_zero, List.getElem?_cons_succ, Option.some.injEq] at eq11
          subst eq11
          obtain rfl : y80 = .bool false := hx80
          obtain rfl : df = [] := hdf
          clear hbb
          refine hK _ W ?_
          have ht : ∀ q : List Value, Array.mk q = List.toArray q := fun _ => rfl
          rw [ht]
          have hbb := DBox.kept HB9.out hC id
          have hTfin := HT9.out.trans hC
          obtain ⟨d0, d1, d2, d3, d4, d5, d6, d7, d8⟩ := DBox.cells hbb
          go_wp2_with fail
          go_ret
          exact ⟨rfl, hTfin⟩
    · as_aux_lemma =>
        obtain ⟨rk, r1, r2, r3, r4, r5, r6, r7, r8⟩ := dd
        have hre := fun W => rencode_calls _ hh.enc W
        rw [hen] at hre
        unfold Dg.v Dg.cells at hre
        simp only at hre
        have HRE := Lib.hid hre
        clear hre hen
        have hdd := fun W => hh.dec W
        obtain ⟨hz4, hz3⟩ := hh.size
        have hso := hh.so
        clear hh
        unfold Dg.v Dg.cells at hdd
        simp only at hdd
        have HDD := Lib.hid hdd
        clear hdd
        obtain ⟨m, hm⟩ : ∃ m : Nat, m = T.size - 4 := ⟨_, rfl⟩
        have hmI : (T.size : Int) - 4 = (m : Int) := by omega
        have hm0 : (0 : Int) ≤ (m : Int) := by omega
        have hm1 : (m : Int) ≤ (T.size : Int) := by omega
        have hsq : sumOk T = decide (sealB (T.extract 0 m) = T.extract m T.size) := by unfold sumOk; rw [decide_eq_true hz4, hm]; rfl
        rw [hso] at hsq
        have hTaz : (T.extract 0 m).size ≤ 1000 := by simp; omega
        obtain ⟨Ta, hTa⟩ : ∃ Ta, T.extract 0 m = Ta := ⟨_, rfl⟩
        obtain ⟨Tc, hTc⟩ : ∃ Tc, T.extract m T.size = Tc := ⟨_, rfl⟩
        rw [hTa, hTc] at hsq
        rw [hTa] at hTaz
        have heq := str_eqD (a := sealB Ta) (b := Tc)
        rw [← hsq] at heq
        clear hsq hso
        have hmo := fun W => refmore_calls 0 Ta W (by decide) (by omega)
        have hcl : moreN 0 Ta.data.toList < 4294967296 := moreN_lt 0 _ (by decide)
        have hpu := fun W => rput_calls (moreN 0 Ta.data.toList) 4 W (by decide) (by omega)
        unfold sealB at heq
        generalize lB 4 (moreN 0 Ta.data.toList) = q4 at heq hpu
        generalize moreN 0 Ta.data.toList = cc at hmo hcl hpu
        have HMO := Lib.hid hmo
        have HPU := Lib.hid hpu
        have hwc : IntKind.u64.wrap (cc : Int) = (cc : Int) := by rw [IntKind.wrap_u64]; omega
        clear hmo hpu hm
        go_wp2_with fail
        refine (HDD.out _).mono ?_
        rintro e w8 ⟨rfl, hT8⟩
        have hT08 := hTt.trans hT8
        clear hTt hT8
        go_upto_region 15 with fail
        have hb9 : DBox (w8.alloc (.cells #[.int .i64 rk, .int .u32 r1, .int .u32 r2, .int .u32 r3, .int .u64 r4, .int .u32 r5, .int .u32 r6, .bool r7, .string r8] 42)) w8.heap.size ⟨rk, r1, r2, r3, r4, r5, r6, r7, r8⟩ := dg_new w8 _ _ _ _ _ _ _ _ _
        have hT09 := hT08.alloc (.cells #[.int .i64 rk, .int .u32 r1, .int .u32 r2, .int .u32 r3, .int .u64 r4, .int .u32 r5, .int .u32 r6, .bool r7, .string r8] 42)
        generalize w8.alloc (.cells #[.int .i64 rk, .int .u32 r1, .int .u32 r2, .int .u32 r3, .int .u64 r4, .int .u32 r5, .int .u32 r6, .bool r7, .string r8] 42) = w9 at hb9 hT09 ⊢
        generalize w8.heap.size = H9 at hb9 ⊢
        clear hT08
        have HB9 := Lib.hid hb9
        have HT9 := Lib.hid hT09
        clear hb9 hT09
        refine wp_region_inv (fun W => Touch (fun _ => False) w9 W) (fun i v _ => anI T Ta Tc q4 m cc false i v) (by kernel_rfl) (by kernel_rfl) (by kernel_rfl) (Touch.refl _ _).drew ?_ ?_
        · intro i o hi a W hC hbase hdep
          have hlt := op_lt hi
          obtain ⟨hbd, hbs, hbb⟩ := hbase
          have b9 : a.tmps[9]? = some (.string T) := (hbb 9 (noDst_spec (by kernel_rfl))).trans rfl
          have b12 : a.tmps[12]? = some (.int .i64 (m : Nat)) := (hbb 12 (noDst_spec (by kernel_rfl))).trans rfl
          rcases (by simp at hlt; omega : i = 0 ∨ i = 1 ∨ i = 2 ∨ i = 3 ∨ i = 4 ∨ i = 5 ∨ i = 6 ∨ i = 7 ∨ i = 8 ∨ i = 9) with rfl | rfl | rfl | rfl | rfl | rfl | rfl | rfl | rfl | rfl
          · simp only [List.getElem?_toArray, List.getElem?_cons_zero, List.getElem?_cons_succ, Option.some.injEq] at hi
            subst hi
            clear hdep
            refine kp_val (v := .string T) ?_ ⟨_, rfl, rfl, hC, fun _ _ h => h⟩
            simp [execOp, Act.eval, b9]
          · simp only [List.getElem?_toArray, List.getElem?_cons_zero, List.getElem?_cons_succ, Option.some.injEq] at hi
            subst hi
            clear hdep
            refine kp_val (v := .int .i64 (m : Nat)) ?_ ⟨_, rfl, rfl, hC, fun _ _ h => h⟩
            simp [execOp, Act.eval, b12]
          · simp only [List.getElem?_toArray, List.getElem?_cons_zero, List.getElem?_cons_succ, Option.some.injEq] at hi
            subst hi
            simp [Region.binds, valOf, anI] at hdep
            refine kp_val (v := .string Ta) ?_ ⟨_, rfl, rfl, hC, fun _ _ h => h⟩
            simp [execOp, Act.eval, hdep]
            go_simp
            try (intro h9; exfalso; omega)
          · simp only [List.getElem?_toArray, List.getElem?_cons_zero, List.getElem?_cons_succ, Option.some.injEq] at hi
            subst hi
            simp [Region.binds, valOf, anI] at hdep
            refine kp_call0 (f := 26) (args := #[.int .u32 0, .string Ta]) (v := .int .u32 (cc : Nat)) ?_ (HMO.out W) ⟨_, rfl, rfl, hC, fun _ _ h => h⟩
            simp [execOp, resolve, invoke, Act.eval, hdep]
            try rfl
          · simp only [List.getElem?_toArray, List.getElem?_cons_zero, List.getElem?_cons_succ, Option.some.injEq] at hi
            subst hi
            simp [Region.binds, valOf, anI] at hdep
            refine kp_val (v := .int .u64 (cc : Nat)) ?_ ⟨_, rfl, rfl, hC, fun _ _ h => h⟩
            simp [execOp, Act.eval, hdep]
            go_simp
          · simp only [List.getElem?_toArray, List.getElem?_cons_zero, List.getElem?_cons_succ, Option.some.injEq] at hi
            subst hi
            simp [Region.binds, valOf, anI] at hdep
            refine kp_call (f := 25) (args := #[.int .u64 (cc : Nat), .int .i64 4]) (v := .string q4) ?_ (HPU.out W) (fun w' ht => ⟨_, rfl, rfl, hC.trans ht, fun _ _ h => h⟩)
            simp [execOp, resolve, invoke, Act.eval, hdep]
            try rfl
          · simp only [List.getElem?_toArray, List.getElem?_cons_zero, List.getElem?_cons_succ, Option.some.injEq] at hi
            subst hi
            clear hdep
            refine kp_val (v := .string T) ?_ ⟨_, rfl, rfl, hC, fun _ _ h => h⟩
            simp [execOp, Act.eval, b9]
          · simp only [List.getElem?_toArray, List.getElem?_cons_zero, List.getElem?_cons_succ, Option.some.injEq] at hi
            subst hi
            clear hdep
            refine kp_val (v := .int .i64 (m : Nat)) ?_ ⟨_, rfl, rfl, hC, fun _ _ h => h⟩
            simp [execOp, Act.eval, b12]
          · simp only [List.getElem?_toArray, List.getElem?_cons_zero, List.getElem?_cons_succ, Option.some.injEq] at hi
            subst hi
            simp [Region.binds, valOf, anI] at hdep
            refine kp_val (v := .string Tc) ?_ ⟨_, rfl, rfl, hC, fun _ _ h => h⟩
            simp [execOp, Act.eval, hdep]
            go_simp
            try (intro h9; exfalso; omega)
          · simp only [List.getElem?_toArray, List.getElem?_cons_zero, List.getElem?_cons_succ, Option.some.injEq] at hi
            subst hi
            simp [Region.binds, valOf, anI] at hdep
            refine kp_val (v := .bool false) ?_ ⟨_, rfl, rfl, hC, fun _ _ h => h⟩
            simp [execOp, Act.eval, hdep]
            go_simp
        · intro a W hC hbase hall
          have hx80 : a.tmps.getD 80 undef = .bool false := hall 9 _ rfl
          obtain ⟨hbd, hbs, hbb⟩ := hbase
          have hdf : a.defers = [] := hbd
          clear hall hbd
          rename_i hK
          obtain ⟨⟨l9⟩, df⟩ := a
          have hl : l9.length = 101 := hbs
          clear hbs
          obtain ⟨y0, j0, rfl, hl0⟩ := dg_cons (n := 100) hl
          clear hl
          obtain ⟨y1, j1, rfl, hl1⟩ := dg_cons (n := 99) hl0
          clear hl0
          obtain ⟨y2, j2, rfl, hl2⟩ := dg_cons (n := 98) hl1
          clear hl1
          obtain ⟨y3, j3, rfl, hl3⟩ := dg_cons (n := 97) hl2
          clear hl2
          obtain ⟨y4, j4, rfl, hl4⟩ := dg_cons (n := 96) hl3
          clear hl3
          obtain ⟨y5, j5, rfl, hl5⟩ := dg_cons (n := 95) hl4
          clear hl4
          obtain ⟨y6, j6, rfl, hl6⟩ := dg_cons (n := 94) hl5
          clear hl5
          obtain ⟨y7, j7, rfl, hl7⟩ := dg_cons (n := 93) hl6
          clear hl6
          obtain ⟨y8, j8, rfl, hl8⟩ := dg_cons (n := 92) hl7
          clear hl7
          obtain ⟨y9, j9, rfl, hl9⟩ := dg_cons (n := 91) hl8
          clear hl8
          obtain ⟨y10, j10, rfl, hl10⟩ := dg_cons (n := 90) hl9
          clear hl9
          obtain ⟨y11, j11, rfl, hl11⟩ := dg_cons (n := 89) hl10
          clear hl10
          obtain ⟨y12, j12, rfl, hl12⟩ := dg_cons (n := 88) hl11
          clear hl11
          obtain ⟨y13, j13, rfl, hl13⟩ := dg_cons (n := 87) hl12
          clear hl12
          obtain ⟨y14, j14, rfl, hl14⟩ := dg_cons (n := 86) hl13
          clear hl13
          obtain ⟨y15, j15, rfl, hl15⟩ := dg_cons (n := 85) hl14
          clear hl14
          obtain ⟨y16, j16, rfl, hl16⟩ := dg_cons (n := 84) hl15
          clear hl15
          obtain ⟨y17, j17, rfl, hl17⟩ := dg_cons (n := 83) hl16
          clear hl16
          obtain ⟨y18, j18, rfl, hl18⟩ := dg_cons (n := 82) hl17
          clear hl17
          obtain ⟨y19, j19, rfl, hl19⟩ := dg_cons (n := 81) hl18
          clear hl18
          obtain ⟨y20, j20, rfl, hl20⟩ := dg_cons (n := 80) hl19
          clear hl19
          obtain ⟨y21, j21, rfl, hl21⟩ := dg_cons (n := 79) hl20
          clear hl20
          obtain ⟨y22, j22, rfl, hl22⟩ := dg_cons (n := 78) hl21
          clear hl21
          obtain ⟨y23, j23, rfl, hl23⟩ := dg_cons (n := 77) hl22
          clear hl22
          obtain ⟨y24, j24, rfl, hl24⟩ := dg_cons (n := 76) hl23
          clear hl23
          obtain ⟨y25, j25, rfl, hl25⟩ := dg_cons (n := 75) hl24
          clear hl24
          obtain ⟨y26, j26, rfl, hl26⟩ := dg_cons (n := 74) hl25
          clear hl25
          obtain ⟨y27, j27, rfl, hl27⟩ := dg_cons (n := 73) hl26
          clear hl26
          obtain ⟨y28, j28, rfl, hl28⟩ := dg_cons (n := 72) hl27
          clear hl27
          obtain ⟨y29, j29, rfl, hl29⟩ := dg_cons (n := 71) hl28
          clear hl28
          obtain ⟨y30, j30, rfl, hl30⟩ := dg_cons (n := 70) hl29
          clear hl29
          obtain ⟨y31, j31, rfl, hl31⟩ := dg_cons (n := 69) hl30
          clear hl30
          obtain ⟨y32, j32, rfl, hl32⟩ := dg_cons (n := 68) hl31
          clear hl31
          obtain ⟨y33, j33, rfl, hl33⟩ := dg_cons (n := 67) hl32
          clear hl32
          obtain ⟨y34, j34, rfl, hl34⟩ := dg_cons (n := 66) hl33
          clear hl33
          obtain ⟨y35, j35, rfl, hl35⟩ := dg_cons (n := 65) hl34
          clear hl34
          obtain ⟨y36, j36, rfl, hl36⟩ := dg_cons (n := 64) hl35
          clear hl35
          obtain ⟨y37, j37, rfl, hl37⟩ := dg_cons (n := 63) hl36
          clear hl36
          obtain ⟨y38, j38, rfl, hl38⟩ := dg_cons (n := 62) hl37
          clear hl37
          obtain ⟨y39, j39, rfl, hl39⟩ := dg_cons (n := 61) hl38
          clear hl38
          obtain ⟨y40, j40, rfl, hl40⟩ := dg_cons (n := 60) hl39
          clear hl39
          obtain ⟨y41, j41, rfl, hl41⟩ := dg_cons (n := 59) hl40
          clear hl40
          obtain ⟨y42, j42, rfl, hl42⟩ := dg_cons (n := 58) hl41
          clear hl41
          obtain ⟨y43, j43, rfl, hl43⟩ := dg_cons (n := 57) hl42
          clear hl42
          obtain ⟨y44, j44, rfl, hl44⟩ := dg_cons (n := 56) hl43
          clear hl43
          obtain ⟨y45, j45, rfl, hl45⟩ := dg_cons (n := 55) hl44
          clear hl44
          obtain ⟨y46, j46, rfl, hl46⟩ := dg_cons (n := 54) hl45
          clear hl45
          obtain ⟨y47, j47, rfl, hl47⟩ := dg_cons (n := 53) hl46
          clear hl46
          obtain ⟨y48, j48, rfl, hl48⟩ := dg_cons (n := 52) hl47
          clear hl47
          obtain ⟨y49, j49, rfl, hl49⟩ := dg_cons (n := 51) hl48
          clear hl48
          obtain ⟨y50, j50, rfl, hl50⟩ := dg_cons (n := 50) hl49
          clear hl49
          obtain ⟨y51, j51, rfl, hl51⟩ := dg_cons (n := 49) hl50
          clear hl50
          obtain ⟨y52, j52, rfl, hl52⟩ := dg_cons (n := 48) hl51
          clear hl51
          obtain ⟨y53, j53, rfl, hl53⟩ := dg_cons (n := 47) hl52
          clear hl52
          obtain ⟨y54, j54, rfl, hl54⟩ := dg_cons (n := 46) hl53
          clear hl53
          obtain ⟨y55, j55, rfl, hl55⟩ := dg_cons (n := 45) hl54
          clear hl54
          obtain ⟨y56, j56, rfl, hl56⟩ := dg_cons (n := 44) hl55
          clear hl55
          obtain ⟨y57, j57, rfl, hl57⟩ := dg_cons (n := 43) hl56
          clear hl56
          obtain ⟨y58, j58, rfl, hl58⟩ := dg_cons (n := 42) hl57
          clear hl57
          obtain ⟨y59, j59, rfl, hl59⟩ := dg_cons (n := 41) hl58
          clear hl58
          obtain ⟨y60, j60, rfl, hl60⟩ := dg_cons (n := 40) hl59
          clear hl59
          obtain ⟨y61, j61, rfl, hl61⟩ := dg_cons (n := 39) hl60
          clear hl60
          obtain ⟨y62, j62, rfl, hl62⟩ := dg_cons (n := 38) hl61
          clear hl61
          obtain ⟨y63, j63, rfl, hl63⟩ := dg_cons (n := 37) hl62
          clear hl62
          obtain ⟨y64, j64, rfl, hl64⟩ := dg_cons (n := 36) hl63
          clear hl63
          obtain ⟨y65, j65, rfl, hl65⟩ := dg_cons (n := 35) hl64
          clear hl64
          obtain ⟨y66, j66, rfl, hl66⟩ := dg_cons (n := 34) hl65
          clear hl65
          obtain ⟨y67, j67, rfl, hl67⟩ := dg_cons (n := 33) hl66
          clear hl66
          obtain ⟨y68, j68, rfl, hl68⟩ := dg_cons (n := 32) hl67
          clear hl67
          obtain ⟨y69, j69, rfl, hl69⟩ := dg_cons (n := 31) hl68
          clear hl68
          obtain ⟨y70, j70, rfl, hl70⟩ := dg_cons (n := 30) hl69
          clear hl69
          obtain ⟨y71, j71, rfl, hl71⟩ := dg_cons (n := 29) hl70
          clear hl70
          obtain ⟨y72, j72, rfl, hl72⟩ := dg_cons (n := 28) hl71
          clear hl71
          obtain ⟨y73, j73, rfl, hl73⟩ := dg_cons (n := 27) hl72
          clear hl72
          obtain ⟨y74, j74, rfl, hl74⟩ := dg_cons (n := 26) hl73
          clear hl73
          obtain ⟨y75, j75, rfl, hl75⟩ := dg_cons (n := 25) hl74
          clear hl74
          obtain ⟨y76, j76, rfl, hl76⟩ := dg_cons (n := 24) hl75
          clear hl75
          obtain ⟨y77, j77, rfl, hl77⟩ := dg_cons (n := 23) hl76
          clear hl76
          obtain ⟨y78, j78, rfl, hl78⟩ := dg_cons (n := 22) hl77
          clear hl77
          obtain ⟨y79, j79, rfl, hl79⟩ := dg_cons (n := 21) hl78
          clear hl78
          obtain ⟨y80, j80, rfl, hl80⟩ := dg_cons (n := 20) hl79
          clear hl79
          obtain ⟨y81, j81, rfl, hl81⟩ := dg_cons (n := 19) hl80
          clear hl80
          obtain ⟨y82, j82, rfl, hl82⟩ := dg_cons (n := 18) hl81
          clear hl81
          obtain ⟨y83, j83, rfl, hl83⟩ := dg_cons (n := 17) hl82
          clear hl82
          obtain ⟨y84, j84, rfl, hl84⟩ := dg_cons (n := 16) hl83
          clear hl83
          obtain ⟨y85, j85, rfl, hl85⟩ := dg_cons (n := 15) hl84
          clear hl84
          obtain ⟨y86, j86, rfl, hl86⟩ := dg_cons (n := 14) hl85
          clear hl85
          obtain ⟨y87, j87, rfl, hl87⟩ := dg_cons (n := 13) hl86
          clear hl86
          obtain ⟨y88, j88, rfl, hl88⟩ := dg_cons (n := 12) hl87
          clear hl87
          obtain ⟨y89, j89, rfl, hl89⟩ := dg_cons (n := 11) hl88
          clear hl88
          obtain ⟨y90, j90, rfl, hl90⟩ := dg_cons (n := 10) hl89
          clear hl89
          obtain ⟨y91, j91, rfl, hl91⟩ := dg_cons (n := 9) hl90
          clear hl90
          obtain ⟨y92, j92, rfl, hl92⟩ := dg_cons (n := 8) hl91
          clear hl91
          obtain ⟨y93, j93, rfl, hl93⟩ := dg_cons (n := 7) hl92
          clear hl92
          obtain ⟨y94, j94, rfl, hl94⟩ := dg_cons (n := 6) hl93
          clear hl93
          obtain ⟨y95, j95, rfl, hl95⟩ := dg_cons (n := 5) hl94
          clear hl94
          obtain ⟨y96, j96, rfl, hl96⟩ := dg_cons (n := 4) hl95
          clear hl95
          obtain ⟨y97, j97, rfl, hl97⟩ := dg_cons (n := 3) hl96
          clear hl96
          obtain ⟨y98, j98, rfl, hl98⟩ := dg_cons (n := 2) hl97
          clear hl97
          obtain ⟨y99, j99, rfl, hl99⟩ := dg_cons (n := 1) hl98
          clear hl98
          obtain ⟨y100, j100, rfl, hl100⟩ := dg_cons (n := 0) hl99
          clear hl99
          obtain rfl := List.eq_nil_of_length_eq_zero hl100
          clear hl100
          have eq9 := hbb 9 (noDst_spec (by kernel_rfl))
          simp only [List.getElem?_toArray, List.getElem?_cons_zero, List.getElem?_cons_succ, Option.some.injEq] at eq9
          subst eq9
          have eq10 := hbb 10 (noDst_spec (by kernel_rfl))
          simp only [List.getElem?_toArray, List.getElem?_cons_zero, List.getElem?_cons_succ, Option.some.injEq] at eq10
          subst eq10
          have eq11 := hbb 11 (noDst_spec (by kernel_rfl))
          simp only [List.getElem?_toArray, List.getElem?_cons_zero, List.getElem?_cons_succ, Option.some.injEq] at eq11
          subst eq11
          obtain rfl : y80 = .bool false := hx80
          obtain rfl : df = [] := hdf
          clear hbb
          refine hK _ W ?_
          have ht : ∀ q : List Value, Array.mk q = List.toArray q := fun _ => rfl
          rw [ht]
          have hbb := DBox.kept HB9.out hC id
          have hTfin := HT9.out.trans hC
          obtain ⟨d0, d1, d2, d3, d4, d5, d6, d7, d8⟩ := DBox.cells hbb
          go_wp2_with fail
          refine (HRE.out _).mono ?_
          rintro e wz ⟨rfl, hTz⟩
          go_wp2_with fail
          go_ret
          exact ⟨rfl, hTfin.trans hTz⟩
  · obtain ⟨u, hu⟩ : ∃ u : Nat, u = z - 4 := ⟨_, rfl⟩
    have huI : (E.size : Int) - 4 = (u : Int) := by omega
    have hu0 : (0 : Int) ≤ (u : Int) := by omega
    have hu1 : (u : Int) ≤ (E.size : Int) := by omega
    obtain ⟨E1, hE1⟩ : ∃ E1, E.extract 0 u = E1 := ⟨_, rfl⟩
    have hE1z : E1.size = u := by rw [← hE1]; simp; omega
    have hmo1 := fun W => refmore_calls 0 E1 W (by decide) (by omega)
    have hcl1 : moreN 0 E1.data.toList < 4294967296 := moreN_lt 0 _ (by decide)
    have hpu1 := fun W => rput_calls (moreN 0 E1.data.toList) 4 W (by decide) (by omega)
    have hx1 := lB_size 4 (moreN 0 E1.data.toList)
    generalize lB 4 (moreN 0 E1.data.toList) = x1 at hpu1 hx1
    generalize moreN 0 E1.data.toList = c1 at hmo1 hcl1 hpu1
    have HMO1 := Lib.hid hmo1
    have HPU1 := Lib.hid hpu1
    have hE1b : E1.size ≤ 290 := by omega
    have hub : u ≤ 290 := by omega
    have HE1Z := Lib.hid hE1z
    clear hmo1 hpu1 hu hEz hz6 hE1z
    go_wp2_with fail
    refine (HMO1.out _).mono ?_
    rintro e w7 ⟨rfl, rfl⟩
    go_wp2_with fail
    refine (HPU1.out _).mono ?_
    rintro e w7 ⟨rfl, hT7⟩
    have hTt := hT06.trans hT7
    clear hT06 hT7
    go_upto_region 13 with fail
    have hTz : (E1 ++ x1).size = u + 4 := by rw [ByteArray.size_append, HE1Z.out, hx1]
    have hT4 : 4 ≤ (E1 ++ x1).size := by omega
    have hT3 : (E1 ++ x1).size ≤ 300 := by omega
    generalize E1 ++ x1 = T at hTz hT4 hT3 ⊢
    clear hTz
    rcases heard_any T hT4 hT3 with hh | hh | ⟨dd, hh, hen⟩
    · as_aux_lemma =>
        have hdd := fun W => hh.dec W
        obtain ⟨hz4, hz3⟩ := hh.size
        have hso := hh.so
        clear hh
        unfold Dg.zero Dg.v Dg.cells at hdd
        simp only at hdd
        have HDD := Lib.hid hdd
        clear hdd
        obtain ⟨m, hm⟩ : ∃ m : Nat, m = T.size - 4 := ⟨_, rfl⟩
        have hmI : (T.size : Int) - 4 = (m : Int) := by omega
        have hm0 : (0 : Int) ≤ (m : Int) := by omega
        have hm1 : (m : Int) ≤ (T.size : Int) := by omega
        have hsq : sumOk T = decide (sealB (T.extract 0 m) = T.extract m T.size) := by unfold sumOk; rw [decide_eq_true hz4, hm]; rfl
        rw [hso] at hsq
        have hTaz : (T.extract 0 m).size ≤ 1000 := by simp; omega
        obtain ⟨Ta, hTa⟩ : ∃ Ta, T.extract 0 m = Ta := ⟨_, rfl⟩
        obtain ⟨Tc, hTc⟩ : ∃ Tc, T.extract m T.size = Tc := ⟨_, rfl⟩
        rw [hTa, hTc] at hsq
        rw [hTa] at hTaz
        have heq := str_eqD (a := sealB Ta) (b := Tc)
        rw [← hsq] at heq
        clear hsq hso
        have hmo := fun W => refmore_calls 0 Ta W (by decide) (by omega)
        have hcl : moreN 0 Ta.data.toList < 4294967296 := moreN_lt 0 _ (by decide)
        have hpu := fun W => rput_calls (moreN 0 Ta.data.toList) 4 W (by decide) (by omega)
        unfold sealB at heq
        generalize lB 4 (moreN 0 Ta.data.toList) = q4 at heq hpu
        generalize moreN 0 Ta.data.toList = cc at hmo hcl hpu
        have HMO := Lib.hid hmo
        have HPU := Lib.hid hpu
        have hwc : IntKind.u64.wrap (cc : Int) = (cc : Int) := by rw [IntKind.wrap_u64]; omega
        clear hmo hpu hm
        go_wp2_with fail
        refine (HDD.out _).mono ?_
        rintro e w8 ⟨rfl, hT8⟩
        have hT08 := hTt.trans hT8
        clear hTt hT8
        go_upto_region 15 with fail
        have hb9 : DBox (w8.alloc (.cells #[.int .i64 0, .int .u32 0, .int .u32 0, .int .u32 0, .int .u64 0, .int .u32 0, .int .u32 0, .bool false, .string ⟨#[]⟩] 42)) w8.heap.size Dg.zero := dg_new w8 _ _ _ _ _ _ _ _ _
        have hT09 := hT08.alloc (.cells #[.int .i64 0, .int .u32 0, .int .u32 0, .int .u32 0, .int .u64 0, .int .u32 0, .int .u32 0, .bool false, .string ⟨#[]⟩] 42)
        generalize w8.alloc (.cells #[.int .i64 0, .int .u32 0, .int .u32 0, .int .u32 0, .int .u64 0, .int .u32 0, .int .u32 0, .bool false, .string ⟨#[]⟩] 42) = w9 at hb9 hT09 ⊢
        generalize w8.heap.size = H9 at hb9 ⊢
        clear hT08
        have HB9 := Lib.hid hb9
        have HT9 := Lib.hid hT09
        clear hb9 hT09
        refine wp_region_inv (fun W => Touch (fun _ => False) w9 W) (fun i v _ => anI T Ta Tc q4 m cc true i v) (by kernel_rfl) (by kernel_rfl) (by kernel_rfl) (Touch.refl _ _).drew ?_ ?_
        · intro i o hi a W hC hbase hdep
          have hlt := op_lt hi
          obtain ⟨hbd, hbs, hbb⟩ := hbase
          have b9 : a.tmps[9]? = some (.string T) := (hbb 9 (noDst_spec (by kernel_rfl))).trans rfl
          have b12 : a.tmps[12]? = some (.int .i64 (m : Nat)) := (hbb 12 (noDst_spec (by kernel_rfl))).trans rfl
          rcases (by simp at hlt; omega : i = 0 ∨ i = 1 ∨ i = 2 ∨ i = 3 ∨ i = 4 ∨ i = 5 ∨ i = 6 ∨ i = 7 ∨ i = 8 ∨ i = 9) with rfl | rfl | rfl | rfl | rfl | rfl | rfl | rfl | rfl | rfl
          · simp only [List.getElem?_toArray, List.getElem?_cons_zero, List.getElem?_cons_succ, Option.some.injEq] at hi
            subst hi
            clear hdep
            refine kp_val (v := .string T) ?_ ⟨_, rfl, rfl, hC, fun _ _ h => h⟩
            simp [execOp, Act.eval, b9]
          · simp only [List.getElem?_toArray, List.getElem?_cons_zero, List.getElem?_cons_succ, Option.some.injEq] at hi
            subst hi
            clear hdep
            refine kp_val (v := .int .i64 (m : Nat)) ?_ ⟨_, rfl, rfl, hC, fun _ _ h => h⟩
            simp [execOp, Act.eval, b12]
          · simp only [List.getElem?_toArray, List.getElem?_cons_zero, List.getElem?_cons_succ, Option.some.injEq] at hi
            subst hi
            simp [Region.binds, valOf, anI] at hdep
            refine kp_val (v := .string Ta) ?_ ⟨_, rfl, rfl, hC, fun _ _ h => h⟩
            simp [execOp, Act.eval, hdep]
            go_simp
            try (intro h9; exfalso; omega)
          · simp only [List.getElem?_toArray, List.getElem?_cons_zero, List.getElem?_cons_succ, Option.some.injEq] at hi
            subst hi
            simp [Region.binds, valOf, anI] at hdep
            refine kp_call0 (f := 26) (args := #[.int .u32 0, .string Ta]) (v := .int .u32 (cc : Nat)) ?_ (HMO.out W) ⟨_, rfl, rfl, hC, fun _ _ h => h⟩
            simp [execOp, resolve, invoke, Act.eval, hdep]
            try rfl
          · simp only [List.getElem?_toArray, List.getElem?_cons_zero, List.getElem?_cons_succ, Option.some.injEq] at hi
            subst hi
            simp [Region.binds, valOf, anI] at hdep
            refine kp_val (v := .int .u64 (cc : Nat)) ?_ ⟨_, rfl, rfl, hC, fun _ _ h => h⟩
            simp [execOp, Act.eval, hdep]
            go_simp
          · simp only [List.getElem?_toArray, List.getElem?_cons_zero, List.getElem?_cons_succ, Option.some.injEq] at hi
            subst hi
            simp [Region.binds, valOf, anI] at hdep
            refine kp_call (f := 25) (args := #[.int .u64 (cc : Nat), .int .i64 4]) (v := .string q4) ?_ (HPU.out W) (fun w' ht => ⟨_, rfl, rfl, hC.trans ht, fun _ _ h => h⟩)
            simp [execOp, resolve, invoke, Act.eval, hdep]
            try rfl
          · simp only [List.getElem?_toArray, List.getElem?_cons_zero, List.getElem?_cons_succ, Option.some.injEq] at hi
            subst hi
            clear hdep
            refine kp_val (v := .string T) ?_ ⟨_, rfl, rfl, hC, fun _ _ h => h⟩
            simp [execOp, Act.eval, b9]
          · simp only [List.getElem?_toArray, List.getElem?_cons_zero, List.getElem?_cons_succ, Option.some.injEq] at hi
            subst hi
            clear hdep
            refine kp_val (v := .int .i64 (m : Nat)) ?_ ⟨_, rfl, rfl, hC, fun _ _ h => h⟩
            simp [execOp, Act.eval, b12]
          · simp only [List.getElem?_toArray, List.getElem?_cons_zero, List.getElem?_cons_succ, Option.some.injEq] at hi
            subst hi
            simp [Region.binds, valOf, anI] at hdep
            refine kp_val (v := .string Tc) ?_ ⟨_, rfl, rfl, hC, fun _ _ h => h⟩
            simp [execOp, Act.eval, hdep]
            go_simp
            try (intro h9; exfalso; omega)
          · simp only [List.getElem?_toArray, List.getElem?_cons_zero, List.getElem?_cons_succ, Option.some.injEq] at hi
            subst hi
            simp [Region.binds, valOf, anI] at hdep
            refine kp_val (v := .bool true) ?_ ⟨_, rfl, rfl, hC, fun _ _ h => h⟩
            simp [execOp, Act.eval, hdep]
            go_simp
        · intro a W hC hbase hall
          have hx80 : a.tmps.getD 80 undef = .bool true := hall 9 _ rfl
          obtain ⟨hbd, hbs, hbb⟩ := hbase
          have hdf : a.defers = [] := hbd
          clear hall hbd
          rename_i hK
          obtain ⟨⟨l9⟩, df⟩ := a
          have hl : l9.length = 101 := hbs
          clear hbs
          obtain ⟨y0, j0, rfl, hl0⟩ := dg_cons (n := 100) hl
          clear hl
          obtain ⟨y1, j1, rfl, hl1⟩ := dg_cons (n := 99) hl0
          clear hl0
          obtain ⟨y2, j2, rfl, hl2⟩ := dg_cons (n := 98) hl1
          clear hl1
          obtain ⟨y3, j3, rfl, hl3⟩ := dg_cons (n := 97) hl2
          clear hl2
          obtain ⟨y4, j4, rfl, hl4⟩ := dg_cons (n := 96) hl3
          clear hl3
          obtain ⟨y5, j5, rfl, hl5⟩ := dg_cons (n := 95) hl4
          clear hl4
          obtain ⟨y6, j6, rfl, hl6⟩ := dg_cons (n := 94) hl5
          clear hl5
          obtain ⟨y7, j7, rfl, hl7⟩ := dg_cons (n := 93) hl6
          clear hl6
          obtain ⟨y8, j8, rfl, hl8⟩ := dg_cons (n := 92) hl7
          clear hl7
          obtain ⟨y9, j9, rfl, hl9⟩ := dg_cons (n := 91) hl8
          clear hl8
          obtain ⟨y10, j10, rfl, hl10⟩ := dg_cons (n := 90) hl9
          clear hl9
          obtain ⟨y11, j11, rfl, hl11⟩ := dg_cons (n := 89) hl10
          clear hl10
          obtain ⟨y12, j12, rfl, hl12⟩ := dg_cons (n := 88) hl11
          clear hl11
          obtain ⟨y13, j13, rfl, hl13⟩ := dg_cons (n := 87) hl12
          clear hl12
          obtain ⟨y14, j14, rfl, hl14⟩ := dg_cons (n := 86) hl13
          clear hl13
          obtain ⟨y15, j15, rfl, hl15⟩ := dg_cons (n := 85) hl14
          clear hl14
          obtain ⟨y16, j16, rfl, hl16⟩ := dg_cons (n := 84) hl15
          clear hl15
          obtain ⟨y17, j17, rfl, hl17⟩ := dg_cons (n := 83) hl16
          clear hl16
          obtain ⟨y18, j18, rfl, hl18⟩ := dg_cons (n := 82) hl17
          clear hl17
          obtain ⟨y19, j19, rfl, hl19⟩ := dg_cons (n := 81) hl18
          clear hl18
          obtain ⟨y20, j20, rfl, hl20⟩ := dg_cons (n := 80) hl19
          clear hl19
          obtain ⟨y21, j21, rfl, hl21⟩ := dg_cons (n := 79) hl20
          clear hl20
          obtain ⟨y22, j22, rfl, hl22⟩ := dg_cons (n := 78) hl21
          clear hl21
          obtain ⟨y23, j23, rfl, hl23⟩ := dg_cons (n := 77) hl22
          clear hl22
          obtain ⟨y24, j24, rfl, hl24⟩ := dg_cons (n := 76) hl23
          clear hl23
          obtain ⟨y25, j25, rfl, hl25⟩ := dg_cons (n := 75) hl24
          clear hl24
          obtain ⟨y26, j26, rfl, hl26⟩ := dg_cons (n := 74) hl25
          clear hl25
          obtain ⟨y27, j27, rfl, hl27⟩ := dg_cons (n := 73) hl26
          clear hl26
          obtain ⟨y28, j28, rfl, hl28⟩ := dg_cons (n := 72) hl27
          clear hl27
          obtain ⟨y29, j29, rfl, hl29⟩ := dg_cons (n := 71) hl28
          clear hl28
          obtain ⟨y30, j30, rfl, hl30⟩ := dg_cons (n := 70) hl29
          clear hl29
          obtain ⟨y31, j31, rfl, hl31⟩ := dg_cons (n := 69) hl30
          clear hl30
          obtain ⟨y32, j32, rfl, hl32⟩ := dg_cons (n := 68) hl31
          clear hl31
          obtain ⟨y33, j33, rfl, hl33⟩ := dg_cons (n := 67) hl32
          clear hl32
          obtain ⟨y34, j34, rfl, hl34⟩ := dg_cons (n := 66) hl33
          clear hl33
          obtain ⟨y35, j35, rfl, hl35⟩ := dg_cons (n := 65) hl34
          clear hl34
          obtain ⟨y36, j36, rfl, hl36⟩ := dg_cons (n := 64) hl35
          clear hl35
          obtain ⟨y37, j37, rfl, hl37⟩ := dg_cons (n := 63) hl36
          clear hl36
          obtain ⟨y38, j38, rfl, hl38⟩ := dg_cons (n := 62) hl37
          clear hl37
          obtain ⟨y39, j39, rfl, hl39⟩ := dg_cons (n := 61) hl38
          clear hl38
          obtain ⟨y40, j40, rfl, hl40⟩ := dg_cons (n := 60) hl39
          clear hl39
          obtain ⟨y41, j41, rfl, hl41⟩ := dg_cons (n := 59) hl40
          clear hl40
          obtain ⟨y42, j42, rfl, hl42⟩ := dg_cons (n := 58) hl41
          clear hl41
          obtain ⟨y43, j43, rfl, hl43⟩ := dg_cons (n := 57) hl42
          clear hl42
          obtain ⟨y44, j44, rfl, hl44⟩ := dg_cons (n := 56) hl43
          clear hl43
          obtain ⟨y45, j45, rfl, hl45⟩ := dg_cons (n := 55) hl44
          clear hl44
          obtain ⟨y46, j46, rfl, hl46⟩ := dg_cons (n := 54) hl45
          clear hl45
          obtain ⟨y47, j47, rfl, hl47⟩ := dg_cons (n := 53) hl46
          clear hl46
          obtain ⟨y48, j48, rfl, hl48⟩ := dg_cons (n := 52) hl47
          clear hl47
          obtain ⟨y49, j49, rfl, hl49⟩ := dg_cons (n := 51) hl48
          clear hl48
          obtain ⟨y50, j50, rfl, hl50⟩ := dg_cons (n := 50) hl49
          clear hl49
          obtain ⟨y51, j51, rfl, hl51⟩ := dg_cons (n := 49) hl50
          clear hl50
          obtain ⟨y52, j52, rfl, hl52⟩ := dg_cons (n := 48) hl51
          clear hl51
          obtain ⟨y53, j53, rfl, hl53⟩ := dg_cons (n := 47) hl52
          clear hl52
          obtain ⟨y54, j54, rfl, hl54⟩ := dg_cons (n := 46) hl53
          clear hl53
          obtain ⟨y55, j55, rfl, hl55⟩ := dg_cons (n := 45) hl54
          clear hl54
          obtain ⟨y56, j56, rfl, hl56⟩ := dg_cons (n := 44) hl55
          clear hl55
          obtain ⟨y57, j57, rfl, hl57⟩ := dg_cons (n := 43) hl56
          clear hl56
          obtain ⟨y58, j58, rfl, hl58⟩ := dg_cons (n := 42) hl57
          clear hl57
          obtain ⟨y59, j59, rfl, hl59⟩ := dg_cons (n := 41) hl58
          clear hl58
          obtain ⟨y60, j60, rfl, hl60⟩ := dg_cons (n := 40) hl59
          clear hl59
          obtain ⟨y61, j61, rfl, hl61⟩ := dg_cons (n := 39) hl60
          clear hl60
          obtain ⟨y62, j62, rfl, hl62⟩ := dg_cons (n := 38) hl61
          clear hl61
          obtain ⟨y63, j63, rfl, hl63⟩ := dg_cons (n := 37) hl62
          clear hl62
          obtain ⟨y64, j64, rfl, hl64⟩ := dg_cons (n := 36) hl63
          clear hl63
          obtain ⟨y65, j65, rfl, hl65⟩ := dg_cons (n := 35) hl64
          clear hl64
          obtain ⟨y66, j66, rfl, hl66⟩ := dg_cons (n := 34) hl65
          clear hl65
          obtain ⟨y67, j67, rfl, hl67⟩ := dg_cons (n := 33) hl66
          clear hl66
          obtain ⟨y68, j68, rfl, hl68⟩ := dg_cons (n := 32) hl67
          clear hl67
          obtain ⟨y69, j69, rfl, hl69⟩ := dg_cons (n := 31) hl68
          clear hl68
          obtain ⟨y70, j70, rfl, hl70⟩ := dg_cons (n := 30) hl69
          clear hl69
          obtain ⟨y71, j71, rfl, hl71⟩ := dg_cons (n := 29) hl70
          clear hl70
          obtain ⟨y72, j72, rfl, hl72⟩ := dg_cons (n := 28) hl71
          clear hl71
          obtain ⟨y73, j73, rfl, hl73⟩ := dg_cons (n := 27) hl72
          clear hl72
          obtain ⟨y74, j74, rfl, hl74⟩ := dg_cons (n := 26) hl73
          clear hl73
          obtain ⟨y75, j75, rfl, hl75⟩ := dg_cons (n := 25) hl74
          clear hl74
          obtain ⟨y76, j76, rfl, hl76⟩ := dg_cons (n := 24) hl75
          clear hl75
          obtain ⟨y77, j77, rfl, hl77⟩ := dg_cons (n := 23) hl76
          clear hl76
          obtain ⟨y78, j78, rfl, hl78⟩ := dg_cons (n := 22) hl77
          clear hl77
          obtain ⟨y79, j79, rfl, hl79⟩ := dg_cons (n := 21) hl78
          clear hl78
          obtain ⟨y80, j80, rfl, hl80⟩ := dg_cons (n := 20) hl79
          clear hl79
          obtain ⟨y81, j81, rfl, hl81⟩ := dg_cons (n := 19) hl80
          clear hl80
          obtain ⟨y82, j82, rfl, hl82⟩ := dg_cons (n := 18) hl81
          clear hl81
          obtain ⟨y83, j83, rfl, hl83⟩ := dg_cons (n := 17) hl82
          clear hl82
          obtain ⟨y84, j84, rfl, hl84⟩ := dg_cons (n := 16) hl83
          clear hl83
          obtain ⟨y85, j85, rfl, hl85⟩ := dg_cons (n := 15) hl84
          clear hl84
          obtain ⟨y86, j86, rfl, hl86⟩ := dg_cons (n := 14) hl85
          clear hl85
          obtain ⟨y87, j87, rfl, hl87⟩ := dg_cons (n := 13) hl86
          clear hl86
          obtain ⟨y88, j88, rfl, hl88⟩ := dg_cons (n := 12) hl87
          clear hl87
          obtain ⟨y89, j89, rfl, hl89⟩ := dg_cons (n := 11) hl88
          clear hl88
          obtain ⟨y90, j90, rfl, hl90⟩ := dg_cons (n := 10) hl89
          clear hl89
          obtain ⟨y91, j91, rfl, hl91⟩ := dg_cons (n := 9) hl90
          clear hl90
          obtain ⟨y92, j92, rfl, hl92⟩ := dg_cons (n := 8) hl91
          clear hl91
          obtain ⟨y93, j93, rfl, hl93⟩ := dg_cons (n := 7) hl92
          clear hl92
          obtain ⟨y94, j94, rfl, hl94⟩ := dg_cons (n := 6) hl93
          clear hl93
          obtain ⟨y95, j95, rfl, hl95⟩ := dg_cons (n := 5) hl94
          clear hl94
          obtain ⟨y96, j96, rfl, hl96⟩ := dg_cons (n := 4) hl95
          clear hl95
          obtain ⟨y97, j97, rfl, hl97⟩ := dg_cons (n := 3) hl96
          clear hl96
          obtain ⟨y98, j98, rfl, hl98⟩ := dg_cons (n := 2) hl97
          clear hl97
          obtain ⟨y99, j99, rfl, hl99⟩ := dg_cons (n := 1) hl98
          clear hl98
          obtain ⟨y100, j100, rfl, hl100⟩ := dg_cons (n := 0) hl99
          clear hl99
          obtain rfl := List.eq_nil_of_length_eq_zero hl100
          clear hl100
          have eq9 := hbb 9 (noDst_spec (by kernel_rfl))
          simp only [List.getElem?_toArray, List.getElem?_cons_zero, List.getElem?_cons_succ, Option.some.injEq] at eq9
          subst eq9
          have eq10 := hbb 10 (noDst_spec (by kernel_rfl))
          simp only [List.getElem?_toArray, List.getElem?_cons_zero, List.getElem?_cons_succ, Option.some.injEq] at eq10
          subst eq10
          have eq11 := hbb 11 (noDst_spec (by kernel_rfl))
          simp only [List.getElem?_toArray, List.getElem?_cons_zero, List.getElem?_cons_succ, Option.some.injEq] at eq11
          subst eq11
          obtain rfl : y80 = .bool true := hx80
          obtain rfl : df = [] := hdf
          clear hbb
          refine hK _ W ?_
          have ht : ∀ q : List Value, Array.mk q = List.toArray q := fun _ => rfl
          rw [ht]
          have hbb := DBox.kept HB9.out hC id
          have hTfin := HT9.out.trans hC
          obtain ⟨d0, d1, d2, d3, d4, d5, d6, d7, d8⟩ := DBox.cells hbb
          go_wp2_with fail
          go_ret
          exact ⟨rfl, hTfin⟩
    · as_aux_lemma =>
        have hdd := fun W => hh.dec W
        obtain ⟨hz4, hz3⟩ := hh.size
        have hso := hh.so
        clear hh
        unfold Dg.zero Dg.v Dg.cells at hdd
        simp only at hdd
        have HDD := Lib.hid hdd
        clear hdd
        obtain ⟨m, hm⟩ : ∃ m : Nat, m = T.size - 4 := ⟨_, rfl⟩
        have hmI : (T.size : Int) - 4 = (m : Int) := by omega
        have hm0 : (0 : Int) ≤ (m : Int) := by omega
        have hm1 : (m : Int) ≤ (T.size : Int) := by omega
        have hsq : sumOk T = decide (sealB (T.extract 0 m) = T.extract m T.size) := by unfold sumOk; rw [decide_eq_true hz4, hm]; rfl
        rw [hso] at hsq
        have hTaz : (T.extract 0 m).size ≤ 1000 := by simp; omega
        obtain ⟨Ta, hTa⟩ : ∃ Ta, T.extract 0 m = Ta := ⟨_, rfl⟩
        obtain ⟨Tc, hTc⟩ : ∃ Tc, T.extract m T.size = Tc := ⟨_, rfl⟩
        rw [hTa, hTc] at hsq
        rw [hTa] at hTaz
        have heq := str_eqD (a := sealB Ta) (b := Tc)
        rw [← hsq] at heq
        clear hsq hso
        have hmo := fun W => refmore_calls 0 Ta W (by decide) (by omega)
        have hcl : moreN 0 Ta.data.toList < 4294967296 := moreN_lt 0 _ (by decide)
        have hpu := fun W => rput_calls (moreN 0 Ta.data.toList) 4 W (by decide) (by omega)
        unfold sealB at heq
        generalize lB 4 (moreN 0 Ta.data.toList) = q4 at heq hpu
        generalize moreN 0 Ta.data.toList = cc at hmo hcl hpu
        have HMO := Lib.hid hmo
        have HPU := Lib.hid hpu
        have hwc : IntKind.u64.wrap (cc : Int) = (cc : Int) := by rw [IntKind.wrap_u64]; omega
        clear hmo hpu hm
        go_wp2_with fail
        refine (HDD.out _).mono ?_
        rintro e w8 ⟨rfl, hT8⟩
        have hT08 := hTt.trans hT8
        clear hTt hT8
        go_upto_region 15 with fail
        have hb9 : DBox (w8.alloc (.cells #[.int .i64 0, .int .u32 0, .int .u32 0, .int .u32 0, .int .u64 0, .int .u32 0, .int .u32 0, .bool false, .string ⟨#[]⟩] 42)) w8.heap.size Dg.zero := dg_new w8 _ _ _ _ _ _ _ _ _
        have hT09 := hT08.alloc (.cells #[.int .i64 0, .int .u32 0, .int .u32 0, .int .u32 0, .int .u64 0, .int .u32 0, .int .u32 0, .bool false, .string ⟨#[]⟩] 42)
        generalize w8.alloc (.cells #[.int .i64 0, .int .u32 0, .int .u32 0, .int .u32 0, .int .u64 0, .int .u32 0, .int .u32 0, .bool false, .string ⟨#[]⟩] 42) = w9 at hb9 hT09 ⊢
        generalize w8.heap.size = H9 at hb9 ⊢
        clear hT08
        have HB9 := Lib.hid hb9
        have HT9 := Lib.hid hT09
        clear hb9 hT09
        refine wp_region_inv (fun W => Touch (fun _ => False) w9 W) (fun i v _ => anI T Ta Tc q4 m cc false i v) (by kernel_rfl) (by kernel_rfl) (by kernel_rfl) (Touch.refl _ _).drew ?_ ?_
        · intro i o hi a W hC hbase hdep
          have hlt := op_lt hi
          obtain ⟨hbd, hbs, hbb⟩ := hbase
          have b9 : a.tmps[9]? = some (.string T) := (hbb 9 (noDst_spec (by kernel_rfl))).trans rfl
          have b12 : a.tmps[12]? = some (.int .i64 (m : Nat)) := (hbb 12 (noDst_spec (by kernel_rfl))).trans rfl
          rcases (by simp at hlt; omega : i = 0 ∨ i = 1 ∨ i = 2 ∨ i = 3 ∨ i = 4 ∨ i = 5 ∨ i = 6 ∨ i = 7 ∨ i = 8 ∨ i = 9) with rfl | rfl | rfl | rfl | rfl | rfl | rfl | rfl | rfl | rfl
          · simp only [List.getElem?_toArray, List.getElem?_cons_zero, List.getElem?_cons_succ, Option.some.injEq] at hi
            subst hi
            clear hdep
            refine kp_val (v := .string T) ?_ ⟨_, rfl, rfl, hC, fun _ _ h => h⟩
            simp [execOp, Act.eval, b9]
          · simp only [List.getElem?_toArray, List.getElem?_cons_zero, List.getElem?_cons_succ, Option.some.injEq] at hi
            subst hi
            clear hdep
            refine kp_val (v := .int .i64 (m : Nat)) ?_ ⟨_, rfl, rfl, hC, fun _ _ h => h⟩
            simp [execOp, Act.eval, b12]
          · simp only [List.getElem?_toArray, List.getElem?_cons_zero, List.getElem?_cons_succ, Option.some.injEq] at hi
            subst hi
            simp [Region.binds, valOf, anI] at hdep
            refine kp_val (v := .string Ta) ?_ ⟨_, rfl, rfl, hC, fun _ _ h => h⟩
            simp [execOp, Act.eval, hdep]
            go_simp
            try (intro h9; exfalso; omega)
          · simp only [List.getElem?_toArray, List.getElem?_cons_zero, List.getElem?_cons_succ, Option.some.injEq] at hi
            subst hi
            simp [Region.binds, valOf, anI] at hdep
            refine kp_call0 (f := 26) (args := #[.int .u32 0, .string Ta]) (v := .int .u32 (cc : Nat)) ?_ (HMO.out W) ⟨_, rfl, rfl, hC, fun _ _ h => h⟩
            simp [execOp, resolve, invoke, Act.eval, hdep]
            try rfl
          · simp only [List.getElem?_toArray, List.getElem?_cons_zero, List.getElem?_cons_succ, Option.some.injEq] at hi
            subst hi
            simp [Region.binds, valOf, anI] at hdep
            refine kp_val (v := .int .u64 (cc : Nat)) ?_ ⟨_, rfl, rfl, hC, fun _ _ h => h⟩
            simp [execOp, Act.eval, hdep]
            go_simp
          · simp only [List.getElem?_toArray, List.getElem?_cons_zero, List.getElem?_cons_succ, Option.some.injEq] at hi
            subst hi
            simp [Region.binds, valOf, anI] at hdep
            refine kp_call (f := 25) (args := #[.int .u64 (cc : Nat), .int .i64 4]) (v := .string q4) ?_ (HPU.out W) (fun w' ht => ⟨_, rfl, rfl, hC.trans ht, fun _ _ h => h⟩)
            simp [execOp, resolve, invoke, Act.eval, hdep]
            try rfl
          · simp only [List.getElem?_toArray, List.getElem?_cons_zero, List.getElem?_cons_succ, Option.some.injEq] at hi
            subst hi
            clear hdep
            refine kp_val (v := .string T) ?_ ⟨_, rfl, rfl, hC, fun _ _ h => h⟩
            simp [execOp, Act.eval, b9]
          · simp only [List.getElem?_toArray, List.getElem?_cons_zero, List.getElem?_cons_succ, Option.some.injEq] at hi
            subst hi
            clear hdep
            refine kp_val (v := .int .i64 (m : Nat)) ?_ ⟨_, rfl, rfl, hC, fun _ _ h => h⟩
            simp [execOp, Act.eval, b12]
          · simp only [List.getElem?_toArray, List.getElem?_cons_zero, List.getElem?_cons_succ, Option.some.injEq] at hi
            subst hi
            simp [Region.binds, valOf, anI] at hdep
            refine kp_val (v := .string Tc) ?_ ⟨_, rfl, rfl, hC, fun _ _ h => h⟩
            simp [execOp, Act.eval, hdep]
            go_simp
            try (intro h9; exfalso; omega)
          · simp only [List.getElem?_toArray, List.getElem?_cons_zero, List.getElem?_cons_succ, Option.some.injEq] at hi
            subst hi
            simp [Region.binds, valOf, anI] at hdep
            refine kp_val (v := .bool false) ?_ ⟨_, rfl, rfl, hC, fun _ _ h => h⟩
            simp [execOp, Act.eval, hdep]
            go_simp
        · intro a W hC hbase hall
          have hx80 : a.tmps.getD 80 undef = .bool false := hall 9 _ rfl
          obtain ⟨hbd, hbs, hbb⟩ := hbase
          have hdf : a.defers = [] := hbd
          clear hall hbd
          rename_i hK
          obtain ⟨⟨l9⟩, df⟩ := a
          have hl : l9.length = 101 := hbs
          clear hbs
          obtain ⟨y0, j0, rfl, hl0⟩ := dg_cons (n := 100) hl
          clear hl
          obtain ⟨y1, j1, rfl, hl1⟩ := dg_cons (n := 99) hl0
          clear hl0
          obtain ⟨y2, j2, rfl, hl2⟩ := dg_cons (n := 98) hl1
          clear hl1
          obtain ⟨y3, j3, rfl, hl3⟩ := dg_cons (n := 97) hl2
          clear hl2
          obtain ⟨y4, j4, rfl, hl4⟩ := dg_cons (n := 96) hl3
          clear hl3
          obtain ⟨y5, j5, rfl, hl5⟩ := dg_cons (n := 95) hl4
          clear hl4
          obtain ⟨y6, j6, rfl, hl6⟩ := dg_cons (n := 94) hl5
          clear hl5
          obtain ⟨y7, j7, rfl, hl7⟩ := dg_cons (n := 93) hl6
          clear hl6
          obtain ⟨y8, j8, rfl, hl8⟩ := dg_cons (n := 92) hl7
          clear hl7
          obtain ⟨y9, j9, rfl, hl9⟩ := dg_cons (n := 91) hl8
          clear hl8
          obtain ⟨y10, j10, rfl, hl10⟩ := dg_cons (n := 90) hl9
          clear hl9
          obtain ⟨y11, j11, rfl, hl11⟩ := dg_cons (n := 89) hl10
          clear hl10
          obtain ⟨y12, j12, rfl, hl12⟩ := dg_cons (n := 88) hl11
          clear hl11
          obtain ⟨y13, j13, rfl, hl13⟩ := dg_cons (n := 87) hl12
          clear hl12
          obtain ⟨y14, j14, rfl, hl14⟩ := dg_cons (n := 86) hl13
          clear hl13
          obtain ⟨y15, j15, rfl, hl15⟩ := dg_cons (n := 85) hl14
          clear hl14
          obtain ⟨y16, j16, rfl, hl16⟩ := dg_cons (n := 84) hl15
          clear hl15
          obtain ⟨y17, j17, rfl, hl17⟩ := dg_cons (n := 83) hl16
          clear hl16
          obtain ⟨y18, j18, rfl, hl18⟩ := dg_cons (n := 82) hl17
          clear hl17
          obtain ⟨y19, j19, rfl, hl19⟩ := dg_cons (n := 81) hl18
          clear hl18
          obtain ⟨y20, j20, rfl, hl20⟩ := dg_cons (n := 80) hl19
          clear hl19
          obtain ⟨y21, j21, rfl, hl21⟩ := dg_cons (n := 79) hl20
          clear hl20
          obtain ⟨y22, j22, rfl, hl22⟩ := dg_cons (n := 78) hl21
          clear hl21
          obtain ⟨y23, j23, rfl, hl23⟩ := dg_cons (n := 77) hl22
          clear hl22
          obtain ⟨y24, j24, rfl, hl24⟩ := dg_cons (n := 76) hl23
          clear hl23
          obtain ⟨y25, j25, rfl, hl25⟩ := dg_cons (n := 75) hl24
          clear hl24
          obtain ⟨y26, j26, rfl, hl26⟩ := dg_cons (n := 74) hl25
          clear hl25
          obtain ⟨y27, j27, rfl, hl27⟩ := dg_cons (n := 73) hl26
          clear hl26
          obtain ⟨y28, j28, rfl, hl28⟩ := dg_cons (n := 72) hl27
          clear hl27
          obtain ⟨y29, j29, rfl, hl29⟩ := dg_cons (n := 71) hl28
          clear hl28
          obtain ⟨y30, j30, rfl, hl30⟩ := dg_cons (n := 70) hl29
          clear hl29
          obtain ⟨y31, j31, rfl, hl31⟩ := dg_cons (n := 69) hl30
          clear hl30
          obtain ⟨y32, j32, rfl, hl32⟩ := dg_cons (n := 68) hl31
          clear hl31
          obtain ⟨y33, j33, rfl, hl33⟩ := dg_cons (n := 67) hl32
          clear hl32
          obtain ⟨y34, j34, rfl, hl34⟩ := dg_cons (n := 66) hl33
          clear hl33
          obtain ⟨y35, j35, rfl, hl35⟩ := dg_cons (n := 65) hl34
          clear hl34
          obtain ⟨y36, j36, rfl, hl36⟩ := dg_cons (n := 64) hl35
          clear hl35
          obtain ⟨y37, j37, rfl, hl37⟩ := dg_cons (n := 63) hl36
          clear hl36
          obtain ⟨y38, j38, rfl, hl38⟩ := dg_cons (n := 62) hl37
          clear hl37
          obtain ⟨y39, j39, rfl, hl39⟩ := dg_cons (n := 61) hl38
          clear hl38
          obtain ⟨y40, j40, rfl, hl40⟩ := dg_cons (n := 60) hl39
          clear hl39
          obtain ⟨y41, j41, rfl, hl41⟩ := dg_cons (n := 59) hl40
          clear hl40
          obtain ⟨y42, j42, rfl, hl42⟩ := dg_cons (n := 58) hl41
          clear hl41
          obtain ⟨y43, j43, rfl, hl43⟩ := dg_cons (n := 57) hl42
          clear hl42
          obtain ⟨y44, j44, rfl, hl44⟩ := dg_cons (n := 56) hl43
          clear hl43
          obtain ⟨y45, j45, rfl, hl45⟩ := dg_cons (n := 55) hl44
          clear hl44
          obtain ⟨y46, j46, rfl, hl46⟩ := dg_cons (n := 54) hl45
          clear hl45
          obtain ⟨y47, j47, rfl, hl47⟩ := dg_cons (n := 53) hl46
          clear hl46
          obtain ⟨y48, j48, rfl, hl48⟩ := dg_cons (n := 52) hl47
          clear hl47
          obtain ⟨y49, j49, rfl, hl49⟩ := dg_cons (n := 51) hl48
          clear hl48
          obtain ⟨y50, j50, rfl, hl50⟩ := dg_cons (n := 50) hl49
          clear hl49
          obtain ⟨y51, j51, rfl, hl51⟩ := dg_cons (n := 49) hl50
          clear hl50
          obtain ⟨y52, j52, rfl, hl52⟩ := dg_cons (n := 48) hl51
          clear hl51
          obtain ⟨y53, j53, rfl, hl53⟩ := dg_cons (n := 47) hl52
          clear hl52
          obtain ⟨y54, j54, rfl, hl54⟩ := dg_cons (n := 46) hl53
          clear hl53
          obtain ⟨y55, j55, rfl, hl55⟩ := dg_cons (n := 45) hl54
          clear hl54
          obtain ⟨y56, j56, rfl, hl56⟩ := dg_cons (n := 44) hl55
          clear hl55
          obtain ⟨y57, j57, rfl, hl57⟩ := dg_cons (n := 43) hl56
          clear hl56
          obtain ⟨y58, j58, rfl, hl58⟩ := dg_cons (n := 42) hl57
          clear hl57
          obtain ⟨y59, j59, rfl, hl59⟩ := dg_cons (n := 41) hl58
          clear hl58
          obtain ⟨y60, j60, rfl, hl60⟩ := dg_cons (n := 40) hl59
          clear hl59
          obtain ⟨y61, j61, rfl, hl61⟩ := dg_cons (n := 39) hl60
          clear hl60
          obtain ⟨y62, j62, rfl, hl62⟩ := dg_cons (n := 38) hl61
          clear hl61
          obtain ⟨y63, j63, rfl, hl63⟩ := dg_cons (n := 37) hl62
          clear hl62
          obtain ⟨y64, j64, rfl, hl64⟩ := dg_cons (n := 36) hl63
          clear hl63
          obtain ⟨y65, j65, rfl, hl65⟩ := dg_cons (n := 35) hl64
          clear hl64
          obtain ⟨y66, j66, rfl, hl66⟩ := dg_cons (n := 34) hl65
          clear hl65
          obtain ⟨y67, j67, rfl, hl67⟩ := dg_cons (n := 33) hl66
          clear hl66
          obtain ⟨y68, j68, rfl, hl68⟩ := dg_cons (n := 32) hl67
          clear hl67
          obtain ⟨y69, j69, rfl, hl69⟩ := dg_cons (n := 31) hl68
          clear hl68
          obtain ⟨y70, j70, rfl, hl70⟩ := dg_cons (n := 30) hl69
          clear hl69
          obtain ⟨y71, j71, rfl, hl71⟩ := dg_cons (n := 29) hl70
          clear hl70
          obtain ⟨y72, j72, rfl, hl72⟩ := dg_cons (n := 28) hl71
          clear hl71
          obtain ⟨y73, j73, rfl, hl73⟩ := dg_cons (n := 27) hl72
          clear hl72
          obtain ⟨y74, j74, rfl, hl74⟩ := dg_cons (n := 26) hl73
          clear hl73
          obtain ⟨y75, j75, rfl, hl75⟩ := dg_cons (n := 25) hl74
          clear hl74
          obtain ⟨y76, j76, rfl, hl76⟩ := dg_cons (n := 24) hl75
          clear hl75
          obtain ⟨y77, j77, rfl, hl77⟩ := dg_cons (n := 23) hl76
          clear hl76
          obtain ⟨y78, j78, rfl, hl78⟩ := dg_cons (n := 22) hl77
          clear hl77
          obtain ⟨y79, j79, rfl, hl79⟩ := dg_cons (n := 21) hl78
          clear hl78
          obtain ⟨y80, j80, rfl, hl80⟩ := dg_cons (n := 20) hl79
          clear hl79
          obtain ⟨y81, j81, rfl, hl81⟩ := dg_cons (n := 19) hl80
          clear hl80
          obtain ⟨y82, j82, rfl, hl82⟩ := dg_cons (n := 18) hl81
          clear hl81
          obtain ⟨y83, j83, rfl, hl83⟩ := dg_cons (n := 17) hl82
          clear hl82
          obtain ⟨y84, j84, rfl, hl84⟩ := dg_cons (n := 16) hl83
          clear hl83
          obtain ⟨y85, j85, rfl, hl85⟩ := dg_cons (n := 15) hl84
          clear hl84
          obtain ⟨y86, j86, rfl, hl86⟩ := dg_cons (n := 14) hl85
          clear hl85
          obtain ⟨y87, j87, rfl, hl87⟩ := dg_cons (n := 13) hl86
          clear hl86
          obtain ⟨y88, j88, rfl, hl88⟩ := dg_cons (n := 12) hl87
          clear hl87
          obtain ⟨y89, j89, rfl, hl89⟩ := dg_cons (n := 11) hl88
          clear hl88
          obtain ⟨y90, j90, rfl, hl90⟩ := dg_cons (n := 10) hl89
          clear hl89
          obtain ⟨y91, j91, rfl, hl91⟩ := dg_cons (n := 9) hl90
          clear hl90
          obtain ⟨y92, j92, rfl, hl92⟩ := dg_cons (n := 8) hl91
          clear hl91
          obtain ⟨y93, j93, rfl, hl93⟩ := dg_cons (n := 7) hl92
          clear hl92
          obtain ⟨y94, j94, rfl, hl94⟩ := dg_cons (n := 6) hl93
          clear hl93
          obtain ⟨y95, j95, rfl, hl95⟩ := dg_cons (n := 5) hl94
          clear hl94
          obtain ⟨y96, j96, rfl, hl96⟩ := dg_cons (n := 4) hl95
          clear hl95
          obtain ⟨y97, j97, rfl, hl97⟩ := dg_cons (n := 3) hl96
          clear hl96
          obtain ⟨y98, j98, rfl, hl98⟩ := dg_cons (n := 2) hl97
          clear hl97
          obtain ⟨y99, j99, rfl, hl99⟩ := dg_cons (n := 1) hl98
          clear hl98
          obtain ⟨y100, j100, rfl, hl100⟩ := dg_cons (n := 0) hl99
          clear hl99
          obtain rfl := List.eq_nil_of_length_eq_zero hl100
          clear hl100
          have eq9 := hbb 9 (noDst_spec (by kernel_rfl))
          simp only [List.getElem?_toArray, List.getElem?_cons_zero, List.getElem?_cons_succ, Option.some.injEq] at eq9
          subst eq9
          have eq10 := hbb 10 (noDst_spec (by kernel_rfl))
          simp only [List.getElem?_toArray, List.getElem?_cons_zero, List.getElem?_cons_succ, Option.some.injEq] at eq10
          subst eq10
          have eq11 := hbb 11 (noDst_spec (by kernel_rfl))
          simp only [List.getElem?_toArray, List.getElem?_cons_zero, List.getElem?_cons_succ, Option.some.injEq] at eq11
          subst eq11
          obtain rfl : y80 = .bool false := hx80
          obtain rfl : df = [] := hdf
          clear hbb
          refine hK _ W ?_
          have ht : ∀ q : List Value, Array.mk q = List.toArray q := fun _ => rfl
          rw [ht]
          have hbb := DBox.kept HB9.out hC id
          have hTfin := HT9.out.trans hC
          obtain ⟨d0, d1, d2, d3, d4, d5, d6, d7, d8⟩ := DBox.cells hbb
          go_wp2_with fail
          go_ret
          exact ⟨rfl, hTfin⟩
    · as_aux_lemma =>
        obtain ⟨rk, r1, r2, r3, r4, r5, r6, r7, r8⟩ := dd
        have hre := fun W => rencode_calls _ hh.enc W
        rw [hen] at hre
        unfold Dg.v Dg.cells at hre
        simp only at hre
        have HRE := Lib.hid hre
        clear hre hen
        have hdd := fun W => hh.dec W
        obtain ⟨hz4, hz3⟩ := hh.size
        have hso := hh.so
        clear hh
        unfold Dg.v Dg.cells at hdd
        simp only at hdd
        have HDD := Lib.hid hdd
        clear hdd
        obtain ⟨m, hm⟩ : ∃ m : Nat, m = T.size - 4 := ⟨_, rfl⟩
        have hmI : (T.size : Int) - 4 = (m : Int) := by omega
        have hm0 : (0 : Int) ≤ (m : Int) := by omega
        have hm1 : (m : Int) ≤ (T.size : Int) := by omega
        have hsq : sumOk T = decide (sealB (T.extract 0 m) = T.extract m T.size) := by unfold sumOk; rw [decide_eq_true hz4, hm]; rfl
        rw [hso] at hsq
        have hTaz : (T.extract 0 m).size ≤ 1000 := by simp; omega
        obtain ⟨Ta, hTa⟩ : ∃ Ta, T.extract 0 m = Ta := ⟨_, rfl⟩
        obtain ⟨Tc, hTc⟩ : ∃ Tc, T.extract m T.size = Tc := ⟨_, rfl⟩
        rw [hTa, hTc] at hsq
        rw [hTa] at hTaz
        have heq := str_eqD (a := sealB Ta) (b := Tc)
        rw [← hsq] at heq
        clear hsq hso
        have hmo := fun W => refmore_calls 0 Ta W (by decide) (by omega)
        have hcl : moreN 0 Ta.data.toList < 4294967296 := moreN_lt 0 _ (by decide)
        have hpu := fun W => rput_calls (moreN 0 Ta.data.toList) 4 W (by decide) (by omega)
        unfold sealB at heq
        generalize lB 4 (moreN 0 Ta.data.toList) = q4 at heq hpu
        generalize moreN 0 Ta.data.toList = cc at hmo hcl hpu
        have HMO := Lib.hid hmo
        have HPU := Lib.hid hpu
        have hwc : IntKind.u64.wrap (cc : Int) = (cc : Int) := by rw [IntKind.wrap_u64]; omega
        clear hmo hpu hm
        go_wp2_with fail
        refine (HDD.out _).mono ?_
        rintro e w8 ⟨rfl, hT8⟩
        have hT08 := hTt.trans hT8
        clear hTt hT8
        go_upto_region 15 with fail
        have hb9 : DBox (w8.alloc (.cells #[.int .i64 rk, .int .u32 r1, .int .u32 r2, .int .u32 r3, .int .u64 r4, .int .u32 r5, .int .u32 r6, .bool r7, .string r8] 42)) w8.heap.size ⟨rk, r1, r2, r3, r4, r5, r6, r7, r8⟩ := dg_new w8 _ _ _ _ _ _ _ _ _
        have hT09 := hT08.alloc (.cells #[.int .i64 rk, .int .u32 r1, .int .u32 r2, .int .u32 r3, .int .u64 r4, .int .u32 r5, .int .u32 r6, .bool r7, .string r8] 42)
        generalize w8.alloc (.cells #[.int .i64 rk, .int .u32 r1, .int .u32 r2, .int .u32 r3, .int .u64 r4, .int .u32 r5, .int .u32 r6, .bool r7, .string r8] 42) = w9 at hb9 hT09 ⊢
        generalize w8.heap.size = H9 at hb9 ⊢
        clear hT08
        have HB9 := Lib.hid hb9
        have HT9 := Lib.hid hT09
        clear hb9 hT09
        refine wp_region_inv (fun W => Touch (fun _ => False) w9 W) (fun i v _ => anI T Ta Tc q4 m cc false i v) (by kernel_rfl) (by kernel_rfl) (by kernel_rfl) (Touch.refl _ _).drew ?_ ?_
        · intro i o hi a W hC hbase hdep
          have hlt := op_lt hi
          obtain ⟨hbd, hbs, hbb⟩ := hbase
          have b9 : a.tmps[9]? = some (.string T) := (hbb 9 (noDst_spec (by kernel_rfl))).trans rfl
          have b12 : a.tmps[12]? = some (.int .i64 (m : Nat)) := (hbb 12 (noDst_spec (by kernel_rfl))).trans rfl
          rcases (by simp at hlt; omega : i = 0 ∨ i = 1 ∨ i = 2 ∨ i = 3 ∨ i = 4 ∨ i = 5 ∨ i = 6 ∨ i = 7 ∨ i = 8 ∨ i = 9) with rfl | rfl | rfl | rfl | rfl | rfl | rfl | rfl | rfl | rfl
          · simp only [List.getElem?_toArray, List.getElem?_cons_zero, List.getElem?_cons_succ, Option.some.injEq] at hi
            subst hi
            clear hdep
            refine kp_val (v := .string T) ?_ ⟨_, rfl, rfl, hC, fun _ _ h => h⟩
            simp [execOp, Act.eval, b9]
          · simp only [List.getElem?_toArray, List.getElem?_cons_zero, List.getElem?_cons_succ, Option.some.injEq] at hi
            subst hi
            clear hdep
            refine kp_val (v := .int .i64 (m : Nat)) ?_ ⟨_, rfl, rfl, hC, fun _ _ h => h⟩
            simp [execOp, Act.eval, b12]
          · simp only [List.getElem?_toArray, List.getElem?_cons_zero, List.getElem?_cons_succ, Option.some.injEq] at hi
            subst hi
            simp [Region.binds, valOf, anI] at hdep
            refine kp_val (v := .string Ta) ?_ ⟨_, rfl, rfl, hC, fun _ _ h => h⟩
            simp [execOp, Act.eval, hdep]
            go_simp
            try (intro h9; exfalso; omega)
          · simp only [List.getElem?_toArray, List.getElem?_cons_zero, List.getElem?_cons_succ, Option.some.injEq] at hi
            subst hi
            simp [Region.binds, valOf, anI] at hdep
            refine kp_call0 (f := 26) (args := #[.int .u32 0, .string Ta]) (v := .int .u32 (cc : Nat)) ?_ (HMO.out W) ⟨_, rfl, rfl, hC, fun _ _ h => h⟩
            simp [execOp, resolve, invoke, Act.eval, hdep]
            try rfl
          · simp only [List.getElem?_toArray, List.getElem?_cons_zero, List.getElem?_cons_succ, Option.some.injEq] at hi
            subst hi
            simp [Region.binds, valOf, anI] at hdep
            refine kp_val (v := .int .u64 (cc : Nat)) ?_ ⟨_, rfl, rfl, hC, fun _ _ h => h⟩
            simp [execOp, Act.eval, hdep]
            go_simp
          · simp only [List.getElem?_toArray, List.getElem?_cons_zero, List.getElem?_cons_succ, Option.some.injEq] at hi
            subst hi
            simp [Region.binds, valOf, anI] at hdep
            refine kp_call (f := 25) (args := #[.int .u64 (cc : Nat), .int .i64 4]) (v := .string q4) ?_ (HPU.out W) (fun w' ht => ⟨_, rfl, rfl, hC.trans ht, fun _ _ h => h⟩)
            simp [execOp, resolve, invoke, Act.eval, hdep]
            try rfl
          · simp only [List.getElem?_toArray, List.getElem?_cons_zero, List.getElem?_cons_succ, Option.some.injEq] at hi
            subst hi
            clear hdep
            refine kp_val (v := .string T) ?_ ⟨_, rfl, rfl, hC, fun _ _ h => h⟩
            simp [execOp, Act.eval, b9]
          · simp only [List.getElem?_toArray, List.getElem?_cons_zero, List.getElem?_cons_succ, Option.some.injEq] at hi
            subst hi
            clear hdep
            refine kp_val (v := .int .i64 (m : Nat)) ?_ ⟨_, rfl, rfl, hC, fun _ _ h => h⟩
            simp [execOp, Act.eval, b12]
          · simp only [List.getElem?_toArray, List.getElem?_cons_zero, List.getElem?_cons_succ, Option.some.injEq] at hi
            subst hi
            simp [Region.binds, valOf, anI] at hdep
            refine kp_val (v := .string Tc) ?_ ⟨_, rfl, rfl, hC, fun _ _ h => h⟩
            simp [execOp, Act.eval, hdep]
            go_simp
            try (intro h9; exfalso; omega)
          · simp only [List.getElem?_toArray, List.getElem?_cons_zero, List.getElem?_cons_succ, Option.some.injEq] at hi
            subst hi
            simp [Region.binds, valOf, anI] at hdep
            refine kp_val (v := .bool false) ?_ ⟨_, rfl, rfl, hC, fun _ _ h => h⟩
            simp [execOp, Act.eval, hdep]
            go_simp
        · intro a W hC hbase hall
          have hx80 : a.tmps.getD 80 undef = .bool false := hall 9 _ rfl
          obtain ⟨hbd, hbs, hbb⟩ := hbase
          have hdf : a.defers = [] := hbd
          clear hall hbd
          rename_i hK
          obtain ⟨⟨l9⟩, df⟩ := a
          have hl : l9.length = 101 := hbs
          clear hbs
          obtain ⟨y0, j0, rfl, hl0⟩ := dg_cons (n := 100) hl
          clear hl
          obtain ⟨y1, j1, rfl, hl1⟩ := dg_cons (n := 99) hl0
          clear hl0
          obtain ⟨y2, j2, rfl, hl2⟩ := dg_cons (n := 98) hl1
          clear hl1
          obtain ⟨y3, j3, rfl, hl3⟩ := dg_cons (n := 97) hl2
          clear hl2
          obtain ⟨y4, j4, rfl, hl4⟩ := dg_cons (n := 96) hl3
          clear hl3
          obtain ⟨y5, j5, rfl, hl5⟩ := dg_cons (n := 95) hl4
          clear hl4
          obtain ⟨y6, j6, rfl, hl6⟩ := dg_cons (n := 94) hl5
          clear hl5
          obtain ⟨y7, j7, rfl, hl7⟩ := dg_cons (n := 93) hl6
          clear hl6
          obtain ⟨y8, j8, rfl, hl8⟩ := dg_cons (n := 92) hl7
          clear hl7
          obtain ⟨y9, j9, rfl, hl9⟩ := dg_cons (n := 91) hl8
          clear hl8
          obtain ⟨y10, j10, rfl, hl10⟩ := dg_cons (n := 90) hl9
          clear hl9
          obtain ⟨y11, j11, rfl, hl11⟩ := dg_cons (n := 89) hl10
          clear hl10
          obtain ⟨y12, j12, rfl, hl12⟩ := dg_cons (n := 88) hl11
          clear hl11
          obtain ⟨y13, j13, rfl, hl13⟩ := dg_cons (n := 87) hl12
          clear hl12
          obtain ⟨y14, j14, rfl, hl14⟩ := dg_cons (n := 86) hl13
          clear hl13
          obtain ⟨y15, j15, rfl, hl15⟩ := dg_cons (n := 85) hl14
          clear hl14
          obtain ⟨y16, j16, rfl, hl16⟩ := dg_cons (n := 84) hl15
          clear hl15
          obtain ⟨y17, j17, rfl, hl17⟩ := dg_cons (n := 83) hl16
          clear hl16
          obtain ⟨y18, j18, rfl, hl18⟩ := dg_cons (n := 82) hl17
          clear hl17
          obtain ⟨y19, j19, rfl, hl19⟩ := dg_cons (n := 81) hl18
          clear hl18
          obtain ⟨y20, j20, rfl, hl20⟩ := dg_cons (n := 80) hl19
          clear hl19
          obtain ⟨y21, j21, rfl, hl21⟩ := dg_cons (n := 79) hl20
          clear hl20
          obtain ⟨y22, j22, rfl, hl22⟩ := dg_cons (n := 78) hl21
          clear hl21
          obtain ⟨y23, j23, rfl, hl23⟩ := dg_cons (n := 77) hl22
          clear hl22
          obtain ⟨y24, j24, rfl, hl24⟩ := dg_cons (n := 76) hl23
          clear hl23
          obtain ⟨y25, j25, rfl, hl25⟩ := dg_cons (n := 75) hl24
          clear hl24
          obtain ⟨y26, j26, rfl, hl26⟩ := dg_cons (n := 74) hl25
          clear hl25
          obtain ⟨y27, j27, rfl, hl27⟩ := dg_cons (n := 73) hl26
          clear hl26
          obtain ⟨y28, j28, rfl, hl28⟩ := dg_cons (n := 72) hl27
          clear hl27
          obtain ⟨y29, j29, rfl, hl29⟩ := dg_cons (n := 71) hl28
          clear hl28
          obtain ⟨y30, j30, rfl, hl30⟩ := dg_cons (n := 70) hl29
          clear hl29
          obtain ⟨y31, j31, rfl, hl31⟩ := dg_cons (n := 69) hl30
          clear hl30
          obtain ⟨y32, j32, rfl, hl32⟩ := dg_cons (n := 68) hl31
          clear hl31
          obtain ⟨y33, j33, rfl, hl33⟩ := dg_cons (n := 67) hl32
          clear hl32
          obtain ⟨y34, j34, rfl, hl34⟩ := dg_cons (n := 66) hl33
          clear hl33
          obtain ⟨y35, j35, rfl, hl35⟩ := dg_cons (n := 65) hl34
          clear hl34
          obtain ⟨y36, j36, rfl, hl36⟩ := dg_cons (n := 64) hl35
          clear hl35
          obtain ⟨y37, j37, rfl, hl37⟩ := dg_cons (n := 63) hl36
          clear hl36
          obtain ⟨y38, j38, rfl, hl38⟩ := dg_cons (n := 62) hl37
          clear hl37
          obtain ⟨y39, j39, rfl, hl39⟩ := dg_cons (n := 61) hl38
          clear hl38
          obtain ⟨y40, j40, rfl, hl40⟩ := dg_cons (n := 60) hl39
          clear hl39
          obtain ⟨y41, j41, rfl, hl41⟩ := dg_cons (n := 59) hl40
          clear hl40
          obtain ⟨y42, j42, rfl, hl42⟩ := dg_cons (n := 58) hl41
          clear hl41
          obtain ⟨y43, j43, rfl, hl43⟩ := dg_cons (n := 57) hl42
          clear hl42
          obtain ⟨y44, j44, rfl, hl44⟩ := dg_cons (n := 56) hl43
          clear hl43
          obtain ⟨y45, j45, rfl, hl45⟩ := dg_cons (n := 55) hl44
          clear hl44
          obtain ⟨y46, j46, rfl, hl46⟩ := dg_cons (n := 54) hl45
          clear hl45
          obtain ⟨y47, j47, rfl, hl47⟩ := dg_cons (n := 53) hl46
          clear hl46
          obtain ⟨y48, j48, rfl, hl48⟩ := dg_cons (n := 52) hl47
          clear hl47
          obtain ⟨y49, j49, rfl, hl49⟩ := dg_cons (n := 51) hl48
          clear hl48
          obtain ⟨y50, j50, rfl, hl50⟩ := dg_cons (n := 50) hl49
          clear hl49
          obtain ⟨y51, j51, rfl, hl51⟩ := dg_cons (n := 49) hl50
          clear hl50
          obtain ⟨y52, j52, rfl, hl52⟩ := dg_cons (n := 48) hl51
          clear hl51
          obtain ⟨y53, j53, rfl, hl53⟩ := dg_cons (n := 47) hl52
          clear hl52
          obtain ⟨y54, j54, rfl, hl54⟩ := dg_cons (n := 46) hl53
          clear hl53
          obtain ⟨y55, j55, rfl, hl55⟩ := dg_cons (n := 45) hl54
          clear hl54
          obtain ⟨y56, j56, rfl, hl56⟩ := dg_cons (n := 44) hl55
          clear hl55
          obtain ⟨y57, j57, rfl, hl57⟩ := dg_cons (n := 43) hl56
          clear hl56
          obtain ⟨y58, j58, rfl, hl58⟩ := dg_cons (n := 42) hl57
          clear hl57
          obtain ⟨y59, j59, rfl, hl59⟩ := dg_cons (n := 41) hl58
          clear hl58
          obtain ⟨y60, j60, rfl, hl60⟩ := dg_cons (n := 40) hl59
          clear hl59
          obtain ⟨y61, j61, rfl, hl61⟩ := dg_cons (n := 39) hl60
          clear hl60
          obtain ⟨y62, j62, rfl, hl62⟩ := dg_cons (n := 38) hl61
          clear hl61
          obtain ⟨y63, j63, rfl, hl63⟩ := dg_cons (n := 37) hl62
          clear hl62
          obtain ⟨y64, j64, rfl, hl64⟩ := dg_cons (n := 36) hl63
          clear hl63
          obtain ⟨y65, j65, rfl, hl65⟩ := dg_cons (n := 35) hl64
          clear hl64
          obtain ⟨y66, j66, rfl, hl66⟩ := dg_cons (n := 34) hl65
          clear hl65
          obtain ⟨y67, j67, rfl, hl67⟩ := dg_cons (n := 33) hl66
          clear hl66
          obtain ⟨y68, j68, rfl, hl68⟩ := dg_cons (n := 32) hl67
          clear hl67
          obtain ⟨y69, j69, rfl, hl69⟩ := dg_cons (n := 31) hl68
          clear hl68
          obtain ⟨y70, j70, rfl, hl70⟩ := dg_cons (n := 30) hl69
          clear hl69
          obtain ⟨y71, j71, rfl, hl71⟩ := dg_cons (n := 29) hl70
          clear hl70
          obtain ⟨y72, j72, rfl, hl72⟩ := dg_cons (n := 28) hl71
          clear hl71
          obtain ⟨y73, j73, rfl, hl73⟩ := dg_cons (n := 27) hl72
          clear hl72
          obtain ⟨y74, j74, rfl, hl74⟩ := dg_cons (n := 26) hl73
          clear hl73
          obtain ⟨y75, j75, rfl, hl75⟩ := dg_cons (n := 25) hl74
          clear hl74
          obtain ⟨y76, j76, rfl, hl76⟩ := dg_cons (n := 24) hl75
          clear hl75
          obtain ⟨y77, j77, rfl, hl77⟩ := dg_cons (n := 23) hl76
          clear hl76
          obtain ⟨y78, j78, rfl, hl78⟩ := dg_cons (n := 22) hl77
          clear hl77
          obtain ⟨y79, j79, rfl, hl79⟩ := dg_cons (n := 21) hl78
          clear hl78
          obtain ⟨y80, j80, rfl, hl80⟩ := dg_cons (n := 20) hl79
          clear hl79
          obtain ⟨y81, j81, rfl, hl81⟩ := dg_cons (n := 19) hl80
          clear hl80
          obtain ⟨y82, j82, rfl, hl82⟩ := dg_cons (n := 18) hl81
          clear hl81
          obtain ⟨y83, j83, rfl, hl83⟩ := dg_cons (n := 17) hl82
          clear hl82
          obtain ⟨y84, j84, rfl, hl84⟩ := dg_cons (n := 16) hl83
          clear hl83
          obtain ⟨y85, j85, rfl, hl85⟩ := dg_cons (n := 15) hl84
          clear hl84
          obtain ⟨y86, j86, rfl, hl86⟩ := dg_cons (n := 14) hl85
          clear hl85
          obtain ⟨y87, j87, rfl, hl87⟩ := dg_cons (n := 13) hl86
          clear hl86
          obtain ⟨y88, j88, rfl, hl88⟩ := dg_cons (n := 12) hl87
          clear hl87
          obtain ⟨y89, j89, rfl, hl89⟩ := dg_cons (n := 11) hl88
          clear hl88
          obtain ⟨y90, j90, rfl, hl90⟩ := dg_cons (n := 10) hl89
          clear hl89
          obtain ⟨y91, j91, rfl, hl91⟩ := dg_cons (n := 9) hl90
          clear hl90
          obtain ⟨y92, j92, rfl, hl92⟩ := dg_cons (n := 8) hl91
          clear hl91
          obtain ⟨y93, j93, rfl, hl93⟩ := dg_cons (n := 7) hl92
          clear hl92
          obtain ⟨y94, j94, rfl, hl94⟩ := dg_cons (n := 6) hl93
          clear hl93
          obtain ⟨y95, j95, rfl, hl95⟩ := dg_cons (n := 5) hl94
          clear hl94
          obtain ⟨y96, j96, rfl, hl96⟩ := dg_cons (n := 4) hl95
          clear hl95
          obtain ⟨y97, j97, rfl, hl97⟩ := dg_cons (n := 3) hl96
          clear hl96
          obtain ⟨y98, j98, rfl, hl98⟩ := dg_cons (n := 2) hl97
          clear hl97
          obtain ⟨y99, j99, rfl, hl99⟩ := dg_cons (n := 1) hl98
          clear hl98
          obtain ⟨y100, j100, rfl, hl100⟩ := dg_cons (n := 0) hl99
          clear hl99
          obtain rfl := List.eq_nil_of_length_eq_zero hl100
          clear hl100
          have eq9 := hbb 9 (noDst_spec (by kernel_rfl))
          simp only [List.getElem?_toArray, List.getElem?_cons_zero, List.getElem?_cons_succ, Option.some.injEq] at eq9
          subst eq9
          have eq10 := hbb 10 (noDst_spec (by kernel_rfl))
          simp only [List.getElem?_toArray, List.getElem?_cons_zero, List.getElem?_cons_succ, Option.some.injEq] at eq10
          subst eq10
          have eq11 := hbb 11 (noDst_spec (by kernel_rfl))
          simp only [List.getElem?_toArray, List.getElem?_cons_zero, List.getElem?_cons_succ, Option.some.injEq] at eq11
          subst eq11
          obtain rfl : y80 = .bool false := hx80
          obtain rfl : df = [] := hdf
          clear hbb
          refine hK _ W ?_
          have ht : ∀ q : List Value, Array.mk q = List.toArray q := fun _ => rfl
          rw [ht]
          have hbb := DBox.kept HB9.out hC id
          have hTfin := HT9.out.trans hC
          obtain ⟨d0, d1, d2, d3, d4, d5, d6, d7, d8⟩ := DBox.cells hbb
          go_wp2_with fail
          refine (HRE.out _).mono ?_
          rintro e wz ⟨rfl, hTz⟩
          go_wp2_with fail
          go_ret
          exact ⟨rfl, hTfin.trans hTz⟩

theorem dany_calls (d : Dg) (sx sy : Int) (sum : Bool) (hw0 : d.Wf) (w : World) : Calls Try.prog 8 #[d.v, .agg #[.int .i64 sx, .int .i64 sy], .bool sum] w fun e w' => e = .returned (.bool true) ∧ Touch (fun _ => False) w w' := by
  cases hg : goodD ⟨d.kind, d.se, d.ep, d.sq, d.pos, d.sm, d.mp, d.last, d.text.extract 0 (min d.text.size 256)⟩
  · exact dany_bad d sx sy sum hw0 hg w
  · exact dany_good d sx sy sum hw0 hg w
end Go.Proofs.Ytmjahbdengnoeaa

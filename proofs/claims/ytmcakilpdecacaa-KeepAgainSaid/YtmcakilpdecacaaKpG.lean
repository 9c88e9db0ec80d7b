/- Contracts of package keep, seventh part: lastOf without a note, Open. -/
import Derived.Test.YtmcakilpdecacaaKpF
namespace Go.Proofs.Ytmcakilpdecacaa
open Go Go.RowKit Go.Maps
set_option maxRecDepth 100000

theorem kopen_nil (w : World) : Calls Try.prog 40 #[.pointer none] w fun e w' => e = .returned (.tuple #[.pointer none, .int .i64 1]) ∧ w = w' := by
  go_enter Try.func40, Try.ntmps40
  go_wp2
  go_ret2
  exact ⟨rfl, rfl⟩
theorem kopen_small {w : World} {b lb mb c n : Nat} {L : List UInt8} {C : List Ent} {t : Nat} {f : Int} {on : Bool} (h : DkAt w b lb mb c n L C t f on) (hn : n < 9) :
    Calls Try.prog 40 #[.pointer (some ⟨b, 0, none⟩)] w fun e w' => e = .returned (.tuple #[.pointer none, .int .i64 20]) ∧ w = w' := by
  have d1 : decide ((n : Int) < 9) = true := decide_eq_true (by omega)
  have H := Lib.hid h
  clear h
  go_enter Try.func40, Try.ntmps40
  go_wp2_with (go_at_call 49; refine (sectors_calls H.out).mono ?_; rintro e w' ⟨rfl, rfl⟩)
  go_ret2
  exact ⟨rfl, rfl⟩

theorem NBox.five {w : World} {nb se ep sz sm z e : Nat} {dn : Bool} (h : NBox w nb se ep sz sm dn) : NBox (five w nb z e) nb z e 0 0 false := Block.set (Block.set (Block.set (Block.set (Block.set h 0 _) 1 _) 2 _) 3 _) 4 _
theorem five_touch (w : World) (nb z e : Nat) : Touch (fun k => k = nb) w (five w nb z e) :=
  (((((Touch.refl (fun k => k = nb) w).setCell (p := ⟨nb, 0, none⟩) (.inl rfl) _).setCell (p := ⟨nb, 1, none⟩) (.inl rfl) _).setCell (p := ⟨nb, 2, none⟩) (.inl rfl) _).setCell (p := ⟨nb, 3, none⟩) (.inl rfl) _).setCell (p := ⟨nb, 4, none⟩) (.inl rfl) _
theorem lastOf_none {w : World} {gb b : Nat} {nt : ByteArray} (h : LogAt w gb b 0 8 0 nt false) : Calls Try.prog 69 #[.pointer (some ⟨gb, 0, none⟩)] w fun e w' => e = .returned (.tuple #[stV 0 0 0 0 false, .bool true]) ∧ Touch (fun _ => False) w w' := by
  have HN := Lib.hid (fun W (hW : Touch (fun _ => False) w W) => note_calls (show LogAt W gb b 0 8 0 nt false from Block.kept h hW id))
  clear h
  go_enter Try.func69, Try.ntmps69
  go_wp2_with fail
  have hT := (Touch.refl (fun _ => False) w).alloc (.cells #[.int .u32 0, .int .u32 0, .int .i64 0, .int .u32 0, .bool false] 82)
  have hbx := Block.new w 82 [.int .u32 0, .int .u32 0, .int .i64 0, .int .u32 0, .bool false]
  generalize w.alloc (.cells #[.int .u32 0, .int .u32 0, .int .i64 0, .int .u32 0, .bool false] 82) = w1 at hT hbx ⊢
  generalize hG : w.heap.size = G at hbx ⊢
  have HG := Lib.hid hG
  clear hG
  refine (HN.out w1 hT).mono ?_
  rintro e w2 ⟨rfl, hT2⟩
  have hbx2 := Block.kept hbx hT2 id
  have f0 := Block.free hbx2 0
  have f1 := Block.free hbx2 1
  have f2 := Block.free hbx2 2
  have f3 := Block.free hbx2 3
  have f4 := Block.free hbx2 4
  have c0 := Block.cell hbx2 0
  have c1 := Block.cell hbx2 1
  have c2 := Block.cell hbx2 2
  have c3 := Block.cell hbx2 3
  have c4 := Block.cell hbx2 4
  have HBX := Lib.hid hbx2
  have HT := Lib.hid (hT.trans hT2)
  clear hbx hbx2 hT hT2
  go_wp2_with fail
  have hf := NBox.five (z := 0) (e := 0) HBX.out
  have hT5 := five_touch w2 G 0 0
  have hr : (five w2 G 0 0).heap[G]? = some (.cells #[.int .u32 (0 : Nat), .int .u32 (0 : Nat), .int .i64 (0 : Nat), .int .u32 (0 : Nat), .bool false] 82) := hf
  exact bodyPost_ret (results_cell_slot rfl _ _ G _ _ _ _ rfl hr Try.underlying82 rfl Try.sizeSt) rfl ⟨rfl, HT.out.trans' hT5 (fun i hi => .inr (by rw [HG.out]; exact Nat.le_of_eq hi.symm))⟩

set_option maxHeartbeats 800000 in
theorem kopen_calls {w : World} {b lb mb c n : Nat} {L : List UInt8} {t : Nat} (h : DkAt w b lb mb c n L [] t (-1) true) (hn9 : 9 ≤ n) {N se ep : Nat} {nt : ByteArray} {A : List UInt8} {dn : Bool} (hN : N < 1000000) (hS : LogSecs (secsOf L 0 8) N nt.data.toList) (hA : Holds L [] (8 * 64) A) (hz : A.length ≤ (n - 8) * 64) (hse : se < 4294967296) (hep : ep < 4294967296) (hnote : NoteOf N nt se ep A dn)
    (hlast : ∀ W gb, LogAt W gb b 0 8 N nt false → Calls Try.prog 69 #[.pointer (some ⟨gb, 0, none⟩)] W fun e w' => e = .returned (.tuple #[stV se ep A.length (moreN 0 A) dn, .bool true]) ∧ Touch (fun _ => False) W w') :
    Calls Try.prog 40 #[.pointer (some ⟨b, 0, none⟩)] w fun e w' => ∃ gb fb kb, e = .returned (.tuple #[.pointer (some ⟨kb, 0, none⟩), .int .i64 0]) ∧ Kp w' b lb mb c n t gb fb kb N nt L se ep A dn ∧ (w.heap.size ≤ gb ∧ w.heap.size ≤ fb ∧ w.heap.size ≤ kb) ∧ Touch (fun _ => False) w w' := by
  have hn2 := h.n2
  have d1 : decide ((n : Int) < 9) = false := decide_eq_false (by omega)
  have d1' : decide (n < 9) = false := decide_eq_false (by omega)
  have H := Lib.hid h
  have hlo := lopen_calls h 0 8 (by omega) (by omega) hN hS
  have HLO := Lib.hid hlo
  have HLA := Lib.hid hlast
  unfold stV at HLA
  obtain ⟨m, hm⟩ : ∃ m, moreN 0 A = m := ⟨_, rfl⟩
  obtain ⟨a, ha⟩ : ∃ a, A.length = a := ⟨_, rfl⟩
  obtain ⟨u, hu⟩ : ∃ u : Nat, n - 8 = u := ⟨_, rfl⟩
  have huI : (n : Int) - 8 = (u : Int) := by omega
  have hwu : IntKind.i64.wrap ((n : Int) - 8) = (u : Int) := by rw [huI]; exact IntWalk.i64_in _ (by omega)
  have hwu2 : IntKind.i64.wrap (u : Int) = (u : Int) := IntWalk.i64_in _ (by omega)
  rw [hm, ha] at HLA
  have HQ := Lib.hid (⟨hm, ha, hu⟩ : _ ∧ _ ∧ _)
  have HNT := Lib.hid hnote
  have HA := Lib.hid hA
  clear h hlo hlast hS hnote hA
  go_enter Try.func40, Try.ntmps40
  go_wp2_with (go_at_call 49; refine (sectors_calls H.out).mono ?_; rintro e w' ⟨rfl, rfl⟩)
  refine HLO.out.mono ?_
  rintro e w1 ⟨gb, rfl, hV, hgb, hT1⟩
  have HV := Lib.hid hV
  have HT1 := Lib.hid hT1
  clear hV hT1
  go_wp2_with fail
  refine (HLA.out w1 gb HV.out.log).mono ?_
  rintro e w2 ⟨rfl, hT2⟩
  have HV2 := Lib.hid (HV.out.still hT2)
  have HT2 := Lib.hid (HT1.out.trans hT2)
  clear hT2
  go_upto_region 11 with fail
  have hTa := (Touch.refl (fun _ => False) w2).alloc (.cells #[.int .u32 se, .int .u32 ep, .int .i64 a, .int .u32 m, .bool dn] 82)
  have hbx : NBox (w2.alloc (.cells #[.int .u32 se, .int .u32 ep, .int .i64 a, .int .u32 m, .bool dn] 82)) w2.heap.size se ep a m dn := Block.new w2 82 [.int .u32 se, .int .u32 ep, .int .i64 a, .int .u32 m, .bool dn]
  have hV3 := HV2.out.still hTa
  have hT3 := HT2.out.trans hTa
  generalize w2.alloc (.cells #[.int .u32 se, .int .u32 ep, .int .i64 a, .int .u32 m, .bool dn] 82) = w3 at hTa hbx hV3 hT3 ⊢
  generalize w2.heap.size = sb at hbx ⊢
  obtain ⟨y0, y1, y2, y3, y4⟩ := hbx.cells
  have HBX := Lib.hid hbx
  have HV3 := Lib.hid hV3
  have HT3 := Lib.hid hT3
  have HNEW : Hid (∀ W, Touch (fun _ => False) w3 W → Calls Try.prog 27 #[.pointer (some ⟨b, 0, none⟩), .int .i64 8, .int .i64 u, .int .i64 a] W fun e w' => ∃ fb, e = .returned (.tuple #[.pointer (some ⟨fb, 0, none⟩), .int .i64 0]) ∧ FlAt w' fb b 8 (u * 64) a ∧ W.heap.size ≤ fb ∧ Touch (fun _ => False) W w') := Lib.hid (fun W hW => stnew_calls (hV3.disk.still hW) 8 u a (by omega) (by omega) (by rw [← ha, ← hu]; exact hz))
  clear hTa hbx hV3 hT3 ha hu hm
  go_region_law (first
    | (go_simp; go_at_call 49; refine (sectors_calls (HV3.out.disk.still (Touch.refl (fun _ => False) w3).drew)).mono ?_; rintro e w' ⟨rfl, rfl⟩)
    | (go_simp; go_at_call 27; refine (HNEW.out _ (Touch.refl (fun _ => False) w3).drew).mono ?_; rintro e w4 ⟨fb, rfl, hF4, hfb, hT4⟩; have HF4 := Lib.hid hF4; have HFB := Lib.hid hfb; have HT4 : Hid (Touch (fun _ => False) w3 w4) := Lib.hid ((Touch.refl (fun _ => False) w3).drew.trans hT4); clear hF4 hfb hT4))
  all_goals
    have y0 := HT4.out.cell y0 id
    have y1 := HT4.out.cell y1 id
    have y2 := HT4.out.cell y2 id
    have y3 := HT4.out.cell y3 id
    have y4 := HT4.out.cell y4 id
    have hV4 := HV3.out.still HT4.out
    have hsep : ¬ DkS b lb mb fb ∧ fb ≠ gb := by
      have h1 := HV3.out.disk.lt
      have h2 : gb < w3.heap.size := Block.lt HV3.out.log
      have h3 : w3.heap.size ≤ fb := HFB.out
      exact ⟨by rintro (h | h | h) <;> omega, by omega⟩
    have hD4 : Duo w4 b lb mb c n t gb fb N nt L A := ⟨hV4, by rw [HQ.out.2.1, HQ.out.2.2]; exact HF4.out, HA.out, hsep, hn9, hz⟩
    have hsum := fil_sum hD4.fil 0 a (by rw [HQ.out.2.1]; omega)
    rw [List.drop_zero, List.take_of_length_le (Nat.le_of_eq HQ.out.2.1), HQ.out.1] at hsum
    have HSUM := Lib.hid hsum
    have HD4 := Lib.hid hD4
    clear hV4 hsep hD4 hsum
    go_wp2_with fail
    refine HSUM.out.mono ?_
    rintro e w5 ⟨rfl, hT5⟩
    have y0 := hT5.cell y0 id
    have y1 := hT5.cell y1 id
    have y2 := hT5.cell y2 id
    have y3 := hT5.cell y3 id
    have y4 := hT5.cell y4 id
    have HT5 := Lib.hid hT5
    clear hT5
    go_wp2_with fail
    go_ret2
    have hTa := (Touch.refl (fun _ => False) w5).alloc (.cells #[.pointer (some ⟨gb, 0, none⟩), .pointer (some ⟨fb, 0, none⟩), .int .u32 se, .int .u32 ep, .int .i64 a, .int .u32 m, .bool dn, .bool false] 122)
    have hkb := Block.new w5 122 [.pointer (some ⟨gb, 0, none⟩), .pointer (some ⟨fb, 0, none⟩), .int .u32 se, .int .u32 ep, .int .i64 a, .int .u32 m, .bool dn, .bool false]
    have hD5 := HD4.out.still HT5.out
    have hlt := hD5.lt
    have z1 := HT1.out.size
    have z3 := HT3.out.size
    have z4 := HT4.out.size
    have z5 := HT5.out.size
    have zf : w3.heap.size ≤ fb := HFB.out
    refine ⟨gb, fb, w5.heap.size, rfl, ⟨hD5.still hTa, by rw [HQ.out.1, HQ.out.2.1]; exact hkb, ⟨fun h => by have := hlt _ (.inl h); omega, fun e => by have := hlt gb (.inr (.inl rfl)); omega, fun e => by have := hlt fb (.inr (.inr rfl)); omega⟩, hse, hep, HNT.out⟩, ⟨hgb, by omega, by omega⟩, ((HT3.out.trans HT4.out).trans HT5.out).trans hTa⟩

end Go.Proofs.Ytmcakilpdecacaa

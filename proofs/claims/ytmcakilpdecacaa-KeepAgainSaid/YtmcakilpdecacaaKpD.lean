/- Contracts of package keep, fourth part: noNote, extend, Start. -/
import Derived.Test.YtmcakilpdecacaaKpC
namespace Go.Proofs.Ytmcakilpdecacaa
open Go Go.RowKit Go.Maps
set_option maxRecDepth 100000

theorem sec_of_img {n : Nat} {L : List UInt8} {C : List Ent} (hL : L.length = n * 64) (hc : ∀ e ∈ C, e.k < n ∧ e.s.size = 64) {j : Nat} (hj : j < n) (h : ∀ q, q < 64 → imgB L C (j * 64 + q) = imgB L [] (j * 64 + q)) : (readS L C j).data.toList = sec L j := by
  have h1 : (readS L C j).data.toList.length = 64 := by rw [ba_len]; exact readS_size hL hc hj
  have h2 := sec_len hL hj
  apply List.ext_getElem (by rw [h1, h2])
  intro q hq1 hq2
  have hq : q < 64 := by omega
  have h3 := h q hq
  unfold imgB at h3
  have e1 : (j * 64 + q) / 64 = j := by omega
  have e2 : (j * 64 + q) % 64 = q := by omega
  rw [e1, e2] at h3
  have h4 : (readS L C j).data.toList.getD q 0 = (sec L j).getD q 0 := h3
  rw [List.getD_eq_getElem?_getD, List.getD_eq_getElem?_getD, List.getElem?_eq_getElem hq1, List.getElem?_eq_getElem hq2] at h4
  exact h4

theorem nonote_calls {w : World} {b gb N kb fb se ep sz sm : Nat} {nt : ByteArray} {dn fl : Bool} (hL : LogAt w gb b 0 8 N nt false) (hN : N < 1000000) (hK : KBox w kb gb fb se ep sz sm dn fl) :
    Calls Try.prog 72 #[.pointer (some ⟨kb, 0, none⟩)] w fun e w' => e = .returned (.bool false) ∧ Touch (fun _ => False) w w' := by
  have c0 := hK.cells.1
  have HN := Lib.hid (note_calls hL)
  have d1 : ((N : Int) == 18446744073709551615) = false := by rw [beq_eq_false_iff_ne]; omega
  go_enter Try.func72, Try.ntmps72
  go_wp2_with (go_at_call 87; refine HN.out.mono ?_; rintro e wa ⟨rfl, hTa⟩)
  go_ret
  exact ⟨rfl, hTa⟩

/-- The bytes behind what there is, so that they last. -/
theorem kextend_calls {w : World} {b lb mb c n t gb fb kb N se ep sz sm : Nat} {nt : ByteArray} {L B : List UInt8} {dn fl : Bool} (h : Duo w b lb mb c n t gb fb N nt L B) (hK : KBox w kb gb fb se ep sz sm dn fl) (hkb : ¬ (DkS b lb mb kb ∨ kb = fb)) (s : ByteArray) (hs : s.size ≤ (n - 8) * 64 - B.length) (ht : t + s.size ≤ 1000000) :
    Calls Try.prog 74 #[.pointer (some ⟨kb, 0, none⟩), .string s] w fun e w' => e = .returned (.int .i64 0) ∧ (∃ L' t', t' ≤ t + s.size ∧ Duo w' b lb mb c n t' gb fb N nt L' (B ++ s.data.toList)) ∧ Touch (fun k => DkS b lb mb k ∨ k = fb) w w' := by
  have hn9 := h.n9
  have c1 := hK.cells.2.1
  have HK := Lib.hid hK
  have H := Lib.hid h
  have hap := stappend_calls h.live.disk h.file h.fsep.1 (by omega) h.size s hs ht
  have HAP := Lib.hid hap
  clear hap h hK
  go_enter Try.func74, Try.ntmps74
  go_wp2_with fail
  refine HAP.out.mono ?_
  rintro e wa ⟨⟨rfl, C', t', f', hf, ht', hD, hF, hI, hKU⟩ | ⟨hf, _⟩, hT⟩
  · obtain rfl := hf rfl
    have c1 := hT.cell (p := ⟨kb, 1, none⟩) c1 hkb
    have HD := Lib.hid hD
    have HF := Lib.hid hF
    have HI := Lib.hid hI
    have HT := Lib.hid hT
    clear hD hF hI hKU hT
    go_wp2_with (go_at_call 31; refine (stsync_any HF.out (Q := fun w' => ∃ L', (L'.length = n * 64 ∧ ∀ k : Nat, k < n → sec L' k = (readS L C' k).data.toList) ∧ DkAt w' b lb mb c n L' [] t' (-1) true ∧ Touch (DkS b lb mb) wa w') (sync_ok HD.out (by omega))).mono ?_; rintro e wb ⟨rfl, L3, ⟨hL3, hL4⟩, hDb, hTb⟩)
    go_ret
    have hents : ∀ e ∈ C', e.k < n ∧ e.s.size = 64 := fun e he => ⟨(HD.out.ents e he).1, (HD.out.ents e he).2.1⟩
    have hz := H.out.size
    have hsec : secsOf L3 0 8 = secsOf L 0 8 := secsOf_eq fun j hj => by
      rw [hL4 _ (by omega)]
      refine sec_of_img HD.out.len hents (by omega) fun q hq => ?_
      rw [HI.out, if_neg (by omega)]
    have hl : (B ++ s.data.toList).length = B.length + s.size := by rw [List.length_append, ba_len]
    have hgl : ¬ (DkS b lb mb gb ∨ gb = fb) := fun h => h.elim H.out.live.sep (fun h => H.out.fsep.2 h.symm)
    have hh : Holds L C' (8 * 64) (B ++ s.data.toList) := H.out.holds.app HI.out
    have hh2 : Holds L3 [] (8 * 64) (B ++ s.data.toList) := hh.congr fun j hj => by
      show (sec L3 ((8 * 64 + j) / 64)).toArray.toList.getD _ 0 = _
      rw [hL4 _ (by omega)]
      rfl
    exact ⟨rfl, ⟨L3, t', ht', ⟨⟨hDb, (H.out.live.log.kept HT.out hgl).kept hTb H.out.live.sep, H.out.live.sep, by rw [hsec]; exact H.out.live.secs⟩, by rw [hl]; exact HF.out.kept hTb H.out.fsep.1, hh2, H.out.fsep, hn9, by rw [hl]; omega⟩⟩, HT.out.trans (hTb.mono fun _ hk => .inl hk)⟩
  · exact absurd rfl hf

theorem start1_how {w : World} {b lb mb c n t gb fb N : Nat} {nt : ByteArray} {L B : List UInt8} (h : Duo w b lb mb c n t gb fb N nt L B) {nb se ep : Nat} {dn : Bool} (hb : NBox w nb se ep B.length (moreN 0 B) dn) (hnb : ∀ k, DkS b lb mb k ∨ k = gb ∨ k = fb → k ≠ nb) (hep : ep < 4294967296) :
    Calls Try.prog 75 #[.pointer (some ⟨nb, 0, none⟩)] w fun e w' => HowOut w w' b lb mb c n t gb fb N nt nb se ((ep + 1) % 4294967296) B dn 0 e := by
  obtain ⟨y0, y1, y2, y3, y4⟩ := hb.cells
  have f1 := Block.free hb 1
  obtain ⟨ep', he⟩ : ∃ ep', (ep + 1) % 4294967296 = ep' := ⟨_, rfl⟩
  have hw : IntKind.u32.wrap ((ep : Int) + 1) = (ep' : Int) := by rw [IntKind.wrap_u32]; omega
  rw [he]
  have HB := Lib.hid hb
  have H := Lib.hid h
  clear h hb he
  go_enter Try.func75, Try.ntmps75
  go_wp2_with fail
  go_ret
  have hT : Touch (fun k => k = nb) w (w.setCell ⟨nb, 1, none⟩ (.int .u32 (ep' : Int))) := (Touch.refl (fun k => k = nb) w).setCell (p := ⟨nb, 1, none⟩) (.inl rfl) _
  exact ⟨rfl, ⟨L, t, B, by omega, H.out.away hT (fun k hk => hnb k hk), List.take_length .., Nat.le_refl _⟩, Block.set HB.out 1 _, hT.mono fun k hk => .inr (.inr hk)⟩

end Go.Proofs.Ytmcakilpdecacaa

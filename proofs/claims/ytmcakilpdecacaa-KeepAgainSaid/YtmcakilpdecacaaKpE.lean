/- Contracts of package keep, fifth part: Start, Begin, Append. -/
import Derived.Test.YtmcakilpdecacaaKpD
namespace Go.Proofs.Ytmcakilpdecacaa
open Go Go.RowKit Go.Maps
set_option maxRecDepth 100000

theorem enters_start (x : Value) (w : World) : (callFunc 75 (#[x] ++ #[])).run Try.prog w = .ok (.enter 75 (#[x] ++ #[])) w := by
  kernel_rfl
theorem enters_begin (y x : Value) (w : World) : (callFunc 76 (#[x] ++ #[y])).run Try.prog w = .ok (.enter 76 (#[x] ++ #[y])) w := by
  kernel_rfl
theorem enters_append (y z x : Value) (w : World) : (callFunc 71 (#[x] ++ #[y, z])).run Try.prog w = .ok (.enter 71 (#[x] ++ #[y, z])) w := by
  kernel_rfl

theorem kstart_nil (w : World) : Calls Try.prog 44 #[.pointer none] w fun e w' => e = .returned (.int .i64 1) ∧ w = w' := by
  go_enter Try.func44, Try.ntmps44
  go_wp2_with (go_at_call 70; refine (change_nil _ _).mono ?_; rintro e w' ⟨rfl, rfl⟩)
  go_ret
  exact ⟨rfl, rfl⟩

theorem Kp.newbox {w : World} {b lb mb c n t gb fb kb N : Nat} {nt : ByteArray} {L : List UInt8} {se ep : Nat} {A : List UInt8} {dn : Bool} (h : Kp w b lb mb c n t gb fb kb N nt L se ep A dn) {nb : Nat} (hnb : w.heap.size ≤ nb) : (∀ k, DkS b lb mb k ∨ k = gb ∨ k = fb → k ≠ nb) ∧ kb ≠ nb :=
  ⟨fun k hk e => by have := h.duo.lt k hk; omega, fun e => by have := Block.lt h.box; omega⟩

/-- What comes of a change. -/
def KOut (w w' : World) (b lb mb c n t gb fb kb N se ep : Nat) (A : List UInt8) (dn : Bool) (T : Nat) (e : Ending) : Prop :=
  e = .returned (.int .i64 0) ∧ (∃ L' t', t' ≤ t + T + 1 ∧ Kp w' b lb mb c n t' gb fb kb (N + 1) (ntB se ep A dn) L' se ep A dn) ∧ Touch (fun k => DkS b lb mb k ∨ k = gb ∨ k = fb ∨ k = kb) w w'

theorem kstart_calls {w : World} {b lb mb c n t gb fb kb N : Nat} {nt : ByteArray} {L : List UInt8} {se ep : Nat} {A : List UInt8} {dn : Bool} (h : Kp w b lb mb c n t gb fb kb N nt L se ep A dn) (hN : N < 999999) (ht : t < 999999) :
    Calls Try.prog 44 #[.pointer (some ⟨kb, 0, none⟩)] w fun e w' => KOut w w' b lb mb c n t gb fb kb N se ((ep + 1) % 4294967296) A dn 0 e := by
  have hch := change_calls h 75 #[] enters_start se ((ep + 1) % 4294967296) A dn 0 h.se2 (Nat.mod_lt _ (by decide)) (fun W nb hW hnb hB => start1_how (h.duo.still hW) hB (h.newbox hnb).1 h.ep2) hN (by omega)
  have HC := Lib.hid hch
  clear hch h
  go_enter Try.func44, Try.ntmps44
  go_wp2_with (go_at_call 70; refine HC.out.mono ?_; rintro e w' ⟨rfl, h1, h2⟩)
  go_ret
  exact ⟨rfl, h1, h2⟩

theorem moreN_nil : moreN 0 [] = 0 := by decide +kernel
theorem NBox.still {w w' : World} {nb se ep sz sm : Nat} {dn : Bool} (h : NBox w nb se ep sz sm dn) (ht : Touch (fun _ => False) w w') : NBox w' nb se ep sz sm dn := Block.kept h ht id
theorem NBox.setSize {w : World} {nb se ep sz sm : Nat} {dn : Bool} (h : NBox w nb se ep sz sm dn) (a : Nat) : NBox (w.setCell ⟨nb, 2, none⟩ (.int .i64 (a : Int))) nb se ep a sm dn := Block.set h 2 _
theorem NBox.setSum {w : World} {nb se ep sz sm : Nat} {dn : Bool} (h : NBox w nb se ep sz sm dn) (a : Nat) : NBox (w.setCell ⟨nb, 3, none⟩ (.int .u32 (a : Int))) nb se ep sz a dn := Block.set h 3 _
def five (w : World) (nb z ep : Nat) : World := (((((w.setCell ⟨nb, 0, none⟩ (.int .u32 (z : Int))).setCell ⟨nb, 1, none⟩ (.int .u32 (ep : Int))).setCell ⟨nb, 2, none⟩ (.int .i64 0)).setCell ⟨nb, 3, none⟩ (.int .u32 0)).setCell ⟨nb, 4, none⟩ (.bool false))
theorem begin1_out {w w1 : World} {b lb mb c n t gb fb N : Nat} {nt : ByteArray} {L B : List UInt8} (h0 : Touch (fun _ => False) w w1) (h : Duo w1 b lb mb c n t gb fb N nt L B) {nb se ep sz sm : Nat} (hb : NBox w1 nb se ep sz sm false) (hnb : ∀ k, DkS b lb mb k ∨ k = gb ∨ k = fb → k ≠ nb) (z : Nat) :
    HowOut w (((((w1.setCell ⟨nb, 0, none⟩ (.int .u32 (z : Int))).setCell ⟨nb, 1, none⟩ (.int .u32 (ep : Int))).setCell ⟨nb, 2, none⟩ (.int .i64 0)).setCell ⟨nb, 3, none⟩ (.int .u32 0)).setCell ⟨nb, 4, none⟩ (.bool false)) b lb mb c n t gb fb N nt nb z ep [] false 0 (.returned (.int .i64 0)) := by
  have hT : Touch (fun k => k = nb) w1 (five w1 nb z ep) :=
    (((((Touch.refl (fun k => k = nb) w1).setCell (p := ⟨nb, 0, none⟩) (.inl rfl) _).setCell (p := ⟨nb, 1, none⟩) (.inl rfl) _).setCell (p := ⟨nb, 2, none⟩) (.inl rfl) _).setCell (p := ⟨nb, 3, none⟩) (.inl rfl) _).setCell (p := ⟨nb, 4, none⟩) (.inl rfl) _
  have hN : NBox (five w1 nb z ep) nb z ep 0 0 false :=
    Block.set (Block.set (Block.set (Block.set (Block.set hb 0 _) 1 _) 2 _) 3 _) 4 _
  have hD := h.away hT (fun k hk => hnb k hk)
  change HowOut w (five w1 nb z ep) b lb mb c n t gb fb N nt nb z ep [] false 0 (.returned (.int .i64 0))
  generalize five w1 nb z ep = w5 at hT hN hD ⊢
  exact ⟨rfl, ⟨L, t, B, by omega, hD, rfl, Nat.zero_le _⟩, by rw [moreN_nil]; exact hN, (h0.mono (fun k hk => hk.elim)).trans (hT.mono fun k hk => .inr (.inr hk))⟩
theorem HowOut.drewed {W w' : World} {b lb mb c n t gb fb N : Nat} {nt : ByteArray} {nb se ep : Nat} {A : List UInt8} {dn : Bool} {T : Nat} {e : Ending} (h : HowOut W w' b lb mb c n t gb fb N nt nb se ep A dn T e) : HowOut W w'.drew b lb mb c n t gb fb N nt nb se ep A dn T e := by
  obtain ⟨h1, ⟨L2, t2, B, h2, h3, h4, h5⟩, h6, h7⟩ := h
  exact ⟨h1, ⟨L2, t2, B, h2, h3.still (Touch.refl _ _).drew, h4, h5⟩, Block.kept h6 (Touch.refl (fun _ => False) w').drew id, h7.drew⟩
theorem HowOut.snd {W w' : World} {b lb mb c n t gb fb N : Nat} {nt : ByteArray} {nb se ep : Nat} {A : List UInt8} {dn : Bool} {T : Nat} {e : Ending} (h : HowOut W w' b lb mb c n t gb fb N nt nb se ep A dn T e) :
    (∃ L2 t2 B, t2 ≤ t + T ∧ Duo w' b lb mb c n t2 gb fb N nt L2 B ∧ B.take A.length = A ∧ A.length ≤ B.length) ∧ NBox w' nb se ep A.length (moreN 0 A) dn ∧ Touch (fun k => DkS b lb mb k ∨ k = fb ∨ k = nb) W w' := by
  unfold HowOut at h
  exact h.2
theorem begin1_how {w : World} {b lb mb c n t gb fb N : Nat} {nt : ByteArray} {L B : List UInt8} (h : Duo w b lb mb c n t gb fb N nt L B) {nb cb se ep z sz sm : Nat} (hb : NBox w nb se ep sz sm false) (hnb : ∀ k, DkS b lb mb k ∨ k = gb ∨ k = fb → k ≠ nb) (hcb : cb ≠ nb) (hc : w.cell? ⟨cb, 0, none⟩ = some (.int .u32 z)) :
    Calls Try.prog 76 #[.pointer (some ⟨nb, 0, none⟩), .pointer (some ⟨cb, 0, none⟩)] w fun e w' => HowOut w w' b lb mb c n t gb fb N nt nb z ep [] false 0 e := by
  obtain ⟨y0, y1, y2, y3, y4⟩ := hb.cells
  have f0 := Block.free hb 0
  have f1 := Block.free hb 1
  have f2 := Block.free hb 2
  have f3 := Block.free hb 3
  have f4 := Block.free hb 4
  have HB := Lib.hid hb
  have H := Lib.hid h
  clear h hb
  go_enter Try.func76, Try.ntmps76
  go_upto_region 3 with fail
  go_region_law fail
  all_goals
    go_wp2_with fail
    go_ret
    refine ⟨rfl, ?_⟩
    first
      | with_reducible exact (begin1_out (Touch.refl _ w) H.out HB.out hnb z).drewed.snd
      | with_reducible exact (begin1_out ((Touch.refl _ w).drew) (H.out.still (Touch.refl _ w).drew) (HB.out.still (Touch.refl (fun _ => False) w).drew) hnb z).snd

theorem kbegin_nil (z : Int) (w : World) : Calls Try.prog 45 #[.pointer none, .int .u32 z] w fun e w' => e = .returned (.int .i64 1) ∧ Touch (fun _ => False) w w' := by
  go_enter Try.func45, Try.ntmps45
  go_wp2_with (go_at_call 70; refine (change_nil _ _).mono ?_; rintro e w' ⟨rfl, rfl⟩)
  go_ret
  exact ⟨rfl, (Touch.refl _ w).alloc _⟩

theorem KOut.weak {w w1 w' : World} {b lb mb c n t gb fb kb N se ep : Nat} {A : List UInt8} {dn : Bool} {T : Nat} {e : Ending} (ht : Touch (fun _ => False) w w1) (h : KOut w1 w' b lb mb c n t gb fb kb N se ep A dn T e) : KOut w w' b lb mb c n t gb fb kb N se ep A dn T e :=
  ⟨h.1, h.2.1, ht.weak0.trans h.2.2⟩

theorem kbegin_calls {w : World} {b lb mb c n t gb fb kb N : Nat} {nt : ByteArray} {L : List UInt8} {se ep : Nat} {A : List UInt8} (h : Kp w b lb mb c n t gb fb kb N nt L se ep A false) (z : Nat) (hz : z < 4294967296) (hN : N < 999999) (ht : t < 999999) :
    Calls Try.prog 45 #[.pointer (some ⟨kb, 0, none⟩), .int .u32 z] w fun e w' => KOut w w' b lb mb c n t gb fb kb N z ep [] false 0 e := by
  have hTa := (Touch.refl (fun _ => False) w).alloc (.cells #[.int .u32 z] 67)
  have hbx := Block.new w 67 [.int .u32 (z : Nat)]
  have hch : Calls Try.prog 70 #[.pointer (some ⟨kb, 0, none⟩), .func (.func 76) #[] #[.pointer (some ⟨w.heap.size, 0, none⟩)]] (w.alloc (.cells #[.int .u32 z] 67)) fun e w' => KOut (w.alloc (.cells #[.int .u32 z] 67)) w' b lb mb c n t gb fb kb N z ep [] false 0 e :=
    change_calls (h.still hTa) 76 #[.pointer (some ⟨w.heap.size, 0, none⟩)] (enters_begin _) z ep [] false 0 hz h.ep2 (fun W nb hW hnb hB => begin1_how ((h.still hTa).duo.still hW) hB ((h.still hTa).newbox hnb).1 (by have := Block.lt hbx; omega) (hW.cell (Block.cell hbx 0) id)) hN (by omega)
  have HC := Lib.hid hch
  have HT := Lib.hid hTa
  clear hch h hTa hbx
  go_enter Try.func45, Try.ntmps45
  go_wp2_with (go_at_call 70; refine HC.out.mono ?_; rintro e w' ⟨rfl, h1, h2⟩)
  go_ret
  exact KOut.weak HT.out ⟨rfl, h1, h2⟩

set_option maxHeartbeats 1000000 in
theorem append1_how {w : World} {b lb mb c n t gb fb kb N : Nat} {nt : ByteArray} {L B : List UInt8} (h : Duo w b lb mb c n t gb fb N nt L B) {nb cb sb se ep se0 ep0 sz0 sm0 : Nat} {dn0 fl0 : Bool} (hb : NBox w nb se ep B.length (moreN 0 B) false) (hK : KBox w kb gb fb se0 ep0 sz0 sm0 dn0 fl0) (hkb : ¬ (DkS b lb mb kb ∨ kb = fb)) (hnb : (∀ k, DkS b lb mb k ∨ k = gb ∨ k = fb → k ≠ nb) ∧ kb ≠ nb) (s : ByteArray) (hcb : cb ≠ nb ∧ sb ≠ nb) (hc : w.cell? ⟨cb, 0, none⟩ = some (.pointer (some ⟨kb, 0, none⟩))) (hs0 : w.cell? ⟨sb, 0, none⟩ = some (.string s)) (hN : N < 1000000) (hs : s.size ≤ (n - 8) * 64 - B.length) (ht : t + s.size ≤ 1000000) :
    Calls Try.prog 71 #[.pointer (some ⟨nb, 0, none⟩), .pointer (some ⟨cb, 0, none⟩), .pointer (some ⟨sb, 0, none⟩)] w fun e w' => HowOut w w' b lb mb c n t gb fb N nt nb se ep (B ++ s.data.toList) false s.size e := by
  have hn9 := h.n9
  have hn2 := h.live.disk.n2
  have hBs := h.size
  have HNO := Lib.hid (nonote_calls h.live.log hN hK)
  obtain ⟨y0, y1, y2, y3, y4⟩ := hb.cells
  have H := Lib.hid h
  have HK := Lib.hid hK
  obtain ⟨m, hm⟩ : ∃ m, moreN 0 B = m := ⟨_, rfl⟩
  have hm2 : m < 4294967296 := by rw [← hm]; exact more_lt B
  rw [hm] at y3 hb
  have HB := Lib.hid hb
  obtain ⟨m', hm'⟩ : ∃ m', moreN m s.data.toList = m' := ⟨_, rfl⟩
  obtain ⟨a, ha⟩ : ∃ a, B.length + s.size = a := ⟨_, rfl⟩
  have haI : (B.length : Int) + (s.size : Int) = (a : Int) := by omega
  have hwa : IntKind.i64.wrap (a : Int) = (a : Int) := IntWalk.i64_in _ (by omega)
  have hc0 := hc
  have hs00 := hs0
  clear h hb hK
  go_enter Try.func71, Try.ntmps71
  go_wp2_with (go_at_call 72; refine HNO.out.mono ?_; rintro e wa ⟨rfl, hTa⟩; have HTa := Lib.hid hTa; have y2 := hTa.cell (p := ⟨nb, 2, none⟩) y2 id; have y3 := hTa.cell (p := ⟨nb, 3, none⟩) y3 id; have hc := hTa.cell (p := ⟨cb, 0, none⟩) hc id; have hs0 := hTa.cell (p := ⟨sb, 0, none⟩) hs0 id; have hbn := NBox.still HB.out hTa; have f2 := Block.free hbn 2; have f3 := Block.free hbn 3; have HBN := Lib.hid hbn; clear hTa hbn)
  go_upto_region 5 with fail
  go_region_law fail
  all_goals
    first
      | (have hT3 : Touch (fun k => k = nb) wa (wa.drew.setCell ⟨nb, 2, none⟩ (.int .i64 (a : Int))) := ((Touch.refl (fun k => k = nb) wa).drew).setCell (p := ⟨nb, 2, none⟩) (.inl rfl) _
         have hN3 : NBox (wa.drew.setCell ⟨nb, 2, none⟩ (.int .i64 (a : Int))) nb se ep a m false := (NBox.still HBN.out (Touch.refl _ wa).drew).setSize a
         generalize wa.drew.setCell ⟨nb, 2, none⟩ (.int .i64 (a : Int)) = w3 at hT3 hN3 ⊢
         show Exit.then _ _ _ _ w3
         have HT3 := Lib.hid hT3
         have HN3 := Lib.hid hN3
         clear hT3 hN3)
      | (have hT3 : Touch (fun k => k = nb) wa ((wa.setCell ⟨nb, 2, none⟩ (.int .i64 (a : Int))).drew) := (((Touch.refl (fun k => k = nb) wa)).setCell (p := ⟨nb, 2, none⟩) (.inl rfl) _).drew
         have hN3 : NBox ((wa.setCell ⟨nb, 2, none⟩ (.int .i64 (a : Int))).drew) nb se ep a m false := NBox.still (NBox.setSize HBN.out a) (Touch.refl _ _).drew
         generalize (wa.setCell ⟨nb, 2, none⟩ (.int .i64 (a : Int))).drew = w3 at hT3 hN3 ⊢
         show Exit.then _ _ _ _ w3
         have HT3 := Lib.hid hT3
         have HN3 := Lib.hid hN3
         clear hT3 hN3)
    have y3 := HN3.out.cells.2.2.2.1
    have f3 := Block.free HN3.out 3
    have hc := HT3.out.cell hc hcb.1
    have hs0 := HT3.out.cell hs0 hcb.2
    have hlt3 := Block.lt HN3.out
    go_upto_region 6 with fail
    go_region_law (first
      | (go_simp; go_at_call 65; refine (make_calls _).mono ?_; rintro e wm ⟨rfl, hTab, hTm⟩; have HTAB := Lib.hid hTab; have y3 := hTm.cell (p := ⟨nb, 3, none⟩) HN3.out.cells.2.2.2.1 id; have f3 := (hTm.frozen (p := ⟨nb, 3, none⟩) hlt3 id).trans f3; have hs0 := hTm.cell (p := ⟨sb, 0, none⟩) ‹_› id; have HTM : Hid (Touch (fun _ => False) w3 wm) := Lib.hid ((Touch.refl (fun _ => False) w3).drew.trans hTm); clear hTm hTab)
      | (go_simp; go_at_call 73; refine (tmore_calls _ m s _ HTAB.out hm2 (by omega)).mono ?_; rintro e wn ⟨rfl, nq, rfl⟩))
    all_goals
      have hT4 : Touch (fun k => k = nb) w3 ((wm.drewN nq).setCell ⟨nb, 3, none⟩ (.int .u32 (m' : Int))) := ((HTM.out.weak0 (S := fun k => k = nb)).drewN nq).setCell (p := ⟨nb, 3, none⟩) (.inl rfl) _
      have hN4 : NBox ((wm.drewN nq).setCell ⟨nb, 3, none⟩ (.int .u32 (m' : Int))) nb se ep a m' false := NBox.setSum (HN3.out.still (HTM.out.drewN nq)) m'
      generalize (wm.drewN nq).setCell ⟨nb, 3, none⟩ (.int .u32 (m' : Int)) = w4 at hT4 hN4 ⊢
      show Exit.then _ _ _ _ w4
      have hT04 : Touch (fun k => k = nb) w w4 := ((HTa.out.weak0 (S := fun k => k = nb)).trans HT3.out).trans hT4
      have hc := hT04.cell hc0 hcb.1
      have hs0 := hT04.cell hs00 hcb.2
      have hex := kextend_calls (H.out.away hT04 (fun k hk => hnb.1 k hk)) (Block.kept HK.out hT04 hnb.2) hkb s hs ht
      have HEX := Lib.hid hex
      have HT04 := Lib.hid hT04
      have HN4 := Lib.hid hN4
      clear hex hT4 hN4 hT04 y3 f3
      go_wp2_with (go_at_call 74; refine HEX.out.mono ?_; rintro e w5 ⟨rfl, ⟨L5, t5, ht5, hD5⟩, hT5⟩)
      go_ret
      have e1 : moreN 0 (B ++ s.data.toList) = m' := by rw [moreN_append, hm, hm']
      have e2 : (B ++ s.data.toList).length = a := by rw [List.length_append, ba_len, ha]
      have hnn : ¬ (DkS b lb mb nb ∨ nb = fb) := fun h => hnb.1 nb (h.elim .inl (fun h => .inr (.inr h))) rfl
      exact ⟨rfl, ⟨L5, t5, B ++ s.data.toList, ht5, hD5, List.take_length .., Nat.le_refl _⟩, by rw [e1, e2]; exact Block.kept HN4.out hT5 hnn, (HT04.out.mono fun k hk => .inr (.inr hk)).trans (hT5.mono fun k hk => hk.elim .inl (fun h => .inr (.inl h)))⟩

end Go.Proofs.Ytmcakilpdecacaa

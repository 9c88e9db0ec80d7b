/- Contracts of package keep, third part: change. -/
import Derived.Test.YtmcakilpdecacaaKpB
namespace Go.Proofs.Ytmcakilpdecacaa
open Go Go.RowKit Go.Maps
set_option maxRecDepth 100000

theorem change_nil (fv : Value) (w : World) : Calls Try.prog 70 #[.pointer none, fv] w fun e w' => e = .returned (.int .i64 1) ∧ w = w' := by
  go_enter Try.func70, Try.ntmps70
  go_wp2
  go_ret
  exact ⟨rfl, rfl⟩

/-- A state in a box of its own. -/
def NBox (w : World) (nb se ep sz sm : Nat) (dn : Bool) : Prop := Block w nb 82 [.int .u32 se, .int .u32 ep, .int .i64 sz, .int .u32 sm, .bool dn]
theorem NBox.cells {w : World} {nb se ep sz sm : Nat} {dn : Bool} (h : NBox w nb se ep sz sm dn) :
    w.cell? ⟨nb, 0, none⟩ = some (.int .u32 se) ∧ w.cell? ⟨nb, 1, none⟩ = some (.int .u32 ep) ∧ w.cell? ⟨nb, 2, none⟩ = some (.int .i64 sz) ∧ w.cell? ⟨nb, 3, none⟩ = some (.int .u32 sm) ∧ w.cell? ⟨nb, 4, none⟩ = some (.bool dn) :=
  ⟨Block.cell h 0, Block.cell h 1, Block.cell h 2, Block.cell h 3, Block.cell h 4⟩

/-- What a change's own part does. -/
def HowOut (W w' : World) (b lb mb c n t gb fb N : Nat) (nt : ByteArray) (nb se ep : Nat) (A : List UInt8) (dn : Bool) (T : Nat) (e : Ending) : Prop :=
  e = .returned (.int .i64 0) ∧ (∃ L2 t2 B, t2 ≤ t + T ∧ Duo w' b lb mb c n t2 gb fb N nt L2 B ∧ B.take A.length = A ∧ A.length ≤ B.length) ∧ NBox w' nb se ep A.length (moreN 0 A) dn ∧ Touch (fun k => DkS b lb mb k ∨ k = fb ∨ k = nb) W w'

theorem KBox.store {w : World} {kb gb fb se ep sz sm : Nat} {dn fl : Bool} (h : KBox w kb gb fb se ep sz sm dn fl) (se' ep' sz' sm' : Nat) (dn' : Bool) :
    KBox (((((w.setCell ⟨kb, 2, none⟩ (.int .u32 (se' : Int))).setCell ⟨kb, 3, none⟩ (.int .u32 (ep' : Int))).setCell ⟨kb, 4, none⟩ (.int .i64 (sz' : Int))).setCell ⟨kb, 5, none⟩ (.int .u32 (sm' : Int))).setCell ⟨kb, 6, none⟩ (.bool dn')) kb gb fb se' ep' sz' sm' dn' fl :=
  Block.set (Block.set (Block.set (Block.set (Block.set h 2 _) 3 _) 4 _) 5 _) 6 _
theorem kbox_touch (w : World) (kb se' ep' sz' sm' : Nat) (dn' : Bool) :
    Touch (fun k => k = kb) w (((((w.setCell ⟨kb, 2, none⟩ (.int .u32 (se' : Int))).setCell ⟨kb, 3, none⟩ (.int .u32 (ep' : Int))).setCell ⟨kb, 4, none⟩ (.int .i64 (sz' : Int))).setCell ⟨kb, 5, none⟩ (.int .u32 (sm' : Int))).setCell ⟨kb, 6, none⟩ (.bool dn')) :=
  (((((Touch.refl (fun k => k = kb) w).setCell (p := ⟨kb, 2, none⟩) (.inl rfl) _).setCell (p := ⟨kb, 3, none⟩) (.inl rfl) _).setCell (p := ⟨kb, 4, none⟩) (.inl rfl) _).setCell (p := ⟨kb, 5, none⟩) (.inl rfl) _).setCell (p := ⟨kb, 6, none⟩) (.inl rfl) _

set_option maxHeartbeats 4000000 in
theorem change_calls {w : World} {b lb mb c n t gb fb kb N : Nat} {nt : ByteArray} {L : List UInt8} {se ep : Nat} {A : List UInt8} {dn : Bool} (h : Kp w b lb mb c n t gb fb kb N nt L se ep A dn)
    (g : Nat) (caps : Array Value) (eg : ∀ x w, (callFunc g (#[x] ++ caps)).run Try.prog w = .ok (.enter g (#[x] ++ caps)) w) (se' ep' : Nat) (A' : List UInt8) (dn' : Bool) (T : Nat) (hse : se' < 4294967296) (hep : ep' < 4294967296)
    (hhow : ∀ W nb, Touch (fun _ => False) w W → w.heap.size ≤ nb → NBox W nb se ep A.length (moreN 0 A) dn → Calls Try.prog g (#[.pointer (some ⟨nb, 0, none⟩)] ++ caps) W fun e w' => HowOut W w' b lb mb c n t gb fb N nt nb se' ep' A' dn' T e)
    (hN : N < 999999) (ht : t + T < 999999) :
    Calls Try.prog 70 #[.pointer (some ⟨kb, 0, none⟩), .func (.func g) #[] caps] w fun e w' => e = .returned (.int .i64 0) ∧ (∃ L' t', t' ≤ t + T + 1 ∧ Kp w' b lb mb c n t' gb fb kb (N + 1) (ntB se' ep' A' dn') L' se' ep' A' dn') ∧ Touch (fun k => DkS b lb mb k ∨ k = gb ∨ k = fb ∨ k = kb) w w' := by
  obtain ⟨c0, c1, c2, c3, c4, c5, c6, c7⟩ := h.box.cells
  have f2 := Block.free h.box 2
  have f3 := Block.free h.box 3
  have f4 := Block.free h.box 4
  have f5 := Block.free h.box 5
  have f6 := Block.free h.box 6
  have hkl := Block.lt h.box
  have HK := Lib.hid h
  have HH := Lib.hid hhow
  clear h hhow
  go_enter Try.func70, Try.ntmps70
  have hns : ∀ k, DkS b lb mb k ∨ k = gb ∨ k = fb → k < w.heap.size := HK.out.duo.lt
  have HNS := Lib.hid hns
  have hks : ∀ k, DkS b lb mb k ∨ k = gb ∨ k = fb → k ≠ kb := fun k hk e => by
    subst e
    rcases hk with h | h | h
    · exact HK.out.ksep.1 h
    · exact HK.out.ksep.2.1 h
    · exact HK.out.ksep.2.2 h
  have HKS := Lib.hid hks
  clear hns hks
  go_wp2_with fail
  refine (HH.out _ w.heap.size ((Touch.refl _ w).alloc _) (Nat.le_refl _) (Block.new w _ _)).mono ?_
  rintro e w2 ⟨rfl, ⟨L2, t2, B, ht2, hD2, hB1, hB2⟩, hNB, hT2⟩
  have hTa : Touch (fun k => DkS b lb mb k ∨ k = fb) w w2 := ((Touch.refl (fun k => DkS b lb mb k ∨ k = fb) w).alloc _).trans' hT2 (fun i hi => hi.elim (fun h => .inl (.inl h)) (fun h => h.elim (fun h => .inl (.inr h)) (fun h => .inr (Nat.le_of_eq h.symm))))
  have hkn : ¬ (DkS b lb mb kb ∨ kb = fb) := fun h => h.elim HK.out.ksep.1 HK.out.ksep.2.2
  have c0 := hTa.cell (p := ⟨kb, 0, none⟩) c0 hkn
  have c1 := hTa.cell (p := ⟨kb, 1, none⟩) c1 hkn
  have hbx := Block.kept HK.out.box hTa hkn
  obtain ⟨y0, y1, y2, y3, y4⟩ := hNB.cells
  have hnn : ∀ k, DkS b lb mb k ∨ k = gb ∨ k = fb → k ≠ w.heap.size := fun k hk => Nat.ne_of_lt (HNS.out k hk)
  have hkn2 : kb ≠ w.heap.size := Nat.ne_of_lt hkl
  generalize hnbE : w.heap.size = nb at hNB y0 y1 y2 y3 y4 hnn hkn2 ⊢
  have HNN := Lib.hid hnn
  have HNE := Lib.hid hnbE
  clear hnn hnbE
  have hB0 : ntB se' ep' A' dn' = ntS se' ep' A'.length (moreN 0 A') (if dn' then 1 else 0) := rfl
  obtain ⟨a, ha⟩ : ∃ a, A'.length = a := ⟨_, rfl⟩
  obtain ⟨m, hm⟩ : ∃ m, moreN 0 A' = m := ⟨_, rfl⟩
  have hm2 : m < 4294967296 := by rw [← hm]; exact more_lt A'
  have hn2 := hD2.live.disk.n2
  have hBs := hD2.size
  rw [ha] at hB1 hB2 y2 hNB
  rw [hm] at y3 hNB
  have ha2 : a ≤ 4194304 := by omega
  have hno := fun W => noteOf_calls se' ep' a m dn' hse hep ha2 hm2 W
  unfold stV at hno
  have hns := ntS_size se' ep' a m (if dn' then 1 else 0)
  obtain ⟨S, hS⟩ : ∃ S, ntS se' ep' a m (if dn' then 1 else 0) = S := ⟨_, rfl⟩
  rw [ha, hm, hS] at hB0
  rw [hS] at hno hns
  have HNO := Lib.hid hno
  have HS := Lib.hid (⟨hB0, ha, hm⟩ : _ ∧ _ ∧ _)
  have HD2 := Lib.hid hD2
  have HTA := Lib.hid hTa
  have HBX := Lib.hid hbx
  have HB := Lib.hid (⟨hB1, hB2⟩ : _ ∧ _)
  have HNB := Lib.hid (⟨y0, y1, y2, y3, y4, c0⟩ : _ ∧ _ ∧ _ ∧ _ ∧ _ ∧ _)
  clear hno hS ha hm hB0 hD2 hTa hbx hT2 hNB c2 c3 c4 c5 c6 c7 f2 f3 f4 f5 f6 hB1 hB2
  go_upto_region 8 with fail
  go_region_law (first
    | (go_simp; go_at_call 90; refine (HNO.out _).mono ?_; rintro e wa ⟨rfl, hTn⟩; have c0 := hTn.cell (p := ⟨kb, 0, none⟩) HNB.out.2.2.2.2.2 id; have HTN : Hid (Touch (fun _ => False) w2 wa) := Lib.hid ((Touch.refl (fun _ => False) w2).drew.trans hTn); clear hTn)
    | (go_simp; go_at_call 89; refine (kput_calls (HD2.out.still HTN.out) S (by omega) (by omega) (by omega)).mono ?_; rintro e wb ⟨rfl, ⟨L3, hD3⟩, hTp⟩; have HD3 := Lib.hid hD3; have HTP := Lib.hid hTp; clear hD3 hTp))
  all_goals
    have hTnp : Touch (fun k => DkS b lb mb k ∨ k = gb) w2 wb := HTN.out.weak0.trans HTP.out
    have hkk : ¬ (DkS b lb mb kb ∨ kb = gb) := fun h => h.elim HK.out.ksep.1 HK.out.ksep.2.1
    have hnk : ¬ (DkS b lb mb nb ∨ nb = gb) := fun h => HNN.out nb (h.elim .inl (fun h => .inr (.inl h))) rfl
    have hbk := Block.kept HBX.out hTnp hkk
    obtain ⟨c0, c1, c2, c3, c4, c5, c6, c7⟩ := KBox.cells hbk
    have f2 := Block.free hbk 2
    have f3 := Block.free hbk 3
    have f4 := Block.free hbk 4
    have f5 := Block.free hbk 5
    have f6 := Block.free hbk 6
    have y0 := hTnp.cell HNB.out.1 hnk
    have y1 := hTnp.cell HNB.out.2.1 hnk
    have y2 := hTnp.cell HNB.out.2.2.1 hnk
    have y3 := hTnp.cell HNB.out.2.2.2.1 hnk
    have y4 := hTnp.cell HNB.out.2.2.2.2.1 hnk
    have HBK := Lib.hid hbk
    have HTNP := Lib.hid hTnp
    clear hTnp hbk
    go_upto_region 15 with fail
    have hk6 := KBox.store HBK.out se' ep' a m dn'
    have hT6 := kbox_touch wb kb se' ep' a m dn'
    generalize (((((wb.setCell ⟨kb, 2, none⟩ (.int .u32 (se' : Int))).setCell ⟨kb, 3, none⟩ (.int .u32 (ep' : Int))).setCell ⟨kb, 4, none⟩ (.int .i64 (a : Int))).setCell ⟨kb, 5, none⟩ (.int .u32 (m : Int))).setCell ⟨kb, 6, none⟩ (.bool dn')) = w6 at hk6 hT6 ⊢
    have hD6 := HD3.out.away hT6 (fun k hk => HKS.out k hk)
    obtain ⟨c0, c1, c2, c3, c4, c5, c6, c7⟩ := KBox.cells hk6
    have HD6 := Lib.hid hD6
    have HK6 := Lib.hid hk6
    have HT6 := Lib.hid hT6
    clear hD6 hk6 hT6 f2 f3 f4 f5 f6 y0 y1 y2 y3 y4
    go_region_law (go_simp; go_at_call 30; refine (stcut_calls (HD6.out.still (Touch.refl (fun _ => False) w6).drew).file a HB.out.2).mono ?_; rintro e w7 ⟨rfl, hF7, hT7⟩; have HF7 := Lib.hid hF7; have HT7 : Hid (Touch (fun k => k = fb) w6 w7) := Lib.hid ((Touch.refl (fun _ => False) w6).drew.weak0.trans hT7); clear hF7 hT7)
    all_goals
      go_wp2_with fail
      go_ret
      obtain ⟨hS, ha, hm⟩ := HS.out
      have hfs := HD6.out.fsep
      refine ⟨rfl, ⟨L3, t2 + 1, by omega, ⟨⟨⟨(HD6.out.live.disk.kept HT7.out (fun e => hfs.1 (e ▸ .inl rfl)) (fun e => hfs.1 (e ▸ .inr (.inl rfl))) (fun e => hfs.1 (e ▸ .inr (.inr rfl)))), by rw [hS]; exact HD6.out.live.log.kept HT7.out (fun e => hfs.2 e.symm), HD6.out.live.sep, by rw [hS]; exact HD6.out.live.secs⟩, by rw [ha]; exact HF7.out, by have := HD6.out.holds.take a HB.out.2; rwa [HB.out.1] at this, hfs, HD6.out.n9, by rw [ha]; exact Nat.le_trans HB.out.2 HD6.out.size⟩, by rw [ha, hm]; exact Block.kept HK6.out HT7.out HK.out.ksep.2.2, HK.out.ksep, hse, hep, ⟨fun h0 => absurd h0 (Nat.succ_ne_zero N), fun _ => rfl⟩⟩⟩, ?_⟩
      exact (((HTA.out.mono (fun k hk => hk.elim .inl (fun h => .inr (.inr (.inl h))))).trans (HTNP.out.mono (fun k hk => hk.elim .inl (fun h => .inr (.inl h))))).trans (HT6.out.mono (fun k hk => .inr (.inr (.inr hk))))).trans (HT7.out.mono (fun k hk => .inr (.inr (.inl hk))))

end Go.Proofs.Ytmcakilpdecacaa

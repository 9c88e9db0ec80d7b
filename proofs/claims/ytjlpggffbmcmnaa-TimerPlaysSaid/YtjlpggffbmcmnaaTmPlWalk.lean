/- The statement TimerPlays over the translated program. -/
import Derived.Test.YtjlpggffbmcmnaaTmB
import Derived.Test.YtjlpggffbmcmnaaNmOpen
namespace Go.Proofs.Ytjlpggffbmcmnaa
open Go Go.RowKit
set_option maxRecDepth 100000

/-- The reference's timer in its box. -/
def RtAt (w : World) (b fi mo wa le : Nat) : Prop := Block w b 27 [.int .i64 fi, .int .i64 mo, .int .i64 wa, .int .i64 le]
theorem RtAt.kept {S : Nat → Prop} {w w' : World} {b fi mo wa le : Nat} (h : RtAt w b fi mo wa le) (ht : Touch S w w') (hn : ¬ S b) : RtAt w' b fi mo wa le := Block.kept h ht hn
theorem RtAt.cells {w : World} {b fi mo wa le : Nat} (h : RtAt w b fi mo wa le) :
    w.cell? ⟨b, 0, none⟩ = some (.int .i64 fi) ∧ w.cell? ⟨b, 1, none⟩ = some (.int .i64 mo) ∧ w.cell? ⟨b, 2, none⟩ = some (.int .i64 wa) ∧ w.cell? ⟨b, 3, none⟩ = some (.int .i64 le) :=
  ⟨Block.cell h 0, Block.cell h 1, Block.cell h 2, Block.cell h 3⟩
theorem RtAt.wait {w : World} {b fi mo wa le : Nat} (h : RtAt w b fi mo wa le) (n : Nat) : RtAt (w.setCell ⟨b, 2, none⟩ (.int .i64 n)) b fi mo n le := Block.set h 2 _
theorem RtAt.left {w : World} {b fi mo wa le : Nat} (h : RtAt w b fi mo wa le) (n : Nat) : RtAt (w.setCell ⟨b, 3, none⟩ (.int .i64 n)) b fi mo wa n := Block.set h 3 _

theorem rt_set4 {w : World} {b fi mo wa le : Nat} (h : RtAt w b fi mo wa le) (wa' le' : Nat) : RtAt ((((w.setCell ⟨b, 0, none⟩ (.int .i64 fi)).setCell ⟨b, 1, none⟩ (.int .i64 mo)).setCell ⟨b, 2, none⟩ (.int .i64 wa')).setCell ⟨b, 3, none⟩ (.int .i64 le')) b fi mo wa' le' :=
  Block.set (Block.set (Block.set (Block.set h 0 _) 1 _) 2 _) 3 _
theorem rt_touch4 {w : World} (b : Nat) (u0 u1 u2 u3 : Value) : Touch (fun j => j = b) w ((((w.setCell ⟨b, 0, none⟩ u0).setCell ⟨b, 1, none⟩ u1).setCell ⟨b, 2, none⟩ u2).setCell ⟨b, 3, none⟩ u3) :=
  ((((Touch.refl (fun j => j = b) w).setCell (p := ⟨b, 0, none⟩) (Or.inl rfl) _).setCell (p := ⟨b, 1, none⟩) (Or.inl rfl) _).setCell (p := ⟨b, 2, none⟩) (Or.inl rfl) _).setCell (p := ⟨b, 3, none⟩) (Or.inl rfl) _

theorem fold9 (z : Int) : ∃ (r : Int) (c : Nat), z.tmod 9 = r ∧ -9 < r ∧ r < 9 ∧ (r + 9).tmod 9 = c ∧ (r + 9) % 9 = c ∧ c < 9 := by
  have h1 := Int.tmod_lt_of_pos z (show (0 : Int) < 9 by decide)
  have h2 := Int.lt_tmod_of_pos z (show (0 : Int) < 9 by decide)
  refine ⟨z.tmod 9, ((z.tmod 9 + 9) % 9).toNat, rfl, h2, h1, ?_, by omega, by omega⟩
  rw [Int.tmod_eq_emod_of_nonneg (by omega)]; omega

set_option maxHeartbeats 4000000 in
theorem tplays_calls (a b : Int) (xs : List Int) (v : Value) (w : World) (hr : Reads w v (xs.map (Value.int .i64))) (hwf : ∀ x ∈ xs, -9223372036854775808 ≤ x ∧ x ≤ 9223372036854775807) :
    Calls Try.prog 3 #[.int .i64 a, .int .i64 b, v] w fun e w' => e = .returned (.bool true) ∧ Touch (fun _ => False) w w' := by
  obtain ⟨ar, cap, hve, hc1, hc2⟩ := hr.form
  unfold maxLen at hc2
  rw [List.length_map] at hve hc1
  subst hve
  obtain ⟨f, hf⟩ : ∃ f, fiT a = f := ⟨_, rfl⟩
  obtain ⟨m, hm⟩ : ∃ m, moT a b = m := ⟨_, rfl⟩
  have hf1 := fiT_lo a
  have hm1 := moT_lo a b
  have hm2 := moT_hi a b
  have HN := Lib.hid (fun W => tnew_calls a b W)
  have HRN := Lib.hid (fun W => rtnew_calls a b W)
  rw [hf, hm] at HN HRN
  rw [hm] at hm1 hm2
  rw [hf] at hm1 hf1
  have HR := Lib.hid hr
  have HWF := Lib.hid hwf
  clear hr hwf hf hm
  go_enter Try.func3, Try.ntmps3
  go_wp2_with fail
  refine (speaks23_calls w).mono ?_
  rintro e w1 ⟨rfl, ht1⟩
  go_wp2_with fail
  refine (HN.out w1).mono ?_
  rintro e w2 ⟨tb, rfl, h2, hlt, ht2⟩
  go_wp2_with fail
  refine (HRN.out w2).mono ?_
  rintro e w3 ⟨rfl, ht3⟩
  have HT : Hid (Touch (fun _ => False) w w3) := Lib.hid ((ht1.trans ht2).trans ht3)
  have HS : Hid (w.heap.size ≤ tb ∧ tb < w3.heap.size) := Lib.hid ⟨Nat.le_trans ht1.size hlt, Nat.lt_of_lt_of_le h2.lt ht3.size⟩
  have H3 : Hid (TmAt w3 tb f m f 0) := Lib.hid (tm_still h2 ht3)
  clear h2 ht1 ht2 ht3 hlt HN HRN
  go_wp2_with fail
  obtain ⟨wb, hwb⟩ : ∃ n, n = w3.heap.size := ⟨_, rfl⟩
  rw [← hwb]
  generalize hw4 : w3.alloc _ = w4
  have hR4 : RtAt w4 wb f m f 0 := by rw [← hw4, hwb]; exact Block.new w3 _ _
  have hT4 : Touch (fun _ => False) w3 w4 := by rw [← hw4]; exact (Touch.refl _ _).alloc _
  have HB4 : Hid (TmAt w4 tb f m f 0) := Lib.hid (tm_still H3.out hT4)
  have HR4 := Lib.hid hR4
  have HT4 := Lib.hid (HT.out.trans hT4)
  have HS4 : Hid (w.heap.size ≤ tb ∧ w.heap.size ≤ wb ∧ tb ≠ wb) := Lib.hid ⟨HS.out.1, by rw [hwb]; exact HT.out.size, by have := HS.out.2; omega⟩
  clear hR4 hT4 H3 HT HS hwb hw4
  go_loopw [9] (fun i wr => ∃ (k wa le : Nat), i = .int .i64 (k : Nat) ∧ k ≤ xs.length ∧ k ≤ 300 ∧ wa ≤ m ∧ le ≤ m ∧ RowKit.Hid (TmAt wr tb f m wa le) ∧ RowKit.Hid (RtAt wr wb f m wa le) ∧ RowKit.Hid (Touch (fun j => j = tb ∨ j = wb) w4 wr)) (fun i _ => 300 - (intOf i).toNat)
  case atStart => exact ⟨0, f, 0, rfl, Nat.zero_le _, Nat.zero_le _, hm1, Nat.zero_le _, HB4, HR4, Lib.hid (Touch.refl _ _)⟩
  case round =>
    obtain ⟨k, wa, le, rfl, hk, hk3, hw2, hl2, HB, HR5, HT5⟩ := hrel
    by_cases hlt : k < xs.length ∧ k < 300
    · obtain ⟨hlt, hlt2⟩ := hlt
      have hltI : (k : Int) < (xs.length : Int) := by omega
      have hltI2 : (k : Int) < 300 := by omega
      have hread : Reads _ _ _ := HR.out.kept (HT4.out.trans' HT5.out fun i e => .inr (by have := HS4.out; omega)) (fun g hg h => h)
      obtain ⟨g, o, c', hve, _, _, _, hcell⟩ := hread.addr (by rw [List.length_map]; omega)
      rw [List.length_map] at hve
      injection hve with e1 _ e3
      subst e1
      have hx := hcell k (.int .i64 xs[k]) (by simp [List.getElem?_map, List.getElem?_eq_getElem hlt])
      have hxw := HWF.out _ (List.getElem_mem hlt)
      obtain ⟨r, c, hrm, hr1, hr2, hrc, hrc2, hc9⟩ := fold9 xs[k]
      generalize xs[k] = x at hx hxw hrm
      clear hcell hread e3
      rcases (show c = 6 ∨ c = 7 ∨ c = 8 ∨ c < 6 by omega) with hc6 | hc7 | hc8 | hc5
      · subst hc6
        go_wp2_with fail
        refine (tstart_calls HB.out).mono ?_
        rintro e w5 ⟨rfl, h5, ht5⟩
        have hR6 := HR5.out.kept ht5 (fun e => HS4.out.2.2 e.symm)
        obtain ⟨d0, d1, d2, d3⟩ := hR6.cells
        have f2 := Block.free hR6 2
        have f3 := Block.free hR6 3
        have hRn := hR6.left wa
        have htn : Touch (fun j => j = tb ∨ j = wb) w4 (w5.setCell ⟨wb, 3, none⟩ (.int .i64 (wa : Nat))) := (HT5.out.trans (ht5.mono (fun _ e => Or.inl e))).trans ((Touch.refl (fun j => j = tb ∨ j = wb) w5).setCell (p := ⟨wb, 3, none⟩) (Or.inl (Or.inr rfl)) _)
        have hBn := TmAt.kept h5 ((Touch.refl (fun j => j = wb) w5).setCell (p := ⟨wb, 3, none⟩) (Or.inl rfl) (.int .i64 (wa : Nat))) HS4.out.2.2
        have HRn := Lib.hid hRn
        have HTn := Lib.hid htn
        have HBn := Lib.hid hBn
        clear hRn htn hBn h5 hR6 ht5
        go_upto_region 21 with fail
        generalize hwn : w5.setCell ⟨wb, 3, none⟩ _ = wn at HRn HTn HBn ⊢
        clear hwn d0 d1 d2 d3 f2 f3
        obtain ⟨d0, d1, d2, d3⟩ := HRn.out.cells
        have HQ := Lib.hid (fun q => (TmAt.kept HBn.out ((Touch.refl (fun _ => False) wn).drewN q) id : TmAt (wn.drewN q) tb f m wa wa))
        have HRq := Lib.hid (fun q => (RtAt.kept HRn.out ((Touch.refl (fun _ => False) wn).drewN q) id : RtAt (wn.drewN q) wb f m wa wa))
        rcases Nat.eq_zero_or_pos wa with hz | hz
        · have hon1 : decide (0 < wa) = false := decide_eq_false (by omega)
          have hon2 : decide ((0 : Int) < ((wa : Nat) : Int)) = false := decide_eq_false (by omega)
          go_upto_region 21 with fail
          go_quiet (first
            | (go_at_call 18; with_reducible exact quiet_same (twait_calls (HQ.out _)))
            | (go_at_call 19; with_reducible exact quiet_same (ton_calls (HQ.out _))))
          go_wp2_with fail
          go_roundw
          case rel => exact ⟨k + 1, wa, wa, by go_num, by omega, by omega, by omega, by omega, HQ.out _, HRq.out _, Lib.hid (HTn.out.drewN _)⟩
          case measure => simp [intOf]; omega
        · have hon1 : decide (0 < wa) = true := decide_eq_true (by omega)
          have hon2 : decide ((0 : Int) < ((wa : Nat) : Int)) = true := decide_eq_true (by omega)
          go_upto_region 21 with fail
          go_quiet (first
            | (go_at_call 18; with_reducible exact quiet_same (twait_calls (HQ.out _)))
            | (go_at_call 19; with_reducible exact quiet_same (ton_calls (HQ.out _))))
          go_wp2_with fail
          go_roundw
          case rel => exact ⟨k + 1, wa, wa, by go_num, by omega, by omega, by omega, by omega, HQ.out _, HRq.out _, Lib.hid (HTn.out.drewN _)⟩
          case measure => simp [intOf]; omega
      · subst hc7
        go_wp2_with fail
        refine (tstop_calls HB.out).mono ?_
        rintro e w5 ⟨rfl, h5, ht5⟩
        have hR6 := HR5.out.kept ht5 (fun e => HS4.out.2.2 e.symm)
        obtain ⟨d0, d1, d2, d3⟩ := hR6.cells
        have f2 := Block.free hR6 2
        have f3 := Block.free hR6 3
        have hRn := hR6.left 0
        have htn : Touch (fun j => j = tb ∨ j = wb) w4 (w5.setCell ⟨wb, 3, none⟩ (.int .i64 (0 : Nat))) := (HT5.out.trans (ht5.mono (fun _ e => Or.inl e))).trans ((Touch.refl (fun j => j = tb ∨ j = wb) w5).setCell (p := ⟨wb, 3, none⟩) (Or.inl (Or.inr rfl)) _)
        have hBn := TmAt.kept h5 ((Touch.refl (fun j => j = wb) w5).setCell (p := ⟨wb, 3, none⟩) (Or.inl rfl) (.int .i64 (0 : Nat))) HS4.out.2.2
        have HRn := Lib.hid hRn
        have HTn := Lib.hid htn
        have HBn := Lib.hid hBn
        clear hRn htn hBn h5 hR6 ht5
        go_upto_region 21 with fail
        generalize hwn : w5.setCell ⟨wb, 3, none⟩ _ = wn at HRn HTn HBn ⊢
        clear hwn d0 d1 d2 d3 f2 f3
        obtain ⟨d0, d1, d2, d3⟩ := HRn.out.cells
        have HQ := Lib.hid (fun q => (TmAt.kept HBn.out ((Touch.refl (fun _ => False) wn).drewN q) id : TmAt (wn.drewN q) tb f m wa 0))
        have HRq := Lib.hid (fun q => (RtAt.kept HRn.out ((Touch.refl (fun _ => False) wn).drewN q) id : RtAt (wn.drewN q) wb f m wa 0))
        rcases Nat.eq_zero_or_pos 0 with hz | hz
        · have hon1 : decide (0 < 0) = false := decide_eq_false (by omega)
          have hon2 : decide ((0 : Int) < ((0 : Nat) : Int)) = false := decide_eq_false (by omega)
          go_upto_region 21 with fail
          go_quiet (first
            | (go_at_call 18; with_reducible exact quiet_same (twait_calls (HQ.out _)))
            | (go_at_call 19; with_reducible exact quiet_same (ton_calls (HQ.out _))))
          go_wp2_with fail
          go_roundw
          case rel => exact ⟨k + 1, wa, 0, by go_num, by omega, by omega, by omega, by omega, HQ.out _, HRq.out _, Lib.hid (HTn.out.drewN _)⟩
          case measure => simp [intOf]; omega
        · exact absurd hz (Nat.lt_irrefl 0)
      · subst hc8
        go_wp2_with fail
        refine (treset_calls HB.out).mono ?_
        rintro e w5 ⟨rfl, h5, ht5⟩
        have hR6 := HR5.out.kept ht5 (fun e => HS4.out.2.2 e.symm)
        obtain ⟨d0, d1, d2, d3⟩ := hR6.cells
        have f2 := Block.free hR6 2
        have f3 := Block.free hR6 3
        have hRn := hR6.wait f
        have htn : Touch (fun j => j = tb ∨ j = wb) w4 (w5.setCell ⟨wb, 2, none⟩ (.int .i64 (f : Nat))) := (HT5.out.trans (ht5.mono (fun _ e => Or.inl e))).trans ((Touch.refl (fun j => j = tb ∨ j = wb) w5).setCell (p := ⟨wb, 2, none⟩) (Or.inl (Or.inr rfl)) _)
        have hBn := TmAt.kept h5 ((Touch.refl (fun j => j = wb) w5).setCell (p := ⟨wb, 2, none⟩) (Or.inl rfl) (.int .i64 (f : Nat))) HS4.out.2.2
        have HRn := Lib.hid hRn
        have HTn := Lib.hid htn
        have HBn := Lib.hid hBn
        clear hRn htn hBn h5 hR6 ht5
        go_upto_region 21 with fail
        generalize hwn : w5.setCell ⟨wb, 2, none⟩ _ = wn at HRn HTn HBn ⊢
        clear hwn d0 d1 d2 d3 f2 f3
        obtain ⟨d0, d1, d2, d3⟩ := HRn.out.cells
        have HQ := Lib.hid (fun q => (TmAt.kept HBn.out ((Touch.refl (fun _ => False) wn).drewN q) id : TmAt (wn.drewN q) tb f m f le))
        have HRq := Lib.hid (fun q => (RtAt.kept HRn.out ((Touch.refl (fun _ => False) wn).drewN q) id : RtAt (wn.drewN q) wb f m f le))
        rcases Nat.eq_zero_or_pos le with hz | hz
        · have hon1 : decide (0 < le) = false := decide_eq_false (by omega)
          have hon2 : decide ((0 : Int) < ((le : Nat) : Int)) = false := decide_eq_false (by omega)
          go_upto_region 21 with fail
          go_quiet (first
            | (go_at_call 18; with_reducible exact quiet_same (twait_calls (HQ.out _)))
            | (go_at_call 19; with_reducible exact quiet_same (ton_calls (HQ.out _))))
          go_wp2_with fail
          go_roundw
          case rel => exact ⟨k + 1, f, le, by go_num, by omega, by omega, by omega, by omega, HQ.out _, HRq.out _, Lib.hid (HTn.out.drewN _)⟩
          case measure => simp [intOf]; omega
        · have hon1 : decide (0 < le) = true := decide_eq_true (by omega)
          have hon2 : decide ((0 : Int) < ((le : Nat) : Int)) = true := decide_eq_true (by omega)
          go_upto_region 21 with fail
          go_quiet (first
            | (go_at_call 18; with_reducible exact quiet_same (twait_calls (HQ.out _)))
            | (go_at_call 19; with_reducible exact quiet_same (ton_calls (HQ.out _))))
          go_wp2_with fail
          go_roundw
          case rel => exact ⟨k + 1, f, le, by go_num, by omega, by omega, by omega, by omega, HQ.out _, HRq.out _, Lib.hid (HTn.out.drewN _)⟩
          case measure => simp [intOf]; omega
      · have hn6 : ((c : Int) == 6) = false := by simp; omega
        have hn7 : ((c : Int) == 7) = false := by simp; omega
        have hn8 : ((c : Int) == 8) = false := by simp; omega
        have hi6 : (c : Int) ≠ 6 := by omega
        have hi7 : (c : Int) ≠ 7 := by omega
        have hi8 : (c : Int) ≠ 8 := by omega
        have hl0 := tickL_le (wa := wa) hl2
        have hw0 := tickW_le (le := le) hw2
        obtain ⟨d0, d1, d2, d3⟩ := HR5.out.cells
        have HRT := Lib.hid (fun W => rttick_calls f m wa le (by omega) (by omega) W)
        rw [tmV_eq, tmV_eq] at HRT
        have HTT := Lib.hid (fun W (h : TmAt W tb f m wa le) => ttick_calls h (by omega) (by omega) (by omega))
        generalize tickW m wa le = wa' at *
        generalize tickL m wa le = le' at *
        go_wp2_with fail
        refine (HRT.out _).mono ?_
        rintro e w5 ⟨rfl, ht5⟩
        obtain ⟨nb, hnb⟩ : ∃ n, n = w5.heap.size := ⟨_, rfl⟩
        go_wp2_with fail
        rw [← hnb]
        generalize hw6 : w5.alloc _ = w6
        have hN6 : RtAt w6 nb f m wa' le' := by rw [← hw6, hnb]; exact Block.new w5 _ _
        have hT6 : Touch (fun _ => False) wr w6 := by rw [← hw6]; exact ht5.alloc _
        have hB6 : TmAt w6 tb f m wa le := HB.out.kept hT6 id
        have hR6 : RtAt w6 wb f m wa le := HR5.out.kept hT6 id
        have hlt6 : tb < nb ∧ wb < nb := ⟨by have := HB.out.lt; have := ht5.size; omega, by have := HR5.out.lt; have := ht5.size; omega⟩
        clear hw6 ht5 d0 d1 d2 d3 hnb
        refine (HTT.out _ hB6).mono ?_
        rintro e w7 ⟨rfl, h7, ht7⟩
        have hN7 := hN6.kept ht7 (by omega)
        have hR7 := hR6.kept ht7 (fun e => HS4.out.2.2 e.symm)
        have hT7 : Touch (fun j => j = tb ∨ j = wb) wr w7 := (hT6.mono (fun _ e => e.elim)).trans (ht7.mono (fun _ e => Or.inl e))
        obtain ⟨d0, d1, d2, d3⟩ := hN7.cells
        obtain ⟨c0, c1, c2, c3⟩ := hR7.cells
        have f0 := Block.free hR7 0
        have f1 := Block.free hR7 1
        have f2 := Block.free hR7 2
        have f3 := Block.free hR7 3
        have HN7 := Lib.hid hN7
        have HR7 := Lib.hid hR7
        have HT7 := Lib.hid (HT5.out.trans hT7)
        have HB7 := Lib.hid h7
        clear hN7 hR7 hT7 h7 ht7 hT6 hB6 hR6 hN6
        have hRn : RtAt _ wb f m wa' le' := rt_set4 HR7.out wa' le'
        have htn := rt_touch4 (w := w7) wb (.int .i64 (f : Nat)) (.int .i64 (m : Nat)) (.int .i64 (wa' : Nat)) (.int .i64 (le' : Nat))
        have HTn := Lib.hid (HT7.out.trans (htn.mono (S' := fun j => j = tb ∨ j = wb) (fun _ e => Or.inr e)))
        have HBn := Lib.hid (TmAt.kept HB7.out htn HS4.out.2.2)
        have HRn := Lib.hid hRn
        clear hRn htn
        go_upto_region 21 with fail
        generalize hwn : World.setCell _ ⟨wb, 3, none⟩ _ = wn at HRn HTn HBn ⊢
        clear hwn d0 d1 d2 d3 c0 c1 c2 c3 f0 f1 f2 f3
        obtain ⟨d0, d1, d2, d3⟩ := HRn.out.cells
        have HQ := Lib.hid (fun q => (TmAt.kept HBn.out ((Touch.refl (fun _ => False) wn).drewN q) id : TmAt (wn.drewN q) tb f m wa' le'))
        have HRq := Lib.hid (fun q => (RtAt.kept HRn.out ((Touch.refl (fun _ => False) wn).drewN q) id : RtAt (wn.drewN q) wb f m wa' le'))
        rcases Nat.eq_zero_or_pos le' with hz | hz
        · have hon1 : decide (0 < le') = false := decide_eq_false (by omega)
          have hon2 : decide ((0 : Int) < ((le' : Nat) : Int)) = false := decide_eq_false (by omega)
          go_upto_region 21 with fail
          go_quiet (first
            | (go_at_call 18; with_reducible exact quiet_same (twait_calls (HQ.out _)))
            | (go_at_call 19; with_reducible exact quiet_same (ton_calls (HQ.out _))))
          go_wp2_with fail
          go_roundw
          case rel => exact ⟨k + 1, wa', le', by go_num, by omega, by omega, by omega, by omega, HQ.out _, HRq.out _, Lib.hid (HTn.out.drewN _)⟩
          case measure => simp [intOf]; omega
        · have hon1 : decide (0 < le') = true := decide_eq_true (by omega)
          have hon2 : decide ((0 : Int) < ((le' : Nat) : Int)) = true := decide_eq_true (by omega)
          go_upto_region 21 with fail
          go_quiet (first
            | (go_at_call 18; with_reducible exact quiet_same (twait_calls (HQ.out _)))
            | (go_at_call 19; with_reducible exact quiet_same (ton_calls (HQ.out _))))
          go_wp2_with fail
          go_roundw
          case rel => exact ⟨k + 1, wa', le', by go_num, by omega, by omega, by omega, by omega, HQ.out _, HRq.out _, Lib.hid (HTn.out.drewN _)⟩
          case measure => simp [intOf]; omega
    · have hend : decide ((k : Int) < (xs.length : Int)) = false ∨ (decide ((k : Int) < (xs.length : Int)) = true ∧ decide ((k : Int) < 300) = false) := by
        by_cases h : k < xs.length
        · exact .inr ⟨decide_eq_true (by omega), decide_eq_false (by omega)⟩
        · exact .inl (decide_eq_false (by omega))
      rcases hend with h1 | ⟨h1, h2⟩
      all_goals (go_wp2_with fail)
      all_goals
        go_ret
        exact ⟨rfl, HT4.out.trans' HT5.out fun i e => .inr (by have := HS4.out; omega)⟩
end Go.Proofs.Ytjlpggffbmcmnaa

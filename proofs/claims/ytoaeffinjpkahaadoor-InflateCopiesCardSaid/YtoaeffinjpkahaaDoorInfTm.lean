/- A decoder: run, settle and Feed, by plain data. -/
import Derived.Test.YtoaeffinjpkahaaDoorInfTl
import Derived.Test.YtoaeffinjpkahaaDoorInfSe
namespace Go.Proofs.YtoaeffinjpkahaaDoor
set_option linter.unusedSimpArgs false
set_option linter.unusedVariables false
open Go Go.RowKit
set_option maxRecDepth 100000

/-- A decoder behind an error. -/
def badA (r told : Nat) : Array Value := #[.int .i64 0, .int .i64 (r : Nat), .int .i64 0, .int .i64 (told : Nat), .slice none 0 0, .slice none 0 0, .int .i64 0, .slice none 0 0, .slice none 0 0, .int .i64 0, .bool false, .int .i64 0, .int .i64 0, .int .i64 0, .int .i64 0, .slice none 0 0, .pointer none, .pointer none, .pointer none, .bool false, .int .i64 0, .int .i64 0, .int .i64 0, .int .i64 0]
def badB (r told : Nat) (v5 : Value) (g : Nat) : List Value := [.int .i64 0, .int .i64 (r : Nat), .int .i64 0, .int .i64 (told : Nat), .slice none 0 0, v5, .int .i64 (g : Nat), .slice none 0 0, .slice none 0 0, .int .i64 0, .bool false, .int .i64 0, .int .i64 0, .int .i64 0, .int .i64 0, .slice none 0 0, .pointer none, .pointer none, .pointer none, .bool false, .int .i64 0, .int .i64 0, .int .i64 0, .int .i64 0]
def DecF (w : World) (b r told : Nat) : Prop := ∃ v5 g, Block w b 80 (badB r told v5 g) ∧ RdV w v5 g [] ∧ ∀ k, v5.ownBlock = some k → k ≠ b
theorem DecF.cell {w : World} {b r told : Nat} (h : DecF w b r told) : w.cell? ⟨b, 0, none⟩ = some (.int .i64 0) ∧ w.cell? ⟨b, 1, none⟩ = some (.int .i64 (r : Nat)) ∧ w.cell? ⟨b, 3, none⟩ = some (.int .i64 (told : Nat)) ∧ w.cell? ⟨b, 4, none⟩ = some (.slice none 0 0) := by
  obtain ⟨v5, g, h1, _⟩ := h
  exact ⟨Block.cell h1 0, Block.cell h1 1, Block.cell h1 3, Block.cell h1 4⟩
theorem DecF.kept {S : Nat → Prop} {w w' : World} {b r told : Nat} (h : DecF w b r told) (ht : Touch S w w') (hb : ¬ S b) (h5 : ∀ v5, w.cell? ⟨b, 5, none⟩ = some v5 → ∀ k, v5.ownBlock = some k → ¬ S k) : DecF w' b r told := by
  obtain ⟨v5, g, h1, h2, h3⟩ := h
  exact ⟨v5, g, h1.kept ht hb, h2.kept ht (h5 v5 (Block.cell h1 5)), h3⟩

set_option maxHeartbeats 2000000 in
theorem settle_bad {U : Nat → Prop} {w0 w : World} {b : Nat} {s : PS} (h : DecR U w0 w b s) (r : Nat) (hr0 : r ≠ 0) (hr2 : r ≠ 2) :
    Calls Tryd.prog 37 #[.pointer (some ⟨b, 0, none⟩), .int .i64 (r : Nat)] w fun e w' => e = .returned (.tuple #[]) ∧ DecF w' b r s.told ∧ Touch U w0 w' ∧ w'.cell? ⟨b, 5, none⟩ = some (.slice none 0 0) := by
  obtain ⟨v5, g, v7, v8, p17, p18, hD, hown, hT⟩ := h
  have c3 : w.cell? ⟨b, 3, none⟩ = some (.int .i64 (s.told : Nat)) := Block.cell hD.blk 3
  obtain ⟨M, hM⟩ : ∃ M, s.told = M := ⟨_, rfl⟩
  have HB := Lib.hid hD.blk
  have HO := Lib.hid (⟨hown b (.inl rfl), hT⟩ : _ ∧ _)
  rw [hM] at c3 ⊢
  have h0 : ¬ (r : Int) = 0 := by omega
  have h2 : ¬ (r : Int) = 2 := by omega
  clear hD hown hT hr0 hr2 hM
  go_enter Tryd.func37, Tryd.ntmps37
  go_wp2_with (refine wpList_store_row rfl 80 (.tmp 12) (.tmp 11) rfl b (badA r M) ?_ ?_ _ _ HB.out ?_ ?_ ?_ ?_)
  · rfl
  · rfl
  · kernel_rfl
  · rfl
  · first | kernel_rfl | (unfold badA; simp [Value.oneCell'])
  go_wp2_with fail
  go_end0
  have hfin : Block (w.setRow b (badA r M)) b 80 (badB r M (.slice none 0 0) 0) := HB.out.row (ys := (badA r M).toList) rfl
  exact ⟨rfl, ⟨.slice none 0 0, 0, hfin, ⟨[], Row.nil _ _, by decide, by decide, rfl⟩, fun k e => by simp [Value.ownBlock] at e⟩, HO.out.2.trans' ((Touch.refl (fun k => k = b) w).setRow (g := b) (.inl rfl) _) (fun k e => by rw [e]; exact HO.out.1), Block.cell hfin 5⟩

section
variable {U : Nat → Prop} {w0 w : World} {b : Nat} {q : QS}

theorem DecQ.dec (h : DecQ U w0 w b q) : ∃ v p, DecR U w0 w b (q.ps v p) := by
  obtain ⟨v, p, h, _⟩ := h
  exact ⟨v, p, h.1⟩
theorem DecQ.two (h : DecQ U w0 w b q) : ∀ x ∈ q.bits, x < 2 := by
  obtain ⟨v, p, h⟩ := h.dec
  exact h.bits_lt.2
theorem DecQ.cell0 (h : DecQ U w0 w b q) : w.cell? ⟨b, 0, none⟩ = some (.int .i64 (q.st : Nat)) := by
  obtain ⟨v, p, h⟩ := h.dec
  exact h.cell0
theorem DecQ.put {w' : World} {q' : QS} (h : DecQ U w0 w b q) (hls : q'.ls = q.ls) (f : ∀ v p, DecR U w0 w b (q.ps v p) → DecR U w0 w' b (q'.ps v p)) (ht : Touch (fun k => k = b) w w') : DecQ U w0 w' b q' := by
  obtain ⟨v, p, hL, hv⟩ := h
  exact ⟨v, p, by rw [hls]; exact hL.keep (f v p hL.1) rfl ht, by rw [hls]; exact hv⟩
theorem DecX.put {r : Nat} {w' : World} {q' : QS} (h : DecX U w0 w b (r, q)) (hls : q'.ls = q.ls) (f : ∀ v p, DecR U w0 w b (q.ps v p) → DecR U w0 w' b (q'.ps v p)) (ht : Touch (fun k => k = b) w w') : DecX U w0 w' b (r, q') := by
  obtain ⟨⟨v, p, h1⟩, h2⟩ := h
  exact ⟨⟨v, p, f v p h1⟩, fun e => (h2 e).put hls f ht⟩
theorem touch_cell (w : World) (b j : Nat) (u : Value) : Touch (fun k => k = b) w (w.setCell ⟨b, j, none⟩ u) := (Touch.refl (fun k => k = b) w).setCell (p := ⟨b, j, none⟩) (Or.inl rfl) u
theorem feed_q (h : DecQ U w0 w b q) (t : ByteArray) (hz : q.bits.length + 8 * t.size < 1000000000) :
    Calls Tryd.prog 35 #[.pointer (some ⟨b, 5, none⟩), .string t] w fun e w' => e = .returned (.tuple #[]) ∧ DecQ U w0 w' b { q with bits := q.bits ++ bitsL t.data.toList } := by
  obtain ⟨v, p, ⟨hR, hrow, hown15⟩, hv⟩ := h
  obtain ⟨v5, g, v7, v8, p17, p18, hD, hown, hT⟩ := hR
  refine (feed_calls b 5 t q.bits _ w (rd_at hD.blk hD.rd hD.ap.1) (by show q.bits.length + _ < _; omega)).mono ?_
  rintro e w' ⟨he, row', hRd, hs, ht⟩
  obtain ⟨v5', g', hD', hM⟩ := hD.feed hRd hs ht (fun x hx => by
    rcases List.mem_append.1 hx with h1 | h1
    · exact hD.l2 x h1
    · exact bits_two _ x h1) (by rw [List.length_append, bitsL_length, Array.length_toList]; exact hz)
  have hR' : DecR U w0 w' b ({ q with bits := q.bits ++ bitsL t.data.toList }.ps v p) := DecR.step hown hT ht (fun k e => by
    rcases e with e | e
    · exact .inl (.inl e)
    · exact .inl (.inr (.inl e))) hM hD'
  exact ⟨he, v, p, ⟨hR', hrow.kept ht (fun k e hk => (hD.cod.l15 k e).2 (by
    rcases hk with e2 | e2
    · exact .inl e2
    · exact .inr (.inl e2))), hown15⟩, hv⟩

/-- As many parts as there are. -/
theorem q_run (h : DecQ U w0 w b q) (hg : GoodQ q) (n : Nat) (hn : msQ q < n) (hz : q.out.length + 300 * msQ q < 900000000 ∧ q.all.length + 300 * msQ q < 900000000) (hT : TabsI w0) (hU1 : ¬ U 1) (hU2 : ¬ U 2) :
    Calls Tryd.prog 36 #[.pointer (some ⟨b, 0, none⟩)] w fun e w' => e = .returned (.int .i64 ((runQ n q).1 : Nat)) ∧ DecX U w0 w' b (runQ n q) := by
  obtain ⟨X, hX⟩ : ∃ X, runQ n q = X := ⟨_, rfl⟩
  have HX := Lib.hid hX
  rw [hX]
  have H0 := Lib.hid (⟨h, hg, hn, hz⟩ : _ ∧ _ ∧ _ ∧ _)
  have HT := Lib.hid (⟨hT, hU1, hU2⟩ : _ ∧ _ ∧ _)
  clear h hg hn hz hT hU1 hU2 hX
  go_enter Tryd.func36, Tryd.ntmps36
  go_wp2_with fail
  go_loopg [] n (fun g wr => ∃ q' : QS, RowKit.Hid (DecQ U w0 wr b q' ∧ GoodQ q' ∧ msQ q' < g ∧ runQ g q' = X ∧ q'.out.length + 300 * msQ q' < 900000000 ∧ q'.all.length + 300 * msQ q' < 900000000))
  case atStart => exact ⟨q, Lib.hid ⟨H0.out.1, H0.out.2.1, H0.out.2.2.1, HX.out, H0.out.2.2.2.1, H0.out.2.2.2.2⟩⟩
  case round =>
    clear H0 HX
    obtain ⟨q', HI⟩ := hrel
    have c0 := HI.out.1.cell0
    have hgk : 0 < gk := by have := HI.out.2.2.1; omega
    obtain ⟨k, hk⟩ : ∃ k, gk = k + 1 := ⟨gk - 1, by omega⟩
    have HRN : Hid ((if q'.st = 11 then (0, q') else if (partQ q').1 = 0 then runQ k (partQ q').2 else partQ q') = X) := Lib.hid (by have := HI.out.2.2.2.1; rw [hk] at this; exact this)
    by_cases h11 : q'.st = 11
    · have hXX := HRN.out
      rw [if_pos h11] at hXX
      rw [h11] at c0
      go_wp2_with fail
      go_ret
      rw [← hXX]
      exact ⟨rfl, DecX.ok HI.out.1⟩
    · have hXX := HRN.out
      rw [if_neg h11] at hXX
      have hst : q'.st < 11 := by have := HI.out.2.1.st; omega
      have hs := s_part HI.out.2.1 HI.out.1.two hst
      have hp := q_part HI.out.1 HI.out.2.1 hst ⟨by have := HI.out.2.2.2.2.1; omega, by have := HI.out.2.2.2.2.2; omega⟩ HT.out.1 HT.out.2.1 HT.out.2.2
      have hnI : ¬ (((q'.st : Nat) : Int)) = 11 := by omega
      by_cases h0 : (partQ q').1 = 0
      · rw [if_pos h0] at hXX
        have hp2 : Calls Tryd.prog 63 #[.pointer (some ⟨b, 0, none⟩)] wr fun e w' => e = .returned (.int .i64 0) ∧ DecQ U w0 w' b (partQ q').2 := hp.mono (by
          rintro e w' ⟨r, rfl, hr, hx⟩
          rw [hr, h0]
          exact ⟨rfl, hx.2 (.inl h0)⟩)
        have HP := Lib.hid hp2
        have HS := Lib.hid (⟨hs, h0, hXX⟩ : _ ∧ _ ∧ _)
        clear hp hp2 hs h0 hXX HRN h11 hst
        generalize q'.st = st' at c0 hnI
        go_wp2_with fail
        refine HP.out.mono ?_
        rintro e w' ⟨rfl, hD⟩
        have HD := Lib.hid hD
        clear hD
        go_wp2_with fail
        go_roundg k
        case measure => omega
        case rel =>
          obtain ⟨e1, a1, a2, a3⟩ := HS.out.1.tells
          have hl := HS.out.1.less HS.out.2.1
          have hm := HI.out.2.2.1
          have hz1 := HI.out.2.2.2.2.1
          have hz2 := HI.out.2.2.2.2.2
          exact ⟨(partQ q').2, Lib.hid ⟨HD.out, HS.out.1.good (.inl HS.out.2.1), by omega, HS.out.2.2, by rw [a1, List.length_append]; omega, by rw [a2, List.length_append]; omega⟩⟩
      · rw [if_neg h0] at hXX
        rw [hXX] at h0 hp
        obtain ⟨N, hN⟩ : ∃ N, X.1 = N := ⟨_, rfl⟩
        rw [hN] at h0 hp
        have h0I : ¬ (N : Int) = 0 := by omega
        have HP := Lib.hid hp
        have HNX := Lib.hid hN
        clear hp hs hXX HRN h11 hst hN
        generalize q'.st = st' at c0 hnI
        go_wp2_with fail
        refine HP.out.mono ?_
        rintro e w' ⟨r, rfl, rfl, hD⟩
        have HD := Lib.hid hD
        clear hD
        go_wp2_with fail
        go_ret
        exact ⟨by rw [HNX.out]; rfl, HD.out⟩

set_option maxHeartbeats 2000000 in
/-- Feed, whatever the run comes to. -/
theorem qfeed_gen (h : DecQ U w0 w b q) (hst : q.st < 11) (t : ByteArray) (r : Nat) (q2 : QS) (hz : q.bits.length + 8 * t.size < 1000000000) (hz2 : q.came + t.size < 1000000000) (hz3 : q2.told + q2.out.length < 1000000000)
    (hrun : ∀ W, DecQ U w0 W b { q with came := q.came + t.size, bits := q.bits ++ bitsL t.data.toList } → Calls Tryd.prog 36 #[.pointer (some ⟨b, 0, none⟩)] W fun e w' => e = .returned (.int .i64 (r : Nat)) ∧ DecX U w0 w' b (r, q2))
    (P : World → Prop) (F : Nat) (hP : ∀ W W', P W → Touch (fun _ => False) W W' → P W')
    (hset : ∀ W, DecX U w0 W b (r, { q2 with out := [], told := q2.told + q2.out.length }) → W.cell? ⟨b, 7, none⟩ = some (.slice none 0 0) → Calls Tryd.prog 37 #[.pointer (some ⟨b, 0, none⟩), .int .i64 (r : Nat)] W fun e w' => e = .returned (.tuple #[]) ∧ P w' ∧ w'.cell? ⟨b, 1, none⟩ = some (.int .i64 (F : Nat))) :
    Calls Tryd.prog 10 #[.pointer (some ⟨b, 0, none⟩), .string t] w fun e w' => e = .returned (.tuple #[.string ⟨q2.out.toArray⟩, .int .i64 (F : Nat)]) ∧ P w' := by
  obtain ⟨v0, p0, hR0⟩ := h.dec
  obtain ⟨c1, c2, _, hf, _⟩ := hR0.cells
  have f2 := hf 2
  have hadd : (q.came : Int) + (t.size : Int) = ((q.came + t.size : Nat) : Int) := by omega
  obtain ⟨N, hN⟩ : ∃ N, N = q.came + t.size := ⟨_, rfl⟩
  rw [← hN] at hadd hrun hz2
  have HA := Lib.hid (h.put (q' := { q with came := N }) rfl (fun v p h => h.set2 N hz2) (touch_cell w b 2 _))
  have HR := Lib.hid hrun
  have HZ := Lib.hid (⟨hz, hz3⟩ : _ ∧ _)
  have HST := Lib.hid hst
  obtain ⟨n, hn⟩ : ∃ n, n = q2.out.length := ⟨_, rfl⟩
  obtain ⟨S, hS⟩ : ∃ S : ByteArray, S = ⟨q2.out.toArray⟩ := ⟨_, rfl⟩
  have hSz : S.size = n := by rw [hS, hn]; rfl
  rw [← hS]
  obtain ⟨M, hM⟩ : ∃ M, M = q2.told + n := ⟨_, rfl⟩
  rw [← hn, ← hM] at hset
  have HSET := Lib.hid (⟨hset, hP⟩ : _ ∧ _)
  have hadd3 : (q2.told : Int) + (n : Int) = (M : Int) := by omega
  have hMz : M < 1000000000 := by omega
  have hnz : n < 1000000000 := by omega
  have HS := Lib.hid (⟨hS, hMz⟩ : _ ∧ _)
  clear h hf hrun hN hz hz3 hst hn hS hM hMz hset hP hR0
  go_enter Tryd.func10, Tryd.ntmps10
  go_wp2_with fail
  refine (idone_run HA.out.cell0 HST.out).mono ?_
  rintro e w1 ⟨rfl, rfl⟩
  generalize w.setCell ⟨b, 2, none⟩ (.int .i64 (N : Nat)) = w1 at HA ⊢
  go_wp2_with fail
  refine (feed_q HA.out t HZ.out.1).mono ?_
  rintro e w2 ⟨rfl, hD2⟩
  have HD2 := Lib.hid hD2
  clear hD2
  go_wp2_with fail
  refine (HR.out w2 HD2.out).mono ?_
  rintro e w3 ⟨rfl, hX3⟩
  obtain ⟨v3, p3, hD3⟩ := hX3.1
  obtain ⟨e1, _, e3, hf3, v7, e7, hrow⟩ := hD3.cells
  obtain ⟨hb1, _, hb3⟩ := hD3.bounds
  have f7 := hf3 7
  have f3 := hf3 3
  have hcv := run_bytes_row (P := Tryd.prog) w3 58 5 9 Tryd.underlying58 Tryd.underlying5 Tryd.underlying9 hrow
  rw [← HS.out.1] at hcv
  have HE := Lib.hid ((hX3.put (q' := { q2 with out := [] }) rfl (fun v p h => h.set7) (touch_cell w3 b 7 _)).put (q' := { q2 with out := [], told := M }) rfl (fun v p h => h.set3 M HS.out.2) (touch_cell _ b 3 _))
  have HE7 : Hid (((w3.setCell ⟨b, 7, none⟩ (.slice none 0 0)).setCell ⟨b, 3, none⟩ (.int .i64 (M : Nat))).cell? ⟨b, 7, none⟩ = some (.slice none 0 0)) := Lib.hid ((World.cell?_setCell_other _ _ _ _ (by simp)).trans (World.cell?_setCell_same _ _ _ e7))
  clear hD3 hf3 hrow hX3
  go_wp2_with fail
  refine (HSET.out.1 _ HE.out HE7.out).mono ?_
  rintro e w4 ⟨rfl, hPw, k1⟩
  have HF := Lib.hid hPw
  clear hPw
  go_wp2_with fail
  go_region
  go_wp2_with fail
  go_ret2
  exact ⟨rfl, HSET.out.2 _ _ HF.out (Touch.refl _ _).drew⟩
end
end Go.Proofs.YtoaeffinjpkahaaDoor

/- The contract of the reference's next day. -/
import Derived.Test.YtbhjeolhndpnfaaDosF
import Derived.Test.YtbhjeolhndpnfaaDosC1
namespace Go.Proofs.Ytbhjeolhndpnfaa
open Go Go.RowKit
set_option maxRecDepth 100000

theorem Try.sizeR : (Try.prog.info? 27).map (·.size) = some 6 := by kernel_rfl

theorem far2 {w : World} {b r i j : Nat} {u v : Value} {o : Obj} (hn : r ≠ b) (h : w.heap[r]? = some o) : ((w.setCell ⟨b, i, none⟩ u).setCell ⟨b, j, none⟩ v).heap[r]? = some o :=
  (heap_setCell_other _ _ _ _ hn).trans ((heap_setCell_other _ _ _ _ hn).trans h)

set_option maxHeartbeats 2000000 in
theorem next_calls (t : Tim) (w : World) (h : Good t) : Calls Try.prog 16 #[t.v] w fun e w' => e = .returned (nextT t).v ∧ Touch (fun _ => False) w w' := by
  have H := h
  obtain ⟨a1, a2, a3, a4, a5, a6, a7, a8, a9, a10, a11, a12, a13⟩ := h
  have hdm := dim_bd t.y t.mo
  have hd31 : t.d ≤ 31 := by omega
  clear hdm a6 H
  have hnx : nextT t = (if t.d + 1 ≤ dimI t.y t.mo then { t with d := t.d + 1 } else if t.mo + 1 ≤ 12 then { t with d := 1, mo := t.mo + 1 } else { t with d := 1, mo := 1, y := t.y + 1 }) := rfl
  have HX := Lib.hid hnx
  clear hnx
  generalize nextT t = X at *
  obtain ⟨y, mo, d, hh, mi, s⟩ := t
  unfold Tim.v
  simp only at *
  go_enter Try.func16, Try.ntmps16
  go_upto_region 2 with fail
  refine wp_region_quiet_touch (fun _ => False) (by kernel_rfl) (by kernel_rfl) ?_
  have hT0 := ((Touch.refl (fun _ => False) w).alloc (.cells #[.int .i64 y, .int .i64 mo, .int .i64 (d + 1), .int .i64 hh, .int .i64 mi, .int .i64 s] 27)).alloc (.cells #[.int .i64 0, .int .i64 0, .int .i64 0, .int .i64 0, .int .i64 0, .int .i64 0] 27)
  have hb := box6 ((Touch.refl (fun _ => False) (w.alloc (.cells #[.int .i64 y, .int .i64 mo, .int .i64 (d + 1), .int .i64 hh, .int .i64 mi, .int .i64 s] 27))).alloc (.cells #[.int .i64 0, .int .i64 0, .int .i64 0, .int .i64 0, .int .i64 0, .int .i64 0] 27))
  have hr := box6b (Touch.refl (fun _ => False) ((w.alloc (.cells #[.int .i64 y, .int .i64 mo, .int .i64 (d + 1), .int .i64 hh, .int .i64 mi, .int .i64 s] 27)).alloc (.cells #[.int .i64 0, .int .i64 0, .int .i64 0, .int .i64 0, .int .i64 0, .int .i64 0] 27)))
  generalize (w.alloc (.cells #[.int .i64 y, .int .i64 mo, .int .i64 (d + 1), .int .i64 hh, .int .i64 mi, .int .i64 s] 27)).alloc (.cells #[.int .i64 0, .int .i64 0, .int .i64 0, .int .i64 0, .int .i64 0, .int .i64 0] 27) = w0 at *
  obtain ⟨c0, c1, c2, c3, c4, c5, hcr, hcz⟩ := hb
  obtain ⟨-, -, -, -, -, -, hrr, hrz⟩ := hr
  have HT0 := Lib.hid hT0
  clear hT0
  have k0 : ∀ T : Wd (fun _ => False) w0, T.V.cell? ⟨w.heap.size, 0, none⟩ = some (.int .i64 y) := fun T => T.ok.cell c0 id
  have k1 : ∀ T : Wd (fun _ => False) w0, T.V.cell? ⟨w.heap.size, 1, none⟩ = some (.int .i64 mo) := fun T => T.ok.cell c1 id
  have k2 : ∀ T : Wd (fun _ => False) w0, T.V.cell? ⟨w.heap.size, 2, none⟩ = some (.int .i64 (d + 1)) := fun T => T.ok.cell c2 id
  repeat (go_big_quiet_step ((go_at_call 12; exact quiet_touch (refdays_calls _ _ _))))
  refine wpQuiet_nil ?_
  intro _ hw1
  obtain ⟨T, hw2⟩ := hw1
  subst hw2
  clear k0 k1 k2
  have hT := T.ok
  generalize T.V = w2 at hT ⊢
  clear T
  have e1 : w2.heap[w.heap.size]? = w0.heap[w.heap.size]? := hT.block _ hcz id
  have e2 : w2.heap[w.heap.size + 1]? = w0.heap[w.heap.size + 1]? := hT.block _ hrz id
  rw [hcr] at e1
  rw [hrr] at e2
  clear c0 c1 c2 c3 c4 c5 hcr hrr hcz hrz
  obtain ⟨B, hB⟩ : ∃ B, w.heap.size = B := ⟨_, rfl⟩
  have hB' : w.heap.size ≤ B := by omega
  rw [hB] at e1 e2 ⊢
  clear hB
  obtain ⟨c0, c1, c2, c3, c4, c5⟩ := row6 e1
  obtain ⟨r0, r1, r2, r3, r4, r5⟩ := row6 e2
  have f1 := box_free e1
  have f2 := box_free e2
  have E1 := Lib.hid e1
  have E2 := Lib.hid e2
  clear e1 e2
  have hfin : Touch (fun _ => False) w w2 := HT0.out.trans hT
  have HF := Lib.hid hfin
  clear hfin hT
  by_cases hd : d + 1 ≤ dimI y mo
  · have hd' : ¬ dimI y mo < d + 1 := by omega
    have hmo : ¬ 12 < mo := by omega
    have e := HX.out
    rw [if_pos hd] at e
    subst e
    clear HX
    go_wp2
    refine bodyPost_ret (results_cell_row rfl _ _ (B + 1) _ _ _ _ rfl (box_set6 E2.out) Try.underlying27 rfl Try.sizeR) rfl ⟨rfl, ?_⟩
    exact HF.out.set6 (.inr (by omega)) _ _ _ _ _ _
  · have hd' : dimI y mo < d + 1 := by omega
    by_cases hm : mo + 1 ≤ 12
    · have hmo : ¬ 12 < mo + 1 := by omega
      have e := HX.out
      rw [if_neg hd, if_pos hm] at e
      subst e
      clear HX
      go_wp2
      refine bodyPost_ret (results_cell_row rfl _ _ (B + 1) _ _ _ _ rfl (box_set6 (far2 (by omega) E2.out)) Try.underlying27 rfl Try.sizeR) rfl ⟨rfl, ?_⟩
      exact ((HF.out.setCell (.inr (by show w.heap.size ≤ B; omega)) _).setCell (.inr (by show w.heap.size ≤ B; omega)) _).set6 (.inr (by omega)) _ _ _ _ _ _
    · have hmo : 12 < mo + 1 := by omega
      have e := HX.out
      rw [if_neg hd, if_neg hm] at e
      subst e
      clear HX
      go_upto_region 6 with fail
      have g1 : ((w2.setCell ⟨B, 2, none⟩ (.int .i64 1)).setCell ⟨B, 1, none⟩ (.int .i64 (mo + 1))).heap[B]? = some (.cells #[.int .i64 y, .int .i64 (mo + 1), .int .i64 1, .int .i64 hh, .int .i64 mi, .int .i64 s] 27) := heap_setCell_same _ (heap_setCell_same _ E1.out)
      have g2 : ((w2.setCell ⟨B, 2, none⟩ (.int .i64 1)).setCell ⟨B, 1, none⟩ (.int .i64 (mo + 1))).heap[B + 1]? = w2.heap[B + 1]? := (heap_setCell_other _ _ _ _ (by show B + 1 ≠ B; omega)).trans (heap_setCell_other _ _ _ _ (by show B + 1 ≠ B; omega))
      rw [E2.out] at g2
      have g3 : Touch (fun _ => False) w ((w2.setCell ⟨B, 2, none⟩ (.int .i64 1)).setCell ⟨B, 1, none⟩ (.int .i64 (mo + 1))) := (HF.out.setCell (.inr (by show w.heap.size ≤ B; omega)) _).setCell (.inr (by show w.heap.size ≤ B; omega)) _
      generalize ((w2.setCell ⟨B, 2, none⟩ (.int .i64 1)).setCell ⟨B, 1, none⟩ (.int .i64 (mo + 1))) = w3 at g1 g2 g3 ⊢
      clear c0 c1 c2 c3 c4 c5 r0 r1 r2 r3 r4 r5 f1 f2
      obtain ⟨c0, c1, c2, c3, c4, c5⟩ := row6 g1
      obtain ⟨r0, r1, r2, r3, r4, r5⟩ := row6 g2
      have f1 := box_free g1
      have f2 := box_free g2
      have G1 := Lib.hid g1
      have G2 := Lib.hid g2
      have G3 := Lib.hid g3
      clear g1 g2 g3 E1 E2
      go_wp2
      refine bodyPost_ret (results_cell_row rfl _ _ (B + 1) _ _ _ _ rfl (box_set6 (far2 (by omega) G2.out)) Try.underlying27 rfl Try.sizeR) rfl ⟨rfl, ?_⟩
      exact ((G3.out.setCell (.inr (by show w.heap.size ≤ B; omega)) _).setCell (.inr (by show w.heap.size ≤ B; omega)) _).set6 (.inr (by omega)) _ _ _ _ _ _
end Go.Proofs.Ytbhjeolhndpnfaa

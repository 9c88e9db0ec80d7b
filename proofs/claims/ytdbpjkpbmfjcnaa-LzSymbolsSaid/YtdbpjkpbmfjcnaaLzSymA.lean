/- The walk of layer 5's statement on the symbols of any length and any distance, where the number is a length. -/
import Derived.Test.YtdbpjkpbmfjcnaaLzU
namespace Go.Proofs.Ytdbpjkpbmfjcnaa
open Go Go.RowKit
set_option maxRecDepth 100000

theorem lenTab_at (s : Nat) (h : s < 29) : lenTab[s]? = some (lenRow s) := by
  unfold lenTab
  rw [List.getElem?_map, List.getElem?_range h]
  rfl
theorem distTab_at (s : Nat) (h : s < 30) : distTab[s]? = some (distRow s) := by
  unfold distTab
  rw [List.getElem?_map, List.getElem?_range h]
  rfl
/-- A table's slice, and its rows' cells from then on. -/
theorem tab_cells (w : World) (v : Value) (T : List Tr) (n : Nat) (hn : T.length = n) (h0 : 0 < n) (h : Trs w v T) : ∃ g off cap, v = .slice (some ⟨g, off, none⟩) n cap ∧ n ≤ cap ∧ g < w.heap.size ∧ ∀ s r, T[s]? = some r → ∀ W, Touch (fun _ => False) w W → W.cell? ⟨g, off + s * 3 + 1, none⟩ = some (.int .i64 (r.2.1 : Nat)) ∧ W.cell? ⟨g, off + s * 3 + 2, none⟩ = some (.int .i64 (r.2.2 : Nat)) := by
  obtain ⟨a, cap, rfl, h1, h2, h3⟩ := h
  rw [hn] at h1 ⊢
  rcases h3 with rfl | ⟨g, off, rfl, h3⟩
  · simp at hn; omega
  · refine ⟨g, off, cap, rfl, h1, ?_, fun s r hr W hW => ⟨hW.cell (h3 s r hr).2.1 id, hW.cell (h3 s r hr).2.2 id⟩⟩
    have := h3 0 _ (List.getElem?_eq_getElem (show 0 < T.length by omega))
    exact World.block_lt_of_cell? w _ this.1

/-- Three boxes that were made, as they lie behind a call that writes nothing. -/
theorem three_boxes {w w' : World} {A B C : Array Value} {t : TypeId} (h : Touch (fun _ => False) (((w.alloc (.cells A t)).alloc (.cells B t)).alloc (.cells C t)) w') :
    w.heap.size + 1 + 1 < w'.heap.size ∧ w'.heap[w.heap.size]? = some (.cells A t) ∧ w'.heap[w.heap.size + 1]? = some (.cells B t) ∧ w'.heap[w.heap.size + 1 + 1]? = some (.cells C t) := by
  have hsz : (((w.alloc (.cells A t)).alloc (.cells B t)).alloc (.cells C t)).heap.size = w.heap.size + 1 + 1 + 1 := by simp
  have h1 := h.size
  have a1 : (((w.alloc (.cells A t)).alloc (.cells B t)).alloc (.cells C t)).heap[w.heap.size]? = some (.cells A t) := (heap_alloc_old _ _ (by simp; omega)).trans ((heap_alloc_old _ _ (by simp)).trans (heap_alloc_new w _))
  have a2 : (((w.alloc (.cells A t)).alloc (.cells B t)).alloc (.cells C t)).heap[w.heap.size + 1]? = some (.cells B t) := (heap_alloc_old _ _ (by simp)).trans (by
    have := heap_alloc_new (w.alloc (.cells A t)) (.cells B t)
    simpa using this)
  have a3 : (((w.alloc (.cells A t)).alloc (.cells B t)).alloc (.cells C t)).heap[w.heap.size + 1 + 1]? = some (.cells C t) := by
    have := heap_alloc_new ((w.alloc (.cells A t)).alloc (.cells B t)) (.cells C t)
    simpa using this
  exact ⟨by omega, (h.block _ (by omega) id).trans a1, (h.block _ (by omega) id).trans a2, (h.block _ (by omega) id).trans a3⟩

theorem four_fresh {w w' : World} {A B C E : Array Value} {t : TypeId} (h : Touch (fun _ => False) ((((w.alloc (.cells A t)).alloc (.cells B t)).alloc (.cells C t)).alloc (.cells E t)) w') :
    w.heap.size + 1 + 1 + 1 < w'.heap.size ∧ w'.heap[w.heap.size]? = some (.cells A t) ∧ w'.heap[w.heap.size + 1]? = some (.cells B t) ∧ w'.heap[w.heap.size + 1 + 1]? = some (.cells C t) ∧ w'.heap[w.heap.size + 1 + 1 + 1]? = some (.cells E t) := by
  have h0 := three_boxes (((Touch.refl (fun _ => False) (((w.alloc (.cells A t)).alloc (.cells B t)).alloc (.cells C t))).alloc (.cells E t)).trans h)
  have hsz : ((((w.alloc (.cells A t)).alloc (.cells B t)).alloc (.cells C t)).alloc (.cells E t)).heap.size = w.heap.size + 1 + 1 + 1 + 1 := by simp
  have h1 := h.size
  have a4 : ((((w.alloc (.cells A t)).alloc (.cells B t)).alloc (.cells C t)).alloc (.cells E t)).heap[w.heap.size + 1 + 1 + 1]? = some (.cells E t) := by
    have := heap_alloc_new (((w.alloc (.cells A t)).alloc (.cells B t)).alloc (.cells C t)) (.cells E t)
    simpa using this
  exact ⟨by omega, h0.2.1, h0.2.2.1, h0.2.2.2, (h.block _ (by omega) id).trans a4⟩
theorem carry {f : FuncId} {args : Array Value} {w0 W : World} {v : Ending} (h : Calls Try.prog f args W fun e w' => e = v ∧ W = w') (hT : Touch (fun _ => False) w0 W) : Calls Try.prog f args W fun e w' => e = v ∧ Touch (fun _ => False) w0 w' :=
  h.mono fun e w' ⟨he, hw⟩ => ⟨he, by rw [← hw]; exact hT⟩
theorem four_boxes {w w' : World} {b : Nat} {A B E : Array Value} {x0 x1 x2 y0 y1 y2 : Value} {t : TypeId} {o : Obj} (hs : b + 1 + 1 < w.heap.size) (hA : w.heap[b]? = some (.cells A t)) (hB : w.heap[b + 1]? = some (.cells B t)) (hC : w.heap[b + 1 + 1]? = some (.cells #[x0, x1, x2] t))
    (h : Touch (fun _ => False) (((((w.setCell ⟨b + 1 + 1, 0, none⟩ y0).setCell ⟨b + 1 + 1, 1, none⟩ y1).setCell ⟨b + 1 + 1, 2, none⟩ y2).alloc o).alloc (.cells E t)) w') :
    w.heap.size + 1 < w'.heap.size ∧ w'.heap[b]? = some (.cells A t) ∧ w'.heap[b + 1]? = some (.cells B t) ∧ w'.heap[b + 1 + 1]? = some (.cells #[y0, y1, y2] t) ∧ w'.heap[w.heap.size + 1]? = some (.cells E t) := by
  have hS := (((((Touch.refl (fun k => k = b + 1 + 1) w).setCell (p := ⟨b + 1 + 1, 0, none⟩) (Or.inl rfl) y0).setCell (p := ⟨b + 1 + 1, 1, none⟩) (Or.inl rfl) y1).setCell (p := ⟨b + 1 + 1, 2, none⟩) (Or.inl rfl) y2).alloc o).alloc (.cells E t)
  have hsz : (((((w.setCell ⟨b + 1 + 1, 0, none⟩ y0).setCell ⟨b + 1 + 1, 1, none⟩ y1).setCell ⟨b + 1 + 1, 2, none⟩ y2).alloc o).alloc (.cells E t)).heap.size = w.heap.size + 1 + 1 := by simp
  have h1 := h.size
  have a1 := (hS.block b (by omega) (by omega)).trans hA
  have a2 := (hS.block (b + 1) (by omega) (by omega)).trans hB
  have a3 : (((((w.setCell ⟨b + 1 + 1, 0, none⟩ y0).setCell ⟨b + 1 + 1, 1, none⟩ y1).setCell ⟨b + 1 + 1, 2, none⟩ y2).alloc o).alloc (.cells E t)).heap[b + 1 + 1]? = some (.cells #[y0, y1, y2] t) := (heap_alloc_old _ _ (by simp; omega)).trans ((heap_alloc_old _ _ (by simp; omega)).trans (box_set3 hC))
  have a4 : (((((w.setCell ⟨b + 1 + 1, 0, none⟩ y0).setCell ⟨b + 1 + 1, 1, none⟩ y1).setCell ⟨b + 1 + 1, 2, none⟩ y2).alloc o).alloc (.cells E t)).heap[w.heap.size + 1]? = some (.cells E t) := by
    have := heap_alloc_new ((((w.setCell ⟨b + 1 + 1, 0, none⟩ y0).setCell ⟨b + 1 + 1, 1, none⟩ y1).setCell ⟨b + 1 + 1, 2, none⟩ y2).alloc o) (.cells E t)
    simpa using this
  exact ⟨by omega, (h.block _ (by omega) id).trans a1, (h.block _ (by omega) id).trans a2, (h.block _ (by omega) id).trans a3, (h.block _ (by omega) id).trans a4⟩

set_option maxHeartbeats 2000000 in
theorem symbols_Aa (n : Nat) (z : Int) (w : World) (h3 : 3 ≤ n) (h : n ≤ 258) (hz : z < 0) :
    Calls Try.prog 6 #[.int .i64 n, .int .i64 z] w fun e w' => e = .returned (.bool true) ∧ Touch (fun _ => False) w w' := by
  go_enter Try.func6, Try.ntmps6
  go_wp2_with fail
  refine (speaks5_calls _).mono ?_
  rintro e w1 ⟨rfl, ht1⟩
  go_wp2_with fail
  refine (lengths_calls _).mono ?_
  rintro e w2 ⟨va, rfl, hva, ht2⟩
  go_wp2_with fail
  refine (dists_calls _).mono ?_
  rintro e w3 ⟨vb, rfl, hvb, ht3⟩
  replace hva := hva.still ht3
  have HT := Lib.hid ((ht1.trans ht2).trans ht3)
  clear ht1 ht2 ht3
  obtain ⟨f1, f2⟩ := find_len n h3 h
  have HL := Lib.hid (fun W => length_in n W h3 h)
  have HFA := Lib.hid (fun W hW => find_calls lenTab n va W (hva.still hW) (by decide) (by decide))
  rw [f1] at HFA
  have hsub : (n : Int) - ((n - lenV n : Nat) : Int) = (lenV n : Nat) := by omega
  have hvb' : lenV n < 65536 := by omega
  unfold extraV at HL
  generalize n - lenV n = L1 at HFA hsub
  generalize lenS n = S1 at HL HFA
  generalize lenB n = B1 at HL HFA
  generalize lenV n = V1 at HL hsub hvb'
  clear f1 f2
  obtain ⟨k1, k2⟩ := find_dist n (by omega) (by omega)
  have HD := Lib.hid (fun W => dist_in n W (by omega) (by omega))
  have HFB := Lib.hid (fun W hW => find_calls distTab n vb W (hvb.still hW) (by decide) (by decide))
  rw [k1] at HFB
  have hvlt : valN 1 (n - 1) ≤ n := k2
  have hsub2 : (n : Int) - ((n - valN 1 (n - 1) : Nat) : Int) = (valN 1 (n - 1) : Nat) := by omega
  have hvb2 : valN 1 (n - 1) ≤ 32768 := by omega
  unfold extraV at HD
  generalize n - valN 1 (n - 1) = L2 at HFB hsub2
  generalize symN 1 (n - 1) = S2 at HD HFB
  generalize bitN 1 (n - 1) = B2 at HD HFB
  generalize valN 1 (n - 1) = V2 at HD hsub2 hvb2 hvlt
  clear k1 k2 hvlt
  have HLO := Lib.hid (fun W (hW : Touch (fun _ => False) w3 W) => carry (lengthof_out z W (by omega)) hW)
  have HDO := Lib.hid (fun W (hW : Touch (fun _ => False) w3 W) => carry (distof_out z W (by omega)) hW)
  obtain ⟨ga, oa, ca, hae, hca, hga, hcellA⟩ := tab_cells w3 va lenTab 29 (by decide) (by decide) hva
  obtain ⟨gb, ob, cb, hbe, hcb, hgb, hcellB⟩ := tab_cells w3 vb distTab 30 (by decide) (by decide) hvb
  subst hae
  subst hbe
  clear hva hvb
  clear hcellA hcellB
  have HSELF := Lib.hid (Touch.refl (fun _ => False) w3)
  go_wp2_with fail
  refine (HL.out _).mono ?_
  rintro e w4 ⟨rfl, ht4⟩
  have HT4 := Lib.hid (HSELF.out.trans ht4)
  clear ht4
  go_wp2_with fail
  refine (HD.out _).mono ?_
  rintro e w5 ⟨rfl, ht5⟩
  have HT5 := Lib.hid (HT4.out.trans ht5)
  clear ht5
  go_wp2_with fail
  refine (HFA.out _ (((HT5.out.alloc _).alloc _).alloc _)).mono ?_
  rintro e w6 ⟨rfl, ht6⟩
  have HT6 := Lib.hid ((((HT5.out.alloc _).alloc _).alloc _).trans ht6)
  obtain ⟨hs6, hx6, hy6, hw6⟩ := three_boxes ht6
  clear ht6
  obtain ⟨x0, x1, x2, x3, x4, x5⟩ := box_cells hx6
  obtain ⟨y0, y1, y2, y3, y4, y5⟩ := box_cells hy6
  obtain ⟨v0, v1, v2, v3, v4, v5⟩ := box_cells hw6
  have hb5 : w3.heap.size ≤ w5.heap.size := HT5.out.size
  generalize w5.heap.size = b at hb5 hs6 hx6 hy6 hw6 x0 x1 x2 x3 x4 x5 y0 y1 y2 y3 y4 y5 v0 v1 v2 v3 v4 v5 ⊢
  unfold trV
  go_wp2_with fail
  clear x0 x1 x2 x3 x4 x5 y0 y1 y2 y3 y4 y5 v0 v1 v2 v3 v4 v5
  refine (HFB.out _ (((((HT6.out.setCell (.inr (by show w3.heap.size ≤ b + 1 + 1; omega)) _).setCell (.inr (by show w3.heap.size ≤ b + 1 + 1; omega)) _).setCell (.inr (by show w3.heap.size ≤ b + 1 + 1; omega)) _).alloc _).alloc _)).mono ?_
  rintro e w7 ⟨rfl, ht7⟩
  have HT7 := Lib.hid ((((((HT6.out.setCell (.inr (by show w3.heap.size ≤ b + 1 + 1; omega)) _).setCell (.inr (by show w3.heap.size ≤ b + 1 + 1; omega)) _).setCell (.inr (by show w3.heap.size ≤ b + 1 + 1; omega)) _).alloc _).alloc _).trans ht7)
  obtain ⟨hs7, hx7, hy7, hw7, hv7⟩ := four_boxes hs6 hx6 hy6 hw6 ht7
  clear ht7 hx6 hy6 hw6
  obtain ⟨x0, x1, x2, x3, x4, x5⟩ := box_cells hx7
  obtain ⟨y0, y1, y2, y3, y4, y5⟩ := box_cells hy7
  obtain ⟨v0, v1, v2, v3, v4, v5⟩ := box_cells hw7
  obtain ⟨u0, u1, u2, u3, u4, u5⟩ := box_cells hv7
  obtain ⟨B9, hB9⟩ : ∃ B9, w6.heap.size = B9 := ⟨_, rfl⟩
  have hb9 : w3.heap.size ≤ B9 + 1 := by have := HT6.out.size; omega
  rw [hB9] at hs6 hs7 hv7 u0 u1 u2 u3 u4 u5 ⊢
  have z1 : b < w7.heap.size := by omega
  have z2 : b + 1 < w7.heap.size := by omega
  have z3 : b + 1 + 1 < w7.heap.size := by omega
  have z4 : b ≠ B9 + 1 := by omega
  have z5 : b + 1 ≠ B9 + 1 := by omega
  have z6 : b + 1 + 1 ≠ B9 + 1 := by omega
  have HV7 := Lib.hid (And.intro hs6 (And.intro hs7 hv7))
  clear hx7 hy7 hw7 hv7 hB9
  unfold trV
  go_wp2_with fail
  refine (HLO.out _ (((((HT7.out.setCell (.inr hb9) _).setCell (.inr hb9) _).setCell (.inr hb9) _).alloc _))).mono ?_
  rintro e w8 ⟨rfl, h8⟩
  have HT8 := Lib.hid h8
  clear h8
  have e0 : decide ((257 : Int) ≤ z) = false := decide_eq_false (by omega)
  have e1 : decide (z ≤ 285) = true := decide_eq_true (by omega)
  have e2 : decide ((0 : Int) ≤ z) = false := decide_eq_false (by omega)
  have e3 : decide (z ≤ 29) = true := decide_eq_true (by omega)
  clear x0 x1 x2 x3 x4 x5 y0 y1 y2 y3 y4 y5 v0 v1 v2 v3 v4 v5 u0 u1 u2 u3 u4 u5 z1 z2 z3 z4 z5 z6 hsub hsub2 hvb' hvb2 hb5
  go_wp2_with fail
  refine (HDO.out _ HT8.out).mono ?_
  rintro e w9 ⟨rfl, h9⟩
  have HT9 := Lib.hid h9
  clear h9
  skip
  go_wp2_with fail
  go_ret
  exact ⟨by first | rfl | simp, HT.out.trans HT9.out⟩

set_option maxHeartbeats 2000000 in
theorem symbols_Ab (n : Nat) (s : Nat) (w : World) (h3 : 3 ≤ n) (h : n ≤ 258) (hz : s < 30) :
    Calls Try.prog 6 #[.int .i64 n, .int .i64 (s : Nat)] w fun e w' => e = .returned (.bool true) ∧ Touch (fun _ => False) w w' := by
  go_enter Try.func6, Try.ntmps6
  go_wp2_with fail
  refine (speaks5_calls _).mono ?_
  rintro e w1 ⟨rfl, ht1⟩
  go_wp2_with fail
  refine (lengths_calls _).mono ?_
  rintro e w2 ⟨va, rfl, hva, ht2⟩
  go_wp2_with fail
  refine (dists_calls _).mono ?_
  rintro e w3 ⟨vb, rfl, hvb, ht3⟩
  replace hva := hva.still ht3
  have HT := Lib.hid ((ht1.trans ht2).trans ht3)
  clear ht1 ht2 ht3
  obtain ⟨f1, f2⟩ := find_len n h3 h
  have HL := Lib.hid (fun W => length_in n W h3 h)
  have HFA := Lib.hid (fun W hW => find_calls lenTab n va W (hva.still hW) (by decide) (by decide))
  rw [f1] at HFA
  have hsub : (n : Int) - ((n - lenV n : Nat) : Int) = (lenV n : Nat) := by omega
  have hvb' : lenV n < 65536 := by omega
  unfold extraV at HL
  generalize n - lenV n = L1 at HFA hsub
  generalize lenS n = S1 at HL HFA
  generalize lenB n = B1 at HL HFA
  generalize lenV n = V1 at HL hsub hvb'
  clear f1 f2
  obtain ⟨k1, k2⟩ := find_dist n (by omega) (by omega)
  have HD := Lib.hid (fun W => dist_in n W (by omega) (by omega))
  have HFB := Lib.hid (fun W hW => find_calls distTab n vb W (hvb.still hW) (by decide) (by decide))
  rw [k1] at HFB
  have hvlt : valN 1 (n - 1) ≤ n := k2
  have hsub2 : (n : Int) - ((n - valN 1 (n - 1) : Nat) : Int) = (valN 1 (n - 1) : Nat) := by omega
  have hvb2 : valN 1 (n - 1) ≤ 32768 := by omega
  unfold extraV at HD
  generalize n - valN 1 (n - 1) = L2 at HFB hsub2
  generalize symN 1 (n - 1) = S2 at HD HFB
  generalize bitN 1 (n - 1) = B2 at HD HFB
  generalize valN 1 (n - 1) = V2 at HD hsub2 hvb2 hvlt
  clear k1 k2 hvlt
  have HLO := Lib.hid (fun W (hW : Touch (fun _ => False) w3 W) => carry (lengthof_out (s : Int) W (by omega)) hW)
  have HDO := Lib.hid (fun W (hW : Touch (fun _ => False) w3 W) => carry (distof_in s W hz) hW)
  obtain ⟨ga, oa, ca, hae, hca, hga, hcellA⟩ := tab_cells w3 va lenTab 29 (by decide) (by decide) hva
  obtain ⟨gb, ob, cb, hbe, hcb, hgb, hcellB⟩ := tab_cells w3 vb distTab 30 (by decide) (by decide) hvb
  subst hae
  subst hbe
  clear hva hvb
  have HC := Lib.hid (fun W hW => hcellB s _ (distTab_at s hz) W hW)
  have HLS := Lib.hid (show (distRow s).2.1 = leastN 1 s + 1 from rfl)
  have HES := Lib.hid (show (distRow s).2.2 = extN 1 s from rfl)
  clear hcellA hcellB
  have HSELF := Lib.hid (Touch.refl (fun _ => False) w3)
  go_wp2_with fail
  refine (HL.out _).mono ?_
  rintro e w4 ⟨rfl, ht4⟩
  have HT4 := Lib.hid (HSELF.out.trans ht4)
  clear ht4
  go_wp2_with fail
  refine (HD.out _).mono ?_
  rintro e w5 ⟨rfl, ht5⟩
  have HT5 := Lib.hid (HT4.out.trans ht5)
  clear ht5
  go_wp2_with fail
  refine (HFA.out _ (((HT5.out.alloc _).alloc _).alloc _)).mono ?_
  rintro e w6 ⟨rfl, ht6⟩
  have HT6 := Lib.hid ((((HT5.out.alloc _).alloc _).alloc _).trans ht6)
  obtain ⟨hs6, hx6, hy6, hw6⟩ := three_boxes ht6
  clear ht6
  obtain ⟨x0, x1, x2, x3, x4, x5⟩ := box_cells hx6
  obtain ⟨y0, y1, y2, y3, y4, y5⟩ := box_cells hy6
  obtain ⟨v0, v1, v2, v3, v4, v5⟩ := box_cells hw6
  have hb5 : w3.heap.size ≤ w5.heap.size := HT5.out.size
  generalize w5.heap.size = b at hb5 hs6 hx6 hy6 hw6 x0 x1 x2 x3 x4 x5 y0 y1 y2 y3 y4 y5 v0 v1 v2 v3 v4 v5 ⊢
  unfold trV
  go_wp2_with fail
  clear x0 x1 x2 x3 x4 x5 y0 y1 y2 y3 y4 y5 v0 v1 v2 v3 v4 v5
  refine (HFB.out _ (((((HT6.out.setCell (.inr (by show w3.heap.size ≤ b + 1 + 1; omega)) _).setCell (.inr (by show w3.heap.size ≤ b + 1 + 1; omega)) _).setCell (.inr (by show w3.heap.size ≤ b + 1 + 1; omega)) _).alloc _).alloc _)).mono ?_
  rintro e w7 ⟨rfl, ht7⟩
  have HT7 := Lib.hid ((((((HT6.out.setCell (.inr (by show w3.heap.size ≤ b + 1 + 1; omega)) _).setCell (.inr (by show w3.heap.size ≤ b + 1 + 1; omega)) _).setCell (.inr (by show w3.heap.size ≤ b + 1 + 1; omega)) _).alloc _).alloc _).trans ht7)
  obtain ⟨hs7, hx7, hy7, hw7, hv7⟩ := four_boxes hs6 hx6 hy6 hw6 ht7
  clear ht7 hx6 hy6 hw6
  obtain ⟨x0, x1, x2, x3, x4, x5⟩ := box_cells hx7
  obtain ⟨y0, y1, y2, y3, y4, y5⟩ := box_cells hy7
  obtain ⟨v0, v1, v2, v3, v4, v5⟩ := box_cells hw7
  obtain ⟨u0, u1, u2, u3, u4, u5⟩ := box_cells hv7
  obtain ⟨B9, hB9⟩ : ∃ B9, w6.heap.size = B9 := ⟨_, rfl⟩
  have hb9 : w3.heap.size ≤ B9 + 1 := by have := HT6.out.size; omega
  rw [hB9] at hs6 hs7 hv7 u0 u1 u2 u3 u4 u5 ⊢
  have z1 : b < w7.heap.size := by omega
  have z2 : b + 1 < w7.heap.size := by omega
  have z3 : b + 1 + 1 < w7.heap.size := by omega
  have z4 : b ≠ B9 + 1 := by omega
  have z5 : b + 1 ≠ B9 + 1 := by omega
  have z6 : b + 1 + 1 ≠ B9 + 1 := by omega
  have HV7 := Lib.hid (And.intro hs6 (And.intro hs7 hv7))
  clear hx7 hy7 hw7 hv7 hB9
  unfold trV
  go_wp2_with fail
  refine (HLO.out _ (((((HT7.out.setCell (.inr hb9) _).setCell (.inr hb9) _).setCell (.inr hb9) _).alloc _))).mono ?_
  rintro e w8 ⟨rfl, h8⟩
  have HT8 := Lib.hid h8
  clear h8
  have e0 : decide ((257 : Int) ≤ (s : Int)) = false := decide_eq_false (by omega)
  have e1 : decide ((s : Int) ≤ 285) = true := decide_eq_true (by omega)
  have e2 : decide ((0 : Int) ≤ (s : Int)) = true := decide_eq_true (by omega)
  have e3 : decide ((s : Int) ≤ 29) = true := decide_eq_true (by omega)
  clear x0 x1 x2 x3 x4 x5 y0 y1 y2 y3 y4 y5 v0 v1 v2 v3 v4 v5 u0 u1 u2 u3 u4 u5 z1 z2 z3 z4 z5 z6 hsub hsub2 hvb' hvb2 hb5
  go_wp2_with fail
  refine (HDO.out _ HT8.out).mono ?_
  rintro e w9 ⟨rfl, h9⟩
  have HT9 := Lib.hid h9
  clear h9
  have d1 : w9.cell? ⟨gb, ob + s * 3 + 1, none⟩ = some (.int .i64 (leastN 1 s + 1 : Nat)) := (HC.out _ HT9.out).1
  have d2 : w9.cell? ⟨gb, ob + s * 3 + 2, none⟩ = some (.int .i64 (extN 1 s : Nat)) := (HC.out _ HT9.out).2
  have hs0 : (0 : Int) ≤ (s : Int) := by omega
  have hs1 : (s : Int) < 30 := by omega
  go_wp2_with fail
  go_ret
  exact ⟨by first | rfl | simp, HT.out.trans HT9.out⟩

set_option maxHeartbeats 2000000 in
theorem symbols_Ac (n : Nat) (z : Int) (w : World) (h3 : 3 ≤ n) (h : n ≤ 258) (hz : 29 < z) (hz2 : z < 257) :
    Calls Try.prog 6 #[.int .i64 n, .int .i64 z] w fun e w' => e = .returned (.bool true) ∧ Touch (fun _ => False) w w' := by
  go_enter Try.func6, Try.ntmps6
  go_wp2_with fail
  refine (speaks5_calls _).mono ?_
  rintro e w1 ⟨rfl, ht1⟩
  go_wp2_with fail
  refine (lengths_calls _).mono ?_
  rintro e w2 ⟨va, rfl, hva, ht2⟩
  go_wp2_with fail
  refine (dists_calls _).mono ?_
  rintro e w3 ⟨vb, rfl, hvb, ht3⟩
  replace hva := hva.still ht3
  have HT := Lib.hid ((ht1.trans ht2).trans ht3)
  clear ht1 ht2 ht3
  obtain ⟨f1, f2⟩ := find_len n h3 h
  have HL := Lib.hid (fun W => length_in n W h3 h)
  have HFA := Lib.hid (fun W hW => find_calls lenTab n va W (hva.still hW) (by decide) (by decide))
  rw [f1] at HFA
  have hsub : (n : Int) - ((n - lenV n : Nat) : Int) = (lenV n : Nat) := by omega
  have hvb' : lenV n < 65536 := by omega
  unfold extraV at HL
  generalize n - lenV n = L1 at HFA hsub
  generalize lenS n = S1 at HL HFA
  generalize lenB n = B1 at HL HFA
  generalize lenV n = V1 at HL hsub hvb'
  clear f1 f2
  obtain ⟨k1, k2⟩ := find_dist n (by omega) (by omega)
  have HD := Lib.hid (fun W => dist_in n W (by omega) (by omega))
  have HFB := Lib.hid (fun W hW => find_calls distTab n vb W (hvb.still hW) (by decide) (by decide))
  rw [k1] at HFB
  have hvlt : valN 1 (n - 1) ≤ n := k2
  have hsub2 : (n : Int) - ((n - valN 1 (n - 1) : Nat) : Int) = (valN 1 (n - 1) : Nat) := by omega
  have hvb2 : valN 1 (n - 1) ≤ 32768 := by omega
  unfold extraV at HD
  generalize n - valN 1 (n - 1) = L2 at HFB hsub2
  generalize symN 1 (n - 1) = S2 at HD HFB
  generalize bitN 1 (n - 1) = B2 at HD HFB
  generalize valN 1 (n - 1) = V2 at HD hsub2 hvb2 hvlt
  clear k1 k2 hvlt
  have HLO := Lib.hid (fun W (hW : Touch (fun _ => False) w3 W) => carry (lengthof_out z W (by omega)) hW)
  have HDO := Lib.hid (fun W (hW : Touch (fun _ => False) w3 W) => carry (distof_out z W (by omega)) hW)
  obtain ⟨ga, oa, ca, hae, hca, hga, hcellA⟩ := tab_cells w3 va lenTab 29 (by decide) (by decide) hva
  obtain ⟨gb, ob, cb, hbe, hcb, hgb, hcellB⟩ := tab_cells w3 vb distTab 30 (by decide) (by decide) hvb
  subst hae
  subst hbe
  clear hva hvb
  clear hcellA hcellB
  have HSELF := Lib.hid (Touch.refl (fun _ => False) w3)
  go_wp2_with fail
  refine (HL.out _).mono ?_
  rintro e w4 ⟨rfl, ht4⟩
  have HT4 := Lib.hid (HSELF.out.trans ht4)
  clear ht4
  go_wp2_with fail
  refine (HD.out _).mono ?_
  rintro e w5 ⟨rfl, ht5⟩
  have HT5 := Lib.hid (HT4.out.trans ht5)
  clear ht5
  go_wp2_with fail
  refine (HFA.out _ (((HT5.out.alloc _).alloc _).alloc _)).mono ?_
  rintro e w6 ⟨rfl, ht6⟩
  have HT6 := Lib.hid ((((HT5.out.alloc _).alloc _).alloc _).trans ht6)
  obtain ⟨hs6, hx6, hy6, hw6⟩ := three_boxes ht6
  clear ht6
  obtain ⟨x0, x1, x2, x3, x4, x5⟩ := box_cells hx6
  obtain ⟨y0, y1, y2, y3, y4, y5⟩ := box_cells hy6
  obtain ⟨v0, v1, v2, v3, v4, v5⟩ := box_cells hw6
  have hb5 : w3.heap.size ≤ w5.heap.size := HT5.out.size
  generalize w5.heap.size = b at hb5 hs6 hx6 hy6 hw6 x0 x1 x2 x3 x4 x5 y0 y1 y2 y3 y4 y5 v0 v1 v2 v3 v4 v5 ⊢
  unfold trV
  go_wp2_with fail
  clear x0 x1 x2 x3 x4 x5 y0 y1 y2 y3 y4 y5 v0 v1 v2 v3 v4 v5
  refine (HFB.out _ (((((HT6.out.setCell (.inr (by show w3.heap.size ≤ b + 1 + 1; omega)) _).setCell (.inr (by show w3.heap.size ≤ b + 1 + 1; omega)) _).setCell (.inr (by show w3.heap.size ≤ b + 1 + 1; omega)) _).alloc _).alloc _)).mono ?_
  rintro e w7 ⟨rfl, ht7⟩
  have HT7 := Lib.hid ((((((HT6.out.setCell (.inr (by show w3.heap.size ≤ b + 1 + 1; omega)) _).setCell (.inr (by show w3.heap.size ≤ b + 1 + 1; omega)) _).setCell (.inr (by show w3.heap.size ≤ b + 1 + 1; omega)) _).alloc _).alloc _).trans ht7)
  obtain ⟨hs7, hx7, hy7, hw7, hv7⟩ := four_boxes hs6 hx6 hy6 hw6 ht7
  clear ht7 hx6 hy6 hw6
  obtain ⟨x0, x1, x2, x3, x4, x5⟩ := box_cells hx7
  obtain ⟨y0, y1, y2, y3, y4, y5⟩ := box_cells hy7
  obtain ⟨v0, v1, v2, v3, v4, v5⟩ := box_cells hw7
  obtain ⟨u0, u1, u2, u3, u4, u5⟩ := box_cells hv7
  obtain ⟨B9, hB9⟩ : ∃ B9, w6.heap.size = B9 := ⟨_, rfl⟩
  have hb9 : w3.heap.size ≤ B9 + 1 := by have := HT6.out.size; omega
  rw [hB9] at hs6 hs7 hv7 u0 u1 u2 u3 u4 u5 ⊢
  have z1 : b < w7.heap.size := by omega
  have z2 : b + 1 < w7.heap.size := by omega
  have z3 : b + 1 + 1 < w7.heap.size := by omega
  have z4 : b ≠ B9 + 1 := by omega
  have z5 : b + 1 ≠ B9 + 1 := by omega
  have z6 : b + 1 + 1 ≠ B9 + 1 := by omega
  have HV7 := Lib.hid (And.intro hs6 (And.intro hs7 hv7))
  clear hx7 hy7 hw7 hv7 hB9
  unfold trV
  go_wp2_with fail
  refine (HLO.out _ (((((HT7.out.setCell (.inr hb9) _).setCell (.inr hb9) _).setCell (.inr hb9) _).alloc _))).mono ?_
  rintro e w8 ⟨rfl, h8⟩
  have HT8 := Lib.hid h8
  clear h8
  have e0 : decide ((257 : Int) ≤ z) = false := decide_eq_false (by omega)
  have e1 : decide (z ≤ 285) = true := decide_eq_true (by omega)
  have e2 : decide ((0 : Int) ≤ z) = true := decide_eq_true (by omega)
  have e3 : decide (z ≤ 29) = false := decide_eq_false (by omega)
  clear x0 x1 x2 x3 x4 x5 y0 y1 y2 y3 y4 y5 v0 v1 v2 v3 v4 v5 u0 u1 u2 u3 u4 u5 z1 z2 z3 z4 z5 z6 hsub hsub2 hvb' hvb2 hb5
  go_wp2_with fail
  refine (HDO.out _ HT8.out).mono ?_
  rintro e w9 ⟨rfl, h9⟩
  have HT9 := Lib.hid h9
  clear h9
  skip
  go_wp2_with fail
  go_ret
  exact ⟨by first | rfl | simp, HT.out.trans HT9.out⟩

set_option maxHeartbeats 2000000 in
theorem symbols_Ad (n : Nat) (s : Nat) (w : World) (h3 : 3 ≤ n) (h : n ≤ 258) (hz : s < 29) :
    Calls Try.prog 6 #[.int .i64 n, .int .i64 ((s : Int) + 257)] w fun e w' => e = .returned (.bool true) ∧ Touch (fun _ => False) w w' := by
  go_enter Try.func6, Try.ntmps6
  go_wp2_with fail
  refine (speaks5_calls _).mono ?_
  rintro e w1 ⟨rfl, ht1⟩
  go_wp2_with fail
  refine (lengths_calls _).mono ?_
  rintro e w2 ⟨va, rfl, hva, ht2⟩
  go_wp2_with fail
  refine (dists_calls _).mono ?_
  rintro e w3 ⟨vb, rfl, hvb, ht3⟩
  replace hva := hva.still ht3
  have HT := Lib.hid ((ht1.trans ht2).trans ht3)
  clear ht1 ht2 ht3
  obtain ⟨f1, f2⟩ := find_len n h3 h
  have HL := Lib.hid (fun W => length_in n W h3 h)
  have HFA := Lib.hid (fun W hW => find_calls lenTab n va W (hva.still hW) (by decide) (by decide))
  rw [f1] at HFA
  have hsub : (n : Int) - ((n - lenV n : Nat) : Int) = (lenV n : Nat) := by omega
  have hvb' : lenV n < 65536 := by omega
  unfold extraV at HL
  generalize n - lenV n = L1 at HFA hsub
  generalize lenS n = S1 at HL HFA
  generalize lenB n = B1 at HL HFA
  generalize lenV n = V1 at HL hsub hvb'
  clear f1 f2
  obtain ⟨k1, k2⟩ := find_dist n (by omega) (by omega)
  have HD := Lib.hid (fun W => dist_in n W (by omega) (by omega))
  have HFB := Lib.hid (fun W hW => find_calls distTab n vb W (hvb.still hW) (by decide) (by decide))
  rw [k1] at HFB
  have hvlt : valN 1 (n - 1) ≤ n := k2
  have hsub2 : (n : Int) - ((n - valN 1 (n - 1) : Nat) : Int) = (valN 1 (n - 1) : Nat) := by omega
  have hvb2 : valN 1 (n - 1) ≤ 32768 := by omega
  unfold extraV at HD
  generalize n - valN 1 (n - 1) = L2 at HFB hsub2
  generalize symN 1 (n - 1) = S2 at HD HFB
  generalize bitN 1 (n - 1) = B2 at HD HFB
  generalize valN 1 (n - 1) = V2 at HD hsub2 hvb2 hvlt
  clear k1 k2 hvlt
  have HLO := Lib.hid (fun W (hW : Touch (fun _ => False) w3 W) => carry (lengthof_in s W hz) hW)
  have HDO := Lib.hid (fun W (hW : Touch (fun _ => False) w3 W) => carry (distof_out ((s : Int) + 257) W (by omega)) hW)
  obtain ⟨ga, oa, ca, hae, hca, hga, hcellA⟩ := tab_cells w3 va lenTab 29 (by decide) (by decide) hva
  obtain ⟨gb, ob, cb, hbe, hcb, hgb, hcellB⟩ := tab_cells w3 vb distTab 30 (by decide) (by decide) hvb
  subst hae
  subst hbe
  clear hva hvb
  have HC := Lib.hid (fun W hW => hcellA s _ (lenTab_at s hz) W hW)
  clear hcellA hcellB
  have HSELF := Lib.hid (Touch.refl (fun _ => False) w3)
  go_wp2_with fail
  refine (HL.out _).mono ?_
  rintro e w4 ⟨rfl, ht4⟩
  have HT4 := Lib.hid (HSELF.out.trans ht4)
  clear ht4
  go_wp2_with fail
  refine (HD.out _).mono ?_
  rintro e w5 ⟨rfl, ht5⟩
  have HT5 := Lib.hid (HT4.out.trans ht5)
  clear ht5
  go_wp2_with fail
  refine (HFA.out _ (((HT5.out.alloc _).alloc _).alloc _)).mono ?_
  rintro e w6 ⟨rfl, ht6⟩
  have HT6 := Lib.hid ((((HT5.out.alloc _).alloc _).alloc _).trans ht6)
  obtain ⟨hs6, hx6, hy6, hw6⟩ := three_boxes ht6
  clear ht6
  obtain ⟨x0, x1, x2, x3, x4, x5⟩ := box_cells hx6
  obtain ⟨y0, y1, y2, y3, y4, y5⟩ := box_cells hy6
  obtain ⟨v0, v1, v2, v3, v4, v5⟩ := box_cells hw6
  have hb5 : w3.heap.size ≤ w5.heap.size := HT5.out.size
  generalize w5.heap.size = b at hb5 hs6 hx6 hy6 hw6 x0 x1 x2 x3 x4 x5 y0 y1 y2 y3 y4 y5 v0 v1 v2 v3 v4 v5 ⊢
  unfold trV
  go_wp2_with fail
  clear x0 x1 x2 x3 x4 x5 y0 y1 y2 y3 y4 y5 v0 v1 v2 v3 v4 v5
  refine (HFB.out _ (((((HT6.out.setCell (.inr (by show w3.heap.size ≤ b + 1 + 1; omega)) _).setCell (.inr (by show w3.heap.size ≤ b + 1 + 1; omega)) _).setCell (.inr (by show w3.heap.size ≤ b + 1 + 1; omega)) _).alloc _).alloc _)).mono ?_
  rintro e w7 ⟨rfl, ht7⟩
  have HT7 := Lib.hid ((((((HT6.out.setCell (.inr (by show w3.heap.size ≤ b + 1 + 1; omega)) _).setCell (.inr (by show w3.heap.size ≤ b + 1 + 1; omega)) _).setCell (.inr (by show w3.heap.size ≤ b + 1 + 1; omega)) _).alloc _).alloc _).trans ht7)
  obtain ⟨hs7, hx7, hy7, hw7, hv7⟩ := four_boxes hs6 hx6 hy6 hw6 ht7
  clear ht7 hx6 hy6 hw6
  obtain ⟨x0, x1, x2, x3, x4, x5⟩ := box_cells hx7
  obtain ⟨y0, y1, y2, y3, y4, y5⟩ := box_cells hy7
  obtain ⟨v0, v1, v2, v3, v4, v5⟩ := box_cells hw7
  obtain ⟨u0, u1, u2, u3, u4, u5⟩ := box_cells hv7
  obtain ⟨B9, hB9⟩ : ∃ B9, w6.heap.size = B9 := ⟨_, rfl⟩
  have hb9 : w3.heap.size ≤ B9 + 1 := by have := HT6.out.size; omega
  rw [hB9] at hs6 hs7 hv7 u0 u1 u2 u3 u4 u5 ⊢
  have z1 : b < w7.heap.size := by omega
  have z2 : b + 1 < w7.heap.size := by omega
  have z3 : b + 1 + 1 < w7.heap.size := by omega
  have z4 : b ≠ B9 + 1 := by omega
  have z5 : b + 1 ≠ B9 + 1 := by omega
  have z6 : b + 1 + 1 ≠ B9 + 1 := by omega
  have HV7 := Lib.hid (And.intro hs6 (And.intro hs7 hv7))
  clear hx7 hy7 hw7 hv7 hB9
  unfold trV
  go_wp2_with fail
  refine (HLO.out _ (((((HT7.out.setCell (.inr hb9) _).setCell (.inr hb9) _).setCell (.inr hb9) _).alloc _))).mono ?_
  rintro e w8 ⟨rfl, h8⟩
  have HT8 := Lib.hid h8
  clear h8
  have e0 : decide ((257 : Int) ≤ ((s : Int) + 257)) = true := decide_eq_true (by omega)
  have e1 : decide (((s : Int) + 257) ≤ 285) = true := decide_eq_true (by omega)
  have e2 : decide ((0 : Int) ≤ ((s : Int) + 257)) = true := decide_eq_true (by omega)
  have e3 : decide (((s : Int) + 257) ≤ 29) = false := decide_eq_false (by omega)
  have c1 : w8.cell? ⟨ga, oa + s * 3 + 1, none⟩ = some (.int .i64 (lenL s : Nat)) := (HC.out _ HT8.out).1
  have c2 : w8.cell? ⟨ga, oa + s * 3 + 2, none⟩ = some (.int .i64 (lenE s : Nat)) := (HC.out _ HT8.out).2
  have hs0 : (0 : Int) ≤ (s : Int) := by omega
  have hs1 : (s : Int) < 29 := by omega
  clear x0 x1 x2 x3 x4 x5 y0 y1 y2 y3 y4 y5 v0 v1 v2 v3 v4 v5 u0 u1 u2 u3 u4 u5 z1 z2 z3 z4 z5 z6 hsub hsub2 hvb' hvb2 hb5
  go_wp2_with fail
  refine (HDO.out _ HT8.out).mono ?_
  rintro e w9 ⟨rfl, h9⟩
  have HT9 := Lib.hid h9
  clear h9
  skip
  go_wp2_with fail
  go_ret
  exact ⟨by first | rfl | simp, HT.out.trans HT9.out⟩

set_option maxHeartbeats 2000000 in
theorem symbols_Ae (n : Nat) (z : Int) (w : World) (h3 : 3 ≤ n) (h : n ≤ 258) (hz : 285 < z) :
    Calls Try.prog 6 #[.int .i64 n, .int .i64 z] w fun e w' => e = .returned (.bool true) ∧ Touch (fun _ => False) w w' := by
  go_enter Try.func6, Try.ntmps6
  go_wp2_with fail
  refine (speaks5_calls _).mono ?_
  rintro e w1 ⟨rfl, ht1⟩
  go_wp2_with fail
  refine (lengths_calls _).mono ?_
  rintro e w2 ⟨va, rfl, hva, ht2⟩
  go_wp2_with fail
  refine (dists_calls _).mono ?_
  rintro e w3 ⟨vb, rfl, hvb, ht3⟩
  replace hva := hva.still ht3
  have HT := Lib.hid ((ht1.trans ht2).trans ht3)
  clear ht1 ht2 ht3
  obtain ⟨f1, f2⟩ := find_len n h3 h
  have HL := Lib.hid (fun W => length_in n W h3 h)
  have HFA := Lib.hid (fun W hW => find_calls lenTab n va W (hva.still hW) (by decide) (by decide))
  rw [f1] at HFA
  have hsub : (n : Int) - ((n - lenV n : Nat) : Int) = (lenV n : Nat) := by omega
  have hvb' : lenV n < 65536 := by omega
  unfold extraV at HL
  generalize n - lenV n = L1 at HFA hsub
  generalize lenS n = S1 at HL HFA
  generalize lenB n = B1 at HL HFA
  generalize lenV n = V1 at HL hsub hvb'
  clear f1 f2
  obtain ⟨k1, k2⟩ := find_dist n (by omega) (by omega)
  have HD := Lib.hid (fun W => dist_in n W (by omega) (by omega))
  have HFB := Lib.hid (fun W hW => find_calls distTab n vb W (hvb.still hW) (by decide) (by decide))
  rw [k1] at HFB
  have hvlt : valN 1 (n - 1) ≤ n := k2
  have hsub2 : (n : Int) - ((n - valN 1 (n - 1) : Nat) : Int) = (valN 1 (n - 1) : Nat) := by omega
  have hvb2 : valN 1 (n - 1) ≤ 32768 := by omega
  unfold extraV at HD
  generalize n - valN 1 (n - 1) = L2 at HFB hsub2
  generalize symN 1 (n - 1) = S2 at HD HFB
  generalize bitN 1 (n - 1) = B2 at HD HFB
  generalize valN 1 (n - 1) = V2 at HD hsub2 hvb2 hvlt
  clear k1 k2 hvlt
  have HLO := Lib.hid (fun W (hW : Touch (fun _ => False) w3 W) => carry (lengthof_out z W (by omega)) hW)
  have HDO := Lib.hid (fun W (hW : Touch (fun _ => False) w3 W) => carry (distof_out z W (by omega)) hW)
  obtain ⟨ga, oa, ca, hae, hca, hga, hcellA⟩ := tab_cells w3 va lenTab 29 (by decide) (by decide) hva
  obtain ⟨gb, ob, cb, hbe, hcb, hgb, hcellB⟩ := tab_cells w3 vb distTab 30 (by decide) (by decide) hvb
  subst hae
  subst hbe
  clear hva hvb
  clear hcellA hcellB
  have HSELF := Lib.hid (Touch.refl (fun _ => False) w3)
  go_wp2_with fail
  refine (HL.out _).mono ?_
  rintro e w4 ⟨rfl, ht4⟩
  have HT4 := Lib.hid (HSELF.out.trans ht4)
  clear ht4
  go_wp2_with fail
  refine (HD.out _).mono ?_
  rintro e w5 ⟨rfl, ht5⟩
  have HT5 := Lib.hid (HT4.out.trans ht5)
  clear ht5
  go_wp2_with fail
  refine (HFA.out _ (((HT5.out.alloc _).alloc _).alloc _)).mono ?_
  rintro e w6 ⟨rfl, ht6⟩
  have HT6 := Lib.hid ((((HT5.out.alloc _).alloc _).alloc _).trans ht6)
  obtain ⟨hs6, hx6, hy6, hw6⟩ := three_boxes ht6
  clear ht6
  obtain ⟨x0, x1, x2, x3, x4, x5⟩ := box_cells hx6
  obtain ⟨y0, y1, y2, y3, y4, y5⟩ := box_cells hy6
  obtain ⟨v0, v1, v2, v3, v4, v5⟩ := box_cells hw6
  have hb5 : w3.heap.size ≤ w5.heap.size := HT5.out.size
  generalize w5.heap.size = b at hb5 hs6 hx6 hy6 hw6 x0 x1 x2 x3 x4 x5 y0 y1 y2 y3 y4 y5 v0 v1 v2 v3 v4 v5 ⊢
  unfold trV
  go_wp2_with fail
  clear x0 x1 x2 x3 x4 x5 y0 y1 y2 y3 y4 y5 v0 v1 v2 v3 v4 v5
  refine (HFB.out _ (((((HT6.out.setCell (.inr (by show w3.heap.size ≤ b + 1 + 1; omega)) _).setCell (.inr (by show w3.heap.size ≤ b + 1 + 1; omega)) _).setCell (.inr (by show w3.heap.size ≤ b + 1 + 1; omega)) _).alloc _).alloc _)).mono ?_
  rintro e w7 ⟨rfl, ht7⟩
  have HT7 := Lib.hid ((((((HT6.out.setCell (.inr (by show w3.heap.size ≤ b + 1 + 1; omega)) _).setCell (.inr (by show w3.heap.size ≤ b + 1 + 1; omega)) _).setCell (.inr (by show w3.heap.size ≤ b + 1 + 1; omega)) _).alloc _).alloc _).trans ht7)
  obtain ⟨hs7, hx7, hy7, hw7, hv7⟩ := four_boxes hs6 hx6 hy6 hw6 ht7
  clear ht7 hx6 hy6 hw6
  obtain ⟨x0, x1, x2, x3, x4, x5⟩ := box_cells hx7
  obtain ⟨y0, y1, y2, y3, y4, y5⟩ := box_cells hy7
  obtain ⟨v0, v1, v2, v3, v4, v5⟩ := box_cells hw7
  obtain ⟨u0, u1, u2, u3, u4, u5⟩ := box_cells hv7
  obtain ⟨B9, hB9⟩ : ∃ B9, w6.heap.size = B9 := ⟨_, rfl⟩
  have hb9 : w3.heap.size ≤ B9 + 1 := by have := HT6.out.size; omega
  rw [hB9] at hs6 hs7 hv7 u0 u1 u2 u3 u4 u5 ⊢
  have z1 : b < w7.heap.size := by omega
  have z2 : b + 1 < w7.heap.size := by omega
  have z3 : b + 1 + 1 < w7.heap.size := by omega
  have z4 : b ≠ B9 + 1 := by omega
  have z5 : b + 1 ≠ B9 + 1 := by omega
  have z6 : b + 1 + 1 ≠ B9 + 1 := by omega
  have HV7 := Lib.hid (And.intro hs6 (And.intro hs7 hv7))
  clear hx7 hy7 hw7 hv7 hB9
  unfold trV
  go_wp2_with fail
  refine (HLO.out _ (((((HT7.out.setCell (.inr hb9) _).setCell (.inr hb9) _).setCell (.inr hb9) _).alloc _))).mono ?_
  rintro e w8 ⟨rfl, h8⟩
  have HT8 := Lib.hid h8
  clear h8
  have e0 : decide ((257 : Int) ≤ z) = true := decide_eq_true (by omega)
  have e1 : decide (z ≤ 285) = false := decide_eq_false (by omega)
  have e2 : decide ((0 : Int) ≤ z) = true := decide_eq_true (by omega)
  have e3 : decide (z ≤ 29) = false := decide_eq_false (by omega)
  clear x0 x1 x2 x3 x4 x5 y0 y1 y2 y3 y4 y5 v0 v1 v2 v3 v4 v5 u0 u1 u2 u3 u4 u5 z1 z2 z3 z4 z5 z6 hsub hsub2 hvb' hvb2 hb5
  go_wp2_with fail
  refine (HDO.out _ HT8.out).mono ?_
  rintro e w9 ⟨rfl, h9⟩
  have HT9 := Lib.hid h9
  clear h9
  skip
  go_wp2_with fail
  go_ret
  exact ⟨by first | rfl | simp, HT.out.trans HT9.out⟩

end Go.Proofs.Ytdbpjkpbmfjcnaa

/- The walk of the statement DgramCodes over the translated program. -/
import Derived.Test.YtmjahbdengnoeaaDgI
namespace Go.Proofs.Ytmjahbdengnoeaa
open Go Go.RowKit
set_option maxRecDepth 100000
set_option linter.unusedSimpArgs false

theorem Dg.Wf.cut {d : Dg} (h : d.Wf) (t : ByteArray) : Dg.Wf ⟨d.kind, d.se, d.ep, d.sq, d.pos, d.sm, d.mp, d.last, t⟩ := ⟨h.k1, h.k2, h.se, h.ep, h.sq, h.pos, h.sm, h.mp⟩
set_option maxHeartbeats 4000000 in
theorem dcodes_calls (d : Dg) (hw0 : d.Wf) (w : World) : Calls Try.prog 7 #[d.v] w fun e w' => e = .returned (.bool true) ∧ Touch (fun _ => False) w w' := by
  obtain ⟨n, hn⟩ : ∃ n : Nat, n = min d.text.size 300 := ⟨_, rfl⟩
  obtain ⟨t, ht⟩ : ∃ t, d.text.extract 0 n = t := ⟨_, rfl⟩
  have hw := hw0.cut t
  obtain ⟨kind, se, ep, sq, pos, sm, mp, last, text⟩ := d
  simp only at hn ht hw
  obtain ⟨D, hD⟩ : ∃ D : Dg, D = ⟨kind, se, ep, sq, pos, sm, mp, last, t⟩ := ⟨_, rfl⟩
  rw [← hD] at hw
  have hg1 := fun W => dgood_calls D W
  have hg2 := fun W => rgood_calls D W
  have he1 := fun W => encode_calls D hw W
  have he2 := fun W => rencode_calls D hw W
  have hd1 := fun W => decode_calls (encB D) (by have := encB_size D; omega) W
  have hdec := fun h => decode_enc D hw h
  have hee : encE D = if goodD D = true then 0 else 1 := rfl
  obtain ⟨gd, hgd⟩ : ∃ b, goodD D = b := ⟨_, rfl⟩
  rw [hgd] at hg1 hg2 hee
  rw [hee] at he1
  generalize encB D = S at he1 he2 hd1 hdec
  have hvv : D.v = .agg #[.int .i64 kind, .int .u32 se, .int .u32 ep, .int .u32 sq, .int .u64 pos, .int .u32 sm, .int .u32 mp, .bool last, .string t] := by rw [hD]; rfl
  have hi1 : min (text.size : Int) 300 = (n : Int) := by omega
  have hi2 : (if (text.size : Int) < 300 then (text.size : Int) else 300) = (n : Int) := by split <;> omega
  have hi3 : (if (300 : Int) < (text.size : Int) then 300 else (text.size : Int)) = (n : Int) := by split <;> omega
  have hnn : (n : Int) ≤ (text.size : Int) := by omega
  have HG1 := Lib.hid hg1
  have HG2 := Lib.hid hg2
  have HE1 := Lib.hid he1
  have HE2 := Lib.hid he2
  clear hg1 hg2 he1 he2 hee hw hw0 hn
  unfold Dg.v Dg.cells
  simp only
  cases gd
  · clear hd1 hdec
    rw [hvv] at HG1 HG2 HE1 HE2
    simp only [Bool.false_eq_true, if_false, if_true] at HE1
    clear hvv hD hgd
    go_enter Try.func7, Try.ntmps7
    go_wp2_with fail
    have hb0 := Block.new w 36 [.int .i64 kind, .int .u32 se, .int .u32 ep, .int .u32 sq, .int .u64 pos, .int .u32 sm, .int .u32 mp, .bool last, .string text]
    refine (speaks22_calls _).mono ?_
    rintro e w1 ⟨rfl, hT1⟩
    have hT01 := ((Touch.refl (fun _ => False) w).alloc (.cells #[.int .i64 kind, .int .u32 se, .int .u32 ep, .int .u32 sq, .int .u64 pos, .int .u32 sm, .int .u32 mp, .bool last, .string text] 36)).trans hT1
    have hb1 := hb0.kept hT1 id
    clear hb0 hT1
    obtain ⟨G, hG⟩ : ∃ G, w.heap.size = G := ⟨_, rfl⟩
    rw [hG] at hb1 ⊢
    have f8 := Block.free hb1 8
    have c0 := Block.cell hb1 0
    have c1 := Block.cell hb1 1
    have c2 := Block.cell hb1 2
    have c3 := Block.cell hb1 3
    have c4 := Block.cell hb1 4
    have c5 := Block.cell hb1 5
    have c6 := Block.cell hb1 6
    have c7 := Block.cell hb1 7
    have c8 := Block.cell hb1 8
    simp only [List.getElem?_cons_zero, List.getElem?_cons_succ] at c0 c1 c2 c3 c4 c5 c6 c7 c8
    go_upto_region 4 with fail
    have hb2 := Block.set hb1 8 (.string t)
    have hT02 := hT01.trans' ((Touch.refl (fun k => k = G) w1).setCell (p := ⟨G, 8, none⟩) (.inl rfl) (.string t)) (fun i hi => .inr (by rw [hi, hG]; exact Nat.le_refl _))
    simp only [List.set_cons_succ, List.set_cons_zero] at hb2
    clear c0 c1 c2 c3 c4 c5 c6 c7 c8
    clear hb1 hT01 f8
    generalize w1.setCell ⟨G, 8, none⟩ (.string t) = w2 at hb2 hT02 ⊢
    have c0 := Block.cell hb2 0
    have c1 := Block.cell hb2 1
    have c2 := Block.cell hb2 2
    have c3 := Block.cell hb2 3
    have c4 := Block.cell hb2 4
    have c5 := Block.cell hb2 5
    have c6 := Block.cell hb2 6
    have c7 := Block.cell hb2 7
    have c8 := Block.cell hb2 8
    simp only [List.getElem?_cons_zero, List.getElem?_cons_succ] at c0 c1 c2 c3 c4 c5 c6 c7 c8
    go_wp2_with fail
    refine (HG2.out _).mono ?_
    rintro e w3 ⟨rfl, hT3⟩
    have hb3 := hb2.kept hT3 id
    clear c0 c1 c2 c3 c4 c5 c6 c7 c8
    have c0 := Block.cell hb3 0
    have c1 := Block.cell hb3 1
    have c2 := Block.cell hb3 2
    have c3 := Block.cell hb3 3
    have c4 := Block.cell hb3 4
    have c5 := Block.cell hb3 5
    have c6 := Block.cell hb3 6
    have c7 := Block.cell hb3 7
    have c8 := Block.cell hb3 8
    simp only [List.getElem?_cons_zero, List.getElem?_cons_succ] at c0 c1 c2 c3 c4 c5 c6 c7 c8
    go_wp2_with fail
    refine (HE1.out _).mono ?_
    rintro e w4 ⟨rfl, hT4⟩
    have hb4 := hb3.kept hT4 id
    clear c0 c1 c2 c3 c4 c5 c6 c7 c8
    have c0 := Block.cell hb4 0
    have c1 := Block.cell hb4 1
    have c2 := Block.cell hb4 2
    have c3 := Block.cell hb4 3
    have c4 := Block.cell hb4 4
    have c5 := Block.cell hb4 5
    have c6 := Block.cell hb4 6
    have c7 := Block.cell hb4 7
    have c8 := Block.cell hb4 8
    simp only [List.getElem?_cons_zero, List.getElem?_cons_succ] at c0 c1 c2 c3 c4 c5 c6 c7 c8
    go_wp2_with fail
    refine (HG1.out _).mono ?_
    rintro e w5 ⟨rfl, hT5⟩
    have hb5 := hb4.kept hT5 id
    clear c0 c1 c2 c3 c4 c5 c6 c7 c8
    have c0 := Block.cell hb5 0
    have c1 := Block.cell hb5 1
    have c2 := Block.cell hb5 2
    have c3 := Block.cell hb5 3
    have c4 := Block.cell hb5 4
    have c5 := Block.cell hb5 5
    have c6 := Block.cell hb5 6
    have c7 := Block.cell hb5 7
    have c8 := Block.cell hb5 8
    simp only [List.getElem?_cons_zero, List.getElem?_cons_succ] at c0 c1 c2 c3 c4 c5 c6 c7 c8
    go_wp2_with fail
    refine (HE2.out _).mono ?_
    rintro e w6 ⟨rfl, hT6⟩
    have hb6 := hb5.kept hT6 id
    have hT06 := (((hT02.trans hT3).trans hT4).trans hT5).trans hT6
    clear c0 c1 c2 c3 c4 c5 c6 c7 c8
    have c0 := Block.cell hb6 0
    have c1 := Block.cell hb6 1
    have c2 := Block.cell hb6 2
    have c3 := Block.cell hb6 3
    have c4 := Block.cell hb6 4
    have c5 := Block.cell hb6 5
    have c6 := Block.cell hb6 6
    have c7 := Block.cell hb6 7
    have c8 := Block.cell hb6 8
    simp only [List.getElem?_cons_zero, List.getElem?_cons_succ] at c0 c1 c2 c3 c4 c5 c6 c7 c8
    clear hb2 hb3 hb4 hb5 hT02 hT3 hT4 hT5 hT6
    go_wp2_with fail
    go_ret
    exact ⟨rfl, hT06⟩
  · obtain ⟨q1, q2⟩ := hdec hgd
    rw [q1, q2] at hd1
    have HD1 := Lib.hid hd1
    rw [hvv] at HD1
    clear hd1 q1 q2 hdec
    rw [hvv] at HG1 HG2 HE1 HE2
    simp only [Bool.false_eq_true, if_false, if_true] at HE1
    clear hvv hD hgd
    go_enter Try.func7, Try.ntmps7
    go_wp2_with fail
    have hb0 := Block.new w 36 [.int .i64 kind, .int .u32 se, .int .u32 ep, .int .u32 sq, .int .u64 pos, .int .u32 sm, .int .u32 mp, .bool last, .string text]
    refine (speaks22_calls _).mono ?_
    rintro e w1 ⟨rfl, hT1⟩
    have hT01 := ((Touch.refl (fun _ => False) w).alloc (.cells #[.int .i64 kind, .int .u32 se, .int .u32 ep, .int .u32 sq, .int .u64 pos, .int .u32 sm, .int .u32 mp, .bool last, .string text] 36)).trans hT1
    have hb1 := hb0.kept hT1 id
    clear hb0 hT1
    obtain ⟨G, hG⟩ : ∃ G, w.heap.size = G := ⟨_, rfl⟩
    rw [hG] at hb1 ⊢
    have f8 := Block.free hb1 8
    have c0 := Block.cell hb1 0
    have c1 := Block.cell hb1 1
    have c2 := Block.cell hb1 2
    have c3 := Block.cell hb1 3
    have c4 := Block.cell hb1 4
    have c5 := Block.cell hb1 5
    have c6 := Block.cell hb1 6
    have c7 := Block.cell hb1 7
    have c8 := Block.cell hb1 8
    simp only [List.getElem?_cons_zero, List.getElem?_cons_succ] at c0 c1 c2 c3 c4 c5 c6 c7 c8
    go_upto_region 4 with fail
    have hb2 := Block.set hb1 8 (.string t)
    have hT02 := hT01.trans' ((Touch.refl (fun k => k = G) w1).setCell (p := ⟨G, 8, none⟩) (.inl rfl) (.string t)) (fun i hi => .inr (by rw [hi, hG]; exact Nat.le_refl _))
    simp only [List.set_cons_succ, List.set_cons_zero] at hb2
    clear c0 c1 c2 c3 c4 c5 c6 c7 c8
    clear hb1 hT01 f8
    generalize w1.setCell ⟨G, 8, none⟩ (.string t) = w2 at hb2 hT02 ⊢
    have c0 := Block.cell hb2 0
    have c1 := Block.cell hb2 1
    have c2 := Block.cell hb2 2
    have c3 := Block.cell hb2 3
    have c4 := Block.cell hb2 4
    have c5 := Block.cell hb2 5
    have c6 := Block.cell hb2 6
    have c7 := Block.cell hb2 7
    have c8 := Block.cell hb2 8
    simp only [List.getElem?_cons_zero, List.getElem?_cons_succ] at c0 c1 c2 c3 c4 c5 c6 c7 c8
    go_wp2_with fail
    refine (HG2.out _).mono ?_
    rintro e w3 ⟨rfl, hT3⟩
    have hb3 := hb2.kept hT3 id
    clear c0 c1 c2 c3 c4 c5 c6 c7 c8
    have c0 := Block.cell hb3 0
    have c1 := Block.cell hb3 1
    have c2 := Block.cell hb3 2
    have c3 := Block.cell hb3 3
    have c4 := Block.cell hb3 4
    have c5 := Block.cell hb3 5
    have c6 := Block.cell hb3 6
    have c7 := Block.cell hb3 7
    have c8 := Block.cell hb3 8
    simp only [List.getElem?_cons_zero, List.getElem?_cons_succ] at c0 c1 c2 c3 c4 c5 c6 c7 c8
    go_wp2_with fail
    refine (HE1.out _).mono ?_
    rintro e w4 ⟨rfl, hT4⟩
    have hb4 := hb3.kept hT4 id
    clear c0 c1 c2 c3 c4 c5 c6 c7 c8
    have c0 := Block.cell hb4 0
    have c1 := Block.cell hb4 1
    have c2 := Block.cell hb4 2
    have c3 := Block.cell hb4 3
    have c4 := Block.cell hb4 4
    have c5 := Block.cell hb4 5
    have c6 := Block.cell hb4 6
    have c7 := Block.cell hb4 7
    have c8 := Block.cell hb4 8
    simp only [List.getElem?_cons_zero, List.getElem?_cons_succ] at c0 c1 c2 c3 c4 c5 c6 c7 c8
    go_wp2_with fail
    refine (HG1.out _).mono ?_
    rintro e w5 ⟨rfl, hT5⟩
    have hb5 := hb4.kept hT5 id
    clear c0 c1 c2 c3 c4 c5 c6 c7 c8
    have c0 := Block.cell hb5 0
    have c1 := Block.cell hb5 1
    have c2 := Block.cell hb5 2
    have c3 := Block.cell hb5 3
    have c4 := Block.cell hb5 4
    have c5 := Block.cell hb5 5
    have c6 := Block.cell hb5 6
    have c7 := Block.cell hb5 7
    have c8 := Block.cell hb5 8
    simp only [List.getElem?_cons_zero, List.getElem?_cons_succ] at c0 c1 c2 c3 c4 c5 c6 c7 c8
    go_wp2_with fail
    refine (HE2.out _).mono ?_
    rintro e w6 ⟨rfl, hT6⟩
    have hb6 := hb5.kept hT6 id
    have hT06 := (((hT02.trans hT3).trans hT4).trans hT5).trans hT6
    clear c0 c1 c2 c3 c4 c5 c6 c7 c8
    have c0 := Block.cell hb6 0
    have c1 := Block.cell hb6 1
    have c2 := Block.cell hb6 2
    have c3 := Block.cell hb6 3
    have c4 := Block.cell hb6 4
    have c5 := Block.cell hb6 5
    have c6 := Block.cell hb6 6
    have c7 := Block.cell hb6 7
    have c8 := Block.cell hb6 8
    simp only [List.getElem?_cons_zero, List.getElem?_cons_succ] at c0 c1 c2 c3 c4 c5 c6 c7 c8
    clear hb2 hb3 hb4 hb5 hT02 hT3 hT4 hT5 hT6
    go_wp2_with fail
    refine (HD1.out _).mono ?_
    rintro e w7 ⟨rfl, hT7⟩
    have hb7 := hb6.kept hT7 id
    have hT07 := hT06.trans hT7
    clear c0 c1 c2 c3 c4 c5 c6 c7 c8
    clear hb6 hT06 hT7
    have hlt7 := Block.lt hb7
    have c0 := Block.cell hb7 0
    have c1 := Block.cell hb7 1
    have c2 := Block.cell hb7 2
    have c3 := Block.cell hb7 3
    have c4 := Block.cell hb7 4
    have c5 := Block.cell hb7 5
    have c6 := Block.cell hb7 6
    have c7 := Block.cell hb7 7
    have c8 := Block.cell hb7 8
    simp only [List.getElem?_cons_zero, List.getElem?_cons_succ] at c0 c1 c2 c3 c4 c5 c6 c7 c8
    go_wp2_with fail
    go_ret
    exact ⟨rfl, hT07.alloc _⟩
end Go.Proofs.Ytmjahbdengnoeaa

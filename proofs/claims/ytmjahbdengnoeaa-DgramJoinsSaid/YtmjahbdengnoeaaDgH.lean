/- Contracts of package dgram: Decode. -/
import Derived.Test.YtmjahbdengnoeaaDgF
namespace Go.Proofs.Ytmjahbdengnoeaa
open Go Go.RowKit
set_option maxRecDepth 100000

/-- Is the sum right? What Decode tells. -/
def sumOk (s : ByteArray) : Bool := decide (4 ≤ s.size) && decide (sealB (s.extract 0 (s.size - 4)) = s.extract (s.size - 4) s.size)
def decE (s : ByteArray) : Int := if sumOk s = true then (if toldB (s.extract 0 (s.size - 4)) = true then 0 else 3) else 7
def decD (s : ByteArray) : Dg := if sumOk s = true then toldD (s.extract 0 (s.size - 4)) else Dg.zero

theorem told_any (S : ByteArray) (hmax : S.size ≤ 1000000) (w : World) : Calls Try.prog 36 #[.string S] w fun e w' => e = .returned (.tuple #[(toldD S).v, .bool (toldB S)]) ∧ Touch (fun _ => False) w w' := by
  by_cases h : 34 ≤ S.size
  · exact told_calls S h hmax w
  · have hb : toldB S = false := by
      cases hb : toldB S
      · rfl
      · unfold toldB at hb
        simp only [Bool.and_eq_true, decide_eq_true_eq] at hb
        have h1 := bodyB_size (readD S)
        rw [hb.2] at h1
        omega
    have hd : toldD S = Dg.zero := by unfold toldD; rw [hb]; rfl
    rw [hb, hd]
    exact told_short S (by omega) w

set_option maxHeartbeats 4000000 in
theorem decode_calls (s : ByteArray) (hs : s.size ≤ 1000000) (w : World) : Calls Try.prog 24 #[.string s] w fun e w' => e = .returned (.tuple #[(decD s).v, .int .i64 (decE s)]) ∧ Touch (fun _ => False) w w' := by
  by_cases h4 : s.size < 4
  · have hso : sumOk s = false := by unfold sumOk; rw [decide_eq_false (by omega)]; rfl
    have hdE : decE s = 7 := by unfold decE; rw [hso]; rfl
    have hdD : decD s = Dg.zero := by unfold decD; rw [hso]; rfl
    rw [hdE, hdD]
    clear hdE hdD hso
    have hI : (s.size : Int) < 4 := by omega
    have hI2 : (s.size : Int) - 4 < 0 := by omega
    have hd1 : decide ((s.size : Int) < 4) = true := decide_eq_true hI
    have hd2 : decide ((s.size : Int) - 4 < 0) = true := decide_eq_true hI2
    go_enter Try.func24, Try.ntmps24
    go_upto_region 1 with fail
    have hTa := (Touch.refl (fun _ => False) w).alloc (.cells #[.int .i64 0, .int .u32 0, .int .u32 0, .int .u32 0, .int .u64 0, .int .u32 0, .int .u32 0, .bool false, .string ⟨#[]⟩] 42)
    have hz5 : DBox (w.alloc (.cells #[.int .i64 0, .int .u32 0, .int .u32 0, .int .u32 0, .int .u64 0, .int .u32 0, .int .u32 0, .bool false, .string ⟨#[]⟩] 42)) w.heap.size Dg.zero := dg_new w _ _ _ _ _ _ _ _ _
    generalize w.alloc (.cells #[.int .i64 0, .int .u32 0, .int .u32 0, .int .u32 0, .int .u64 0, .int .u32 0, .int .u32 0, .bool false, .string ⟨#[]⟩] 42) = w4 at hTa hz5 ⊢
    generalize hG0 : w.heap.size = Z at hz5 ⊢
    obtain ⟨k0, k1, k2, k3, k4, k5, k6, k7, k8⟩ := DBox.cells hz5
    have f0 := Block.free hz5 0
    have f1 := Block.free hz5 1
    have f2 := Block.free hz5 2
    have f3 := Block.free hz5 3
    have f4 := Block.free hz5 4
    have f5 := Block.free hz5 5
    have f6 := Block.free hz5 6
    have f7 := Block.free hz5 7
    have f8 := Block.free hz5 8
    have HZ5 := Lib.hid hz5
    have HT5 := Lib.hid hTa
    have HZ0 := Lib.hid hG0
    clear hz5 hTa hG0
    go_wp2_with fail
    go_quiet (fail)
    go_wp2_with fail
    have hr : DBox (put9 (w4.drewN nq) Z Dg.zero) Z Dg.zero := DBox.put9 (DBox.kept HZ5.out ((Touch.refl (fun _ => False) _).drewN nq) id) _
    have hTp := put9_touch (w4.drewN nq) Z Dg.zero
    exact bodyPost_ret (results_cell_slot rfl _ _ Z _ _ _ _ rfl hr Try.underlying42 rfl Try.sizeDg) rfl ⟨rfl, (HT5.out.drewN nq).trans' hTp (fun i hi => .inr (by rw [HZ0.out]; exact Nat.le_of_eq hi.symm))⟩
  · obtain ⟨n, hn⟩ : ∃ n : Nat, n = s.size - 4 := ⟨_, rfl⟩
    have hnI : (s.size : Int) - 4 = (n : Int) := by omega
    have hn0 : (0 : Int) ≤ (n : Int) := by omega
    have hn1 : (n : Int) ≤ (s.size : Int) := by omega
    have hdn : decide ((n : Int) < 0) = false := decide_eq_false (by omega)
    have hdn2 : decide ((s.size : Int) < 4) = false := decide_eq_false (by omega)
    have hso : sumOk s = decide (sealB (s.extract 0 n) = s.extract n s.size) := by unfold sumOk; rw [decide_eq_true (by omega), hn]; rfl
    have hdE : decE s = if sumOk s = true then (if toldB (s.extract 0 n) = true then 0 else 3) else 7 := by rw [hn]; rfl
    have hdD : decD s = if sumOk s = true then toldD (s.extract 0 n) else Dg.zero := by rw [hn]; rfl
    have hAz : (s.extract 0 n).size = n := by simp; omega
    have hst := fun W => seal_calls (s.extract 0 n) W (by omega)
    have htd := fun W => told_any (s.extract 0 n) (by omega) W
    have htz : toldB (s.extract 0 n) = false → toldD (s.extract 0 n) = Dg.zero := fun h => by unfold toldD; rw [h]; rfl
    have heq := str_eqD (a := sealB (s.extract 0 n)) (b := s.extract n s.size)
    rw [← hso] at heq
    clear hso
    obtain ⟨A, hA⟩ : ∃ A, s.extract 0 n = A := ⟨_, rfl⟩
    obtain ⟨B, hB⟩ : ∃ B, s.extract n s.size = B := ⟨_, rfl⟩
    rw [hA] at hdE hdD hst htd htz heq
    rw [hB] at heq
    generalize sealB A = sb at heq hst
    generalize sumOk s = so at heq hdE hdD
    generalize toldB A = tb at htd hdE htz
    generalize toldD A = td at htd hdD htz
    rw [hdE, hdD]
    obtain ⟨kind, se, ep, sq, pos, sm, mp, last, text⟩ := td
    have HTZ := Lib.hid htz
    have HN := Lib.hid hn
    clear hdE hdD hAz htz hn h4
    unfold Dg.v Dg.cells at htd
    simp only at htd
    have HS := Lib.hid hst
    have HTD := Lib.hid htd
    clear hst htd
    go_enter Try.func24, Try.ntmps24
    go_upto_region 1 with fail
    have hTa := (Touch.refl (fun _ => False) w).alloc (.cells #[.int .i64 0, .int .u32 0, .int .u32 0, .int .u32 0, .int .u64 0, .int .u32 0, .int .u32 0, .bool false, .string ⟨#[]⟩] 42)
    have hz5 : DBox (w.alloc (.cells #[.int .i64 0, .int .u32 0, .int .u32 0, .int .u32 0, .int .u64 0, .int .u32 0, .int .u32 0, .bool false, .string ⟨#[]⟩] 42)) w.heap.size Dg.zero := dg_new w _ _ _ _ _ _ _ _ _
    generalize w.alloc (.cells #[.int .i64 0, .int .u32 0, .int .u32 0, .int .u32 0, .int .u64 0, .int .u32 0, .int .u32 0, .bool false, .string ⟨#[]⟩] 42) = w4 at hTa hz5 ⊢
    generalize hG0 : w.heap.size = Z at hz5 ⊢
    have HZW := Lib.hid hz5
    have HTW := Lib.hid hTa
    have HZ0 := Lib.hid hG0
    clear hz5 hTa hG0
    go_upto_region 2 with fail
    go_region_law (go_simp; go_at_call 34; refine (HS.out _).mono ?_; rintro e w5 ⟨rfl, hT5⟩)
    have hTq := (Touch.refl (fun _ => False) w4).drew.trans hT5
    have hzA := DBox.kept HZW.out hTq id
    have hTB := HTW.out.trans hTq
    clear hT5 hTq
    cases so
    · have hz5 := hzA
      obtain ⟨k0, k1, k2, k3, k4, k5, k6, k7, k8⟩ := DBox.cells hz5
      have f0 := Block.free hz5 0
      have f1 := Block.free hz5 1
      have f2 := Block.free hz5 2
      have f3 := Block.free hz5 3
      have f4 := Block.free hz5 4
      have f5 := Block.free hz5 5
      have f6 := Block.free hz5 6
      have f7 := Block.free hz5 7
      have f8 := Block.free hz5 8
      have HZ5 := Lib.hid hz5
      have HT5 := Lib.hid hTB
      clear hz5 hzA hTB
      go_wp2_with fail
      have hr : DBox (put9 w5 Z Dg.zero) Z Dg.zero := HZ5.out.put9 _
      have hTp := put9_touch w5 Z Dg.zero
      exact bodyPost_ret (results_cell_slot rfl _ _ Z _ _ _ _ rfl hr Try.underlying42 rfl Try.sizeDg) rfl ⟨rfl, HT5.out.trans' hTp (fun i hi => .inr (by rw [HZ0.out]; exact Nat.le_of_eq hi.symm))⟩
    · have HZA := Lib.hid hzA
      have HTB := Lib.hid hTB
      clear hzA hTB
      go_wp2_with fail
      refine (HTD.out _).mono ?_
      rintro e w6 ⟨rfl, hT6⟩
      have hz6 := DBox.kept HZA.out hT6 id
      have hT06 := HTB.out.trans hT6
      have HZ6 := Lib.hid hz6
      have HT06 := Lib.hid hT06
      clear hz6 hT06 hT6
      go_upto_region 5 with fail
      have hb7 : DBox (w6.alloc (.cells #[.int .i64 kind, .int .u32 (se : Int), .int .u32 (ep : Int), .int .u32 (sq : Int), .int .u64 (pos : Int), .int .u32 (sm : Int), .int .u32 (mp : Int), .bool last, .string text] 42)) w6.heap.size ⟨kind, se, ep, sq, pos, sm, mp, last, text⟩ := dg_new w6 _ _ _ _ _ _ _ _ _
      have ht7 : Touch (fun _ => False) w6 (w6.alloc (.cells #[.int .i64 kind, .int .u32 (se : Int), .int .u32 (ep : Int), .int .u32 (sq : Int), .int .u64 (pos : Int), .int .u32 (sm : Int), .int .u32 (mp : Int), .bool last, .string text] 42)) := (Touch.refl (fun _ => False) w6).alloc _
      generalize (w6.alloc (.cells #[.int .i64 kind, .int .u32 (se : Int), .int .u32 (ep : Int), .int .u32 (sq : Int), .int .u64 (pos : Int), .int .u32 (sm : Int), .int .u32 (mp : Int), .bool last, .string text] 42)) = w7 at hb7 ht7 ⊢
      generalize w6.heap.size = G at hb7 ⊢
      have hz5 := DBox.kept HZ6.out ht7 id
      have hT07 := HT06.out.trans ht7
      obtain ⟨k0, k1, k2, k3, k4, k5, k6, k7, k8⟩ := DBox.cells hz5
      have f0 := Block.free hz5 0
      have f1 := Block.free hz5 1
      have f2 := Block.free hz5 2
      have f3 := Block.free hz5 3
      have f4 := Block.free hz5 4
      have f5 := Block.free hz5 5
      have f6 := Block.free hz5 6
      have f7 := Block.free hz5 7
      have f8 := Block.free hz5 8
      obtain ⟨c0, c1, c2, c3, c4, c5, c6, c7, c8⟩ := DBox.cells hb7
      have HZ5 := Lib.hid hz5
      have HT5 := Lib.hid hT07
      clear hz5 hT07 hb7 ht7
      cases tb
      · have hzz := HTZ.out rfl
        go_wp2_with fail
        try rw [hzz]
        have hr : DBox (put9 w7 Z Dg.zero) Z Dg.zero := HZ5.out.put9 _
        have hTp := put9_touch w7 Z Dg.zero
        exact bodyPost_ret (results_cell_slot rfl _ _ Z _ _ _ _ rfl hr Try.underlying42 rfl Try.sizeDg) rfl ⟨rfl, HT5.out.trans' hTp (fun i hi => .inr (by rw [HZ0.out]; exact Nat.le_of_eq hi.symm))⟩
      · go_wp2_with fail
        have hr : DBox (put9 w7 Z ⟨kind, se, ep, sq, pos, sm, mp, last, text⟩) Z ⟨kind, se, ep, sq, pos, sm, mp, last, text⟩ := HZ5.out.put9 _
        have hTp := put9_touch w7 Z ⟨kind, se, ep, sq, pos, sm, mp, last, text⟩
        exact bodyPost_ret (results_cell_slot rfl _ _ Z _ _ _ _ rfl hr Try.underlying42 rfl Try.sizeDg) rfl ⟨rfl, HT5.out.trans' hTp (fun i hi => .inr (by rw [HZ0.out]; exact Nat.le_of_eq hi.symm))⟩
end Go.Proofs.Ytmjahbdengnoeaa

/- The walk of the statement DgramShort over the translated program. -/
import Derived.Test.YtmjahbdengnoeaaDgI
namespace Go.Proofs.Ytmjahbdengnoeaa
open Go Go.RowKit
set_option maxRecDepth 100000

theorem told_few (t : ByteArray) (h : t.size < 34) : toldB t = false ∧ toldD t = Dg.zero := by
  have hb : toldB t = false := by
    cases hb : toldB t
    · rfl
    · unfold toldB at hb
      simp only [Bool.and_eq_true, decide_eq_true_eq] at hb
      have h1 := bodyB_size (readD t)
      rw [hb.2] at h1
      omega
  exact ⟨hb, by unfold toldD; rw [hb]; rfl⟩
theorem dec_few (t : ByteArray) (h : t.size < 4) : decE t = 7 ∧ decD t = Dg.zero := by
  have hs : sumOk t = false := by unfold sumOk; rw [decide_eq_false (by omega)]; rfl
  unfold decE decD
  rw [hs]
  exact ⟨rfl, rfl⟩

set_option maxHeartbeats 2000000 in
theorem dshort_calls (s : ByteArray) (w : World) : Calls Try.prog 10 #[.string s] w fun e w' => e = .returned (.bool true) ∧ Touch (fun _ => False) w w' := by
  obtain ⟨n, hn⟩ : ∃ n : Nat, n = min s.size 30 := ⟨_, rfl⟩
  obtain ⟨t, ht⟩ : ∃ t, s.extract 0 n = t := ⟨_, rfl⟩
  have htz : t.size = n := by rw [← ht]; simp; omega
  obtain ⟨m, hm⟩ : ∃ m : Nat, m = min t.size 3 := ⟨_, rfl⟩
  obtain ⟨u, hu⟩ : ∃ u, t.extract 0 m = u := ⟨_, rfl⟩
  have huz : u.size = m := by rw [← hu]; simp; omega
  have hc := fun W => refmore_calls 0 t W (by decide) (by omega)
  have hcl : moreN 0 t.data.toList < 4294967296 := moreN_lt 0 _ (by decide)
  have hp := fun W => rput_calls (moreN 0 t.data.toList) 4 W (by decide) (by omega)
  have hd1 := fun W => decode_calls (t ++ sealB t) (by rw [ByteArray.size_append, sealB_size]; omega) W
  have hd2 := fun W => decode_calls u (by omega) W
  obtain ⟨e1, e2⟩ := decode_sealed t
  obtain ⟨e3, e4⟩ := told_few t (by omega)
  rw [e3] at e1
  rw [e4] at e2
  rw [e1, e2] at hd1
  obtain ⟨e5, e6⟩ := dec_few u (by omega)
  rw [e5, e6] at hd2
  clear e1 e2 e3 e4 e5 e6
  unfold sealB at hd1
  have sz := lB_size 4 (moreN 0 t.data.toList)
  generalize lB 4 (moreN 0 t.data.toList) = x at hd1 hp sz
  generalize moreN 0 t.data.toList = c at hc hcl hp
  unfold Dg.zero Dg.v Dg.cells at hd1 hd2
  simp only [Bool.false_eq_true, if_false] at hd1 hd2
  have HC := Lib.hid hc
  have HP := Lib.hid hp
  have HD1 := Lib.hid hd1
  have HD2 := Lib.hid hd2
  have hn30 : (n : Int) ≤ 30 := by omega
  have hns : (n : Int) ≤ (s.size : Int) := by omega
  have hm3 : (m : Int) ≤ 3 := by omega
  have hmt : (m : Int) ≤ (t.size : Int) := by omega
  have hi1 : min (s.size : Int) 30 = (n : Int) := by omega
  have hi2 : (if (s.size : Int) < 30 then (s.size : Int) else 30) = (n : Int) := by split <;> omega
  have hi3 : (if (30 : Int) < (s.size : Int) then 30 else (s.size : Int)) = (n : Int) := by split <;> omega
  have hj1 : min (t.size : Int) 3 = (m : Int) := by omega
  have hj2 : (if (t.size : Int) < 3 then (t.size : Int) else 3) = (m : Int) := by split <;> omega
  have hj3 : (if (3 : Int) < (t.size : Int) then 3 else (t.size : Int)) = (m : Int) := by split <;> omega
  have htb : t.size ≤ 30 := by omega
  clear hc hp hd1 hd2 hn hm huz htz
  go_enter Try.func10, Try.ntmps10
  go_wp2_with fail
  refine (speaks22_calls _).mono ?_
  rintro e w1 ⟨rfl, hT1⟩
  go_wp2_with fail
  refine (HC.out _).mono ?_
  rintro e w2 ⟨rfl, rfl⟩
  go_wp2_with fail
  refine (HP.out _).mono ?_
  rintro e w3 ⟨rfl, hT3⟩
  go_wp2_with fail
  refine (HD1.out _).mono ?_
  rintro e w4 ⟨rfl, hT4⟩
  go_wp2_with fail
  refine (HD2.out _).mono ?_
  rintro e w5 ⟨rfl, hT5⟩
  have hb5 : DBox w5 w4.heap.size Dg.zero := DBox.kept (dg_new w4 _ _ _ _ _ _ _ _ _) hT5 id
  have hT05 := (((hT1.trans hT3).trans hT4).alloc (.cells #[.int .i64 0, .int .u32 0, .int .u32 0, .int .u32 0, .int .u64 0, .int .u32 0, .int .u32 0, .bool false, .string ⟨#[]⟩] 42)).trans hT5
  have hlt5 := Block.lt hb5
  generalize w4.heap.size = G at hb5 hlt5 ⊢
  obtain ⟨c0, c1, c2, c3, c4, c5, c6, c7, c8⟩ := DBox.cells hb5
  clear hT1 hT3 hT4 hT5 hb5
  go_wp2_with fail
  go_ret
  exact ⟨rfl, hT05.alloc _⟩
end Go.Proofs.Ytmjahbdengnoeaa


/- That the program's disk speaks, and the statement DiskNone. -/
import Derived.Test.YtjjpknmjkhaahaaDkJ
namespace Go.Proofs.Ytjjpknmjkhaahaa
open Go Go.RowKit Go.Maps
set_option maxRecDepth 100000

/-- A slice of one number that has just been built. -/
theorem reads_one (w : World) (T : TypeId) (z : Int) : Reads (w.alloc (.cells #[.int .i64 z] T)) (.slice (some ⟨w.heap.size, 0, none⟩) 1 1) ([z].map (Value.int .i64)) :=
  ⟨_, 1, rfl, Nat.le_refl _, by unfold maxLen; omega, .inr ⟨w.heap.size, 0, rfl, fun j u hu => by
    have hj : j = 0 := by
      cases j with
      | zero => rfl
      | succ j => simp at hu
    subst hj
    rw [cell_of_row _ _ _ _ _ _ (heap_alloc_new w _)]
    simpa using hu⟩⟩
theorem fateT_1 (a b : List UInt8) : fateT a b 1 = b := by unfold fateT; rw [if_neg (by decide), if_pos (by decide)]
theorem speaks_sec : readS (crashL (List.replicate (2 * 64) 0) (putE [] 0 (secB 7) (0 + 1)) [1]) [] 0 = secB 7 := by
  have e1 : crashL (List.replicate (2 * 64) 0) (putE [] 0 (secB 7) (0 + 1)) [1] = setS (List.replicate (2 * 64) 0) 0 (secB 7).data.toList := by
    simp only [putE, List.filter_nil, List.nil_append, crashL, List.zip_cons_cons, List.zip_nil_left, List.foldl_cons, List.foldl_nil, fateT_1]
  rw [e1]
  apply ba_ext
  rw [readS_none rfl, sec_set_same (n := 2) (by simp) (by omega) (by rw [secB_list]; simp)]

set_option maxHeartbeats 1000000 in
theorem speaks17_calls (w : World) : Calls Try.prog 4 #[] w fun e w' => e = .returned (.bool true) ∧ Touch (fun _ => False) w w' := by
  go_enter Try.func4, Try.ntmps4
  go_wp2_with fail
  refine (new_calls 2 w (by omega) (by omega)).mono ?_
  rintro e w1 ⟨b, lb, mb, rfl, hD1, hN, hT1⟩
  have HD1 := Lib.hid hD1
  clear hD1
  go_wp2_with fail
  refine (lsector_calls 7 w1).mono ?_
  rintro e w2 ⟨rfl, hT2⟩
  have HD2 := Lib.hid (HD1.out.still hT2)
  go_wp2_with fail
  refine (write_ok HD2.out 0 (secB 7) (secB_size 7) (by omega) (by omega) (by omega)).mono ?_
  rintro e w3 ⟨rfl, hD3, hT3⟩
  have HD3 := Lib.hid hD3
  clear hD3
  go_wp2_with fail
  have hTa := (Touch.refl (fun _ => False) w3).alloc (.cells #[.int .i64 1] 3)
  have hl3 := HD3.out.lt
  refine (crash_calls (HD3.out.still hTa) _ [1] (reads_one w3 3 1) (fun _ g hg hd => by simp [Value.ownBlock] at hg; rcases hd with h | h | h <;> omega) (fun z hz => by simp at hz; omega)).mono ?_
  rintro e w4 ⟨rfl, hD4, hT4⟩
  have HD4 := Lib.hid hD4
  have hT34 : Touch (DkS b lb mb) w3 w4 := (hTa.mono fun k hk => hk.elim).trans hT4
  clear hD4 hTa hl3 hT4
  go_wp2_with fail
  refine (on_calls HD4.out).mono ?_
  rintro e w' ⟨rfl, rfl⟩
  go_wp2_with fail
  refine (start_calls HD4.out).mono ?_
  rintro e w5 ⟨rfl, hD5, hT5⟩
  have HD5 := Lib.hid hD5
  clear hD5
  go_wp2_with fail
  have hrd := read_ok HD5.out 0 (by omega)
  rw [speaks_sec] at hrd
  refine hrd.mono ?_
  rintro e w6 ⟨rfl, hT6⟩
  have HD6 := Lib.hid (HD5.out.still hT6)
  clear hrd
  go_wp2_with fail
  refine (lsector_calls 7 w6).mono ?_
  rintro e w7 ⟨rfl, hT7⟩
  have HD7 := Lib.hid (HD6.out.still hT7)
  go_wp2_with fail
  refine (sectors_calls HD7.out).mono ?_
  rintro e w' ⟨rfl, rfl⟩
  go_wp2_with fail
  go_ret
  have hz := hT1.size
  have hS : ∀ i, DkS b lb mb i → w.heap.size ≤ i := fun i hi => by rcases hi with h | h | h <;> omega
  refine ⟨rfl, ?_⟩
  have h12 := hT1.trans hT2
  have h13 := h12.trans' hT3 (fun i hi => .inr (hS i hi))
  have h14 := h13.trans' hT34 (fun i hi => .inr (hS i hi))
  have h15 := h14.trans' hT5 (fun i hi => .inr (hS i (.inl hi)))
  exact (h15.trans hT6).trans hT7

end Go.Proofs.Ytjjpknmjkhaahaa

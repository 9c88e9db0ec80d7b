/- Contracts of package wal, eighth part: the reference's slot. -/
import Derived.Test.YtpgjheckdblggaaWlC
import Derived.Deep.CutBlock
namespace Go.Proofs.Ytpgjheckdblggaa
open Go Go.RowKit Go.Maps
set_option maxRecDepth 100000

def O1 (m : Nat) : ByteArray := ⟨#[UInt8.ofNat m]⟩
theorem slotS_split (n : Nat) (s : ByteArray) (hs : s.size ≤ 23) : slotS n s = ((lB 8 n ++ O1 s.size ++ s) ++ Z (51 - s.size)) ++ lB 4 (moreN 0 ((lB 8 n ++ O1 s.size ++ s) ++ Z (51 - s.size)).data.toList) := by
  have e0 : O1 s.size = lB 1 s.size := by
    have : leB 1 s.size = [UInt8.ofNat s.size] := by
      rw [show (1 : Nat) = 0 + 1 from rfl]
      simp [leB, Nat.mod_eq_of_lt (show s.size < 256 by omega)]
    unfold O1 lB; rw [this]
  rw [e0]
  have e1 : ((lB 8 n ++ lB 1 s.size ++ s) ++ Z (51 - s.size)).data.toList = slotH n s.data.toList := by
    have hl : s.data.toList.length = s.size := Array.length_toList
    simp only [ByteArray.data_append, Array.toList_append]
    unfold slotH slotX
    rw [hl]
    simp only [List.append_assoc]
    rfl
  apply ba_ext
  rw [ByteArray.data_append, Array.toList_append, e1]
  rfl
theorem conv_block (W : World) (g m : Nat) (hm : m < 256) (h : Block W g 5 [.int .u8 (m : Int)]) : (convert 75 9 (.slice (some ⟨g, 0, none⟩) 1 1)).run Try.prog W = .ok (.string (O1 m)) W := by
  have := run_convert_bytes_back (P := Try.prog) W 75 9 5 ⟨g, 0, none⟩ 1 [UInt8.ofNat m] Try.underlying75 Try.underlying5 Try.underlying9 (fun j hj => by
    have hj0 : j = 0 := by simp at hj; omega
    subst hj0
    have h1 : (⟨g, 0, none⟩ : Addr).add 0 = ⟨g, 0, none⟩ := by simp [Addr.add]
    rw [h1, h.cell 0]
    simp [Nat.mod_eq_of_lt hm])
  exact this
theorem refw_calls (n k : Nat) (w : World) (h1 : n < 18446744073709551616) (h2 : k ≤ 8) : Calls Try.prog 53 #[.int .u64 n, .int .i64 k] w fun e w' => e = .returned (.string (lB k n)) ∧ Touch (fun _ => False) w w' := refput_small n k w h2 h1

set_option maxHeartbeats 1000000 in
theorem refslot_calls (n : Nat) (s : ByteArray) (w : World) (h0 : n ≠ 0) (hn : n < 18446744073709551616) (hs : s.size ≤ 23) :
    Calls Try.prog 33 #[.int .u64 n, .string s] w fun e w' => e = .returned (.string (slotS n s)) ∧ Touch (fun _ => False) w w' := by
  obtain ⟨i0, hi, hz0, hz1, hz2⟩ := info_parts Try.infoB
  have d0 : (((n : Nat) : Int) == 0) = false := by rw [beq_eq_false_iff_ne]; omega
  have d1 : decide ((23 : Int) < (s.size : Int)) = false := decide_eq_false (by omega)
  have HP8 : Hid (∀ W, Calls Try.prog 53 #[.int .u64 n, .int .i64 8] W fun e w' => e = .returned (.string (lB 8 n)) ∧ Touch (fun _ => False) W w') := Lib.hid (fun W => refw_calls n 8 W hn (by omega))
  have s8 := lB_size 8 n
  have HS := Lib.hid (slotS_split n s hs)
  generalize lB 8 n = A8 at HP8 s8 HS
  have s1 : (O1 s.size).size = 1 := rfl
  obtain ⟨m, hm⟩ : ∃ m : Nat, s.size = m := ⟨_, rfl⟩
  have hm23 : m ≤ 23 := by omega
  have HC1 : ∀ W : World, (convert 75 9 (.slice (some ⟨W.heap.size, 0, none⟩) 1 1)).run Try.prog (W.alloc (.cells #[.int .u8 (m : Int)] 5)) = .ok (.string (O1 m)) (W.alloc (.cells #[.int .u8 (m : Int)] 5)) := fun W => conv_block _ _ m (by omega) (Block.new W _ _)
  have HC2 : ∀ W : World, (convert 75 9 (.slice (some ⟨W.heap.size, 0, none⟩) 1 1)).run Try.prog (W.alloc (.cells #[.int .u8 (m : Int)] 5)).drew = .ok (.string (O1 m)) (W.alloc (.cells #[.int .u8 (m : Int)] 5)).drew := fun W => conv_block _ _ m (by omega) (Block.new W _ _)
  have HCB : Hid (∀ W g, Block W g 5 [.int .u8 (m : Int)] → (convert 75 9 (.slice (some ⟨g, 0, none⟩) 1 1)).run Try.prog W = .ok (.string (O1 m)) W) := Lib.hid (fun W g h => conv_block W g m (by omega) h)
  rw [hm] at HS s1
  have HB0 : Hid (Block (w.alloc (.cells #[.int .u8 (m : Int)] 5)).drew w.heap.size 5 [.int .u8 (m : Int)]) := Lib.hid (Block.new w _ _)
  generalize O1 m = A1 at HS s1 HC1 HC2 HCB
  have HN := Lib.hid (⟨h0, hn⟩ : _ ∧ _)
  have HM := Lib.hid (⟨hm, hs⟩ : _ ∧ _)
  have b8 : (A8.size : Int) = 8 := by omega
  have b1 : (A1.size : Int) = 1 := by omega
  have z1 : A8.size + A1.size ≤ 100 := by omega
  have z3 : A8.size + A1.size + s.size ≤ 100 := by omega
  have z5 : (9223372036854775807 < A8.size + A1.size) = False := eq_false (by omega)
  have z6 : (9223372036854775807 < A8.size + A1.size + s.size) = False := eq_false (by omega)
  have hw8 : IntKind.u8.wrap ((s.size : Nat) : Int) = (m : Int) := by rw [IntKind.wrap_u8]; omega
  have hw9 : ((s.size : Nat) : Int) % 256 = (m : Int) := by omega
  clear h0 s8 s1 hm hs
  go_enter Try.func33, Try.ntmps33
  go_upto_region 3 with fail
  go_cut [5] from 13 to 23 (fun v5 wx => v5 = .string (A8 ++ A1 ++ s) ∧ Touch (fun _ => False) w wx)
  case first =>
    go_region_law (first
      | (go_simp; go_at_call 53; with_reducible refine (HP8.out w.drew).mono ?_; rintro e wa ⟨rfl, hTa⟩; have HTA : Hid (Touch (fun _ => False) w wa) := Lib.hid ((Touch.refl (fun _ => False) w).drew.trans hTa); clear hTa)
      | (go_simp; go_at_call 53; with_reducible refine (HP8.out (w.alloc _).drew).mono ?_; rintro e wa ⟨rfl, hTa⟩; have HBX : Hid (Block wa w.heap.size 5 [.int .u8 (m : Int)]) := Lib.hid (HB0.out.kept hTa id); have hcv := HCB.out wa w.heap.size HBX.out; have HTA : Hid (Touch (fun _ => False) w wa) := Lib.hid (((Touch.refl (fun _ => False) w).alloc _).drew.trans hTa); clear hTa))
    all_goals
      go_wp2_with fail
      go_meet
      first
        | exact ⟨rfl, HTA.out.alloc _⟩
        | exact ⟨rfl, HTA.out⟩
  case rest =>
    obtain ⟨rfl, hTc⟩ := hcut
    obtain ⟨X, hX⟩ : ∃ X, A8 ++ A1 ++ s = X := ⟨_, rfl⟩
    obtain ⟨xs, hxs⟩ : ∃ xs : Nat, 9 + s.size = xs := ⟨_, rfl⟩
    have hXs : (X.size : Int) = (xs : Int) := by rw [← hX]; simp only [ByteArray.size_append]; omega
    rw [hX] at HS ⊢
    obtain ⟨k, hk⟩ : ∃ k : Nat, 51 - m = k := ⟨_, rfl⟩
    have hkI : (60 : Int) - (xs : Int) = (k : Int) := by have := HM.out; omega
    have hkw : IntKind.i64.wrap ((60 : Int) - (xs : Int)) = (k : Int) := by rw [hkI]; exact IntWalk.i64_in _ (by omega)
    rw [hk] at HS
    have hZs := Z_size k
    obtain ⟨Y, hY⟩ : ∃ Y, X ++ Z k = Y := ⟨_, rfl⟩
    have hYs : (Y.size : Int) = 60 := by rw [← hY]; simp only [ByteArray.size_append]; omega
    have y1 : (9223372036854775807 < X.size + (Z k).size) = False := eq_false (by omega)
    rw [hY] at HS
    have HY := Lib.hid hY
    have hk51 : k ≤ 51 := by omega
    clear hxs hX hY z1 z3 z5 z6 hw8 hw9 HC1 HC2 hk
    go_wp2_with (at_make; refine wpList_make_full _ rfl (.tmp 26) (.tmp 26) 75 rfl wc.heap.size 5 i0 _ 1 Try.underlying75 hi hz0 hz1 .i64 .i64 _ _ k rfl rfl rfl rfl (by rw [hz2]; omega) (by unfold maxLen; omega) (Nat.le_refl _) ?_; intro w2 hown hgrow; rw [made_bytes] at hown; have hcz := run_bytes_row (P := Try.prog) w2 75 5 9 Try.underlying75 Try.underlying5 Try.underlying9 (Row.of_own hown); rw [show (⟨(List.replicate k (0 : UInt8)).toArray⟩ : ByteArray) = Z k from rfl] at hcz)
    have hTm := (Touch.refl (fun _ => False) wc).grown hgrow (fun k h => by cases h)
    have HTm := Lib.hid (hTc.trans hTm)
    rw [HY.out]
    have hmo : Calls Try.prog 54 #[.int .u32 0, .string Y] w2 fun e w' => e = .returned (.int .u32 (moreN 0 Y.data.toList)) ∧ w2 = w' := refmore_calls 0 Y w2 (by omega) (by omega)
    have hml : moreN 0 Y.data.toList < 4294967296 := moreN_lt _ _ (by omega)
    generalize moreN 0 Y.data.toList = mm at hmo hml HS
    have hmw : IntKind.u64.wrap (mm : Int) = (mm : Int) := by rw [IntKind.wrap_u64]; omega
    refine hmo.mono ?_
    rintro e wd ⟨rfl, rfl⟩
    have HP4 := Lib.hid (refw_calls mm 4 w2 (by omega) (by omega))
    have s4 := lB_size 4 mm
    generalize lB 4 mm = A4 at HP4 s4 HS
    have y2 : (9223372036854775807 < Y.size + A4.size) = False := eq_false (by omega)
    clear y1 hcz hown hgrow hTm
    go_wp2_with fail
    refine HP4.out.mono ?_
    rintro e wf ⟨rfl, hTf⟩
    go_wp2_with fail
    go_ret
    exact ⟨by rw [HS.out]; rfl, HTm.out.trans hTf⟩

end Go.Proofs.Ytpgjheckdblggaa

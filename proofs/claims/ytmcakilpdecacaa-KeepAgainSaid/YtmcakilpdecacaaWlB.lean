/- Contracts of package wal, first part: slot, Slot. -/
import Derived.Test.YtmcakilpdecacaaWlA
import Derived.Test.YtmcakilpdecacaaWlShelf
import Derived.Test.YtmcakilpdecacaaBitsN
import Derived.Test.YtmcakilpdecacaaCrcB
import Derived.Test.YtmcakilpdecacaaDkL
namespace Go.Proofs.Ytmcakilpdecacaa
open Go Go.RowKit Go.Maps Go.Shelf
set_option maxRecDepth 100000

theorem wsum_calls (b : Nat) (s : ByteArray) (w : World) (ht : TabAt w b) (hz : s.size ≤ 9223372036854775807) :
    Calls Try.prog 66 #[.pointer (some ⟨b, 0, none⟩), .string s] w fun e w' => e = .returned (.int .u32 (moreN 0 s.data.toList)) ∧ ∃ nq, w' = w.drewN nq := by
  go_enter Try.func66, Try.ntmps66
  go_wp2_with fail
  refine (tmore_calls b 0 s _ ht (by decide) hz).mono ?_
  rintro e w' ⟨rfl, nq, hT⟩
  have HT := Lib.hid hT
  clear hT
  go_wp2_with fail
  go_ret
  exact ⟨rfl, nq, HT.out⟩

theorem Try.repExtra : Builder.Extra Try.prog Try.wlRepeat_ren where
  sizeBuilder := by kernel_rfl
  liesBuilder := by kernel_rfl
  t5 := Try.wlRepeat.t5
  a5 := Try.wlRepeat.a5
  z5 := Try.wlRepeat.z5
  v5 := Try.wlRepeat.v5
  infoByte := by kernel_rfl
  cellsByte := by kernel_rfl
  sizeByte := by kernel_rfl
  neB5 := by decide
def Z (k : Nat) : ByteArray := ⟨(List.replicate k 0).toArray⟩
theorem rep0 (k : Nat) : Lib.repeatL [0] k = List.replicate k 0 := by
  induction k with
  | zero => rfl
  | succ k ih => show [0] ++ Lib.repeatL [0] k = _; rw [ih]; rfl
theorem Z_size (k : Nat) : (Z k).size = k := by show (List.replicate k (0 : UInt8)).toArray.size = k; simp
theorem zeros_calls (k : Nat) (hk : k ≤ 1000) (w : World) : Calls Try.prog 115 #[.string ⟨#[0]⟩, .int .i64 k] w fun e w' => e = .returned (.string (Z k)) ∧ Touch (fun _ => False) w w' := by
  refine (Any.strings_Repeat Try.wlRepeat Try.repExtra ⟨#[0]⟩ k w (by omega) (by show 1 * k ≤ _; omega)).mono fun _ _ ⟨he, hb⟩ => ⟨?_, ⟨hb.os, hb.tape, hb.output, hb.size, fun k hk _ => hb.block k hk⟩⟩
  rw [he, show (⟨#[0]⟩ : ByteArray).data.toList = [0] from rfl, rep0]; rfl

def lB (k n : Nat) : ByteArray := ⟨(leB k n).toArray⟩
theorem lB_size (k n : Nat) : (lB k n).size = k := by show (leB k n).toArray.size = k; simp [leB_length]
theorem wput_calls (n k : Nat) (w : World) (h1 : 1 ≤ k) (h2 : k ≤ 8) : Calls Try.prog 106 #[.int .u64 n, .int .i64 k] w fun e w' => e = .returned (.string (lB k n)) ∧ Touch (fun _ => False) w w' := put_small n k w h1 h2

/-- A slot as a string. -/
def slotS (n : Nat) (s : ByteArray) : ByteArray := ⟨(slotB n s.data.toList).toArray⟩
theorem slotS_size (n : Nat) (s : ByteArray) (h : s.size ≤ 23) : (slotS n s).size = 64 := by
  show (slotB n s.data.toList).toArray.size = 64
  have : s.data.toList.length ≤ 23 := by rw [Array.length_toList]; exact h
  simp [slotB_len n _ this]

theorem slot_zero (s : ByteArray) (t : Value) (w : World) : Calls Try.prog 112 #[.agg #[.int .u64 0, .string s], t] w fun e w' => e = .returned (.string ⟨#[]⟩) ∧ Touch (fun _ => False) w w' := by
  go_enter Try.func112, Try.ntmps112
  go_wp2
  go_ret
  exact ⟨rfl, (Touch.refl _ w).alloc _⟩

set_option maxHeartbeats 1000000 in
theorem slot_calls (n : Nat) (s : ByteArray) (tb : Nat) (w : World) (h0 : n ≠ 0) (hn : n < 18446744073709551616) (hs : s.size ≤ 23) (ht : TabAt w tb) :
    Calls Try.prog 112 #[.agg #[.int .u64 n, .string s], .pointer (some ⟨tb, 0, none⟩)] w fun e w' => e = .returned (.string (slotS n s)) ∧ Touch (fun _ => False) w w' := by
  have d0 : (((n : Nat) : Int) == 0) = false := by rw [beq_eq_false_iff_ne]; omega
  have d1 : decide ((23 : Int) < (s.size : Int)) = false := decide_eq_false (by omega)
  have hsI : (s.size : Int) ≤ 23 := by omega
  have HP8 : Hid (∀ W, Calls Try.prog 106 #[.int .u64 n, .int .i64 8] W fun e w' => e = .returned (.string (lB 8 n)) ∧ Touch (fun _ => False) W w') := Lib.hid (fun W => wput_calls n 8 W (by omega) (by omega))
  have HP1 : Hid (∀ W, Calls Try.prog 106 #[.int .u64 (s.size : Nat), .int .i64 1] W fun e w' => e = .returned (.string (lB 1 s.size)) ∧ Touch (fun _ => False) W w') := Lib.hid (fun W => wput_calls s.size 1 W (by omega) (by omega))
  have s8 := lB_size 8 n
  have s1 := lB_size 1 s.size
  have HS : Hid (slotS n s = ((lB 8 n ++ lB 1 s.size ++ s) ++ Z (51 - s.size)) ++ lB 4 (moreN 0 ((lB 8 n ++ lB 1 s.size ++ s) ++ Z (51 - s.size)).data.toList)) := Lib.hid (by
    have e1 : ((lB 8 n ++ lB 1 s.size ++ s) ++ Z (51 - s.size)).data.toList = slotH n s.data.toList := by
      have hl : s.data.toList.length = s.size := Array.length_toList
      simp only [ByteArray.data_append, Array.toList_append]
      unfold slotH slotX
      rw [hl]
      simp only [List.append_assoc]
      rfl
    apply ba_ext
    rw [ByteArray.data_append, Array.toList_append, e1]
    rfl)
  generalize lB 8 n = A8 at HP8 s8 HS
  generalize lB 1 s.size = A1 at HP1 s1 HS
  have HT := Lib.hid ht
  have HN := Lib.hid (⟨h0, hn⟩ : _ ∧ _)
  have b8 : (A8.size : Int) = 8 := by omega
  have b1 : (A1.size : Int) = 1 := by omega
  have z1 : A8.size + A1.size ≤ 100 := by omega
  have z3 : A8.size + A1.size + s.size ≤ 100 := by omega
  have z4 : decide (9223372036854775807 < A8.size + A1.size) = false := decide_eq_false (by omega)
  have z5 : (9223372036854775807 < A8.size + A1.size) = False := eq_false (by omega)
  have z6 : (9223372036854775807 < A8.size + A1.size + s.size) = False := eq_false (by omega)
  clear ht h0 s8 s1
  go_enter Try.func112, Try.ntmps112
  go_upto_region 3 with fail
  have hTa := (Touch.refl (fun _ => False) w).alloc (.cells #[.int .u64 n, .string s] 136)
  have hbx := Block.new w 136 [.int .u64 n, .string s]
  generalize (w.alloc (.cells #[.int .u64 n, .string s] 136)) = w1 at hTa hbx ⊢
  have hbx : Block w1 w.heap.size 136 [.int .u64 n, .string s] := hbx
  have q0 : w1.cell? ⟨w.heap.size, 0, none⟩ = some (.int .u64 n) := hbx.cell 0
  have q1 : w1.cell? ⟨w.heap.size, 1, none⟩ = some (.string s) := hbx.cell 1
  have HBX := Lib.hid hbx
  have hwr : IntKind.u64.wrap ((s.size : Nat) : Int) = ((s.size : Nat) : Int) := by rw [IntKind.wrap_u64]; omega
  generalize hG : w.heap.size = G at *
  have HG := Lib.hid hG
  clear hbx hG
  have HT1 := Lib.hid (HT.out.kept hTa id)
  go_cut [5] from 15 to 26 (fun v5 wx => v5 = .string (A8 ++ A1 ++ s) ∧ Touch (fun _ => False) w1 wx)
  case first =>
    go_region_law (go_simp; go_at_call 106; (first | (with_reducible refine (HP8.out _).mono ?_) | (with_reducible refine (HP1.out _).mono ?_)); rintro e wa ⟨rfl, hTp⟩; have r0 := hTp.cell (p := ⟨G, 0, none⟩) ‹_› id; have r1 := hTp.cell (p := ⟨G, 1, none⟩) ‹_› id)
    all_goals
      go_wp2_with fail
      go_meet
      exact ⟨rfl, (((Touch.refl (fun _ => False) w1).drew.trans ‹Touch (fun _ => False) w1.drew _›).trans ‹_›)⟩
  case rest =>
    obtain ⟨rfl, hTc⟩ := hcut
    have HTc := Lib.hid (HT1.out.kept hTc id)
    have hT0 := hTa.trans hTc
    obtain ⟨X, hX⟩ : ∃ X, A8 ++ A1 ++ s = X := ⟨_, rfl⟩
    have hXs : (X.size : Int) = 9 + (s.size : Int) := by rw [← hX]; simp only [ByteArray.size_append]; omega
    rw [hX] at HS ⊢
    obtain ⟨k, hk⟩ : ∃ k : Nat, 51 - s.size = k := ⟨_, rfl⟩
    have hkI : (60 : Int) - (X.size : Int) = (k : Int) := by omega
    rw [hk] at HS
    have hZs := Z_size k
    have HZ : Hid (∀ W, Calls Try.prog 115 #[.string ⟨#[0]⟩, .int .i64 k] W fun e w' => e = .returned (.string (Z k)) ∧ Touch (fun _ => False) W w') := Lib.hid (fun W => zeros_calls k (by omega) W)
    obtain ⟨Y, hY⟩ : ∃ Y, X ++ Z k = Y := ⟨_, rfl⟩
    have hYs : (Y.size : Int) = 60 := by rw [← hY]; simp only [ByteArray.size_append]; omega
    have y1 : (9223372036854775807 < X.size + (Z k).size) = False := eq_false (by omega)
    rw [hY] at HS
    have HY := Lib.hid hY
    clear hX hY z1 z3 z4 z5 z6 hwr q0 q1 hk hXs hZs hsI
    go_wp2_with fail
    refine (HZ.out _).mono ?_
    rintro e wd ⟨rfl, hTd⟩
    have HTd := Lib.hid (HTc.out.kept hTd id)
    have hT0d := hT0.trans hTd
    go_wp2_with fail
    rw [HY.out]
    refine (wsum_calls tb Y wd HTd.out (by omega)).mono ?_
    rintro e we ⟨rfl, q, rfl⟩
    have hm := moreN_lt 0 Y.data.toList (by decide)
    generalize moreN 0 Y.data.toList = m at hm HS ⊢
    have hTe : Touch (fun _ => False) w (wd.drewN q) := hT0d.drewN q
    generalize wd.drewN q = we at hTe ⊢
    have hmI : (m : Int) < 4294967296 := by omega
    have hm0 : (0 : Int) ≤ (m : Int) := by omega
    have HP4 : Hid (∀ W, Calls Try.prog 106 #[.int .u64 m, .int .i64 4] W fun e w' => e = .returned (.string (lB 4 m)) ∧ Touch (fun _ => False) W w') := Lib.hid (fun W => wput_calls m 4 W (by omega) (by omega))
    have s4 := lB_size 4 m
    generalize lB 4 m = A4 at HP4 s4 HS
    have y2 : (9223372036854775807 < Y.size + A4.size) = False := eq_false (by omega)
    clear s4 hm y1
    go_wp2_with fail
    refine (HP4.out _).mono ?_
    rintro e wf ⟨rfl, hTf⟩
    go_wp2_with fail
    go_ret
    exact ⟨by rw [HS.out]; rfl, hTe.trans hTf⟩

end Go.Proofs.Ytmcakilpdecacaa

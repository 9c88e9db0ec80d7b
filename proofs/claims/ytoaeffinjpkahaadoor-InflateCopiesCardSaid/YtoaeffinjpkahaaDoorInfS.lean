
/- A decoder: readDistBits. -/
import Derived.Test.YtoaeffinjpkahaaDoorInfQ
import Derived.Test.YtoaeffinjpkahaaDoorInfK
namespace Go.Proofs.YtoaeffinjpkahaaDoor
set_option linter.unusedSimpArgs false
set_option linter.unusedVariables false
open Go Go.RowKit
set_option maxRecDepth 100000

set_option maxHeartbeats 2000000 in
theorem idb_more {U : Nat → Prop} {w0 w : World} {b : Nat} {s : PS} (h : DecR U w0 w b s) (he : s.extra ≤ 32) (hl : s.bits.length < s.extra) : Calls Tryd.prog 99 #[.pointer (some ⟨b, 0, none⟩)] w fun e w' => e = .returned (.int .i64 2) ∧ DecR U w0 w' b s := by
  obtain ⟨v5, g, v7, v8, p17, p18, hD, hown, hT⟩ := h
  have HR := Lib.hid (read_less b 5 s.extra s.bits _ w.drew (rd_at (hD.still (Touch.refl _ _).drew).blk (hD.still (Touch.refl _ _).drew).rd hD.ap.1) (by omega) he hl)
  have c23 : w.cell? ⟨b, 23, none⟩ = some (.int .i64 (s.extra : Nat)) := Block.cell hD.blk 23
  have HD := Lib.hid (show DecR U w0 w b s from ⟨v5, g, v7, v8, p17, p18, hD, hown, hT⟩)
  clear hD hown hT hl he
  go_enter Tryd.func99, Tryd.ntmps99
  go_upto_region 1 with fail
  go_region_law (first
    | (go_simp; go_at_call 67; refine HR.out.mono ?_; rintro e w1 ⟨rfl, rfl⟩))
  go_wp2_with fail
  go_ret
  exact ⟨rfl, HD.out.still ((Touch.refl _ _).drew.drew)⟩

theorem copyL_len (n d : Nat) (l : List UInt8) : (copyL n d l).length = l.length + n := by
  induction n generalizing l with
  | zero => rfl
  | succ n ih => unfold copyL; rw [ih, List.length_append]; simp; omega

/-- What each operation of readDistBits leaves, from its window's call on. -/
def dbI (b size dist N : Nat) (T : ByteArray) (i : Nat) (v : Value) (_ : World) : Prop := match i with
  | 0 => v = .pointer (some ⟨b, 0, none⟩)
  | 1 => v = .pointer (some ⟨b, 0, none⟩)
  | 2 => v = .pointer (some ⟨b, 8, none⟩)
  | 3 => v = .pointer (some ⟨b, 0, none⟩)
  | 4 => v = .pointer (some ⟨b, 0, none⟩)
  | 5 => v = .pointer (some ⟨b, 21, none⟩)
  | 6 => v = .int .i64 (size : Nat)
  | 7 => v = .pointer (some ⟨b, 0, none⟩)
  | 8 => v = .pointer (some ⟨b, 0, none⟩)
  | 9 => v = .pointer (some ⟨b, 22, none⟩)
  | 10 => v = .int .i64 (dist : Nat)
  | 11 => v = .int .u64 (N : Nat)
  | 12 => v = .int .i64 (N : Nat)
  | 13 => v = .int .i64 ((dist : Int) + (N : Int))
  | 14 => v = .tuple #[.string T, .bool true]
  | 15 => v = .tuple #[.string T, .bool true]
  | 16 => v = .string T
  | 17 => v = .bool true
  | 18 => v = .string T
  | 19 => v = .bool true
  | _ => True
theorem dbI_keep {b size dist N : Nat} {T : ByteArray} {W W' : World} : ∀ j v, dbI b size dist N T j v W → dbI b size dist N T j v W' := by
  intro j v h
  match j, h with
  | 0, h => exact h
  | 1, h => exact h
  | 2, h => exact h
  | 3, h => exact h
  | 4, h => exact h
  | 5, h => exact h
  | 6, h => exact h
  | 7, h => exact h
  | 8, h => exact h
  | 9, h => exact h
  | 10, h => exact h
  | 11, h => exact h
  | 12, h => exact h
  | 13, h => exact h
  | 14, h => exact h
  | 15, h => exact h
  | 16, h => exact h
  | 17, h => exact h
  | 18, h => exact h
  | 19, h => exact h
  | _ + 20, _ => trivial
def dbC (φ : TypeId × (Nat → Option Value)) (w : World) (b : Nat) (row : Option Nat) (A : List UInt8) (ls : Array Bool) (W : World) : Prop := (ls.getD 14 true = false → Touch (fun _ => False) w W) ∧ (ls.getD 14 true = true → WinOut φ w W b 8 row A)
theorem dbC_other {φ : TypeId × (Nat → Option Value)} {w : World} {b : Nat} {row : Option Nat} {A : List UInt8} {ls : Array Bool} {W : World} (h : dbC φ w b row A ls W) {i : Nat} (hi : i ≠ 14) : dbC φ w b row A (ls.setIfInBounds i true) W := by
  obtain ⟨h1, h2⟩ := h
  have hb : (i == 14) = false := by simpa using hi
  refine ⟨fun e => ?_, fun e => ?_⟩
  · rw [getD_set4, hb, Bool.or_false] at e
    exact h1 e
  · rw [getD_set4, hb, Bool.or_false] at e
    exact h2 e

theorem WinOut.from_still {φ : TypeId × (Nat → Option Value)} {w0 w w' : World} {b o : Nat} {row : Option Nat} {A : List UInt8} (h : WinOut φ w w' b o row A) (ht : Touch (fun _ => False) w0 w) : WinOut φ w0 w' b o row A := by
  obtain ⟨r, h1, h2, h3⟩ := h
  have hsz := ht.size
  refine ⟨r, h1, ?_, (ht.mono (fun _ e => e.elim)).trans h3⟩
  rcases h2 with h2 | ⟨q, hq, hge⟩
  · exact .inl h2
  · exact .inr ⟨q, hq, by omega⟩
set_option maxHeartbeats 4000000 in
/-- A match whose bytes are there. -/
theorem idb_ok {U : Nat → Prop} {w0 w : World} {b : Nat} {s : PS} (h : DecR U w0 w b s) (he : s.extra ≤ 16) (hl : s.extra ≤ s.bits.length) (N : Nat) (hN : N = numN (s.bits.take s.extra)) (hN2 : N < 65536) (hdd : s.dist < 65536) (hs : s.size ≤ 258) (h1 : 1 ≤ s.dist + N) (h2 : s.dist + N ≤ min s.all.length 32768)
    (hz : s.out.length < 999999000 ∧ s.all.length < 999999000) (A : List UInt8) (hA : A = copyL s.size (s.dist + N) s.all) :
    Calls Tryd.prog 99 #[.pointer (some ⟨b, 0, none⟩)] w fun e w' => e = .returned (.int .i64 0) ∧ DecR U w0 w' b { s with bits := s.bits.drop s.extra, all := A, out := s.out ++ A.drop s.all.length, st := 7 } := by
  obtain ⟨v5, g, v7, v8, p17, p18, hD, hown, hT⟩ := h
  have hread := read_some b 5 s.extra s.bits _ w.drew (rd_at (hD.still (Touch.refl _ _).drew).blk (hD.still (Touch.refl _ _).drew).rd hD.ap.1) (by have := hD.lb.1; omega) (by omega) hl
  rw [← hN] at hread
  have HR := Lib.hid hread
  have c23 : w.cell? ⟨b, 23, none⟩ = some (.int .i64 (s.extra : Nat)) := Block.cell hD.blk 23
  have HD := Lib.hid hD
  have HO := Lib.hid (⟨hown, hT⟩ : _ ∧ _)
  have HA := Lib.hid (⟨hA, hs, h1, h2, hz⟩ : _ ∧ _ ∧ _ ∧ _ ∧ _)
  obtain ⟨i0, hi, hz0, hz1, hz2⟩ := info_parts Tryd.info5
  clear hread hD hown hT hl hN hA hs h1 h2 hz
  go_enter Tryd.func99, Tryd.ntmps99
  go_upto_region 1 with fail
  go_region_law (first
    | (go_simp; go_at_call 67; refine HR.out.mono ?_; rintro e w1 ⟨rfl, hR1, hT1⟩; have HD1 := Lib.hid (⟨hR1, (Touch.refl (fun k => k = b) w).drew.trans hT1⟩ : _ ∧ _); clear hR1 hT1))
  go_upto_region 4 with fail
  obtain ⟨v5', g', hD1, ho⟩ := HD.out.read HD1.out.1 HD1.out.2 ⟨s.extra, rfl⟩
  have m21 : w1.cell? ⟨b, 21, none⟩ = some (.int .i64 (s.size : Nat)) := Block.cell hD1.blk 21
  have m22 : w1.cell? ⟨b, 22, none⟩ = some (.int .i64 (s.dist : Nat)) := Block.cell hD1.blk 22
  obtain ⟨size, hsz⟩ : ∃ n, n = s.size := ⟨_, rfl⟩
  obtain ⟨dist, hds⟩ : ∃ n, n = s.dist := ⟨_, rfl⟩
  have hcopy := fun W (hW : Touch (fun _ => False) w1 W) => copy_win b 8 s.size (s.dist + N) s.all _ W (win_at (hD1.still hW).blk (hD1.still hW).win (hD1.still hW).ap.2.2.1) HA.out.2.1 HA.out.2.2.1 HA.out.2.2.2.1 (by have := HA.out.2.2.2.2.2; omega)
  rw [← HA.out.1, show ((s.dist + N : Nat) : Int) = (s.dist : Int) + (N : Int) by omega, ← hsz, ← hds] at hcopy
  obtain ⟨T, hTT⟩ : ∃ T : ByteArray, T = ⟨(A.drop s.all.length).toArray⟩ := ⟨_, rfl⟩
  rw [← hTT] at hcopy
  have HTT := Lib.hid hTT
  have HC := Lib.hid hcopy
  have c21 : ∀ W, Touch (fun _ => False) w1 W → W.cell? ⟨b, 21, none⟩ = some (.int .i64 (size : Nat)) := fun W hW => by rw [hsz]; exact Block.cell (hD1.still hW).blk 21
  have c22 : ∀ W, Touch (fun _ => False) w1 W → W.cell? ⟨b, 22, none⟩ = some (.int .i64 (dist : Nat)) := fun W hW => by rw [hds]; exact Block.cell (hD1.still hW).blk 22
  have HCE := Lib.hid (⟨c21, c22⟩ : _ ∧ _)
  have HD2 := Lib.hid (⟨hD1, ho⟩ : _ ∧ _)
  have hdd2 : dist < 65536 := by omega
  clear hD1 ho hcopy hTT c21 c22 m21 m22 hsz hds hdd
  refine wp_region_inv5 (dbC (80, fun i => (decL { s with bits := s.bits.drop s.extra } v5' g' v7 v8 p17 p18)[i]?) w1 b v8.ownBlock A) (dbI b size dist N T) (by kernel_rfl) (by kernel_rfl) (by kernel_rfl) ⟨fun _ => (Touch.refl _ _).drew, (fun e => by simp at e)⟩ ?_ ?_
  · intro i o hio ls a W hun hcl hdl hC hbase hkeep hdone
    have hlt9 := op_lt hio
    obtain ⟨hbd, hbs, hbb⟩ := hbase
    have b0 : a.tmps[0]?.getD undef = .pointer (some ⟨b, 0, none⟩) := by rw [(hbb 0 (noDst_spec (by kernel_rfl)))]; rfl
    have b3 : a.tmps[3]?.getD undef = .int .u64 (N : Nat) := by rw [(hbb 3 (noDst_spec (by kernel_rfl)))]; rfl
    rcases (by simp at hlt9; omega : i = 0 ∨ i = 1 ∨ i = 2 ∨ i = 3 ∨ i = 4 ∨ i = 5 ∨ i = 6 ∨ i = 7 ∨ i = 8 ∨ i = 9 ∨ i = 10 ∨ i = 11 ∨ i = 12 ∨ i = 13 ∨ i = 14 ∨ i = 15 ∨ i = 16 ∨ i = 17 ∨ i = 18 ∨ i = 19) with rfl | rfl | rfl | rfl | rfl | rfl | rfl | rfl | rfl | rfl | rfl | rfl | rfl | rfl | rfl | rfl | rfl | rfl | rfl | rfl
    · simp only [List.getElem?_toArray, List.getElem?_cons_zero, Option.some.injEq] at hio
      subst hio
      refine ⟨rfl, ?_⟩
      refine r4_val (v := .pointer (some ⟨b, 0, none⟩)) ?_ ⟨_, rfl, rfl, dbC_other hC (by decide), fun _ _ h => dbI_keep _ _ h⟩
      simp [execOp, Act.eval, b0]
    · simp only [List.getElem?_toArray, List.getElem?_cons_zero, List.getElem?_cons_succ, Option.some.injEq] at hio
      subst hio
      have t20 : a.tmps[20]?.getD undef = .pointer (some ⟨b, 0, none⟩) := by simpa [valOf, dbI] using hdone 0 _ rfl (r4_edge 0 (by kernel_rfl) hdl)
      refine ⟨rfl, ?_⟩
      refine r4_val (v := .pointer (some ⟨b, 0, none⟩)) ?_ ⟨_, rfl, rfl, dbC_other hC (by decide), fun _ _ h => dbI_keep _ _ h⟩
      simp [execOp, Act.eval, t20]
      try go_simp
    · simp only [List.getElem?_toArray, List.getElem?_cons_zero, List.getElem?_cons_succ, Option.some.injEq] at hio
      subst hio
      have t21 : a.tmps[21]?.getD undef = .pointer (some ⟨b, 0, none⟩) := by simpa [valOf, dbI] using hdone 1 _ rfl (r4_edge 1 (by kernel_rfl) hdl)
      refine ⟨rfl, ?_⟩
      refine r4_val (v := .pointer (some ⟨b, 8, none⟩)) ?_ ⟨_, rfl, rfl, dbC_other hC (by decide), fun _ _ h => dbI_keep _ _ h⟩
      simp [execOp, Act.eval, t21]
      try go_simp
    · simp only [List.getElem?_toArray, List.getElem?_cons_zero, List.getElem?_cons_succ, Option.some.injEq] at hio
      subst hio
      refine ⟨rfl, ?_⟩
      refine r4_val (v := .pointer (some ⟨b, 0, none⟩)) ?_ ⟨_, rfl, rfl, dbC_other hC (by decide), fun _ _ h => dbI_keep _ _ h⟩
      simp [execOp, Act.eval, b0]
    · simp only [List.getElem?_toArray, List.getElem?_cons_zero, List.getElem?_cons_succ, Option.some.injEq] at hio
      subst hio
      have t23 : a.tmps[23]?.getD undef = .pointer (some ⟨b, 0, none⟩) := by simpa [valOf, dbI] using hdone 3 _ rfl (r4_edge 3 (by kernel_rfl) hdl)
      refine ⟨rfl, ?_⟩
      refine r4_val (v := .pointer (some ⟨b, 0, none⟩)) ?_ ⟨_, rfl, rfl, dbC_other hC (by decide), fun _ _ h => dbI_keep _ _ h⟩
      simp [execOp, Act.eval, t23]
      try go_simp
    · simp only [List.getElem?_toArray, List.getElem?_cons_zero, List.getElem?_cons_succ, Option.some.injEq] at hio
      subst hio
      have t24 : a.tmps[24]?.getD undef = .pointer (some ⟨b, 0, none⟩) := by simpa [valOf, dbI] using hdone 4 _ rfl (r4_edge 4 (by kernel_rfl) hdl)
      refine ⟨rfl, ?_⟩
      refine r4_val (v := .pointer (some ⟨b, 21, none⟩)) ?_ ⟨_, rfl, rfl, dbC_other hC (by decide), fun _ _ h => dbI_keep _ _ h⟩
      simp [execOp, Act.eval, t24]
      try go_simp
    · simp only [List.getElem?_toArray, List.getElem?_cons_zero, List.getElem?_cons_succ, Option.some.injEq] at hio
      subst hio
      have t25 : a.tmps[25]?.getD undef = .pointer (some ⟨b, 21, none⟩) := by simpa [valOf, dbI] using hdone 5 _ rfl (r4_edge 5 (by kernel_rfl) hdl)
      refine ⟨rfl, ?_⟩
      have hl14 : ls.getD 14 true = false := by
        cases hls : ls.getD 14 true with
        | false => rfl
        | true => exact absurd (r4_edge 6 (by kernel_rfl) (hcl 14 _ rfl hls)) (by rw [hun]; decide)
      have hcell := HCE.out.1 W (hC.1 hl14)
      refine r4_val (v := .int .i64 (size : Nat)) ?_ ⟨_, rfl, rfl, dbC_other hC (by decide), fun _ _ h => dbI_keep _ _ h⟩
      simp [execOp, Act.eval, t25]
      go_simp
    · simp only [List.getElem?_toArray, List.getElem?_cons_zero, List.getElem?_cons_succ, Option.some.injEq] at hio
      subst hio
      refine ⟨rfl, ?_⟩
      refine r4_val (v := .pointer (some ⟨b, 0, none⟩)) ?_ ⟨_, rfl, rfl, dbC_other hC (by decide), fun _ _ h => dbI_keep _ _ h⟩
      simp [execOp, Act.eval, b0]
    · simp only [List.getElem?_toArray, List.getElem?_cons_zero, List.getElem?_cons_succ, Option.some.injEq] at hio
      subst hio
      have t27 : a.tmps[27]?.getD undef = .pointer (some ⟨b, 0, none⟩) := by simpa [valOf, dbI] using hdone 7 _ rfl (r4_edge 7 (by kernel_rfl) hdl)
      refine ⟨rfl, ?_⟩
      refine r4_val (v := .pointer (some ⟨b, 0, none⟩)) ?_ ⟨_, rfl, rfl, dbC_other hC (by decide), fun _ _ h => dbI_keep _ _ h⟩
      simp [execOp, Act.eval, t27]
      try go_simp
    · simp only [List.getElem?_toArray, List.getElem?_cons_zero, List.getElem?_cons_succ, Option.some.injEq] at hio
      subst hio
      have t28 : a.tmps[28]?.getD undef = .pointer (some ⟨b, 0, none⟩) := by simpa [valOf, dbI] using hdone 8 _ rfl (r4_edge 8 (by kernel_rfl) hdl)
      refine ⟨rfl, ?_⟩
      refine r4_val (v := .pointer (some ⟨b, 22, none⟩)) ?_ ⟨_, rfl, rfl, dbC_other hC (by decide), fun _ _ h => dbI_keep _ _ h⟩
      simp [execOp, Act.eval, t28]
      try go_simp
    · simp only [List.getElem?_toArray, List.getElem?_cons_zero, List.getElem?_cons_succ, Option.some.injEq] at hio
      subst hio
      have t29 : a.tmps[29]?.getD undef = .pointer (some ⟨b, 22, none⟩) := by simpa [valOf, dbI] using hdone 9 _ rfl (r4_edge 9 (by kernel_rfl) hdl)
      refine ⟨rfl, ?_⟩
      have hl14 : ls.getD 14 true = false := by
        cases hls : ls.getD 14 true with
        | false => rfl
        | true => exact absurd (r4_edge 10 (by kernel_rfl) (hcl 13 _ rfl (r4_edge 13 (by kernel_rfl) (hcl 14 _ rfl hls)))) (by rw [hun]; decide)
      have hcell := HCE.out.2 W (hC.1 hl14)
      refine r4_val (v := .int .i64 (dist : Nat)) ?_ ⟨_, rfl, rfl, dbC_other hC (by decide), fun _ _ h => dbI_keep _ _ h⟩
      simp [execOp, Act.eval, t29]
      go_simp
    · simp only [List.getElem?_toArray, List.getElem?_cons_zero, List.getElem?_cons_succ, Option.some.injEq] at hio
      subst hio
      refine ⟨rfl, ?_⟩
      refine r4_val (v := .int .u64 (N : Nat)) ?_ ⟨_, rfl, rfl, dbC_other hC (by decide), fun _ _ h => dbI_keep _ _ h⟩
      simp [execOp, Act.eval, b3]
    · simp only [List.getElem?_toArray, List.getElem?_cons_zero, List.getElem?_cons_succ, Option.some.injEq] at hio
      subst hio
      have t31 : a.tmps[31]?.getD undef = .int .u64 (N : Nat) := by simpa [valOf, dbI] using hdone 11 _ rfl (r4_edge 11 (by kernel_rfl) hdl)
      refine ⟨rfl, ?_⟩
      refine r4_val (v := .int .i64 (N : Nat)) ?_ ⟨_, rfl, rfl, dbC_other hC (by decide), fun _ _ h => dbI_keep _ _ h⟩
      simp [execOp, Act.eval, t31]
      go_simp
      exact IntWalk.i64_in _ (by omega)
    · simp only [List.getElem?_toArray, List.getElem?_cons_zero, List.getElem?_cons_succ, Option.some.injEq] at hio
      subst hio
      have t30 : a.tmps[30]?.getD undef = .int .i64 (dist : Nat) := by simpa [valOf, dbI] using hdone 10 _ rfl (r4_edge 10 (by kernel_rfl) hdl)
      have t32 : a.tmps[32]?.getD undef = .int .i64 (N : Nat) := by simpa [valOf, dbI] using hdone 12 _ rfl (r4_edge 12 (by kernel_rfl) hdl)
      refine ⟨rfl, ?_⟩
      refine r4_val (v := .int .i64 ((dist : Int) + (N : Int))) ?_ ⟨_, rfl, rfl, dbC_other hC (by decide), fun _ _ h => dbI_keep _ _ h⟩
      simp [execOp, Act.eval, t30, t32]
      go_simp
      exact IntWalk.i64_in _ (by omega)
    · simp only [List.getElem?_toArray, List.getElem?_cons_zero, List.getElem?_cons_succ, Option.some.injEq] at hio
      subst hio
      have t22 : a.tmps[22]?.getD undef = .pointer (some ⟨b, 8, none⟩) := by simpa [valOf, dbI] using hdone 2 _ rfl (r4_edge 2 (by kernel_rfl) hdl)
      have t26 : a.tmps[26]?.getD undef = .int .i64 (size : Nat) := by simpa [valOf, dbI] using hdone 6 _ rfl (r4_edge 6 (by kernel_rfl) hdl)
      have t33 : a.tmps[33]?.getD undef = .int .i64 ((dist : Int) + (N : Int)) := by simpa [valOf, dbI] using hdone 13 _ rfl (r4_edge 13 (by kernel_rfl) hdl)
      refine ⟨rfl, ?_⟩
      refine r4_call (R := fun r W' => r = .tuple #[.string T, .bool true] ∧ WinOut (80, fun i => (decL { s with bits := s.bits.drop s.extra } v5' g' v7 v8 p17 p18)[i]?) w1 W' b 8 v8.ownBlock A) (f := 131) (args := #[.pointer (some ⟨b, 8, none⟩), .int .i64 (size : Nat), .int .i64 ((dist : Int) + (N : Int))]) ?_ ((HC.out W (hC.1 hun)).mono fun e W' h => ⟨_, h.1, (⟨rfl, h.2.from_still (hC.1 hun)⟩ : (_ : Value) = .tuple #[.string T, .bool true] ∧ _)⟩) (fun v W' hw => ⟨_, rfl, hw.1, ⟨(fun e => by rw [getD_set4] at e; simp at e), fun _ => hw.2⟩, fun _ _ h => dbI_keep _ _ h⟩)
      simp [execOp, resolve, invoke, Act.eval, t22, t26, t33]
      try rfl
    · simp only [List.getElem?_toArray, List.getElem?_cons_zero, List.getElem?_cons_succ, Option.some.injEq] at hio
      subst hio
      have t34 : a.tmps[34]?.getD undef = .tuple #[.string T, .bool true] := by simpa [valOf, dbI] using hdone 14 _ rfl (r4_edge 14 (by kernel_rfl) hdl)
      refine ⟨rfl, ?_⟩
      refine r4_val (v := .tuple #[.string T, .bool true]) ?_ ⟨_, rfl, rfl, dbC_other hC (by decide), fun _ _ h => dbI_keep _ _ h⟩
      simp [execOp, Act.eval, t34]
      try go_simp
    · simp only [List.getElem?_toArray, List.getElem?_cons_zero, List.getElem?_cons_succ, Option.some.injEq] at hio
      subst hio
      have t19 : a.tmps[19]?.getD undef = .tuple #[.string T, .bool true] := by simpa [valOf, dbI] using hdone 15 _ rfl (r4_edge 15 (by kernel_rfl) hdl)
      refine ⟨rfl, ?_⟩
      refine r4_val (v := .string T) ?_ ⟨_, rfl, rfl, dbC_other hC (by decide), fun _ _ h => dbI_keep _ _ h⟩
      simp [execOp, Act.eval, t19]
      try go_simp
    · simp only [List.getElem?_toArray, List.getElem?_cons_zero, List.getElem?_cons_succ, Option.some.injEq] at hio
      subst hio
      have t19 : a.tmps[19]?.getD undef = .tuple #[.string T, .bool true] := by simpa [valOf, dbI] using hdone 15 _ rfl (r4_edge 15 (by kernel_rfl) hdl)
      refine ⟨rfl, ?_⟩
      refine r4_val (v := .bool true) ?_ ⟨_, rfl, rfl, dbC_other hC (by decide), fun _ _ h => dbI_keep _ _ h⟩
      simp [execOp, Act.eval, t19]
      try go_simp
    · simp only [List.getElem?_toArray, List.getElem?_cons_zero, List.getElem?_cons_succ, Option.some.injEq] at hio
      subst hio
      have t35 : a.tmps[35]?.getD undef = .string T := by simpa [valOf, dbI] using hdone 16 _ rfl (r4_edge 16 (by kernel_rfl) hdl)
      refine ⟨rfl, ?_⟩
      refine r4_val (v := .string T) ?_ ⟨_, rfl, rfl, dbC_other hC (by decide), fun _ _ h => dbI_keep _ _ h⟩
      simp [execOp, Act.eval, t35]
      try go_simp
    · simp only [List.getElem?_toArray, List.getElem?_cons_zero, List.getElem?_cons_succ, Option.some.injEq] at hio
      subst hio
      have t36 : a.tmps[36]?.getD undef = .bool true := by simpa [valOf, dbI] using hdone 17 _ rfl (r4_edge 17 (by kernel_rfl) hdl)
      refine ⟨rfl, ?_⟩
      refine r4_val (v := .bool true) ?_ ⟨_, rfl, rfl, dbC_other hC (by decide), fun _ _ h => dbI_keep _ _ h⟩
      simp [execOp, Act.eval, t36]
      try go_simp
  · intro ls a W hall hC hbase hdone
    have HW2 := Lib.hid (hC.2 (hall 14 (by decide)))
    have h4 : a.tmps[4]?.getD undef = .bool true := by simpa [valOf, dbI] using hdone 19 _ rfl
    have h5 : a.tmps[5]?.getD undef = .string T := by simpa [valOf, dbI] using hdone 18 _ rfl
    have hact := act_lit hbase [4, 5, 19, 20, 21, 22, 23, 24, 25, 26, 27, 28, 29, 30, 31, 32, 33, 34, 35, 36] (by decide) (by kernel_rfl)
    obtain ⟨v19x, h19⟩ : ∃ v, a.tmps[19]?.getD undef = v := ⟨_, rfl⟩
    obtain ⟨v20x, h20⟩ : ∃ v, a.tmps[20]?.getD undef = v := ⟨_, rfl⟩
    obtain ⟨v21x, h21⟩ : ∃ v, a.tmps[21]?.getD undef = v := ⟨_, rfl⟩
    obtain ⟨v22x, h22⟩ : ∃ v, a.tmps[22]?.getD undef = v := ⟨_, rfl⟩
    obtain ⟨v23x, h23⟩ : ∃ v, a.tmps[23]?.getD undef = v := ⟨_, rfl⟩
    obtain ⟨v24x, h24⟩ : ∃ v, a.tmps[24]?.getD undef = v := ⟨_, rfl⟩
    obtain ⟨v25x, h25⟩ : ∃ v, a.tmps[25]?.getD undef = v := ⟨_, rfl⟩
    obtain ⟨v26x, h26⟩ : ∃ v, a.tmps[26]?.getD undef = v := ⟨_, rfl⟩
    obtain ⟨v27x, h27⟩ : ∃ v, a.tmps[27]?.getD undef = v := ⟨_, rfl⟩
    obtain ⟨v28x, h28⟩ : ∃ v, a.tmps[28]?.getD undef = v := ⟨_, rfl⟩
    obtain ⟨v29x, h29⟩ : ∃ v, a.tmps[29]?.getD undef = v := ⟨_, rfl⟩
    obtain ⟨v30x, h30⟩ : ∃ v, a.tmps[30]?.getD undef = v := ⟨_, rfl⟩
    obtain ⟨v31x, h31⟩ : ∃ v, a.tmps[31]?.getD undef = v := ⟨_, rfl⟩
    obtain ⟨v32x, h32⟩ : ∃ v, a.tmps[32]?.getD undef = v := ⟨_, rfl⟩
    obtain ⟨v33x, h33⟩ : ∃ v, a.tmps[33]?.getD undef = v := ⟨_, rfl⟩
    obtain ⟨v34x, h34⟩ : ∃ v, a.tmps[34]?.getD undef = v := ⟨_, rfl⟩
    obtain ⟨v35x, h35⟩ : ∃ v, a.tmps[35]?.getD undef = v := ⟨_, rfl⟩
    obtain ⟨v36x, h36⟩ : ∃ v, a.tmps[36]?.getD undef = v := ⟨_, rfl⟩
    clear hall hdone hC hbase
    dsimp only [layL, Nat.reduceAdd, Nat.reduceBEq, cond_true, cond_false] at hact
    simp only [h4, h5, h19, h20, h21, h22, h23, h24, h25, h26, h27, h28, h29, h30, h31, h32, h33, h34, h35, h36] at hact
    clear h4 h5 h19 h20 h21 h22 h23 h24 h25 h26 h27 h28 h29 h30 h31 h32 h33 h34 h35 h36
    subst hact
    dsimp only [Exit.inBlock, Exit.then]
    go_upto_region 7 with fail
    obtain ⟨row', hW2, hS2, hT2⟩ := HW2.out
    obtain ⟨v8', hD2, hM2⟩ := HD2.out.1.putw hW2 hS2 hT2 (by rw [HA.out.1, copyL_len]; have := HA.out.2; omega)
    have hM2' : ∀ k, Mut b v5' v7 v8' k → Mut b v5' v7 v8 k ∨ w1.heap.size ≤ k := hM2
    have hT2' : Touch (fun k => k = b ∨ v8.ownBlock = some k) w1 W := hT2
    have c7 : W.cell? ⟨b, 7, none⟩ = some v7 := Block.cell hD2.blk 7
    have f7 := Block.free hD2.blk 7
    have HD3 := Lib.hid (⟨hD2, hM2', hT2'⟩ : _ ∧ _ ∧ _)
    have HBL := Lib.hid hD2.blk.lt
    have HROW : Hid (Row W 5 v7 (byteVs s.out)) := Lib.hid hD2.out
    have HNB : Hid (v7.ownBlock ≠ some b) := Lib.hid hD2.ap.2.1
    have HTL : Hid (T.size ≤ 258) := Lib.hid (by
      rw [HTT.out]
      show (A.drop s.all.length).toArray.size ≤ 258
      rw [List.size_toArray, List.length_drop, HA.out.1, copyL_len]
      have := HA.out.2.1; omega)
    clear hW2 hS2 hT2 hD2 hM2 hM2' hT2' HC HW2
    go_wp2_with (at_builtin; refine wpList_append_row _ rfl (.tmp 43) (.tmp 44) 58 9 rfl 5 i0 _ 1 Tryd.underlying58 hi hz0 hz1 hz2 rfl v7 (byteVs s.out) rfl HROW.out (.string T) rfl T.size (byteCells T) (Src.ofString _ Tryd.underlying9 T) (by rw [byteVs_length]; unfold maxLen; have := HTL.out; have := HA.out.2.2.2.2.1; omega) (by rw [byteVs_length]; have := HTL.out; have := HA.out.2.2.2.2.1; omega) ?_; intro v9 w4 hrow4 hgrow4 hown4; obtain ⟨a9, c9, hv9, hc91, hc92⟩ := hrow4.form; subst hv9; have hB4 : w4.heap[b]? = W.heap[b]? := hgrow4.block b HBL.out (fun e => HNB.out e.symm); have g7 := (World.cell?_of_block (a := ⟨b, 7, none⟩) hB4).trans c7; have e7 := (World.frozen?_of_block (a := ⟨b, 7, none⟩) hB4).trans f7; have hBl4 : Block w4 b 80 _ := hB4.trans HD3.out.1.blk; have m0 : ∀ x, (w4.setCell ⟨b, 7, none⟩ x).cell? ⟨b, 0, none⟩ = some (.int .i64 (s.st : Nat)) := fun x => Block.cell (Block.set hBl4 7 x) 0; have f0 : ∀ x, (w4.setCell ⟨b, 7, none⟩ x).frozen? ⟨b, 0, none⟩ = false := fun x => Block.free (Block.set hBl4 7 x) 0; have HG := Lib.hid (⟨hrow4, hgrow4, hown4⟩ : _ ∧ _ ∧ _); clear hrow4 hgrow4 hown4 hBl4)
    go_ret
    obtain ⟨hg1, hg2, hg3⟩ := HG.out
    rw [List.length_append] at hg1 hg3
    have hT24 : Touch (fun q => v7.ownBlock = some q) W w4 := (Touch.refl (fun q => v7.ownBlock = some q) W).grown hg2 (fun q hq => .inl hq)
    have hTb : T.data.toList = A.drop s.all.length := by rw [HTT.out]
    have hrow : Row w4 5 (.slice a9 ((byteVs s.out).length + (byteCells T).length) c9) (byteVs (s.out ++ A.drop s.all.length)) := by
      rw [byteVs_append, ← hTb]
      exact hg1
    obtain ⟨hD5, hM5⟩ := HD3.out.1.told' hrow (fun q hq => by
      rcases hg3 with e | e
      · exact .inl (by rw [← e]; exact hq)
      · right
        have e9 := e.symm.trans hq
        have h8 := Option.some.inj e9
        rw [← h8]
        exact Nat.le_refl _) hT24 (fun q e => .inl e) (by rw [List.length_append, List.length_drop, HA.out.1, copyL_len]; have := HA.out.2; omega)
    have hT5 : Touch (fun q => v7.ownBlock = some q ∨ q = b) W ((w4.setCell ⟨b, 7, none⟩ (.slice a9 ((byteVs s.out).length + (byteCells T).length) c9)).setCell ⟨b, 0, none⟩ (.int .i64 7)) := ((hT24.mono (fun q e => .inl e)).setCell (p := ⟨b, 7, none⟩) (Or.inl (Or.inr rfl)) _).setCell (p := ⟨b, 0, none⟩) (Or.inl (Or.inr rfl)) _
    have hD6 := hD5.put (s' := { s with bits := s.bits.drop s.extra, all := A, out := s.out ++ A.drop s.all.length, st := 7 }) ((Touch.refl (fun k => k = b) _).setCell (p := ⟨b, 0, none⟩) (Or.inl rfl) (.int .i64 7)) (Block.set hD5.blk 0 _) rfl rfl rfl ⟨rfl, rfl, rfl, rfl, rfl⟩ ⟨hD5.lb.2.2.2.1, hD5.lb.2.2.2.2⟩
    obtain ⟨o1, t1⟩ := own_step (v5' := v5') (v7' := v7) (v8' := v8) HO.out.1 HO.out.2 HD1.out.2 (fun k e => .inl (.inl e)) (fun k e => .inl (mut_same HD2.out.2 e))
    obtain ⟨o2, t2⟩ := own_step (v5' := v5') (v7' := v7) (v8' := v8') o1 t1 HD3.out.2.2 (fun k e => by
      rcases e with e | e
      · exact .inl (.inl e)
      · exact .inl (.inr (.inr (.inr e)))) HD3.out.2.1
    refine ⟨rfl, DecR.step (S := fun q => v7.ownBlock = some q ∨ q = b) o2 t2 hT5 (fun q e => ?_) hM5 hD6⟩
    rcases e with e | e
    · exact .inl (.inr (.inr (.inl e)))
    · exact .inl (.inl e)
end Go.Proofs.YtoaeffinjpkahaaDoor


/- A window inside another struct: Add and Copy, by where the window's row lies. -/
import Derived.Test.YtoaeffinjpkahaaDoorWinB
namespace Go.Proofs.YtoaeffinjpkahaaDoor
set_option linter.unusedSimpArgs false
set_option linter.unusedVariables false
open Go Go.RowKit
set_option maxRecDepth 100000
variable {φ : TypeId × (Nat → Option Value)}

/-- What calls on a window leave: its bytes, its row where it lay or new, and nothing else written. -/
def WinOut (φ : TypeId × (Nat → Option Value)) (w0 w : World) (b o : Nat) (row0 : Option Nat) (all : List UInt8) : Prop :=
  ∃ row, WinAt φ w b o all row ∧ Sep w0.heap.size row0 row ∧ Touch (fun k => k = b ∨ row0 = some k) w0 w
theorem WinOut.still {w0 w w' : World} {b o : Nat} {row0 : Option Nat} {all : List UInt8} (h : WinOut φ w0 w b o row0 all) (ht : Touch (fun _ => False) w w') : WinOut φ w0 w' b o row0 all := by
  obtain ⟨row, h1, h2, h3⟩ := h
  exact ⟨row, h1.still ht, h2, h3.trans (ht.mono (fun _ e => e.elim))⟩
theorem WinOut.put {w0 w w' : World} {b o : Nat} {row0 row row' : Option Nat} {all : List UInt8} (h2 : Sep w0.heap.size row0 row) (h3 : Touch (fun k => k = b ∨ row0 = some k) w0 w) (k1 : WinAt φ w' b o all row') (k2 : Sep w.heap.size row row') (k3 : Touch (fun k => k = b ∨ row = some k) w w') : WinOut φ w0 w' b o row0 all :=
  ⟨row', k1, h2.trans k2 h3.size, Sep.touch h3 h2 k3⟩

set_option maxHeartbeats 400000 in
theorem add_win (b o : Nat) (s : ByteArray) (all : List UInt8) (row0 : Option Nat) (w0 : World) (h0 : WinAt φ w0 b o all row0) (hl : all.length + s.size < 1099511627776) :
    Calls Tryd.prog 124 #[.pointer (some ⟨b, o, none⟩), .string s] w0 fun e w' => e = .returned (.tuple #[]) ∧ WinOut φ w0 w' b o row0 (all ++ s.data.toList) := by
  have h : WinOut φ w0 w0 b o row0 all := ⟨row0, h0, Sep.refl _ _, Touch.refl _ _⟩
  clear h0
  go_enter Tryd.func124, Tryd.ntmps124
  go_wp2_with fail
  have HL := Lib.hid hl
  clear hl
  go_loopw [4, 7] (fun _ i wr => WinOut φ w0 wr b o row0 (all ++ s.data.toList.take (intOf i).toNat) ∧ ∃ k : Nat, k ≤ s.size ∧ i = .int .i64 (k : Nat)) (fun _ i _ => s.size - (intOf i).toNat)
  case atStart => exact ⟨by simpa [intOf] using h, 0, Nat.zero_le _, rfl⟩
  case round =>
    clear h
    obtain ⟨h, k, hk, rfl⟩ := hrel
    rw [show (intOf (Value.int .i64 (k : Nat))).toNat = k by simp [intOf]] at h
    by_cases hlt : k < s.size
    · have hks : k < s.data.toList.length := by rw [data_length]; exact hlt
      obtain ⟨row, hw1, hw2, hw3⟩ := h
      have hput := put_calls b o s[k] (all ++ s.data.toList.take k) row wr hw1 (by have := HL.out; rw [List.length_append, List.length_take]; omega)
      rw [List.append_assoc, show s.data.toList.take k ++ [s[k]] = s.data.toList.take (k + 1) from List.take_append_getElem hks] at hput
      have HP := Lib.hid hput
      have HW := Lib.hid (⟨hw2, hw3⟩ : _ ∧ _)
      have hc := s[k].toNat_lt
      clear hput hw1 hw2 hw3
      go_wp2_with (go_at_call 128; refine HP.out.mono ?_; rintro e w1 ⟨rfl, row1, h1, h2, h3⟩; have H1 := Lib.hid (WinOut.put HW.out.1 HW.out.2 h1 h2 h3); clear h1 h2 h3)
      have hw : wrap64 ((k : Int) + 1) = ((k + 1 : Nat) : Int) := by have := HL.out; unfold wrap64; omega
      go_roundw
      case rel =>
        rw [hw]
        exact ⟨by rw [show (intOf (Value.int .i64 ((k + 1 : Nat) : Int))).toNat = k + 1 by simp [intOf]]; exact H1.out, k + 1, by omega, rfl⟩
      case measure =>
        rw [hw]
        simp [intOf]; omega
    · obtain rfl : k = s.size := by omega
      rw [List.take_of_length_le (Nat.le_of_eq (data_length s))] at h
      go_wp2_with fail
      go_end0
      exact ⟨rfl, h⟩
set_option maxHeartbeats 800000 in
theorem copy_win (b o n d : Nat) (all : List UInt8) (row0 : Option Nat) (w0 : World) (h : WinAt φ w0 b o all row0) (hn : n ≤ 258) (h1 : 1 ≤ d) (h2 : d ≤ min all.length 32768) (hl : all.length < 549755813888) :
    Calls Tryd.prog 131 #[.pointer (some ⟨b, o, none⟩), .int .i64 n, .int .i64 d] w0 fun e w' => e = .returned (.tuple #[.string ⟨((copyL n d all).drop all.length).toArray⟩, .bool true]) ∧ WinOut φ w0 w' b o row0 (copyL n d all) := by
  have hW := h
  have HH := Lib.hid (fun W (ht : Touch (fun _ => False) w0 W) => has_calls b o all row0 d W (hW.still ht))
  have hd : decide (1 ≤ (d : Int) ∧ (d : Int) ≤ (min all.length 32768 : Nat)) = true := decide_eq_true (by omega)
  rw [hd] at HH
  have HFR := Lib.hid (show WinOut φ w0 w0 b o row0 all from ⟨row0, hW, Sep.refl _ _, Touch.refl _ _⟩)
  have H2 := Lib.hid h2
  have HL := Lib.hid hl
  obtain ⟨i0, hi, hz0, hz1, hz2⟩ := info_parts Tryd.infoB
  have hbl : b < w0.heap.size := hW.lt
  have hrl0 := hW.rowlt
  clear hd hW h h2 hl
  go_enter Tryd.func131, Tryd.ntmps131
  have e1 : decide ((n : Int) < 0) = false := decide_eq_false (by omega)
  have e2 : decide (258 < (n : Int)) = false := decide_eq_false (by omega)
  go_wp2_with (go_at_call 149; refine (HH.out _ (by first | exact Touch.refl _ _ | exact (Touch.refl _ _).drew)).mono ?_; rintro e w1 ⟨rfl, ht1⟩)
  rw [run_make w1 58 5 i0 _ Tryd.underlying58 hi hz0 .i64 .i64 (n : Int) (n : Int) (by omega) (by omega) (by rw [hz2]; omega) (by omega), hz1, Int.toNat_natCast, Nat.mul_one]
  have hF1 := HFR.out.still ht1
  have hG1 : w0.heap.size ≤ w1.heap.size := ht1.size
  have hrow : Row (w1.alloc (.cells (madeCells (Value.cells (.int .u8 0)) n) 5)) 5 (.slice (some ⟨w1.heap.size, 0, none⟩) n n) (byteVs (List.replicate n 0)) := by
    refine .inr ⟨w1.heap.size, 0, n, _, by simp [byteVs], heap_alloc_new w1 _, by simp [byteVs], by unfold maxLen; omega, ?_, ?_⟩
    · rw [size_madeCells]; omega
    · rw [made_zero]
      simp
  have hF2 := hF1.still ((Touch.refl _ w1).alloc (.cells (madeCells (Value.cells (.int .u8 0)) n) 5))
  have hbG : b < w1.heap.size := Nat.lt_of_lt_of_le hbl ht1.size
  obtain ⟨row1, hW1, hS1, hT1⟩ := hF1
  have hrl := hW1.rowlt
  have hW2 := hW1.still ((Touch.refl _ w1).alloc (.cells (madeCells (Value.cells (.int .u8 0)) n) 5))
  have hT2 := hT1.alloc (.cells (madeCells (Value.cells (.int .u8 0)) n) 5)
  have hGl : w1.heap.size < (w1.alloc (.cells (madeCells (Value.cells (.int .u8 0)) n) 5)).heap.size := by simp
  generalize w1.alloc (.cells (madeCells (Value.cells (.int .u8 0)) n) 5) = w2 at hrow hW2 hT2 hGl ⊢
  generalize w1.heap.size = G at hrow hG1 hbG hrl hGl ⊢
  clear hF2 hW1 hT1 ht1 HFR HH hi hz0 hz1 hz2
  go_wp2_with fail
  go_loopw [9, 25] (fun _ i wr => ∃ (k : Nat) (row' : Option Nat), k ≤ n ∧ i = .int .i64 (k : Nat) ∧ WinAt φ wr b o (copyL k d all) row' ∧ row' ≠ some G ∧ Sep w0.heap.size row0 row' ∧ Row wr 5 (.slice (some ⟨G, 0, none⟩) n n) (byteVs ((copyL k d all).drop all.length ++ List.replicate (n - k) 0)) ∧ G < wr.heap.size ∧ Touch (fun k => k = b ∨ row0 = some k) w0 wr) (fun _ i _ => n - (intOf i).toNat)
  case atStart => exact ⟨0, row1, Nat.zero_le _, rfl, hW2, fun e => by have := hrl G e; omega, hS1, by simpa [copyL] using hrow, hGl, hT2⟩
  case round =>
    clear hrow hW2 hS1 hT2 hrl hGl
    obtain ⟨k, row', hk, rfl, hW, hrG, hS1, hrow, hGl, hT⟩ := hrel
    have hlX := copyL_length k d all
    have hsn := copyL_snoc k d all
    by_cases hlt : k < n
    · have hat := Lib.hid (fun W (ht : Touch (fun _ => False) wr W) => at_calls b o d (copyL k d all) row' W (hW.still ht) h1 (by have := H2.out; omega) (by have := HL.out; omega))
      have hset := copied_set all (copyL k d all) n k ((copyL k d all).getD ((copyL k d all).length - d) 0) hlt hlX
      rw [← hsn] at hset
      have HSET := Lib.hid hset
      have HSN := Lib.hid hsn
      have HLX := Lib.hid hlX
      clear hset hsn hlX
      generalize copyL k d all = X at *
      generalize X.getD (X.length - d) 0 = y at *
      have hcell := (Row.cells hrow).2 k (.int .u8 (((X.drop all.length ++ List.replicate (n - k) (0 : UInt8)).getD k 0).toNat : Nat)) (by
        have hll : k < (X.drop all.length ++ List.replicate (n - k) (0 : UInt8)).length := by have := HLX.out; simp; omega
        simp only [byteVs, List.getElem?_map]
        rw [List.getElem?_eq_getElem hll]
        simp only [List.getD, List.getElem?_eq_getElem hll]
        rfl)
      have hfree : wr.frozen? ⟨G, 0 + k, none⟩ = false := Row.free hrow
      rw [Nat.zero_add] at hcell hfree
      have hk0 : (0 : Int) ≤ (k : Int) := by omega
      have hk1 : (k : Int) < (n : Int) := by omega
      go_wp2_with (go_at_call 150; refine (hat.out _ (by first | exact Touch.refl _ _ | exact (Touch.refl _ _).drew)).mono ?_; rintro e w3 ⟨rfl, ht3⟩; have g0 := ht3.cell hcell id; have g1 := (ht3.frozen hGl id).trans hfree)
      have hGl3 : G < w3.heap.size := Nat.lt_of_lt_of_le hGl ht3.size
      have hTs : Touch (fun k => k = G) w3 (w3.setCell ⟨G, k, none⟩ (.int .u8 (y.toNat : Nat))) := (Touch.refl (fun k => k = G) w3).setCell (p := ⟨G, k, none⟩) (Or.inl rfl) _
      have hW4 := (hW.still ht3).kept hTs (fun e => by omega) (fun g hg e => hrG (by rw [hg, e]))
      have hr4 := Row.set (k := k) (hrow.kept ht3 (fun _ _ => id)) hlt (.int .u8 (y.toNat : Nat))
      rw [Nat.zero_add, byteVs_set, HSET.out] at hr4
      have hT4 : Touch (fun k => k = b ∨ row0 = some k) w0 (w3.setCell ⟨G, k, none⟩ (.int .u8 (y.toNat : Nat))) := (hT.trans (ht3.mono (fun _ e => e.elim))).setCell (.inr hG1) _
      have hGl4 : G < (w3.setCell ⟨G, k, none⟩ (.int .u8 (y.toNat : Nat))).heap.size := Nat.lt_of_lt_of_le hGl3 hTs.size
      generalize w3.setCell ⟨G, k, none⟩ (.int .u8 (y.toNat : Nat)) = w4 at hW4 hr4 hT4 hGl4 ⊢
      clear hTs hW hrow hat hcell hfree g0 g1 hT HSET ht3
      refine (put_calls b o y X row' w4 hW4 (by have := HLX.out; have := HL.out; omega)).mono ?_
      rintro e w5 ⟨rfl, row5, hW5, hs5, ht5⟩
      rw [← HSN.out] at hW5
      have hr5 := hr4.kept ht5 (fun g hg e => by
        have hgG : G = g := Option.some.inj hg
        rcases e with e | e
        · omega
        · exact hrG (by rw [e, hgG]))
      have hT5 := Sep.touch hT4 hS1 ht5
      have hS5 := hS1.trans hs5 hT4.size
      have hrG5 := Sep.ne hs5 hrG hGl4
      have hGl5 : G < w5.heap.size := Nat.lt_of_lt_of_le hGl4 ht5.size
      clear hW4 hr4 hT4 hs5 ht5 hS1 hrG
      go_wp2_with fail
      go_roundw
      case rel => exact ⟨k + 1, row5, by omega, by go_num, hW5, hrG5, hS5, hr5, hGl5, hT5⟩
      case measure => simp [intOf]; omega
    · obtain rfl : k = n := by omega
      rw [Nat.sub_self, List.replicate_zero, List.append_nil] at hrow
      have hll : ((copyL k d all).drop all.length).length = k := by rw [List.length_drop, hlX]; omega
      have hcv := run_bytes_row (P := Tryd.prog) wr 58 5 9 Tryd.underlying58 Tryd.underlying5 Tryd.underlying9 hrow
      have HFR : RowKit.Hid (WinOut φ w0 wr b o row0 (copyL k d all)) := Lib.hid ⟨row', hW, hS1, hT⟩
      clear hW hrow hsn hlX hll
      go_wp2_with fail
      go_ret2
      exact ⟨rfl, HFR.out⟩
theorem copy_bad (b o : Nat) (n d : Int) (all : List UInt8) (row0 : Option Nat) (w : World) (h : WinAt φ w b o all row0) (h1 : n < 0 ∨ 258 < n ∨ d < 1 ∨ (min all.length 32768 : Nat) < d) :
    Calls Tryd.prog 131 #[.pointer (some ⟨b, o, none⟩), .int .i64 n, .int .i64 d] w fun e w' => e = .returned (.tuple #[.string ⟨#[]⟩, .bool false]) ∧ Touch (fun _ => False) w w' := by
  have hW := h
  have HH := Lib.hid (fun W (ht : Touch (fun _ => False) w W) => has_calls b o all row0 d W (hW.still ht))
  by_cases hn : n < 0
  · clear h1 hW h
    go_enter Tryd.func131, Tryd.ntmps131
    go_wp2_with fail
    go_ret2
    exact ⟨rfl, Touch.refl _ _⟩
  · by_cases hn2 : 258 < n
    · clear h1 hW h
      go_enter Tryd.func131, Tryd.ntmps131
      go_wp2_with fail
      go_ret2
      exact ⟨rfl, Touch.refl _ _⟩
    · have hd : decide (1 ≤ d ∧ d ≤ (min all.length 32768 : Nat)) = false := decide_eq_false (by omega)
      rw [hd] at HH
      have e1 : decide (n < 0) = false := decide_eq_false hn
      have e2 : decide (258 < n) = false := decide_eq_false hn2
      clear h1 hd hW h
      go_enter Tryd.func131, Tryd.ntmps131
      go_wp2_with (go_at_call 149; refine (HH.out _ (by first | exact Touch.refl _ _ | exact (Touch.refl _ _).drew)).mono ?_; rintro e w1 ⟨rfl, ht1⟩)
      go_ret2
      exact ⟨rfl, ht1⟩
end Go.Proofs.YtoaeffinjpkahaaDoor

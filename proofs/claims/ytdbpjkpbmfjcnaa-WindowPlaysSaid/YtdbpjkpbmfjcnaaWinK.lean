/- Contract of package window's Copy over the translated program that tells, besides, which blocks are left as they were. -/
import Derived.Test.YtdbpjkpbmfjcnaaWinC
namespace Go.Proofs.Ytdbpjkpbmfjcnaa
open Go Go.RowKit
set_option maxRecDepth 100000

set_option maxHeartbeats 800000 in
theorem copy_keep (b n d : Nat) (all : List UInt8) (row : Option Nat) (w0 w : World) (hW : WinAt w b 0 all row) (hW2 : w0.heap.size ≤ b) (hW3 : ∀ g, row = some g → w0.heap.size ≤ g) (hW4 : Touch (fun _ => False) w0 w) (hn : n ≤ 258) (h1 : 1 ≤ d) (h2 : d ≤ min all.length 32768) (hl : all.length < 549755813888) :
    Calls Try.prog 37 #[.pointer (some ⟨b, 0, none⟩), .int .i64 n, .int .i64 d] w fun e w' => e = .returned (.tuple #[.string ⟨((copyL n d all).drop all.length).toArray⟩, .bool true]) ∧ FrW w0 w' b (copyL n d all) ∧ Touch (fun k => k = b ∨ row = some k) w w' := by
  have HH := Lib.hid (fun W (ht : Touch (fun _ => False) w W) => has_calls b 0 all row d W (hW.still ht))
  have hd : decide (1 ≤ (d : Int) ∧ (d : Int) ≤ (min all.length 32768 : Nat)) = true := decide_eq_true (by omega)
  rw [hd] at HH
  have HW0 := Lib.hid hW
  have HW2 := Lib.hid hW2
  have HW3 := Lib.hid hW3
  have HW4 := Lib.hid hW4
  have H2 := Lib.hid h2
  have HL := Lib.hid hl
  obtain ⟨i0, hi, hz0, hz1, hz2⟩ := info_parts Try.infoB
  clear hd hW hW2 hW3 hW4 h2 hl
  go_enter Try.func37, Try.ntmps37
  have e1 : decide ((n : Int) < 0) = false := decide_eq_false (by omega)
  have e2 : decide (258 < (n : Int)) = false := decide_eq_false (by omega)
  go_wp2_with (go_at_call 63; refine (HH.out _ (by first | exact Touch.refl _ _ | exact (Touch.refl _ _).drew)).mono ?_; rintro e w1 ⟨rfl, ht1⟩)
  rw [run_make w1 64 5 i0 _ Try.underlying64 hi hz0 .i64 .i64 (n : Int) (n : Int) (by omega) (by omega) (by rw [hz2]; omega) (by omega), hz1, Int.toNat_natCast, Nat.mul_one]
  have hG1 : w0.heap.size ≤ w1.heap.size := Nat.le_trans HW4.out.size ht1.size
  have hGw : w.heap.size ≤ w1.heap.size := ht1.size
  have hrow : Row (w1.alloc (.cells (madeCells (Value.cells (.int .u8 0)) n) 5)) 5 (.slice (some ⟨w1.heap.size, 0, none⟩) n n) (byteVs (List.replicate n 0)) := by
    refine .inr ⟨w1.heap.size, 0, n, _, by simp [byteVs], heap_alloc_new w1 _, by simp [byteVs], by unfold maxLen; omega, ?_, ?_⟩
    · rw [size_madeCells]; omega
    · rw [made_zero]
      simp
  have hbG : b < w1.heap.size := (HW0.out.still ht1).lt
  have hW1 := HW0.out.still ht1
  have hb1 := HW2.out
  have hr1 := HW3.out
  have hT1 := HW4.out.trans ht1
  have hrl := hW1.rowlt
  have hW2 := hW1.still ((Touch.refl _ w1).alloc (.cells (madeCells (Value.cells (.int .u8 0)) n) 5))
  have hT2 := hT1.alloc (.cells (madeCells (Value.cells (.int .u8 0)) n) 5)
  have hK2 : Touch (fun k => k = b ∨ row = some k) w (w1.alloc (.cells (madeCells (Value.cells (.int .u8 0)) n) 5)) := (ht1.mono (fun _ h => h.elim)).alloc _
  have hGl : w1.heap.size < (w1.alloc (.cells (madeCells (Value.cells (.int .u8 0)) n) 5)).heap.size := by simp
  generalize w1.alloc (.cells (madeCells (Value.cells (.int .u8 0)) n) 5) = w2 at hrow hW2 hT2 hK2 hGl ⊢
  generalize w1.heap.size = G at hrow hG1 hGw hbG hrl hGl ⊢
  clear hW1 hT1 ht1 HW0 HW2 HW3 HW4 HH hi hz0 hz1 hz2
  go_wp2_with fail
  go_loopw [9, 25] (fun _ i wr => ∃ (k : Nat) (row' : Option Nat), k ≤ n ∧ i = .int .i64 (k : Nat) ∧ WinAt wr b 0 (copyL k d all) row' ∧ row' ≠ some G ∧ (∀ g, row' = some g → w0.heap.size ≤ g) ∧ Row wr 5 (.slice (some ⟨G, 0, none⟩) n n) (byteVs ((copyL k d all).drop all.length ++ List.replicate (n - k) 0)) ∧ G < wr.heap.size ∧ Touch (fun _ => False) w0 wr ∧ Sep w.heap.size row row' ∧ Touch (fun k => k = b ∨ row = some k) w wr) (fun _ i _ => n - (intOf i).toNat)
  case atStart => exact ⟨0, row, Nat.zero_le _, rfl, hW2, fun e => by have := hrl G e; omega, hr1, by simpa [copyL] using hrow, hGl, hT2, Sep.refl _ _, hK2⟩
  case round =>
    clear hrow hW2 hr1 hT2 hrl hGl hK2
    obtain ⟨k, row', hk, rfl, hW, hrG, hr1, hrow, hGl, hT, hSP, hK⟩ := hrel
    have hlX := copyL_length k d all
    have hsn := copyL_snoc k d all
    by_cases hlt : k < n
    · have hat := Lib.hid (fun W (ht : Touch (fun _ => False) wr W) => at_calls b 0 d (copyL k d all) row' W (hW.still ht) h1 (by have := H2.out; omega) (by have := HL.out; omega))
      have hset := copied_set all (copyL k d all) n k ((copyL k d all).getD ((copyL k d all).length - d) 0) hlt hlX
      rw [← hsn] at hset
      have HSET := Lib.hid hset
      have HSN := Lib.hid hsn
      have HLX := Lib.hid hlX
      clear hset hsn hlX
      generalize copyL k d all = X at *
      generalize X.getD (X.length - d) 0 = y at *
      have hcell := (Row.cells hrow).2 k (.int .u8 (((X.drop all.length ++ List.replicate (n - k) (0 : UInt8)).getD k 0).toNat : Nat)) (by
        have hll : k < (X.drop all.length ++ List.replicate (n - k) (0 : UInt8)).length := by have := HLX.out; simp; omega
        simp only [byteVs, List.getElem?_map]
        rw [List.getElem?_eq_getElem hll]
        simp only [List.getD, List.getElem?_eq_getElem hll]
        rfl)
      have hfree : wr.frozen? ⟨G, 0 + k, none⟩ = false := Row.free hrow
      rw [Nat.zero_add] at hcell hfree
      have hk0 : (0 : Int) ≤ (k : Int) := by omega
      have hk1 : (k : Int) < (n : Int) := by omega
      go_wp2_with (go_at_call 64; refine (hat.out _ (by first | exact Touch.refl _ _ | exact (Touch.refl _ _).drew)).mono ?_; rintro e w3 ⟨rfl, ht3⟩; have g0 := ht3.cell hcell id; have g1 := (ht3.frozen hGl id).trans hfree)
      have hGl3 : G < w3.heap.size := Nat.lt_of_lt_of_le hGl ht3.size
      have hTs : Touch (fun k => k = G) w3 (w3.setCell ⟨G, k, none⟩ (.int .u8 (y.toNat : Nat))) := (Touch.refl (fun k => k = G) w3).setCell (p := ⟨G, k, none⟩) (Or.inl rfl) _
      have hW4 := (hW.still ht3).kept hTs (fun e => by omega) (fun g hg e => hrG (by rw [hg, e]))
      have hr4 := Row.set (k := k) (hrow.kept ht3 (fun _ _ => id)) hlt (.int .u8 (y.toNat : Nat))
      rw [Nat.zero_add, byteVs_set, HSET.out] at hr4
      have hT4 : Touch (fun _ => False) w0 (w3.setCell ⟨G, k, none⟩ (.int .u8 (y.toNat : Nat))) := (hT.trans ht3).setCell (.inr hG1) _
      have hK4 : Touch (fun k => k = b ∨ row = some k) w (w3.setCell ⟨G, k, none⟩ (.int .u8 (y.toNat : Nat))) := (hK.trans (ht3.mono (fun _ h => h.elim))).setCell (.inr hGw) _
      have hGl4 : G < (w3.setCell ⟨G, k, none⟩ (.int .u8 (y.toNat : Nat))).heap.size := Nat.lt_of_lt_of_le hGl3 hTs.size
      generalize w3.setCell ⟨G, k, none⟩ (.int .u8 (y.toNat : Nat)) = w4 at hW4 hr4 hT4 hGl4 hK4 ⊢
      clear hTs hW hrow hat hcell hfree g0 g1 hT HSET ht3 hK
      refine (put_calls b 0 y X row' w4 hW4 (by have := HLX.out; have := HL.out; omega)).mono ?_
      rintro e w5 ⟨rfl, row5, hW5, hs5, ht5⟩
      rw [← HSN.out] at hW5
      have hr5 := hr4.kept ht5 (fun g hg e => by
        have hgG : G = g := Option.some.inj hg
        rcases e with e | e
        · omega
        · exact hrG (by rw [e, hgG]))
      have hT5 : Touch (fun _ => False) w0 w5 := hT4.trans' ht5 (fun i hi => .inr (by
        rcases hi with rfl | hi
        · exact hb1
        · exact hr1 i hi))
      have hK5 := Sep.touch hK4 hSP ht5
      have hSP5 := Sep.trans hSP hs5 hK4.size
      have hrG5 := Sep.ne hs5 hrG hGl4
      have hGl5 : G < w5.heap.size := Nat.lt_of_lt_of_le hGl4 ht5.size
      have hr15 : ∀ g, row5 = some g → w0.heap.size ≤ g := by
        intro g hg
        rcases hs5 with h | ⟨g', h, hge⟩
        · exact hr1 g (by rw [← h, hg])
        · rw [hg] at h
          have := Option.some.inj h
          have := hT4.size
          omega
      clear hW4 hr4 hT4 hs5 ht5 hr1 hrG hK4 hSP
      go_wp2_with fail
      go_roundw
      case rel => exact ⟨k + 1, row5, by omega, by go_num, hW5, hrG5, hr15, hr5, hGl5, hT5, hSP5, hK5⟩
      case measure => simp [intOf]; omega
    · obtain rfl : k = n := by omega
      rw [Nat.sub_self, List.replicate_zero, List.append_nil] at hrow
      have hll : ((copyL k d all).drop all.length).length = k := by rw [List.length_drop, hlX]; omega
      have hcv := run_bytes_row (P := Try.prog) wr 64 5 9 Try.underlying64 Try.underlying5 Try.underlying9 hrow
      have HFR : RowKit.Hid (FrW w0 wr b (copyL k d all)) := Lib.hid ⟨row', hW, hb1, hr1, hT⟩
      have HK := Lib.hid hK
      clear hW hrow hsn hlX hll hK hSP
      go_wp2_with fail
      go_ret2
      exact ⟨rfl, HFR.out, HK.out⟩
end Go.Proofs.Ytdbpjkpbmfjcnaa

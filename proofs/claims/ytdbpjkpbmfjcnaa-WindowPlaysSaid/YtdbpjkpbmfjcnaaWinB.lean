/- Contracts of package window over the translated program, what is told and copied. -/
import Derived.Test.YtdbpjkpbmfjcnaaWinA
import Derived.Laws.BytesString
namespace Go.Proofs.Ytdbpjkpbmfjcnaa
open Go Go.RowKit
set_option maxRecDepth 100000

theorem ring_at {R all : List UInt8} (h : RingOf R all) {d : Nat} (h1 : 1 ≤ d) (h2 : d ≤ min all.length 32768) : (all.length - d) % 32768 < R.length ∧ R[(all.length - d) % 32768]? = some (all.getD (all.length - d) 0) := by
  obtain ⟨h3, h4⟩ := h
  have h5 := h4 (all.length - d) (by omega) (by omega)
  have h6 : all[all.length - d]? = some (all.getD (all.length - d) 0) := by
    rw [List.getElem?_eq_getElem (by omega)]
    simp [List.getD, List.getElem?_eq_getElem (show all.length - d < all.length by omega)]
  rw [h6] at h5
  exact ⟨(List.getElem?_eq_some_iff.1 h5).1, h5⟩

set_option maxHeartbeats 400000 in
theorem at_drew (b o d : Nat) (all : List UInt8) (row : Option Nat) (w : World) (h : WinAt w b o all row) (h1 : 1 ≤ d) (h2 : d ≤ min all.length 32768) (hl : all.length < 1099511627776) :
    Calls Try.prog 64 #[.pointer (some ⟨b, o, none⟩), .int .i64 d] w fun e w' => e = .returned (.int .u8 ((all.getD (all.length - d) 0).toNat : Nat)) ∧ w' = w.drew := by
  obtain ⟨R, v, ⟨c0, c1, f0, f1⟩, hrow, hap, rfl, hR⟩ := h
  obtain ⟨hq1, hq2⟩ := ring_at hR h1 h2
  obtain ⟨q, hq⟩ : ∃ q, q = (all.length - d) % 32768 := ⟨_, rfl⟩
  rw [← hq] at hq1 hq2
  obtain ⟨a, cap, hv, hc1, hc2⟩ := hrow.form
  rw [byteVs_length] at hv
  obtain ⟨g, off, hga⟩ : ∃ g off, a = some ⟨g, off, none⟩ := by
    rcases hrow with ⟨e1, e2⟩ | ⟨g, off, cap', cur, e1, _⟩
    · rw [hv] at e1; injection e1 with _ e1; omega
    · rw [hv] at e1; injection e1 with e1; exact ⟨g, off, e1⟩
  subst hga
  subst hv
  have hcell := (Row.cells hrow).2 q (.int .u8 ((all.getD (all.length - d) 0).toNat : Nat)) (by simp only [byteVs, List.getElem?_map, hq2]; rfl)
  obtain ⟨t, ht⟩ : ∃ t : Nat, (all.length : Int) - (d : Int) = t := ⟨all.length - d, by omega⟩
  have hqi : (t : Int) % 32768 = (q : Nat) := by omega
  have hqi2 : (t : Int).tmod 32768 = (q : Nat) := by rw [Int.tmod_eq_emod_of_nonneg (by omega)]; exact hqi
  have hq3 : (q : Int) < (R.length : Int) := by omega
  have hq4 : (0 : Int) ≤ (q : Int) := by omega
  have hw : wrap64 (t : Int) = t := by unfold wrap64; omega
  generalize (all.getD (all.length - d) 0).toNat = y at hcell ⊢
  have HL := Lib.hid hl
  clear hR hq hq2 h2 hc1 hc2 hl
  go_enter Try.func64, Try.ntmps64
  go_wp2
  go_region
  go_wp2
  go_ret
  exact ⟨rfl, rfl⟩

theorem at_calls (b o d : Nat) (all : List UInt8) (row : Option Nat) (w : World) (h : WinAt w b o all row) (h1 : 1 ≤ d) (h2 : d ≤ min all.length 32768) (hl : all.length < 1099511627776) :
    Calls Try.prog 64 #[.pointer (some ⟨b, o, none⟩), .int .i64 d] w fun e w' => e = .returned (.int .u8 ((all.getD (all.length - d) 0).toNat : Nat)) ∧ Touch (fun _ => False) w w' :=
  (at_drew b o d all row w h h1 h2 hl).mono fun e w' ⟨he, hw⟩ => ⟨he, by rw [hw]; exact (Touch.refl _ _).drew⟩

/-- A window that the caller made: its blocks are new since a world, and nothing that was there then has changed. -/
def FrW (w0 w : World) (b : Nat) (all : List UInt8) : Prop :=
  ∃ row, WinAt w b 0 all row ∧ w0.heap.size ≤ b ∧ (∀ g, row = some g → w0.heap.size ≤ g) ∧ Touch (fun _ => False) w0 w
theorem FrW.still {w0 w w' : World} {b : Nat} {all : List UInt8} (h : FrW w0 w b all) (ht : Touch (fun _ => False) w w') : FrW w0 w' b all := by
  obtain ⟨row, h1, h2, h3, h4⟩ := h
  exact ⟨row, h1.still ht, h2, h3, h4.trans ht⟩
theorem FrW.touch {w0 w : World} {b : Nat} {all : List UInt8} (h : FrW w0 w b all) : Touch (fun _ => False) w0 w := by
  obtain ⟨row, h1, h2, h3, h4⟩ := h
  exact h4
theorem FrW.lt {w0 w : World} {b : Nat} {all : List UInt8} (h : FrW w0 w b all) : b < w.heap.size := by
  obtain ⟨row, h1, _⟩ := h
  exact h1.lt

theorem put_fr (w0 : World) (b : Nat) (c : UInt8) (all : List UInt8) (w : World) (h : FrW w0 w b all) (hl : all.length < 1099511627776) :
    Calls Try.prog 36 #[.pointer (some ⟨b, 0, none⟩), .int .u8 (c.toNat : Nat)] w fun e w' => e = .returned (.tuple #[]) ∧ FrW w0 w' b (all ++ [c]) := by
  obtain ⟨row, h1, h2, h3, h4⟩ := h
  refine (put_calls b 0 c all row w h1 hl).mono ?_
  rintro e w' ⟨rfl, row', h5, hs, ht⟩
  have hT : Touch (fun _ => False) w0 w' := h4.trans' ht (fun i hi => .inr (by
    rcases hi with rfl | hi
    · exact h2
    · exact h3 i hi))
  refine ⟨rfl, row', h5, h2, fun g hg => ?_, hT⟩
  rcases hs with rfl | ⟨g', hg', hge⟩
  · exact h3 g hg
  · rw [hg] at hg'
    have := Option.some.inj hg'
    have := h4.size
    omega

set_option maxHeartbeats 400000 in
theorem back_in (b d : Nat) (all : List UInt8) (w0 w : World) (h : FrW w0 w b all) (h1 : 1 ≤ d) (h2 : d ≤ min all.length 32768) (hl : all.length < 1099511627776) :
    Calls Try.prog 39 #[.pointer (some ⟨b, 0, none⟩), .int .i64 d] w fun e w' => e = .returned (.tuple #[.int .u8 ((all.getD (all.length - d) 0).toNat : Nat), .bool true]) ∧ Touch (fun _ => False) w w' := by
  obtain ⟨row, hW, _, _, _⟩ := h
  have HH := Lib.hid (has_calls b 0 all row d w hW)
  have hd : decide (1 ≤ (d : Int) ∧ (d : Int) ≤ (min all.length 32768 : Nat)) = true := decide_eq_true (by omega)
  rw [hd] at HH
  have HA := Lib.hid (fun W (ht : Touch (fun _ => False) w W) => at_calls b 0 d all row W (hW.still ht) h1 h2 hl)
  clear hd h2 hl hW
  go_enter Try.func39, Try.ntmps39
  go_wp2_with (first
    | (go_at_call 63; refine HH.out.mono ?_; rintro e w1 ⟨rfl, ht1⟩)
    | (go_at_call 64; refine (HA.out _ ht1).mono ?_; rintro e w2 ⟨rfl, ht2⟩))
  go_ret2
  exact ⟨rfl, ht1.trans ht2⟩
theorem back_out (b : Nat) (d : Int) (all : List UInt8) (w0 w : World) (h : FrW w0 w b all) (h1 : d < 1 ∨ (min all.length 32768 : Nat) < d) :
    Calls Try.prog 39 #[.pointer (some ⟨b, 0, none⟩), .int .i64 d] w fun e w' => e = .returned (.tuple #[.int .u8 0, .bool false]) ∧ Touch (fun _ => False) w w' := by
  obtain ⟨row, hW, _, _, _⟩ := h
  have HH := Lib.hid (has_calls b 0 all row d w hW)
  have hd : decide (1 ≤ d ∧ d ≤ (min all.length 32768 : Nat)) = false := decide_eq_false (by omega)
  rw [hd] at HH
  clear hd h1 hW
  go_enter Try.func39, Try.ntmps39
  go_wp2_with (go_at_call 63; refine HH.out.mono ?_; rintro e w1 ⟨rfl, ht1⟩)
  go_ret2
  exact ⟨rfl, ht1⟩
theorem back_nil (d : Int) (w : World) :
    Calls Try.prog 39 #[.pointer none, .int .i64 d] w fun e w' => e = .returned (.tuple #[.int .u8 0, .bool false]) ∧ w = w' := by
  go_enter Try.func39, Try.ntmps39
  go_wp2_with (go_at_call 63; refine (has_nil d _).mono ?_; rintro e w1 ⟨rfl, rfl⟩)
  go_ret2
  exact ⟨rfl, rfl⟩

theorem add_nil (s : ByteArray) (w : World) (hs : s.size ≤ 9223372036854775807) :
    Calls Try.prog 35 #[.pointer none, .string s] w fun e w' => e = .returned (.tuple #[]) ∧ w = w' := by
  go_enter Try.func35, Try.ntmps35
  go_wp2_with fail
  go_loopw [4, 7] (fun _ i wr => wr = w ∧ ∃ k : Nat, k ≤ s.size ∧ i = .int .i64 (k : Nat)) (fun _ i _ => s.size - (intOf i).toNat)
  case atStart => exact ⟨rfl, 0, Nat.zero_le _, rfl⟩
  case round =>
    obtain ⟨rfl, k, hk, rfl⟩ := hrel
    by_cases hlt : k < s.size
    · go_wp2_with (go_at_call 36; refine (put_nil _ _).mono ?_; rintro e w1 ⟨rfl, rfl⟩)
      go_roundw
      case rel => exact ⟨by first | rfl | trivial, k + 1, by omega, by go_num⟩
      case measure => simp [intOf]; omega
    · obtain rfl : k = s.size := by omega
      go_wp2_with fail
      go_end0
      exact ⟨rfl, rfl⟩
set_option maxHeartbeats 400000 in
theorem add_fr (w0 : World) (b : Nat) (s : ByteArray) (all : List UInt8) (w : World) (h : FrW w0 w b all) (hl : all.length + s.size < 1099511627776) :
    Calls Try.prog 35 #[.pointer (some ⟨b, 0, none⟩), .string s] w fun e w' => e = .returned (.tuple #[]) ∧ FrW w0 w' b (all ++ s.data.toList) := by
  go_enter Try.func35, Try.ntmps35
  go_wp2_with fail
  have HL := Lib.hid hl
  clear hl
  go_loopw [4, 7] (fun _ i wr => FrW w0 wr b (all ++ s.data.toList.take (intOf i).toNat) ∧ ∃ k : Nat, k ≤ s.size ∧ i = .int .i64 (k : Nat)) (fun _ i _ => s.size - (intOf i).toNat)
  case atStart => exact ⟨by simpa [intOf] using h, 0, Nat.zero_le _, rfl⟩
  case round =>
    clear h
    obtain ⟨h, k, hk, rfl⟩ := hrel
    rw [show (intOf (Value.int .i64 (k : Nat))).toNat = k by simp [intOf]] at h
    by_cases hlt : k < s.size
    · have hks : k < s.data.toList.length := by rw [data_length]; exact hlt
      have hput := put_fr w0 b s[k] (all ++ s.data.toList.take k) wr h (by have := HL.out; rw [List.length_append, List.length_take]; omega)
      rw [List.append_assoc, show s.data.toList.take k ++ [s[k]] = s.data.toList.take (k + 1) from List.take_append_getElem hks] at hput
      have HP := Lib.hid hput
      have hc := s[k].toNat_lt
      clear hput h
      go_wp2_with (go_at_call 36; refine HP.out.mono ?_; rintro e w1 ⟨rfl, h1⟩)
      have hw : wrap64 ((k : Int) + 1) = ((k + 1 : Nat) : Int) := by have := HL.out; unfold wrap64; omega
      go_roundw
      case rel =>
        rw [hw]
        exact ⟨by rw [show (intOf (Value.int .i64 ((k + 1 : Nat) : Int))).toNat = k + 1 by simp [intOf]]; exact h1, k + 1, by omega, rfl⟩
      case measure =>
        rw [hw]
        simp [intOf]; omega
    · obtain rfl : k = s.size := by omega
      rw [List.take_of_length_le (Nat.le_of_eq (data_length s))] at h
      go_wp2_with fail
      go_end0
      exact ⟨rfl, h⟩

/-- What is put, byte by byte. -/
def copyL : Nat → Nat → List UInt8 → List UInt8
  | 0, _, b => b
  | n + 1, d, b => copyL n d (b ++ [b.getD (b.length - d) 0])
theorem copyL_snoc (k d : Nat) (b : List UInt8) : copyL (k + 1) d b = copyL k d b ++ [(copyL k d b).getD ((copyL k d b).length - d) 0] := by
  induction k generalizing b with
  | zero => rfl
  | succ k ih => exact ih _
theorem copyL_length (k d : Nat) (b : List UInt8) : (copyL k d b).length = b.length + k := by
  induction k generalizing b with
  | zero => rfl
  | succ k ih => rw [copyL, ih, List.length_append]; simp; omega

theorem copy_out (b : Nat) (n d : Int) (all : List UInt8) (w0 w : World) (h : FrW w0 w b all) (h1 : n < 0 ∨ 258 < n ∨ d < 1 ∨ (min all.length 32768 : Nat) < d) :
    Calls Try.prog 37 #[.pointer (some ⟨b, 0, none⟩), .int .i64 n, .int .i64 d] w fun e w' => e = .returned (.tuple #[.string ⟨#[]⟩, .bool false]) ∧ Touch (fun _ => False) w w' := by
  obtain ⟨row, hW, _, _, _⟩ := h
  have HH := Lib.hid (fun W (ht : Touch (fun _ => False) w W) => has_calls b 0 all row d W (hW.still ht))
  by_cases hn : n < 0
  · clear h1
    go_enter Try.func37, Try.ntmps37
    go_wp2_with fail
    go_ret2
    exact ⟨rfl, Touch.refl _ _⟩
  · by_cases hn2 : 258 < n
    · clear h1
      go_enter Try.func37, Try.ntmps37
      go_wp2_with fail
      go_ret2
      exact ⟨rfl, Touch.refl _ _⟩
    · have hd : decide (1 ≤ d ∧ d ≤ (min all.length 32768 : Nat)) = false := decide_eq_false (by omega)
      rw [hd] at HH
      have e1 : decide (n < 0) = false := decide_eq_false hn
      have e2 : decide (258 < n) = false := decide_eq_false hn2
      clear h1 hd
      go_enter Try.func37, Try.ntmps37
      go_wp2_with (go_at_call 63; refine (HH.out _ (by first | exact Touch.refl _ _ | exact (Touch.refl _ _).drew)).mono ?_; rintro e w1 ⟨rfl, ht1⟩)
      go_ret2
      exact ⟨rfl, ht1⟩
theorem copy_nil (n d : Int) (w : World) :
    Calls Try.prog 37 #[.pointer none, .int .i64 n, .int .i64 d] w fun e w' => e = .returned (.tuple #[.string ⟨#[]⟩, .bool false]) ∧ Touch (fun _ => False) w w' := by
  by_cases hn : n < 0
  · go_enter Try.func37, Try.ntmps37
    go_wp2_with fail
    go_ret2
    exact ⟨rfl, Touch.refl _ _⟩
  · by_cases hn2 : 258 < n
    · go_enter Try.func37, Try.ntmps37
      go_wp2_with fail
      go_ret2
      exact ⟨rfl, Touch.refl _ _⟩
    · have e1 : decide (n < 0) = false := decide_eq_false hn
      have e2 : decide (258 < n) = false := decide_eq_false hn2
      go_enter Try.func37, Try.ntmps37
      go_wp2_with (go_at_call 63; refine (has_nil d _).mono ?_; rintro e w1 ⟨rfl, rfl⟩)
      go_ret2
      exact ⟨rfl, Touch.refl _ _⟩
theorem made_zero (n : Nat) : (madeCells (Value.cells (.int .u8 0)) n).toList = byteVs (List.replicate n 0) := by
  have hZ : madeCells (Value.int .u8 0).cells n = (byteVs (List.replicate n 0)).toArray := by
    simp only [madeCells, Value.cells, byteVs, List.map_replicate]
    apply Array.ext
    · simp
    · intro i h1 h2
      simp [Nat.mod_one]
  rw [hZ]
theorem WinAt.rowlt {w : World} {b o : Nat} {all : List UInt8} {row : Option Nat} (h : WinAt w b o all row) : ∀ g, row = some g → g < w.heap.size := by
  obtain ⟨R, v, _, hr, _, hv, _⟩ := h
  intro g hg
  exact hr.lt g (by rw [hv, hg])
theorem copied_set (all X : List UInt8) (n k : Nat) (c : UInt8) (hk : k < n) (hX : X.length = all.length + k) :
    ((X.drop all.length ++ List.replicate (n - k) 0).set k c) = (X ++ [c]).drop all.length ++ List.replicate (n - (k + 1)) 0 := by
  have hl : (X.drop all.length).length = k := by rw [List.length_drop]; omega
  rw [List.set_append_right _ _ (by omega), hl, Nat.sub_self, show n - k = (n - (k + 1)) + 1 by omega, List.replicate_succ, List.set_cons_zero, List.drop_append_of_le_length (by omega), List.append_assoc]
  rfl

set_option maxHeartbeats 800000 in
theorem copy_in (b n d : Nat) (all : List UInt8) (w0 w : World) (h : FrW w0 w b all) (hn : n ≤ 258) (h1 : 1 ≤ d) (h2 : d ≤ min all.length 32768) (hl : all.length < 549755813888) :
    Calls Try.prog 37 #[.pointer (some ⟨b, 0, none⟩), .int .i64 n, .int .i64 d] w fun e w' => e = .returned (.tuple #[.string ⟨((copyL n d all).drop all.length).toArray⟩, .bool true]) ∧ FrW w0 w' b (copyL n d all) := by
  obtain ⟨row, hW, hW2, hW3, hW4⟩ := h
  have HH := Lib.hid (fun W (ht : Touch (fun _ => False) w W) => has_calls b 0 all row d W (hW.still ht))
  have hd : decide (1 ≤ (d : Int) ∧ (d : Int) ≤ (min all.length 32768 : Nat)) = true := decide_eq_true (by omega)
  rw [hd] at HH
  have HFR := Lib.hid (show FrW w0 w b all from ⟨row, hW, hW2, hW3, hW4⟩)
  have H2 := Lib.hid h2
  have HL := Lib.hid hl
  obtain ⟨i0, hi, hz0, hz1, hz2⟩ := info_parts Try.infoB
  clear hd hW hW2 hW3 hW4 h2 hl
  go_enter Try.func37, Try.ntmps37
  have e1 : decide ((n : Int) < 0) = false := decide_eq_false (by omega)
  have e2 : decide (258 < (n : Int)) = false := decide_eq_false (by omega)
  go_wp2_with (go_at_call 63; refine (HH.out _ (by first | exact Touch.refl _ _ | exact (Touch.refl _ _).drew)).mono ?_; rintro e w1 ⟨rfl, ht1⟩)
  rw [run_make w1 64 5 i0 _ Try.underlying64 hi hz0 .i64 .i64 (n : Int) (n : Int) (by omega) (by omega) (by rw [hz2]; omega) (by omega), hz1, Int.toNat_natCast, Nat.mul_one]
  have hF1 := HFR.out.still ht1
  have hG1 : w0.heap.size ≤ w1.heap.size := hF1.touch.size
  have hrow : Row (w1.alloc (.cells (madeCells (Value.cells (.int .u8 0)) n) 5)) 5 (.slice (some ⟨w1.heap.size, 0, none⟩) n n) (byteVs (List.replicate n 0)) := by
    refine .inr ⟨w1.heap.size, 0, n, _, by simp [byteVs], heap_alloc_new w1 _, by simp [byteVs], by unfold maxLen; omega, ?_, ?_⟩
    · rw [size_madeCells]; omega
    · rw [made_zero]
      simp
  have hF2 := hF1.still ((Touch.refl _ w1).alloc (.cells (madeCells (Value.cells (.int .u8 0)) n) 5))
  have hbG : b < w1.heap.size := hF1.lt
  obtain ⟨row1, hW1, hb1, hr1, hT1⟩ := hF1
  have hrl := hW1.rowlt
  have hW2 := hW1.still ((Touch.refl _ w1).alloc (.cells (madeCells (Value.cells (.int .u8 0)) n) 5))
  have hT2 := hT1.alloc (.cells (madeCells (Value.cells (.int .u8 0)) n) 5)
  have hGl : w1.heap.size < (w1.alloc (.cells (madeCells (Value.cells (.int .u8 0)) n) 5)).heap.size := by simp
  generalize w1.alloc (.cells (madeCells (Value.cells (.int .u8 0)) n) 5) = w2 at hrow hW2 hT2 hGl ⊢
  generalize w1.heap.size = G at hrow hG1 hbG hrl hGl ⊢
  clear hF2 hW1 hT1 ht1 HFR HH hi hz0 hz1 hz2
  go_wp2_with fail
  go_loopw [9, 25] (fun _ i wr => ∃ (k : Nat) (row' : Option Nat), k ≤ n ∧ i = .int .i64 (k : Nat) ∧ WinAt wr b 0 (copyL k d all) row' ∧ row' ≠ some G ∧ (∀ g, row' = some g → w0.heap.size ≤ g) ∧ Row wr 5 (.slice (some ⟨G, 0, none⟩) n n) (byteVs ((copyL k d all).drop all.length ++ List.replicate (n - k) 0)) ∧ G < wr.heap.size ∧ Touch (fun _ => False) w0 wr) (fun _ i _ => n - (intOf i).toNat)
  case atStart => exact ⟨0, row1, Nat.zero_le _, rfl, hW2, fun e => by have := hrl G e; omega, hr1, by simpa [copyL] using hrow, hGl, hT2⟩
  case round =>
    clear hrow hW2 hr1 hT2 hrl hGl
    obtain ⟨k, row', hk, rfl, hW, hrG, hr1, hrow, hGl, hT⟩ := hrel
    have hlX := copyL_length k d all
    have hsn := copyL_snoc k d all
    by_cases hlt : k < n
    · have hat := Lib.hid (fun W (ht : Touch (fun _ => False) wr W) => at_calls b 0 d (copyL k d all) row' W (hW.still ht) h1 (by have := H2.out; omega) (by have := HL.out; omega))
      have hset := copied_set all (copyL k d all) n k ((copyL k d all).getD ((copyL k d all).length - d) 0) hlt hlX
      rw [← hsn] at hset
      have HSET := Lib.hid hset
      have HSN := Lib.hid hsn
      have HLX := Lib.hid hlX
      clear hset hsn hlX
      generalize copyL k d all = X at *
      generalize X.getD (X.length - d) 0 = y at *
      have hcell := (Row.cells hrow).2 k (.int .u8 (((X.drop all.length ++ List.replicate (n - k) (0 : UInt8)).getD k 0).toNat : Nat)) (by
        have hll : k < (X.drop all.length ++ List.replicate (n - k) (0 : UInt8)).length := by have := HLX.out; simp; omega
        simp only [byteVs, List.getElem?_map]
        rw [List.getElem?_eq_getElem hll]
        simp only [List.getD, List.getElem?_eq_getElem hll]
        rfl)
      have hfree : wr.frozen? ⟨G, 0 + k, none⟩ = false := Row.free hrow
      rw [Nat.zero_add] at hcell hfree
      have hk0 : (0 : Int) ≤ (k : Int) := by omega
      have hk1 : (k : Int) < (n : Int) := by omega
      go_wp2_with (go_at_call 64; refine (hat.out _ (by first | exact Touch.refl _ _ | exact (Touch.refl _ _).drew)).mono ?_; rintro e w3 ⟨rfl, ht3⟩; have g0 := ht3.cell hcell id; have g1 := (ht3.frozen hGl id).trans hfree)
      have hGl3 : G < w3.heap.size := Nat.lt_of_lt_of_le hGl ht3.size
      have hTs : Touch (fun k => k = G) w3 (w3.setCell ⟨G, k, none⟩ (.int .u8 (y.toNat : Nat))) := (Touch.refl (fun k => k = G) w3).setCell (p := ⟨G, k, none⟩) (Or.inl rfl) _
      have hW4 := (hW.still ht3).kept hTs (fun e => by omega) (fun g hg e => hrG (by rw [hg, e]))
      have hr4 := Row.set (k := k) (hrow.kept ht3 (fun _ _ => id)) hlt (.int .u8 (y.toNat : Nat))
      rw [Nat.zero_add, byteVs_set, HSET.out] at hr4
      have hT4 : Touch (fun _ => False) w0 (w3.setCell ⟨G, k, none⟩ (.int .u8 (y.toNat : Nat))) := (hT.trans ht3).setCell (.inr hG1) _
      have hGl4 : G < (w3.setCell ⟨G, k, none⟩ (.int .u8 (y.toNat : Nat))).heap.size := Nat.lt_of_lt_of_le hGl3 hTs.size
      generalize w3.setCell ⟨G, k, none⟩ (.int .u8 (y.toNat : Nat)) = w4 at hW4 hr4 hT4 hGl4 ⊢
      clear hTs hW hrow hat hcell hfree g0 g1 hT HSET ht3
      refine (put_calls b 0 y X row' w4 hW4 (by have := HLX.out; have := HL.out; omega)).mono ?_
      rintro e w5 ⟨rfl, row5, hW5, hs5, ht5⟩
      rw [← HSN.out] at hW5
      have hr5 := hr4.kept ht5 (fun g hg e => by
        have hgG : G = g := Option.some.inj hg
        rcases e with e | e
        · omega
        · exact hrG (by rw [e, hgG]))
      have hT5 : Touch (fun _ => False) w0 w5 := hT4.trans' ht5 (fun i hi => .inr (by
        rcases hi with rfl | hi
        · exact hb1
        · exact hr1 i hi))
      have hrG5 := Sep.ne hs5 hrG hGl4
      have hGl5 : G < w5.heap.size := Nat.lt_of_lt_of_le hGl4 ht5.size
      have hr15 : ∀ g, row5 = some g → w0.heap.size ≤ g := by
        intro g hg
        rcases hs5 with h | ⟨g', h, hge⟩
        · exact hr1 g (by rw [← h, hg])
        · rw [hg] at h
          have := Option.some.inj h
          have := hT4.size
          omega
      clear hW4 hr4 hT4 hs5 ht5 hr1 hrG
      go_wp2_with fail
      go_roundw
      case rel => exact ⟨k + 1, row5, by omega, by go_num, hW5, hrG5, hr15, hr5, hGl5, hT5⟩
      case measure => simp [intOf]; omega
    · obtain rfl : k = n := by omega
      rw [Nat.sub_self, List.replicate_zero, List.append_nil] at hrow
      have hll : ((copyL k d all).drop all.length).length = k := by rw [List.length_drop, hlX]; omega
      have hcv := run_bytes_row (P := Try.prog) wr 64 5 9 Try.underlying64 Try.underlying5 Try.underlying9 hrow
      have HFR : RowKit.Hid (FrW w0 wr b (copyL k d all)) := Lib.hid ⟨row', hW, hb1, hr1, hT⟩
      clear hW hrow hsn hlX hll
      go_wp2_with fail
      go_ret2
      exact ⟨rfl, HFR.out⟩
end Go.Proofs.Ytdbpjkpbmfjcnaa

/- Contracts of package zip: what a header's bytes tell. -/
import Derived.Test.YtdohhmaggeocjaaDoorZipF
namespace Go.Proofs.YtdohhmaggeocjaaDoor
open Go Go.RowKit
set_option maxRecDepth 100000

theorem box_set12 {w : World} {b : Nat} {x0 x1 x2 x3 x4 x5 x6 x7 x8 x9 x10 x11 y0 y1 y2 y3 y4 y5 y6 y7 y8 y9 y10 y11 : Value} {t : TypeId} (h : w.heap[b]? = some (.cells #[x0, x1, x2, x3, x4, x5, x6, x7, x8, x9, x10, x11] t)) :
    ((((((((((((w.setCell ⟨b, 0, none⟩ y0).setCell ⟨b, 1, none⟩ y1).setCell ⟨b, 2, none⟩ y2).setCell ⟨b, 3, none⟩ y3).setCell ⟨b, 4, none⟩ y4).setCell ⟨b, 5, none⟩ y5).setCell ⟨b, 6, none⟩ y6).setCell ⟨b, 7, none⟩ y7).setCell ⟨b, 8, none⟩ y8).setCell ⟨b, 9, none⟩ y9).setCell ⟨b, 10, none⟩ y10).setCell ⟨b, 11, none⟩ y11).heap[b]? =
      some (.cells #[y0, y1, y2, y3, y4, y5, y6, y7, y8, y9, y10, y11] t) := by
  have h1 : (w.setCell ⟨b, 0, none⟩ y0).heap[b]? = some (.cells #[y0, x1, x2, x3, x4, x5, x6, x7, x8, x9, x10, x11] t) := heap_setCell_same y0 h
  have h2 : ((w.setCell ⟨b, 0, none⟩ y0).setCell ⟨b, 1, none⟩ y1).heap[b]? = some (.cells #[y0, y1, x2, x3, x4, x5, x6, x7, x8, x9, x10, x11] t) := heap_setCell_same y1 h1
  have h3 : (((w.setCell ⟨b, 0, none⟩ y0).setCell ⟨b, 1, none⟩ y1).setCell ⟨b, 2, none⟩ y2).heap[b]? = some (.cells #[y0, y1, y2, x3, x4, x5, x6, x7, x8, x9, x10, x11] t) := heap_setCell_same y2 h2
  have h4 : ((((w.setCell ⟨b, 0, none⟩ y0).setCell ⟨b, 1, none⟩ y1).setCell ⟨b, 2, none⟩ y2).setCell ⟨b, 3, none⟩ y3).heap[b]? = some (.cells #[y0, y1, y2, y3, x4, x5, x6, x7, x8, x9, x10, x11] t) := heap_setCell_same y3 h3
  have h5 : (((((w.setCell ⟨b, 0, none⟩ y0).setCell ⟨b, 1, none⟩ y1).setCell ⟨b, 2, none⟩ y2).setCell ⟨b, 3, none⟩ y3).setCell ⟨b, 4, none⟩ y4).heap[b]? = some (.cells #[y0, y1, y2, y3, y4, x5, x6, x7, x8, x9, x10, x11] t) := heap_setCell_same y4 h4
  have h6 : ((((((w.setCell ⟨b, 0, none⟩ y0).setCell ⟨b, 1, none⟩ y1).setCell ⟨b, 2, none⟩ y2).setCell ⟨b, 3, none⟩ y3).setCell ⟨b, 4, none⟩ y4).setCell ⟨b, 5, none⟩ y5).heap[b]? = some (.cells #[y0, y1, y2, y3, y4, y5, x6, x7, x8, x9, x10, x11] t) := heap_setCell_same y5 h5
  have h7 : (((((((w.setCell ⟨b, 0, none⟩ y0).setCell ⟨b, 1, none⟩ y1).setCell ⟨b, 2, none⟩ y2).setCell ⟨b, 3, none⟩ y3).setCell ⟨b, 4, none⟩ y4).setCell ⟨b, 5, none⟩ y5).setCell ⟨b, 6, none⟩ y6).heap[b]? = some (.cells #[y0, y1, y2, y3, y4, y5, y6, x7, x8, x9, x10, x11] t) := heap_setCell_same y6 h6
  have h8 : ((((((((w.setCell ⟨b, 0, none⟩ y0).setCell ⟨b, 1, none⟩ y1).setCell ⟨b, 2, none⟩ y2).setCell ⟨b, 3, none⟩ y3).setCell ⟨b, 4, none⟩ y4).setCell ⟨b, 5, none⟩ y5).setCell ⟨b, 6, none⟩ y6).setCell ⟨b, 7, none⟩ y7).heap[b]? = some (.cells #[y0, y1, y2, y3, y4, y5, y6, y7, x8, x9, x10, x11] t) := heap_setCell_same y7 h7
  have h9 : (((((((((w.setCell ⟨b, 0, none⟩ y0).setCell ⟨b, 1, none⟩ y1).setCell ⟨b, 2, none⟩ y2).setCell ⟨b, 3, none⟩ y3).setCell ⟨b, 4, none⟩ y4).setCell ⟨b, 5, none⟩ y5).setCell ⟨b, 6, none⟩ y6).setCell ⟨b, 7, none⟩ y7).setCell ⟨b, 8, none⟩ y8).heap[b]? = some (.cells #[y0, y1, y2, y3, y4, y5, y6, y7, y8, x9, x10, x11] t) := heap_setCell_same y8 h8
  have h10 : ((((((((((w.setCell ⟨b, 0, none⟩ y0).setCell ⟨b, 1, none⟩ y1).setCell ⟨b, 2, none⟩ y2).setCell ⟨b, 3, none⟩ y3).setCell ⟨b, 4, none⟩ y4).setCell ⟨b, 5, none⟩ y5).setCell ⟨b, 6, none⟩ y6).setCell ⟨b, 7, none⟩ y7).setCell ⟨b, 8, none⟩ y8).setCell ⟨b, 9, none⟩ y9).heap[b]? = some (.cells #[y0, y1, y2, y3, y4, y5, y6, y7, y8, y9, x10, x11] t) := heap_setCell_same y9 h9
  have h11 : (((((((((((w.setCell ⟨b, 0, none⟩ y0).setCell ⟨b, 1, none⟩ y1).setCell ⟨b, 2, none⟩ y2).setCell ⟨b, 3, none⟩ y3).setCell ⟨b, 4, none⟩ y4).setCell ⟨b, 5, none⟩ y5).setCell ⟨b, 6, none⟩ y6).setCell ⟨b, 7, none⟩ y7).setCell ⟨b, 8, none⟩ y8).setCell ⟨b, 9, none⟩ y9).setCell ⟨b, 10, none⟩ y10).heap[b]? = some (.cells #[y0, y1, y2, y3, y4, y5, y6, y7, y8, y9, y10, x11] t) := heap_setCell_same y10 h10
  have h12 : ((((((((((((w.setCell ⟨b, 0, none⟩ y0).setCell ⟨b, 1, none⟩ y1).setCell ⟨b, 2, none⟩ y2).setCell ⟨b, 3, none⟩ y3).setCell ⟨b, 4, none⟩ y4).setCell ⟨b, 5, none⟩ y5).setCell ⟨b, 6, none⟩ y6).setCell ⟨b, 7, none⟩ y7).setCell ⟨b, 8, none⟩ y8).setCell ⟨b, 9, none⟩ y9).setCell ⟨b, 10, none⟩ y10).setCell ⟨b, 11, none⟩ y11).heap[b]? = some (.cells #[y0, y1, y2, y3, y4, y5, y6, y7, y8, y9, y10, y11] t) := heap_setCell_same y11 h11
  exact h12
theorem Touch.set12 {S : Nat → Prop} {a w : World} (h : Touch S a w) {b : Nat} (hp : S b ∨ a.heap.size ≤ b) (y0 y1 y2 y3 y4 y5 y6 y7 y8 y9 y10 y11 : Value) :
    Touch S a ((((((((((((w.setCell ⟨b, 0, none⟩ y0).setCell ⟨b, 1, none⟩ y1).setCell ⟨b, 2, none⟩ y2).setCell ⟨b, 3, none⟩ y3).setCell ⟨b, 4, none⟩ y4).setCell ⟨b, 5, none⟩ y5).setCell ⟨b, 6, none⟩ y6).setCell ⟨b, 7, none⟩ y7).setCell ⟨b, 8, none⟩ y8).setCell ⟨b, 9, none⟩ y9).setCell ⟨b, 10, none⟩ y10).setCell ⟨b, 11, none⟩ y11) :=
  (((((((((((h.setCell hp y0).setCell hp y1).setCell hp y2).setCell hp y3).setCell hp y4).setCell hp y5).setCell hp y6).setCell hp y7).setCell hp y8).setCell hp y9).setCell hp y10).setCell hp y11

/-- The number that bytes tell. -/
def gN (s : ByteArray) : Nat := getN s.data.toList
theorem gN_lt (s : ByteArray) (k : Nat) (h : s.size ≤ k) : gN s < 256 ^ k := by
  have := getN_lt s.data.toList
  rw [data_length] at this
  exact Nat.lt_of_lt_of_le this (Nat.pow_le_pow_right (by decide) h)
theorem zget_calls (s : ByteArray) (n : Nat) (hn : gN s = n) (hs : s.size ≤ 8) (w : World) : Calls Tryd.prog 84 #[.string s] w fun e w' => e = .returned (.int .u64 n) ∧ w = w' := by
  subst hn
  exact get_small s w hs

theorem znumber_calls (s : ByteArray) (n : Nat) (h2 : 2 ≤ s.size) (hn : gN (s.extract 0 2) = n) (w : World) : Calls Tryd.prog 83 #[.string s] w fun e w' => e = .returned (.int .i64 n) ∧ w = w' := by
  have hsz : (s.extract 0 2).size ≤ 2 := by rw [ByteArray.size_extract]; omega
  have hb := gN_lt (s.extract 0 2) 2 hsz
  rw [hn] at hb
  have H := Lib.hid (fun W => zget_calls (s.extract 0 2) n hn (by omega) W)
  have h2' : (2 : Int) ≤ (s.size : Int) := by omega
  have hw : wrap64 (n : Int) = (n : Int) := by unfold wrap64; omega
  clear hn hb hsz
  go_enter Tryd.func83, Tryd.ntmps83
  go_wp2_with (go_at_call 84; refine (H.out _).mono ?_; rintro e w1 ⟨rfl, rfl⟩)
  go_ret
  exact ⟨ret_int hw, rfl⟩

theorem Tryd.sizeH : (Tryd.prog.info? 48).map (·.size) = some 12 := by kernel_rfl
/-- What two numbers tell of a time. -/
def uT (d n : Nat) : Tim := if goodB (unp d n) then unp d n else Tim.zero
theorem unpack_b (d n : Nat) (hd : d < 18446744073709551616) (hn : n < 18446744073709551616) : ∃ b, ∀ w, Calls Tryd.prog 106 #[.int .u64 d, .int .u64 n] w fun e w' => e = .returned (.tuple #[(uT d n).v, .bool b]) ∧ Touch (fun _ => False) w w' := by
  unfold uT
  cases hb : goodB (unp d n)
  · exact ⟨false, fun w => by simpa using unpack_bad d n w hd hn hb⟩
  · exact ⟨true, fun w => by simpa using unpack_good d n w hd hn hb⟩
end Go.Proofs.YtdohhmaggeocjaaDoor

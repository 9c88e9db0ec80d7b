/- Bytes that a string was turned into; what a burst of other bits does to them; a sum behind its bytes. -/
import Derived.Test.YtmjahbdengnoeaaDgI
import Derived.Deep.RegionWith
import Derived.Laws.MakeOwn
import Derived.Laws.IdiomStrings
namespace Go.Proofs.Ytmjahbdengnoeaa
open Go Go.RowKit
set_option maxRecDepth 100000

theorem mod_step (n k : Nat) : n % 2 ^ (k + 1) = n % 2 ^ k + 2 ^ k * (n / 2 ^ k % 2) := by
  rw [Nat.pow_succ, Nat.mod_mul]


/-- Bytes that a string was turned into: its row bears a mark behind its end. -/
def BufAt (w : World) (G : Nat) (e : List UInt8) : Prop :=
  ∃ cur : Array Value, w.heap[G]? = some (.cells cur 5 (cur.size, cur.size + 1)) ∧ e.length ≤ cur.size ∧ cur.toList.take e.length = byteVs e

theorem BufAt.cell {w : World} {G : Nat} {e : List UInt8} (h : BufAt w G e) {j : Nat} (hj : j < e.length) : w.cell? ⟨G, j, none⟩ = some (.int .u8 (e[j].toNat : Int)) := by
  obtain ⟨cur, h1, h2, h3⟩ := h
  rw [cell_of_row w G j cur _ _ h1, ← Array.getElem?_toList]
  have h4 := congrArg (fun l => l[j]?) h3
  simp only [List.getElem?_take, if_pos hj] at h4
  rw [h4]
  simp [byteVs, hj]
theorem BufAt.free {w : World} {G : Nat} {e : List UInt8} (h : BufAt w G e) {j : Nat} (hj : j < e.length) : w.frozen? ⟨G, j, none⟩ = false := by
  obtain ⟨cur, h1, h2, _⟩ := h
  simp only [World.frozen?, h1]
  simp
  omega
theorem BufAt.set {w : World} {G : Nat} {e : List UInt8} (h : BufAt w G e) (j : Nat) (x : UInt8) : BufAt (w.setCell ⟨G, j, none⟩ (.int .u8 (x.toNat : Int))) G (e.set j x) := by
  obtain ⟨cur, h1, h2, h3⟩ := h
  refine ⟨cur.setIfInBounds j (.int .u8 (x.toNat : Int)), by rw [heap_setCell_same _ h1]; simp, by simpa using h2, ?_⟩
  rw [Array.toList_setIfInBounds, List.length_set, List.take_set, h3]
  simp [byteVs, List.map_set]
theorem BufAt.kept {S : Nat → Prop} {w w' : World} {G : Nat} {e : List UInt8} (h : BufAt w G e) (ht : Touch S w w') (hn : ¬ S G) : BufAt w' G e := by
  obtain ⟨cur, h1, h2⟩ := h
  exact ⟨cur, (ht.block G (Array.getElem?_eq_some_iff.1 h1).1 hn).trans h1, h2⟩
theorem BufAt.new (w : World) (s : ByteArray) (cap : Nat) : BufAt (w.alloc (.cells (bytesRow s cap) 5 ((bytesRow s cap).size, (bytesRow s cap).size + 1))) w.heap.size s.data.toList := by
  refine ⟨_, heap_alloc_new w _, ?_, ?_⟩
  · simp [bytesRow]
  · simp [bytesRow, byteVs]

theorem getN_set (e : List UInt8) (j r : Nat) (hj : j < e.length) (hr : r < 8) : getN (e.set j (UInt8.ofNat (e[j].toNat ^^^ 2 ^ r))) = getN e ^^^ 2 ^ (8 * j + r) := by
  induction e generalizing j with
  | nil => cases hj
  | cons c t ih =>
    have hc : c.toNat < 2 ^ 8 := c.toNat_lt
    have h2r : 2 ^ r < 2 ^ 8 := Nat.pow_lt_pow_right (by decide) hr
    cases j with
    | zero =>
      simp only [List.set_cons_zero, List.getElem_cons_zero, getN_cons_xor]
      have hx : c.toNat ^^^ 2 ^ r < 2 ^ 8 := Nat.xor_lt_two_pow hc h2r
      rw [UInt8.toNat_ofNat_of_lt' hx, Nat.mul_zero, Nat.zero_add, Nat.xor_assoc, Nat.xor_assoc, Nat.xor_comm (2 ^ r)]
    | succ j =>
      simp only [List.set_cons_succ, List.getElem_cons_succ, getN_cons_xor]
      rw [ih j (by simpa using hj), show 8 * (j + 1) + r = 8 * j + r + 8 by omega, Nat.pow_add 2 (8 * j + r) 8]
      generalize 2 ^ (8 * j + r) = q
      rw [← Nat.shiftLeft_eq, ← Nat.shiftLeft_eq (getN t), ← Nat.shiftLeft_eq q, Nat.shiftLeft_xor_distrib, Nat.xor_assoc]

theorem burst_step (burst k bit : Nat) (h : burst / 2 ^ k % 2 = 1) : burst % 2 ^ (k + 1) * 2 ^ bit = (burst % 2 ^ k * 2 ^ bit) ^^^ 2 ^ (bit + k) := by
  rw [mod_step, h, Nat.mul_one, Nat.add_comm bit k, Nat.pow_add]
  have h1 : burst % 2 ^ k + 2 ^ k = burst % 2 ^ k ^^^ 2 ^ k := by
    have h2 : burst % 2 ^ k < 2 ^ k := Nat.mod_lt _ (Nat.two_pow_pos k)
    apply Nat.eq_of_testBit_eq
    intro i
    rw [Nat.add_comm, Nat.testBit_xor, Nat.testBit_two_pow]
    by_cases hi : k = i
    · subst hi
      rw [Nat.testBit_two_pow_add_eq, Nat.testBit_lt_two_pow h2]; simp
    · by_cases hlt : i < k
      · rw [Nat.testBit_two_pow_add_gt hlt]; simp [hi]
      · have hki : k < i := by omega
        have h3 : 2 ^ k + burst % 2 ^ k < 2 ^ i := Nat.lt_of_lt_of_le (show _ < 2 ^ (k + 1) by rw [Nat.pow_succ]; omega) (Nat.pow_le_pow_right (by decide) hki)
        rw [Nat.testBit_lt_two_pow h3, Nat.testBit_lt_two_pow (Nat.lt_trans (by omega) h3)]; simp [hi]
  rw [h1, ← Nat.shiftLeft_eq, ← Nat.shiftLeft_eq, ← Nat.shiftLeft_eq, Nat.shiftLeft_xor_distrib]
theorem burst_stay (burst k bit : Nat) (h : burst / 2 ^ k % 2 ≠ 1) : burst % 2 ^ (k + 1) * 2 ^ bit = burst % 2 ^ k * 2 ^ bit := by
  rw [mod_step, show burst / 2 ^ k % 2 = 0 by omega, Nat.mul_zero, Nat.add_zero]

def BurstInv (w : World) (G : Nat) (a : List UInt8) (bit burst : Nat) (i : Value) (wr : World) : Prop :=
  ∃ (k : Nat) (e : List UInt8), i = .int .i64 (k : Nat) ∧ k ≤ 32 ∧ e.length = a.length ∧ getN e = getN a ^^^ burst % 2 ^ k * 2 ^ bit ∧ BufAt wr G e ∧ Touch (fun _ => False) w wr


theorem bit_valD (at_ : Int) (n : Nat) (hn : 5 ≤ n) : ∃ (r : Int) (k : Nat), at_.tmod (8 * (n : Int) - 31) = r ∧ -(8 * (n : Int) - 31) < r ∧ r < 8 * (n : Int) - 31 ∧ (r + (8 * (n : Int) - 31)) % (8 * (n : Int) - 31) = k ∧ k + 31 < 8 * n := by
  have h1 := Int.tmod_lt_of_pos at_ (show (0 : Int) < 8 * (n : Int) - 31 by omega)
  have h2 : -(8 * (n : Int) - 31) < at_.tmod (8 * (n : Int) - 31) := Int.lt_tmod_of_pos at_ (by omega)
  have h3 := Int.emod_nonneg (at_.tmod (8 * (n : Int) - 31) + (8 * (n : Int) - 31)) (show 8 * (n : Int) - 31 ≠ 0 by omega)
  have h4 := Int.emod_lt_of_pos (at_.tmod (8 * (n : Int) - 31) + (8 * (n : Int) - 31)) (show (0 : Int) < 8 * (n : Int) - 31 by omega)
  refine ⟨at_.tmod (8 * (n : Int) - 31), ((at_.tmod (8 * (n : Int) - 31) + (8 * (n : Int) - 31)) % (8 * (n : Int) - 31)).toNat, rfl, h2, h1, by omega, by omega⟩

theorem flip_xor (m : Nat) : flip m ^^^ m = 4294967295 := by
  unfold flip
  rw [Nat.xor_comm m, Nat.xor_assoc, Nat.xor_self, Nat.xor_zero]
/-- The sum of bytes with their own sum behind is always the same. -/
theorem sum_of_sealed (L : List UInt8) : moreN 0 (L ++ leB 4 (moreN 0 L)) = flip (Tn 32 4294967295) := by
  have hm : moreN 0 L < 4294967296 := moreN_lt 0 L (by decide)
  rw [moreN_append]
  generalize moreN 0 L = m at hm
  unfold moreN
  rw [crcSt_eq, leB_length, getN_leB, Nat.mod_eq_of_lt (show m < 256 ^ 4 by omega), flip_xor]
theorem sumOk_sum (e : ByteArray) (h : sumOk e = true) : moreN 0 e.data.toList = flip (Tn 32 4294967295) := by
  unfold sumOk at h
  simp only [Bool.and_eq_true, decide_eq_true_eq] at h
  obtain ⟨h4, he⟩ := h
  have e1 : e.data.toList = (e.extract 0 (e.size - 4)).data.toList ++ leB 4 (moreN 0 (e.extract 0 (e.size - 4)).data.toList) := by
    have h5 : leB 4 (moreN 0 (e.extract 0 (e.size - 4)).data.toList) = (e.extract (e.size - 4) e.size).data.toList := by
      have h9 : (sealB (e.extract 0 (e.size - 4))).data.toList = (e.extract (e.size - 4) e.size).data.toList := congrArg (fun b : ByteArray => b.data.toList) he
      rw [← h9]
      rfl
    rw [h5, ex_list, ex_list, List.drop_zero, Nat.sub_zero]
    have hl : e.data.toList.length = e.size := Array.length_toList
    rw [List.take_of_length_le (l := e.data.toList.drop (e.size - 4)) (by rw [List.length_drop, hl]; omega), List.take_append_drop]
  rw [e1]
  exact sum_of_sealed _
/-- A burst of other bits in bytes whose sum is right leaves bytes whose sum is not. -/
theorem burst_sum (s : ByteArray) (e : List UInt8) (bit burst : Nat) (hs : sumOk s = true) (hl : e.length = s.data.toList.length) (he : getN e = getN s.data.toList ^^^ (burst * 2 ^ bit)) (hb : burst < 4294967296) (h0 : burst ≠ 0) (hbit : bit ≤ 8 * s.data.toList.length) :
    decE ⟨e.toArray⟩ = 7 := by
  have hne := burst_ne s.data.toList e bit burst hl.symm he hb h0 hbit
  have hf : sumOk ⟨e.toArray⟩ = false := by
    cases hh : sumOk ⟨e.toArray⟩
    · rfl
    · have h1 := sumOk_sum _ hh
      have h2 := sumOk_sum _ hs
      exact absurd (h1.trans h2.symm) hne
  unfold decE
  rw [hf]
  rfl
end Go.Proofs.Ytmjahbdengnoeaa

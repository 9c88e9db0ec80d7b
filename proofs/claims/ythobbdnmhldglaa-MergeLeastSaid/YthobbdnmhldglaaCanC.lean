
/- Contracts of package canon over the translated program: the sum of shares, copies of slices. -/
import Derived.Test.YthobbdnmhldglaaCanB
namespace Go.Proofs.Ythobbdnmhldglaa
open Go Go.RowKit
set_option maxRecDepth 100000
set_option maxRecDepth 100000

theorem below_step (ls : List Nat) (k : Nat) (_hk : k ≤ 15) : belowN ls k + cntN ls k * 2 ^ (15 - k) = belowN ls (k + 1) := by
  rw [belowN]
  unfold shareN cntN
  by_cases h : k = 0
  · simp [h]
  · simp [h]
theorem below_le (ls : List Nat) (hn : ls.length ≤ 288) (k : Nat) : belowN ls k ≤ k * 9437184 := by
  induction k with
  | zero => simp [belowN]
  | succ k ih =>
    rw [belowN]
    have h1 : cntN ls k ≤ 288 := by
      unfold cntN; split
      · omega
      · exact Nat.le_trans List.count_le_length hn
    have h2 : shareN k ≤ 2 ^ 15 := by
      unfold shareN; split
      · omega
      · exact Nat.pow_le_pow_right (by decide) (by omega)
    have h3 := Nat.mul_le_mul h1 h2
    omega

theorem wrap64_nat (x : Nat) (h : x < 9223372036854775808) : wrap64 (x : Int) = (x : Int) := by unfold wrap64; omega
theorem share_val (a b k : Nat) (h1 : b * 2 ^ k ≤ 288 * 2 ^ 15) (h2 : a ≤ 16 * 9437184) : Value.int .i64 (wrap64 ((a : Int) + wrap64 ((b : Int) * 2 ^ k))) = Value.int .i64 ((a + b * 2 ^ k : Nat) : Int) := by
  have e : (b : Int) * 2 ^ k = ((b * 2 ^ k : Nat) : Int) := by simp
  rw [e, wrap64_nat _ (by omega), show (a : Int) + ((b * 2 ^ k : Nat) : Int) = ((a + b * 2 ^ k : Nat) : Int) by simp, wrap64_nat _ (by omega)]

set_option maxHeartbeats 400000 in
theorem share_calls (ls : List Nat) (h15 : ∀ x ∈ ls, x ≤ 15) (hn : ls.length ≤ 288) (w : World) :
    Calls Try.prog 18 #[.agg (tabV 16 (cntN ls)).toArray] w fun e w' => e = .returned (.int .i64 (kraftN ls)) ∧ Touch (fun _ => False) w w' := by
  have hb := below_le ls hn
  have hst := fun k => below_step ls k
  have HK := Lib.hid (kraft_below ls h15)
  have hcn : ∀ k, cntN ls k ≤ 288 := fun k => by
    unfold cntN; split
    · omega
    · exact Nat.le_trans List.count_le_length hn
  clear h15
  generalize cntN ls = f at hst hcn ⊢
  generalize belowN ls = s at hb hst HK
  have HB := Lib.hid hb
  have HS := Lib.hid hst
  have HC := Lib.hid hcn
  clear hb hst hcn
  go_enter Try.func18, Try.ntmps18
  go_wp2_with (refine wpList_load_row rfl 40 (.tmp 1) rfl _ rfl _ _ _ _ (Block.new w 40 (tabV 16 f)) Try.underlying40 rfl Try.size65 ?_)
  go_loopw [3, 4, 5, 7] (fun t _ _ i wr => ∃ k : Nat, k ≤ 16 ∧ i = .int .i64 k ∧ t = .int .i64 (s k : Nat) ∧ Touch (fun _ => False) w wr) (fun _ _ _ i _ => 16 - (intOf i).toNat)
  case atStart => exact ⟨0, Nat.zero_le _, rfl, by rw [show s 0 = 0 from by have := HB.out 0; omega]; rfl, (Touch.refl _ _).alloc _⟩
  case round =>
    obtain ⟨k, hk, rfl, rfl, hT⟩ := hrel
    by_cases hlt : k < 16
    · have hg : (tabV 16 f)[k]? = some (.int .i64 (f k : Nat)) := tabV_get 16 f k hlt
      have hidx := run_index_tab (P := Try.prog) 40 3 16 (tabV 16 f).toArray k _ Try.underlying40 Try.sizeOf3 Try.isAgg3 hlt (by simpa using hg)
      have hsk2 := Lib.hid (HS.out k (by omega))
      have hfk := HC.out k
      have hpow : 2 ^ (15 - k) ≤ 2 ^ 15 := Nat.pow_le_pow_right (by decide) (by omega)
      have hmul := Nat.mul_le_mul hfk hpow
      have hsk := HB.out k
      have hval := Lib.hid (share_val (s k) (f k) (15 - k) hmul (Nat.le_trans hsk (Nat.mul_le_mul_right _ hk)))
      go_wp2
      go_roundw
      case rel => exact ⟨k + 1, by omega, by go_num, hval.out.trans (congrArg (fun n : Nat => Value.int .i64 (n : Int)) hsk2.out), hT⟩
      case measure => simp [intOf]; omega
    · obtain rfl : k = 16 := by omega
      go_wp2
      go_ret
      exact ⟨ret1 (by rw [HK.out]; rfl), hT⟩

set_option maxHeartbeats 400000 in
/-- A copy of a slice of ints. -/
theorem clone_calls (xs : List Value) (v : Value) (w : World) (hv : Reads w v xs) (h1 : ∀ u ∈ xs, u.oneCell' = true) (hn : xs.length ≤ 1048576) :
    Calls Try.prog 19 #[v] w fun e w' => ∃ r, e = .returned r ∧ Row w' 3 r xs ∧ Sep w.heap.size none r.ownBlock ∧ Touch (fun _ => False) w w' := by
  obtain ⟨i0, hi, hz0, hz1, hz2⟩ := info_parts Try.info3
  obtain ⟨a, cap, hv', hc1, hc2⟩ := hv.form
  subst hv'
  unfold maxLen at hc2
  have heq := fun (a : Option Addr) (n : Nat) (W : World) => Lib.run_eql_slice_nil (P := Try.prog) W 22 3 a n cap 0 0 Try.underlying22
  cases a with
  | none =>
    obtain rfl : xs = [] := by
      obtain ⟨a', cap', he, _, _, h3⟩ := hv
      injection he with he _ _
      subst he
      rcases h3 with h3 | ⟨_, _, h3, _⟩
      · exact h3
      · cases h3
    go_enter Try.func19, Try.ntmps19
    go_wp2
    go_ret
    exact ⟨_, rfl, Row.nil _ _, .inl rfl, Touch.refl _ _⟩
  | some a =>
    have hsrc : ∀ W, Touch (fun _ => False) w W → Src Try.prog 1 22 (.slice (some a) xs.length cap) xs.length xs W := fun W hW => (hv.still hW).src Try.underlying22 h1
    clear hv h1
    go_enter Try.func19, Try.ntmps19
    go_wp2_with (at_builtin; refine wpList_append_row _ rfl (.tmp 5) (.tmp 6) 22 22 rfl 3 i0 _ 8 Try.underlying22 hi hz0 hz1 hz2 rfl (.slice (some ⟨w.heap.size, 0, none⟩) 0 0) [] rfl (by exact .inr ⟨_, 0, 0, #[], rfl, heap_alloc_new w _, Nat.le_refl _, Nat.zero_le _, Nat.le_refl _, rfl⟩) (.slice (some a) xs.length cap) rfl xs.length xs (by exact hsrc _ ((Touch.refl _ _).alloc _)) (by unfold maxLen; simp; omega) (by simp; omega) ?_; intro v2 w2 hrow2 hgrow hown2)
    go_ret
    refine ⟨_, rfl, hrow2, ?_, (Touch.refl _ _).alloc _ |>.grown hgrow (fun k hk => ?_)⟩
    · rcases hown2 with h | h
      · exact .inr ⟨w.heap.size, h, Nat.le_refl _⟩
      · exact .inr ⟨_, h, by simp⟩
    · simp [Value.ownBlock] at hk
      right; omega
end Go.Proofs.Ythobbdnmhldglaa

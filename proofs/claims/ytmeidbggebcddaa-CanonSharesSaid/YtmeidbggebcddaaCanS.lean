/- Contracts of package canon's Share and Fill over the translated program, and the walk of layer 3's statement on shares. -/
import Derived.Test.YtmeidbggebcddaaCanT
namespace Go.Proofs.Ytmeidbggebcddaa
open Go Go.RowKit
set_option maxRecDepth 100000

/-- The lengths of words that are free, where D of all shares are: below k bits. -/
def exN (D : Nat) : Nat → List Nat
  | 0 => []
  | k + 1 => exN D k ++ if D / 2 ^ (15 - (k + 1)) % 2 = 1 then [k + 1] else []
theorem kraft_append (a b : List Nat) : kraftN (a ++ b) = kraftN a + kraftN b := by simp [kraftN]
theorem kraft_ex (D k : Nat) (hD : D < 32768) (hk : k ≤ 15) : kraftN (exN D k) = D / 2 ^ (15 - k) * 2 ^ (15 - k) := by
  induction k with
  | zero => simp [exN, kraftN]; omega
  | succ k ih =>
    have h1 := ih (by omega)
    have h2 : D / 2 ^ (15 - k) = D / 2 ^ (15 - (k + 1)) / 2 := by
      rw [Nat.div_div_eq_div_mul, ← Nat.pow_succ, show (15 - (k + 1)).succ = 15 - k by omega]
    have h3 : 2 ^ (15 - k) = 2 * 2 ^ (15 - (k + 1)) := two_pow_15 k (by omega)
    rw [exN, kraft_append, h1, h2, h3]
    obtain ⟨q, hq⟩ : ∃ q, q = D / 2 ^ (15 - (k + 1)) := ⟨_, rfl⟩
    obtain ⟨p, hp⟩ : ∃ p, p = 2 ^ (15 - (k + 1)) := ⟨_, rfl⟩
    rw [← hq, ← hp]
    by_cases h : q % 2 = 1
    · rw [if_pos h]
      have e : kraftN [k + 1] = p := by rw [hp]; simp [kraftN, shareN]
      rw [e, ← Nat.mul_assoc, show q / 2 * 2 = q - 1 by omega, Nat.sub_mul, Nat.one_mul]
      have : 1 * p ≤ q * p := Nat.mul_le_mul_right _ (by omega)
      omega
    · rw [if_neg h]
      have e : kraftN ([] : List Nat) = 0 := rfl
      rw [e, ← Nat.mul_assoc, show q / 2 * 2 = q by omega]
      omega
theorem ex_le (D k : Nat) (hk : k ≤ 15) : (∀ x ∈ exN D k, x ≤ 15) ∧ (exN D k).length ≤ k := by
  induction k with
  | zero => exact ⟨(fun x hx => (by cases hx)), Nat.le_refl _⟩
  | succ k ih =>
    obtain ⟨h1, h2⟩ := ih (by omega)
    rw [exN]
    by_cases h : D / 2 ^ (15 - (k + 1)) % 2 = 1
    · rw [if_pos h]
      refine ⟨fun x hx => ?_, by rw [List.length_append]; simp; omega⟩
      rcases List.mem_append.1 hx with hx | hx
      · exact h1 x hx
      · rw [List.mem_singleton.1 hx]; omega
    · rw [if_neg h, List.append_nil]
      exact ⟨h1, by omega⟩

/-- Whether so many shares are left of a length. -/
def freeN (S n : Nat) : Nat := (32768 - S) / 2 ^ (15 - n) % 2

theorem cshare_out (xs : List Int) (v : Value) (w : World) (hv : Reads w v (intsV xs)) (hbad : xs.any badLen = true ∨ 288 < xs.length) :
    Calls Try.prog 28 #[v] w fun e w' => e = .returned (.int .i64 (-1)) ∧ Touch (fun _ => False) w w' := by
  have hcount := count_out xs v w hv hbad
  go_enter Try.func28, Try.ntmps28
  go_wp2_with (first
    | (go_at_call 35; refine hcount.mono ?_; rintro e w1 ⟨rfl, ht1⟩)
    | (refine wpList_store_row rfl 65 (.tmp 3) (.tmp 8) rfl _ _ rfl rfl _ _ (heap_alloc_new w1 _) Try.size65 rfl (tabV_one _ _) ?_))
  go_ret
  exact ⟨rfl, (ht1.alloc _).setRow (.inr ht1.size) _⟩

set_option maxHeartbeats 400000 in
theorem cshare_in (ls : List Nat) (v : Value) (w : World) (hv : Reads w v (intVs ls)) (h15 : ∀ x ∈ ls, x ≤ 15) (hn : ls.length ≤ 288) :
    Calls Try.prog 28 #[v] w fun e w' => e = .returned (.int .i64 (kraftN ls)) ∧ Touch (fun _ => False) w w' := by
  have hcount := count_in ls v w hv h15 hn
  have hshare := share_calls ls h15 hn
  generalize kraftN ls = S at hshare ⊢
  go_enter Try.func28, Try.ntmps28
  go_wp2_with (first
    | (go_at_call 35; refine hcount.mono ?_; rintro e w1 ⟨rfl, ht1⟩)
    | (refine wpList_store_row rfl 65 (.tmp 3) (.tmp 8) rfl _ _ rfl rfl _ _ (heap_alloc_new w1 _) Try.size65 rfl (tabV_one _ _) ?_; have h6 := (Block.new w1 65 (tabV 16 fun _ => 0)).row (ys := tabV 16 (cntN ls)) rfl; have hT6 := ((Touch.refl (fun _ => False) w).trans ht1).alloc (.cells (tabV 16 fun _ => 0).toArray 65) |>.setRow (g := w1.heap.size) (.inr (by have := ht1.size; omega)) (tabV 16 (cntN ls)).toArray; rw [← zero16] at h6 hT6; generalize (World.setRow _ _ _) = w2 at h6 hT6 ⊢; have h6c := h6.cells)
    | (refine wpList_load_cells rfl 65 (.tmp 3) rfl _ 0 rfl _ _ h6c Try.underlying65 rfl Try.size65 ?_)
    | (go_at_call 36; refine (hshare _).mono ?_; rintro e w3 ⟨rfl, ht3⟩; have hT7 := hT6.trans ht3))
  go_ret
  exact ⟨rfl, hT7⟩

theorem fill_none (v : Value) (z : Int) (w : World) (hsh : Calls Try.prog 28 #[v] w fun e w' => e = .returned (.int .i64 z) ∧ Touch (fun _ => False) w w') (hz : z < 0 ∨ 32768 < z) :
    Calls Try.prog 29 #[v] w fun e w' => e = .returned (.slice none 0 0) ∧ Touch (fun _ => False) w w' := by
  by_cases h0 : z < 0
  · clear hz
    go_enter Try.func29, Try.ntmps29
    go_wp2_with fail
    refine hsh.mono ?_
    rintro e w1 ⟨rfl, ht⟩
    have HT := Lib.hid ht
    clear ht hsh
    go_wp2_with fail
    go_ret
    exact ⟨rfl, HT.out⟩
  · have h1 : 32768 < z := by omega
    clear hz
    go_enter Try.func29, Try.ntmps29
    go_wp2_with fail
    refine hsh.mono ?_
    rintro e w1 ⟨rfl, ht⟩
    have HT := Lib.hid ht
    clear ht hsh
    go_wp2_with fail
    go_ret
    exact ⟨rfl, HT.out⟩

theorem free_val (S n : Nat) (_hS : S ≤ 32768) (_hn : n ≤ 15) : bits .and .i64 (((32768 - S : Nat) : Int) / 2 ^ (15 - n)) 1 = (freeN S n : Int) := by
  have e : ((32768 - S : Nat) : Int) / 2 ^ (15 - n) = (((32768 - S) / 2 ^ (15 - n) : Nat) : Int) := by simp
  rw [e]
  have h : ∀ x : Int, bits .and .i64 x 1 = x % 2 := fun x => by
    show IntKind.i64.wrap ((BitVec.ofInt 64 x &&& BitVec.ofInt 64 ((1 : Nat) : Int)).toNat : Int) = _
    rw [BitVec.toNat_and, ofInt_u64 1 (by decide), BitVec.toNat_ofInt, show (1 : Nat) = 2 ^ 1 - 1 from rfl, Nat.and_two_pow_sub_one_eq_mod]
    simp [IntKind.wrap, IntKind.bits, IntKind.signed]
    omega
  rw [h]
  unfold freeN
  omega

set_option maxHeartbeats 400000 in
theorem fill_calls (v : Value) (S : Nat) (w : World) (hsh : Calls Try.prog 28 #[v] w fun e w' => e = .returned (.int .i64 (S : Nat)) ∧ Touch (fun _ => False) w w') (hS : S ≤ 32768) :
    Calls Try.prog 29 #[v] w fun e w' => ∃ r, e = .returned r ∧ Row w' 3 r (tabV 16 (freeN S)) ∧ Sep w.heap.size none r.ownBlock ∧ Touch (fun _ => False) w w' := by
  obtain ⟨i0, hi, hz0, hz1, hz2⟩ := info_parts Try.info3
  go_enter Try.func29, Try.ntmps29
  go_wp2_with fail
  refine hsh.mono ?_
  rintro e w1 ⟨rfl, ht⟩
  have HT := Lib.hid ht
  clear ht hsh
  go_wp2_with (at_make; refine wpList_make_full _ rfl (.const (.int .i64 16)) (.const (.int .i64 16)) 22 rfl w1.heap.size 3 i0 _ 1 Try.underlying22 hi hz0 hz1 .i64 .i64 _ _ 16 rfl rfl rfl rfl (by rw [hz2]; omega) (by unfold maxLen; omega) (Nat.le_refl _) ?_; intro w2 hown hgrow; rw [made_ints] at hown; have hrow0 := Row.of_own hown; have hT0 := Lib.hid (HT.out.grown hgrow (fun k h => by cases h)))
  clear hown hgrow
  have hG0 := HT.out.size
  generalize hG : w1.heap.size = G at hrow0 hG0
  have HG := Lib.hid hG
  clear hG
  go_loopw [5, 17] (fun _ i wr => ∃ k : Nat, k ≤ 16 ∧ i = .int .i64 k ∧ Row wr 3 (.slice (some ⟨G, 0, none⟩) 16 16) (tabV 16 fun j => if j < k then freeN S j else 0) ∧ RowKit.Hid (Touch (fun _ => False) w wr)) (fun _ i _ => 16 - (intOf i).toNat)
  case atStart =>
    refine ⟨0, by omega, rfl, ?_, hT0⟩
    have e : intVs (List.replicate 16 0) = tabV 16 (fun j => if j < 0 then freeN S j else 0) := rfl
    rw [← e]
    exact hrow0
  case round =>
    clear hrow0 hT0
    obtain ⟨k, hk, rfl, hrow, HS⟩ := hrel
    by_cases hlt : k < 16
    · have hfr := hrow.free (k := k)
      have hcr := (Row.cells hrow).2 k _ (tabV_get 16 _ k hlt)
      rw [Nat.zero_add] at hfr hcr
      have hval := free_val S k hS (by omega)
      have hsub : (32768 : Int) - (S : Int) = ((32768 - S : Nat) : Int) := by omega
      obtain ⟨D, hD⟩ : ∃ D, D = 32768 - S := ⟨_, rfl⟩
      rw [← hD] at hval hsub
      have hset := Lib.hid (hrow.set (k := k) hlt (.int .i64 (freeN S k : Nat)))
      have HT2 := Lib.hid (HS.out.setCell (p := ⟨G, k, none⟩) (.inr hG0) (.int .i64 (freeN S k : Nat)))
      clear hrow hD
      generalize hff : freeN S k = f at hval hset HT2
      have HF := Lib.hid hff
      clear hff
      go_wp2_with fail
      go_roundw
      case rel =>
        refine ⟨k + 1, by omega, by go_num, ?_, HT2⟩
        have h1 := hset.out
        rw [tabV_set, Nat.zero_add, tabV_congr 16 _ (fun j => if j < k + 1 then freeN S j else 0) (fun j _ => by
          by_cases e : j = k
          · subst e; rw [if_pos rfl, if_pos (by omega), HF.out]
          · rw [if_neg e]
            by_cases e2 : j < k
            · rw [if_pos e2, if_pos (by omega)]
            · rw [if_neg e2, if_neg (by omega)])] at h1
        exact h1
      case measure => simp [intOf]; omega
    · obtain rfl : k = 16 := by omega
      go_wp2_with fail
      go_ret
      refine ⟨_, rfl, ?_, .inr ⟨G, rfl, hG0⟩, HS.out⟩
      rw [tabV_congr 16 (freeN S) _ (fun j hj => (if_pos hj).symm)]
      exact hrow
end Go.Proofs.Ytmeidbggebcddaa

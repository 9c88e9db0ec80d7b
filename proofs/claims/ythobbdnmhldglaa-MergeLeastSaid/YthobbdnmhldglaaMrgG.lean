/- Package merge: how many symbols come; the cost of lengths; a count that may not be. -/
import Derived.Test.YthobbdnmhldglaaMrgE
namespace Go.Proofs.Ythobbdnmhldglaa
open Go Go.RowKit
set_option maxRecDepth 100000

/-- The cost of the first k. -/
def costN (c l : List Nat) : Nat → Nat
  | 0 => 0
  | k + 1 => costN c l k + c.getD k 0 * l.getD k 0

theorem costN_le (c l : List Nat) (A B : Nat) (hA : ∀ x ∈ c, x ≤ A) (hB : ∀ x ∈ l, x ≤ B) (k : Nat) : costN c l k ≤ k * (A * B) := by
  induction k with
  | zero => simp [costN]
  | succ k ih =>
    rw [costN, Nat.succ_mul]
    have h1 : c.getD k 0 ≤ A := by
      by_cases h : k < c.length
      · simp [List.getD, h]; exact hA _ (List.getElem_mem h)
      · simp [List.getD, List.getElem?_eq_none (Nat.le_of_not_lt h)]
    have h2 : l.getD k 0 ≤ B := by
      by_cases h : k < l.length
      · simp [List.getD, h]; exact hB _ (List.getElem_mem h)
      · simp [List.getD, List.getElem?_eq_none (Nat.le_of_not_lt h)]
    have := Nat.mul_le_mul h1 h2
    omega

set_option maxHeartbeats 400000 in
theorem come_calls (c : List Nat) (v : Value) (w : World) (hlen : c.length ≤ 288) (hv : Reads w v (intVs c)) :
    Calls Try.prog 8 #[v] w fun e w' => e = .returned (.int .i64 ((comesL c c.length).length : Nat)) ∧ Touch (fun _ => False) w w' := by
  obtain ⟨a, cap, hv', hcap, hcm, hc3⟩ := hv
  subst hv'
  rw [intVs_length] at hcap ⊢
  have HC := Lib.hid hc3
  clear hc3
  go_enter Try.func8, Try.ntmps8
  go_wp2
  go_loopw [3, 4] (fun n i wr => ∃ k : Nat, k ≤ c.length ∧ i = .int .i64 k ∧ n = .int .i64 ((comesL c k).length : Nat) ∧ Touch (fun _ => False) w wr) (fun _ i _ => c.length - (intOf i).toNat)
  case atStart => exact ⟨0, Nat.zero_le _, rfl, rfl, Touch.refl _ _⟩
  case round =>
    obtain ⟨k, hk, rfl, rfl, ht⟩ := hrel
    by_cases hlt : k < c.length
    · obtain ⟨g, o, rfl, hcc⟩ : ∃ g o, a = some ⟨g, o, none⟩ ∧ w.cell? ⟨g, o + k, none⟩ = some (.int .i64 (c.getD k 0 : Nat)) := by
        rcases HC.out with h | ⟨g, o, h1, h2⟩
        · have h9 : c.length = 0 := by have := congrArg List.length h; rwa [intVs_length] at this
          omega
        · exact ⟨g, o, h1, h2 k _ (by simp [intVs, hlt])⟩
      have hc2 := ht.cell hcc id
      have HT := Lib.hid ht
      have hll := comesL_length c k
      clear hcc ht HC
      by_cases hpos : 0 < c.getD k 0
      · have HE := Lib.hid (show (comesL c (k + 1)).length = (comesL c k).length + 1 by rw [comesL_succ_yes c k hpos]; simp)
        generalize (comesL c k).length = m at HE hll
        generalize c.getD k 0 = n at hc2 hpos
        go_wp2
        try go_quiet (fail)
        try go_wp2
        go_roundw
        case rel => exact ⟨k + 1, by omega, by go_num, by rw [HE.out]; go_num, HT.out⟩
        case measure => simp [intOf]; omega
      · have HE := Lib.hid (show (comesL c (k + 1)).length = (comesL c k).length by rw [comesL_succ_no c k hpos])
        have hz : c.getD k 0 = 0 := by omega
        rw [hz] at hc2
        generalize (comesL c k).length = m at HE hll
        clear hpos hz
        go_wp2
        try go_quiet (fail)
        try go_wp2
        go_roundw
        case rel => exact ⟨k + 1, by omega, by go_num, by rw [HE.out], HT.out⟩
        case measure => simp [intOf]; omega
    · obtain rfl : k = c.length := by omega
      go_wp2
      go_ret
      exact ⟨rfl, ht⟩

theorem mul_small (a b P : Nat) (h : a * b = P) (hP : P < 4611686018427387904) : IntKind.i64.wrap ((a : Int) * (b : Int)) = (P : Int) := by
  rw [← Int.natCast_mul, h]; exact wrap_small P hP
theorem add_small (a b P : Nat) (h : a + b = P) (hP : P < 4611686018427387904) : IntKind.i64.wrap ((a : Int) + (b : Int)) = (P : Int) := by
  rw [← Int.natCast_add, h]; exact wrap_small P hP

set_option maxHeartbeats 400000 in
theorem cost_calls (c l : List Nat) (cv lv : Value) (w : World) (h288 : c.length ≤ 288) (hlen : c.length = l.length) (hc : Reads w cv (intVs c)) (hl : Reads w lv (intVs l)) (hsmall : ∀ k, costN c l k < 4611686018427387904) :
    Calls Try.prog 10 #[cv, lv] w fun e w' => e = .returned (.int .i64 (costN c l c.length : Nat)) ∧ Touch (fun _ => False) w w' := by
  obtain ⟨a, cap, hcv, hcap, hcm, hc3⟩ := hc
  obtain ⟨b, cap2, hlv, hcap2, hcm2, hl3⟩ := hl
  subst hcv hlv
  rw [intVs_length] at hcap hcap2 ⊢
  rw [intVs_length, ← hlen]
  rw [← hlen] at hcap2
  have HC := Lib.hid hc3
  have HL := Lib.hid hl3
  have HS := Lib.hid hsmall
  have HLEN := Lib.hid hlen
  clear hc3 hl3 hsmall hlen
  go_enter Try.func10, Try.ntmps10
  go_wp2
  go_loopw [5, 12] (fun n i wr => ∃ k : Nat, k ≤ c.length ∧ i = .int .i64 k ∧ n = .int .i64 (costN c l k : Nat) ∧ Touch (fun _ => False) w wr) (fun _ i _ => c.length - (intOf i).toNat)
  case atStart => exact ⟨0, Nat.zero_le _, rfl, rfl, Touch.refl _ _⟩
  case round =>
    obtain ⟨k, hk, rfl, rfl, ht⟩ := hrel
    by_cases hlt : k < c.length
    · obtain ⟨g, o, rfl, hcc⟩ : ∃ g o, a = some ⟨g, o, none⟩ ∧ w.cell? ⟨g, o + k, none⟩ = some (.int .i64 (c.getD k 0 : Nat)) := by
        rcases HC.out with h | ⟨g, o, h1, h2⟩
        · have h9 : c.length = 0 := by have := congrArg List.length h; rwa [intVs_length] at this
          omega
        · exact ⟨g, o, h1, h2 k _ (by simp [intVs, hlt])⟩
      obtain ⟨g2, o2, rfl, hll⟩ : ∃ g o, b = some ⟨g, o, none⟩ ∧ w.cell? ⟨g, o + k, none⟩ = some (.int .i64 (l.getD k 0 : Nat)) := by
        have hlt2 : k < l.length := by rw [← HLEN.out]; exact hlt
        rcases HL.out with h | ⟨g, o, h1, h2⟩
        · have h9 : l.length = 0 := by have := congrArg List.length h; rwa [intVs_length] at this
          omega
        · exact ⟨g, o, h1, h2 k _ (by simp [intVs, hlt2])⟩
      have hc2 := ht.cell hcc id
      have hl2 := ht.cell hll id
      have HT := Lib.hid ht
      have hb := HS.out (k + 1)
      have HE := Lib.hid (show costN c l (k + 1) = costN c l k + c.getD k 0 * l.getD k 0 from rfl)
      rw [HE.out] at hb
      clear hcc hll ht HC HL
      generalize costN c l k = m at HE hb
      generalize c.getD k 0 = x at HE hb hc2
      generalize l.getD k 0 = y at HE hb hl2
      generalize hP : x * y = P at HE hb
      have hw1 := mul_small x y P hP (by omega)
      generalize hQ : m + P = Q at HE hb
      have hw2 := add_small m P Q hQ hb
      have hk0 : (0 : Int) ≤ (k : Int) := by omega
      have hk1 : (k : Int) < (c.length : Int) := by omega
      clear hP hQ
      go_wp2_with fail
      go_quiet (fail)
      go_wp2
      go_roundw
      case rel => exact ⟨k + 1, by omega, by go_num, by rw [HE.out], HT.out.drewN _⟩
      case measure => simp [intOf]; omega
    · obtain rfl : k = c.length := by omega
      go_wp2
      go_ret
      exact ⟨rfl, ht⟩
end Go.Proofs.Ythobbdnmhldglaa

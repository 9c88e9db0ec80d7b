
/- Contracts of the library's search by a function value, and of package canon's counts and shares, over the translated program. -/
import Derived.Test.YthobbdnmhldglaaBitsS
import Derived.Test.YthobbdnmhldglaaArr
import Derived.Test.YthobbdnmhldglaaCanNum
import Derived.Lib.Hide
import Derived.Shelf.Abstract
import Derived.LoopTactic
import Derived.Deep.LoopGhost
import Derived.Deep.Draws
namespace Go.Proofs.Ythobbdnmhldglaa
open Go Go.RowKit
set_option maxRecDepth 100000
set_option maxRecDepth 100000

def intsV (l : List Int) : List Value := l.map fun x => Value.int .i64 x
theorem intsV_length (l : List Int) : (intsV l).length = l.length := by simp [intsV]
theorem intsV_nat (l : List Nat) : intsV (l.map Int.ofNat) = intVs l := by simp [intsV, intVs]

/-- A function that tells of each number whether it is so, and does nothing else. -/
def Asks (g : Nat) (p : Int → Bool) : Prop := ∀ (x : Int) (w : World), Calls Try.prog g #[.int .i64 x] w fun e w' => e = .returned (.bool (p x)) ∧ w' = w

set_option maxHeartbeats 400000 in
theorem index_calls (g : Nat) (p : Int → Bool) (eg : ∀ args w, (callFunc g args).run Try.prog w = .ok (.enter g args) w) (hp : Asks g p) (xs : List Int) (v : Value) (w : World) (hv : Reads w v (intsV xs)) :
    Calls Try.prog 23 #[v, .func (.func g) #[] #[]] w fun e w' => (∃ i : Int, e = .returned (.int .i64 i) ∧ (decide (0 ≤ i) = xs.any p)) ∧ ∃ q, w' = w.drewN q := by
  by_cases h0 : 0 < xs.length
  · obtain ⟨b, off, cap, hv', hcap, hcm, hg, hcells⟩ := hv.addr (by rw [intsV_length]; exact h0)
    rw [intsV_length] at hv' hcap
    subst hv'
    unfold maxLen at hcm
    go_enter Try.func23, Try.ntmps23
    go_wp2
    go_loopw [5, 8] (fun _ i wr => ∃ k q : Nat, k ≤ xs.length ∧ i = .int .i64 k ∧ wr = w.drewN q ∧ RowKit.Hid (∀ j, (hj : j < xs.length) → j < k → p xs[j] = false)) (fun _ i _ => xs.length - (intOf i).toNat)
    case atStart => exact ⟨0, 0, Nat.zero_le _, rfl, rfl, Lib.hid (fun j _ hj => absurd hj (Nat.not_lt_zero _))⟩
    case round =>
      obtain ⟨k, q, hk, rfl, rfl, H⟩ := hrel
      by_cases hlt : k < xs.length
      · have hcell := hcells k (.int .i64 xs[k]) (by simp [intsV, hlt])
        clear hcells
        generalize hy : xs[k] = y at hcell
        have B := Lib.hid hy
        clear hy
        have hcall := hp y (w.drewN q)
        cases hq : p y with
        | true =>
          rw [hq] at hcall
          have HQ := Lib.hid hq
          clear hq
          go_wp2_with (go_at_fn g; refine hcall.mono ?_; rintro e w' ⟨rfl, rfl⟩)
          go_ret
          refine ⟨⟨_, rfl, ?_⟩, q, rfl⟩
          have : xs.any p = true := List.any_eq_true.2 ⟨xs[k], List.getElem_mem hlt, by rw [B.out]; exact HQ.out⟩
          rw [this]
          exact decide_eq_true (by omega)
        | false =>
          rw [hq] at hcall
          have HQ := Lib.hid hq
          clear hq
          go_wp2_with (go_at_fn g; refine hcall.mono ?_; rintro e w' ⟨rfl, rfl⟩)
          go_roundw
          case rel =>
            refine ⟨k + 1, _, by omega, by go_num, rfl, Lib.hid fun j hj hjk => ?_⟩
            by_cases e : j = k
            · subst e; rw [B.out]; exact HQ.out
            · exact H.out j hj (by omega)
          case measure => simp [intOf]; omega
      · obtain rfl : k = xs.length := by omega
        clear hcells
        go_wp2
        go_ret
        refine ⟨⟨_, rfl, ?_⟩, q, rfl⟩
        have : xs.any p = false := by
          rw [List.any_eq_false]
          intro x hx
          obtain ⟨j, hj, rfl⟩ := List.getElem_of_mem hx
          rw [H.out j hj hj]; simp
        rw [this]
        exact decide_eq_false (by omega)
  · obtain rfl : xs = [] := List.eq_nil_of_length_eq_zero (by omega)
    obtain ⟨a, cap, hv', _⟩ := hv.form
    subst hv'
    go_enter Try.func23, Try.ntmps23
    go_wp2
    go_loopw [5, 8] (fun _ i wr => i = .int .i64 0 ∧ wr = w) (fun _ _ _ => 0)
    case atStart => exact ⟨rfl, rfl⟩
    case round =>
      obtain ⟨rfl, rfl⟩ := hrel
      go_wp2
      go_ret
      exact ⟨⟨_, rfl, rfl⟩, 0, rfl⟩

theorem any_calls (g : Nat) (p : Int → Bool) (eg : ∀ args w, (callFunc g args).run Try.prog w = .ok (.enter g args) w) (hp : Asks g p) (xs : List Int) (v : Value) (w : World) (hv : Reads w v (intsV xs)) :
    Calls Try.prog 12 #[v, .func (.func g) #[] #[]] w fun e w' => e = .returned (.bool (xs.any p)) ∧ Touch (fun _ => False) w w' := by
  have hi := index_calls g p eg hp xs v w hv
  clear hp hv
  go_enter Try.func12, Try.ntmps12
  go_wp2_with (go_at_call 23; refine hi.mono ?_; rintro e w' ⟨⟨i, rfl, hd⟩, q, rfl⟩)
  go_ret
  refine ⟨?_, (Touch.refl _ _).drewN q⟩
  rw [← hd]
  rfl

/-- A length that may not be. -/
def badLen (x : Int) : Bool := decide (x < 0) || decide (15 < x)

theorem asks_bad : Asks 30 badLen := fun x w => by
  unfold badLen
  by_cases h1 : x < 0
  · go_enter Try.func30, Try.ntmps30
    go_wp2
    go_ret
    exact ⟨ret1 (by simp [h1]), rfl⟩
  · by_cases h2 : 15 < x
    · go_enter Try.func30, Try.ntmps30
      go_wp2
      go_ret
      exact ⟨ret1 (by simp [h2]), rfl⟩
    · go_enter Try.func30, Try.ntmps30
      go_wp2
      go_ret
      exact ⟨ret1 (by simp [h1, h2]), rfl⟩

theorem enters_bad : ∀ args w, (callFunc 30 args).run Try.prog w = .ok (.enter 30 args) w := enters_of Try.func30 (by kernel_rfl) rfl

end Go.Proofs.Ythobbdnmhldglaa

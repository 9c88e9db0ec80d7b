/- Package merge: contracts of the library's comparison, and of the closure that tells the rarer one of two symbols. -/
import Derived.Test.YthobbdnmhldglaaCanA
import Derived.Test.YthobbdnmhldglaaMrgShelf
import Derived.Shelf.SlSortCmp.NoneTotal
namespace Go.Proofs.Ythobbdnmhldglaa
open Go Go.RowKit
set_option maxRecDepth 100000

def cmpI (x y : Int) : Int := if x < y then -1 else if y < x then 1 else 0
def orI (a b : Int) : Int := if a = 0 then b else a

theorem isnan_calls (x : Int) (w : World) : Calls Try.prog 34 #[.int .i64 x] w fun e w' => e = .returned (.bool false) ∧ w' = w := by
  go_enter Try.func34, Try.ntmps34
  go_wp2
  go_ret
  exact ⟨ret1 (by simp), rfl⟩

theorem compare_calls (x y : Int) (w : World) : Calls Try.prog 27 #[.int .i64 x, .int .i64 y] w fun e w' => e = .returned (.int .i64 (cmpI x y)) ∧ w' = w := by
  have h1 := fun (z : Int) (W : World) => isnan_calls z W
  unfold cmpI
  by_cases c1 : x < y
  · go_enter Try.func27, Try.ntmps27
    go_wp2_with (go_at_call 34; refine (h1 _ _).mono ?_; rintro e w' ⟨rfl, rfl⟩)
    go_ret
    exact ⟨ret1 (by simp [c1]), rfl⟩
  · by_cases c2 : y < x
    · go_enter Try.func27, Try.ntmps27
      go_wp2_with (go_at_call 34; refine (h1 _ _).mono ?_; rintro e w' ⟨rfl, rfl⟩)
      go_ret
      exact ⟨ret1 (by simp [c1, c2]), rfl⟩
    · go_enter Try.func27, Try.ntmps27
      go_wp2_with (go_at_call 34; refine (h1 _ _).mono ?_; rintro e w' ⟨rfl, rfl⟩)
      go_ret
      exact ⟨ret1 (by simp [c1, c2]), rfl⟩

theorem or_calls (x y : Int) (b cap : Nat) (w : World) (h0 : w.cell? ⟨b, 0, none⟩ = some (.int .i64 x)) (h1 : w.cell? ⟨b, 0 + 1, none⟩ = some (.int .i64 y)) :
    Calls Try.prog 26 #[.slice (some ⟨b, 0, none⟩) 2 cap] w fun e w' => e = .returned (.int .i64 (orI x y)) ∧ w' = w := by
  unfold orI
  by_cases c1 : x = 0
  · by_cases c2 : y = 0
    · subst c1 c2
      go_enter Try.func26, Try.ntmps26
      go_wp2
      go_loopw [8] (fun i wr => ∃ k : Nat, k ≤ 2 ∧ i = .int .i64 k ∧ wr = w) (fun i _ => 2 - (intOf i).toNat)
      case atStart => exact ⟨0, by omega, rfl, rfl⟩
      case round =>
        obtain ⟨k, hk, rfl, rfl⟩ := hrel
        rcases (by omega : k = 0 ∨ k = 1 ∨ k = 2) with rfl | rfl | rfl
        · go_wp2
          go_roundw
          case rel => exact ⟨1, by omega, rfl, trivial⟩
          case measure => simp [intOf]
        · go_wp2
          go_roundw
          case rel => exact ⟨2, by omega, rfl, trivial⟩
          case measure => simp [intOf]
        · go_wp2
          go_ret
          exact ⟨ret1 rfl, rfl⟩
    · subst c1
      go_enter Try.func26, Try.ntmps26
      go_wp2
      go_loopw [8] (fun i wr => ∃ k : Nat, k ≤ 1 ∧ i = .int .i64 k ∧ wr = w) (fun i _ => 2 - (intOf i).toNat)
      case atStart => exact ⟨0, by omega, rfl, rfl⟩
      case round =>
        obtain ⟨k, hk, rfl, rfl⟩ := hrel
        rcases (by omega : k = 0 ∨ k = 1) with rfl | rfl
        · go_wp2
          go_roundw
          case rel => exact ⟨1, by omega, rfl, trivial⟩
          case measure => simp [intOf]
        · have c3 : ((y : Int) == 0) = false := beq_eq_false_iff_ne.2 c2
          go_wp2
          go_ret
          exact ⟨ret1 (by simp), rfl⟩
  · go_enter Try.func26, Try.ntmps26
    go_wp2
    go_loopw [8] (fun i wr => i = .int .i64 0 ∧ wr = w) (fun i _ => 2 - (intOf i).toNat)
    case atStart => exact ⟨rfl, rfl⟩
    case round =>
      obtain ⟨rfl, rfl⟩ := hrel
      have c3 : ((x : Int) == 0) = false := beq_eq_false_iff_ne.2 c1
      go_wp2
      go_ret
      exact ⟨ret1 (by simp [c1]), rfl⟩

end Go.Proofs.Ythobbdnmhldglaa

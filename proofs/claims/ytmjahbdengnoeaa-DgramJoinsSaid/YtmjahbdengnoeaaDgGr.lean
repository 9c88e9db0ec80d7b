/- Contracts of package dgram: the reference's Good. -/
import Derived.Test.YtmjahbdengnoeaaDgA
namespace Go.Proofs.Ytmjahbdengnoeaa
open Go Go.RowKit
set_option maxRecDepth 100000

set_option maxHeartbeats 4000000 in
theorem rgood_calls (d : Dg) (w : World) : Calls Try.prog 20 #[d.v] w fun e w' => e = .returned (.bool (goodD d)) ∧ Touch (fun _ => False) w w' := by
  obtain ⟨kind, se, ep, sq, pos, sm, mp, last, text⟩ := d
  unfold Dg.v Dg.cells
  simp only
  obtain ⟨b1, hb1⟩ : ∃ b, decide (pos < 4611686018427387904) = b := ⟨_, rfl⟩
  obtain ⟨b2, hb2⟩ : ∃ b, decide (text.size ≤ 256) = b := ⟨_, rfl⟩
  obtain ⟨b3, hb3⟩ : ∃ b, decide (mp = 0) = b := ⟨_, rfl⟩
  obtain ⟨te, hte⟩ : ∃ b, decide (text.size = 0) = b := ⟨_, rfl⟩
  have hg : goodD ⟨kind, se, ep, sq, pos, sm, mp, last, text⟩ = (decide (1 ≤ kind) && decide (kind ≤ 5) && b1 && b2 && (b3 || decide (kind = 4)) && (te || decide (kind = 3)) && (!last || decide (kind = 3) || decide (kind = 2))) := by
    unfold goodD
    rw [← hb1, ← hb2, ← hb3, ← hte]
  rw [hg]
  clear hg
  have H1 := Lib.hid hb1
  have H2 := Lib.hid hb2
  have H3 := Lib.hid hb3
  have H4 := Lib.hid hte
  clear hb1 hb2 hb3 hte
  rcases kind_ways kind with h | h | h | h | h | h | h
  · go_enter Try.func20, Try.ntmps20
    go_wp2
    go_ret
    exact ⟨sret_bool (by simp; omega), (Touch.refl _ _).alloc _⟩
  · go_enter Try.func20, Try.ntmps20
    go_wp2
    go_ret
    exact ⟨sret_bool (by simp; omega), (Touch.refl _ _).alloc _⟩
  all_goals
    subst h
    rcases rest_ways b1 b2 b3 te last with rfl | ⟨rfl, rfl⟩ | ⟨rfl, rfl, rfl, rfl, rfl⟩ | ⟨rfl, rfl, rfl, rfl, rfl⟩ | ⟨rfl, rfl, rfl, rfl, rfl⟩ | ⟨rfl, rfl, rfl, rfl, rfl⟩ | ⟨rfl, rfl, rfl, rfl, rfl⟩ | ⟨rfl, rfl, rfl, rfl, rfl⟩ | ⟨rfl, rfl, rfl, rfl, rfl⟩ | ⟨rfl, rfl, rfl, rfl, rfl⟩
    all_goals
      have h1 := lim_of H1.out
      have h2 := len_of H2.out
      have h3 := nul_of H3.out
      have h4 := emp_of H4.out
      go_enter Try.func20, Try.ntmps20
      go_wp2
      go_ret
      exact ⟨sret_bool rfl, (Touch.refl _ _).alloc _⟩
end Go.Proofs.Ytmjahbdengnoeaa

/- Package merge: two things of a list as one, behind another list. -/
import Derived.Test.YthobbdnmhldglaaMrgD
import Derived.Deep.RegionHeld3
namespace Go.Proofs.Ythobbdnmhldglaa
open Go Go.RowKit
set_option maxRecDepth 100000

theorem wrap_small (Z : Nat) (h : Z < 4611686018427387904) : IntKind.i64.wrap (Z : Int) = (Z : Int) := by simp [IntKind.wrap, IntKind.bits, IntKind.signed]; omega

theorem new_it (w : World) (t : TypeId) (Z : Nat) (b : Bool) (hz : Z < 4611686018427387904) : ∀ j u, (itV (Z, b))[j]? = some u → (w.alloc (.cells #[.int .i64 (IntKind.i64.wrap (Z : Int)), .bool b] t)).cell? ((⟨w.heap.size, 0, none⟩ : Addr).add j) = some u := by
  intro j u hu
  rw [wrap_small Z hz]
  rcases j with _ | _ | j
  · simp [itV] at hu; subst hu; simp [Addr.add]
  · simp [itV] at hu; subst hu; simp [Addr.add]
  · simp [itV] at hu

theorem Its.rest {w : World} {g off n cap : Nat} {x y : It} {R : List It} (hn : R.length + 1 + 1 = n) (h1 : n ≤ cap) (h2 : cap ≤ maxLen)
    (h : ∀ j z, (x :: y :: R)[j]? = some z → w.cell? ⟨g, off + j * 2, none⟩ = some (.int .i64 (z.1 : Nat)) ∧ w.cell? ⟨g, off + j * 2 + 1, none⟩ = some (.bool z.2)) :
    Its w (.slice (some ⟨g, off + 4, none⟩) (n - 2) (cap - 2)) R := by
  refine ⟨_, cap - 2, by rw [show n - 2 = R.length by omega], by omega, by omega, .inr ⟨g, off + 4, rfl, fun j z hz => ?_⟩⟩
  have := h (j + 2) z (by simpa using hz)
  rwa [show off + (j + 2) * 2 = off + 4 + j * 2 by omega] at this
theorem Its.rest_end {w : World} {a : Option Addr} {n : Nat} {R : List It} (hn : R.length + 1 + 1 = n) (h1 : n ≤ 2) : Its w (.slice a (n - 2) 0) R :=
  ⟨_, 0, by rw [show n - 2 = R.length by omega], by omega, Nat.zero_le _, .inl (List.eq_nil_of_length_eq_zero (by omega))⟩

set_option maxHeartbeats 1000000 in
theorem pair_calls (base : Nat) (A : List It) (x y : It) (R : List It) (lv rv : Value) (w : World) (hA : w.ownsRow base 54 2 lv A.length (itsV A)) (hR : Its w rv (x :: y :: R)) (hbase : base ≤ w.heap.size)
    (hn : A.length < 10000) (hs : x.1 + y.1 < 4611686018427387904) (hne : ∀ k, rv.ownBlock = some k → lv.ownBlock ≠ some k) :
    Calls Try.prog 28 #[lv, rv] w fun e w' => ∃ lv' rv', e = .returned (.tuple #[lv', rv']) ∧ w'.ownsRow base 54 2 lv' (A.length + 1) (itsV (A ++ [(x.1 + y.1, true)])) ∧ Its w' rv' R ∧ rv'.ownBlock = rv.ownBlock
      ∧ (lv'.ownBlock = lv.ownBlock ∨ ∃ g, lv'.ownBlock = some g ∧ w.heap.size ≤ g) ∧ Touch (fun k => lv.ownBlock = some k) w w' := by
  obtain ⟨i0, hi, hz0, hz1, hz2⟩ := info_parts Try.infoIt
  obtain ⟨a, cap, hv, h1, h2, h3⟩ := hR
  subst hv
  rcases h3 with h3 | ⟨g, off, rfl, h3⟩
  · cases h3
  have hx := (h3 0 x rfl).1
  have hy := (h3 1 y rfl).1
  simp only [Nat.zero_mul, Nat.add_zero, Nat.one_mul] at hx hy
  have H3 := Lib.hid h3
  clear h3
  generalize hX : x.1 = X at hx hs ⊢
  generalize hY : y.1 = Y at hy hs ⊢
  simp only [List.length_cons] at h1 ⊢
  have hsum : (X : Int) + (Y : Int) = ((X + Y : Nat) : Int) := by omega
  generalize X + Y = Z at hsum hs ⊢
  generalize hnn : R.length + 1 + 1 = n at h1 ⊢
  have hn1 : (0 : Int) < (n : Int) := by omega
  have hn2 : (1 : Int) < (n : Int) := by omega
  have hn6 : 0 < n := by omega
  have hn3 : (2 : Int) ≤ (n : Int) := by omega
  have hn4 : (n : Int) ≤ (cap : Int) := by omega
  have hn5 : (2 : Int) ≤ (cap : Int) := by omega
  have HNN := Lib.hid hnn
  have HA := Lib.hid hA
  clear hnn hA
  go_enter Try.func28, Try.ntmps28
  go_wp2_with fail
  go_region_law
    ((refine step_append_own (by rfl) _ _ _ (by rfl) base 54 i0 _ 2 16 Try.underlying52 hi hz0 hz1 hz2 rfl (by decide) lv A.length (itsV A) (by rfl) (by exact own_still HA.out (S := fun _ => False) (((Touch.refl _ _).alloc _).drew) (fun _ _ => id)) ⟨w.heap.size, 0, none⟩ 1 1 (itV (Z, true)) (by rfl) rfl (by exact new_it w _ Z true hs) (by simp [itV, Value.oneCell']) (by unfold maxLen; omega) (by omega) (by simp; omega) ?_; intro v2 w2 hrow2 hgrow hown2))
  all_goals go_wp2
  all_goals
    go_ret2
    have ht : Touch (fun k => lv.ownBlock = some k) w w2 := (((Touch.refl _ _).alloc _).drew).grown hgrow (fun k hk => .inl hk)
    refine ⟨v2, _, rfl, by rw [itsV_append]; exact hrow2, ?_, rfl, ?_, ht⟩
    · first
      | exact Its.rest_end HNN.out (by omega)
      | exact Its.rest HNN.out h1 h2 (fun j z hz => ⟨ht.cell (H3.out j z hz).1 (hne g rfl), ht.cell (H3.out j z hz).2 (hne g rfl)⟩)
    · rcases hown2 with h | h
      · exact .inl h
      · exact .inr ⟨_, h, by simp⟩
end Go.Proofs.Ythobbdnmhldglaa

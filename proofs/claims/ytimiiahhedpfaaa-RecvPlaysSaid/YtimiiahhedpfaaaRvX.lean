/- The window that takes and the reference's together: Take of any number, and the next text. -/
import Derived.Test.YtimiiahhedpfaaaRvW
namespace Go.Proofs.Ytimiiahhedpfaaa
open Go Go.RowKit Go.Maps Go.MapKept Go.ChangeMaps
set_option maxRecDepth 100000

/-- The reference's window in its box, and its rows, apart from some blocks. -/
structure RefR (w : World) (x f b sz : Nat) (A : Nat → Option ByteArray) (tv bv : Value) (S : Nat → Prop) : Prop where
  box : MBox w x (numU f b : Nat) tv bv
  txt : Reads w tv (tR A b sz)
  is : Reads w bv (bR A b sz)
  h1 : ∀ g, tv.ownBlock = some g → ¬ S g
  h2 : ∀ g, bv.ownBlock = some g → ¬ S g
theorem RefR.kept {T : Nat → Prop} {w w' : World} {x f b sz : Nat} {A : Nat → Option ByteArray} {tv bv : Value} {S : Nat → Prop} (h : RefR w x f b sz A tv bv S) (ht : Touch T w w') (hx : ¬ T x) (hS : ∀ g, T g → S g) : RefR w' x f b sz A tv bv S :=
  ⟨h.box.kept ht hx, h.txt.kept ht (fun g hg e => h.h1 g hg (hS g e)), h.is.kept ht (fun g hg e => h.h2 g hg (hS g e)), h.h1, h.h2⟩
theorem RefR.still {w w' : World} {x f b sz : Nat} {A : Nat → Option ByteArray} {tv bv : Value} {S : Nat → Prop} (h : RefR w x f b sz A tv bv S) (ht : Touch (fun _ => False) w w') : RefR w' x f b sz A tv bv S := h.kept ht id (fun _ e => e.elim)

/-- A value whose block is another's, or a new one. -/
def OwnR (w : World) (u v : Value) : Prop := ∀ g, v.ownBlock = some g → u.ownBlock = some g ∨ w.heap.size ≤ g

theorem take_both {p mb n f b sz : Nat} {A : Nat → Option ByteArray} (tv bv : Value) (U : Nat) (hU : U < 4294967296) (t : ByteArray) (hn : n < 1000000000) (hf : f < 4294967296) (hz2 : sz ≤ 32) :
    ∃ (is : Bool) (A' : Nat → Option ByteArray),
      (∀ W, Reads W tv (tR A b sz) → Reads W bv (bR A b sz) → Calls Try.prog 16 #[.agg #[.int .u32 (numU f b : Nat), tv, bv], .int .u32 (U : Nat), .string t] W fun e w' =>
        ∃ v3 v4, e = .returned (.tuple #[.agg #[.int .u32 (numU f b : Nat), v3, v4], .bool is]) ∧ Reads w' v3 (tR A' b sz) ∧ Reads w' v4 (bR A' b sz) ∧ OwnR W tv v3 ∧ OwnR W bv v4 ∧ Touch (fun _ => False) W w') ∧
      (∀ W, RcvAt W p mb n f b sz A → Calls Try.prog 17 #[.pointer (some ⟨p, 0, none⟩), .int .u32 (U : Nat), .string t] W fun e w' =>
        e = .returned (.bool is) ∧ RcvAt w' p mb (n + 1) f b sz A' ∧ Touch (fun k => k = mb) W w') := by
  obtain ⟨d, hd, hUd⟩ : ∃ d, d < 4294967296 ∧ U = numU f (b + d) := ⟨(U + 4294967296 - numU f b) % 4294967296, by omega, by unfold numU; omega⟩
  by_cases ht : 256 < t.size
  · refine ⟨false, A, fun W h1 h2 => ?_, fun W h => ?_⟩
    · rw [hUd]
      exact (rrtake_no f b sz d tv bv A t W h1 h2 hz2 hf hd (.inl ht)).mono fun e w' h => ⟨tv, bv, h.1, h1.still h.2, h2.still h.2, fun g hg => .inl hg, fun g hg => .inl hg, h.2⟩
    · exact (rtake_long h U hU t ht).mono fun e w' k => ⟨k.1, (h.still k.2).mono (by omega) (by omega), k.2.mono (fun _ e => e.elim)⟩
  · by_cases hds : sz ≤ d
    · refine ⟨false, A, fun W h1 h2 => ?_, fun W h => ?_⟩
      · rw [hUd]
        exact (rrtake_no f b sz d tv bv A t W h1 h2 hz2 hf hd (.inr (.inl hds))).mono fun e w' h => ⟨tv, bv, h.1, h1.still h.2, h2.still h.2, fun g hg => .inl hg, fun g hg => .inl hg, h.2⟩
      · rw [hUd]
        exact (rtake_far h d hd hds t).mono fun e w' k => ⟨k.1, (h.still k.2).mono (by omega) (by omega), k.2.mono (fun _ e => e.elim)⟩
    · cases hA : A (b + d) with
      | some t' =>
        refine ⟨false, A, fun W h1 h2 => ?_, fun W h => ?_⟩
        · rw [hUd]
          exact (rrtake_no f b sz d tv bv A t W h1 h2 hz2 hf hd (.inr (.inr (by rw [hA]; rfl)))).mono fun e w' h => ⟨tv, bv, h.1, h1.still h.2, h2.still h.2, fun g hg => .inl hg, fun g hg => .inl hg, h.2⟩
        · rw [hUd]
          exact (rtake_held h d (by omega) t (by omega) hA).mono fun e w' k => ⟨k.1, (h.still k.2).mono (by omega) (by omega), k.2.mono (fun _ e => e.elim)⟩
      | none =>
        refine ⟨true, setT A (b + d) t, fun W h1 h2 => ?_, fun W h => ?_⟩
        · rw [hUd]
          exact (rrtake_new f b sz d tv bv A t W h1 h2 hz2 hf (by omega) (by omega) hA).mono fun e w' ⟨v3, v4, he, k1, k2, k3, k4, k5⟩ => ⟨v3, v4, he, k1, k2, fun g hg => .inr (k3 g hg), fun g hg => .inr (k4 g hg), k5⟩
        · rw [hUd]
          exact rtake_new h d (by omega) t (by omega) hA hn

theorem step_both {p mb n f b sz : Nat} {A : Nat → Option ByteArray} (tv bv : Value) (hb : b < 1000000000) (hz1 : 1 ≤ sz) (hz2 : sz ≤ 32) (hend : A (b + sz) = none) :
    ∃ (ok : Bool) (t : ByteArray) (b' : Nat) (A' : Nat → Option ByteArray), b' ≤ b + 1 ∧
      (∀ W, RcvAt W p mb n f b sz A → Calls Try.prog 14 #[.pointer (some ⟨p, 0, none⟩)] W fun e w' =>
        e = .returned (.tuple #[.string t, .bool ok]) ∧ RcvAt w' p mb n f b' sz A' ∧ Touch (fun k => k = p ∨ k = mb) W w') ∧
      (∀ W, Reads W tv (tR A b sz) → Reads W bv (bR A b sz) → Calls Try.prog 15 #[.agg #[.int .u32 (numU f b : Nat), tv, bv]] W fun e w' =>
        ∃ v3 v4, e = .returned (.tuple #[.agg #[.int .u32 (numU f b' : Nat), v3, v4], .string t, .bool ok]) ∧ Reads w' v3 (tR A' b' sz) ∧ Reads w' v4 (bR A' b' sz) ∧ OwnR W tv v3 ∧ OwnR W bv v4 ∧ Touch (fun _ => False) W w') := by
  cases hA : A b with
  | none =>
    refine ⟨false, ⟨#[]⟩, b, A, by omega, fun W h => ?_, fun W h1 h2 => ?_⟩
    · exact (rnext_none h hA).mono fun e w' k => ⟨k.1, h.still k.2, k.2.mono (fun _ e => e.elim)⟩
    · exact (rrstep_none _ b sz tv bv A W h1 h2 hz1 hz2 hA).mono fun e w' h => ⟨tv, bv, h.1, h1.still h.2, h2.still h.2, fun g hg => .inl hg, fun g hg => .inl hg, h.2⟩
  | some t =>
    refine ⟨true, t, b + 1, offT A b, by omega, fun W h => rnext_some h hA hb, fun W h1 h2 => ?_⟩
    exact (rrstep_some (numU f b : Nat) (numU f (b + 1) : Nat) b sz tv bv A t W h1 h2 hz1 hz2 hA (by unfold numU; omega) hend).mono fun e w' ⟨v3, v4, he, k1, k2, k3, k4, k5⟩ => ⟨v3, v4, he, k1, k2, fun g hg => .inr (k3 g hg), fun g hg => .inr (k4 g hg), k5⟩
theorem held_le {w : World} {p mb n f b sz : Nat} {A : Nat → Option ByteArray} (h : RcvAt w p mb n f b sz A) : heldM A b sz ≤ 256 * sz := by
  refine sumF_le fun j _ => ?_
  cases hAj : A (b + j) with
  | none => exact Nat.zero_le _
  | some t => exact (h.hA _ _ hAj).2.2
end Go.Proofs.Ytimiiahhedpfaaa

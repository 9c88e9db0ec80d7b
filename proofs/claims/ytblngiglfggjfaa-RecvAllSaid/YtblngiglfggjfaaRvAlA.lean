/- What RecvAll's walk wants: a window of layer 25 takes whatever number comes; what its next text is. -/
import Derived.Test.YtblngiglfggjfaaRvC
import Derived.Test.YtblngiglfggjfaaSdE
import Derived.Test.YtblngiglfggjfaaSdF
namespace Go.Proofs.Ytblngiglfggjfaa
open Go Go.RowKit Go.Maps Go.MapKept Go.ChangeMaps
set_option maxRecDepth 100000

/-- The text of a place. -/
def txA (i : Nat) : ByteArray := ⟨#[UInt8.ofNat i]⟩

theorem rtake_any {w : World} {q rb n f bb sz : Nat} {R : Nat → Option ByteArray} (h : RcvAt w q rb n f bb sz R) (pl : Nat) (hpl : pl < bb + sz) (t : ByteArray) (ht : t.size ≤ 256) (hn : n < 1000000000) :
    Calls Try.prog 17 #[.pointer (some ⟨q, 0, none⟩), .int .u32 (numU f pl : Nat), .string t] w fun e w' =>
      ∃ b R', e = .returned (.bool b) ∧ RcvAt w' q rb (n + 1) f bb sz R' ∧ (∀ i s, R' i = some s → R i = some s ∨ (i = pl ∧ s = t)) ∧ (bb ≤ pl → R' pl ≠ none) ∧ Touch (fun k => k = rb) w w' := by
  have hbb := h.hb
  have hzz := h.z2
  by_cases hlt : pl < bb
  · have e : numU f pl = numU f (bb + (4294967296 - (bb - pl))) := by unfold numU; omega
    rw [e]
    refine (rtake_far h (4294967296 - (bb - pl)) (by omega) (by omega) t).mono ?_
    rintro e w' ⟨rfl, hT⟩
    exact ⟨false, R, rfl, (h.still hT).mono (Nat.le_succ _) hn, fun i s hs => Or.inl hs, fun h => by omega, hT.mono (fun _ e => e.elim)⟩
  · obtain ⟨d, rfl⟩ : ∃ d, pl = bb + d := ⟨pl - bb, by omega⟩
    cases hA : R (bb + d) with
    | some t' =>
      refine (rtake_held h d (by omega) t ht hA).mono ?_
      rintro e w' ⟨rfl, hT⟩
      exact ⟨false, R, rfl, (h.still hT).mono (Nat.le_succ _) hn, fun i s hs => Or.inl hs, (fun _ e => (by rw [hA] at e; cases e)), hT.mono (fun _ e => e.elim)⟩
    | none =>
      refine (rtake_new h d (by omega) t ht hA hn).mono ?_
      rintro e w' ⟨rfl, h', hT⟩
      refine ⟨true, _, rfl, h', fun i s hs => ?_, fun _ e => ?_, hT⟩
      · unfold setT at hs
        by_cases e : i = bb + d
        · rw [if_pos e] at hs; cases hs; exact Or.inr ⟨e, rfl⟩
        · rw [if_neg e] at hs; exact Or.inl hs
      · unfold setT at e; rw [if_pos rfl] at e; cases e
/-- What Next tells: a text that was there, or none. -/
def NxA (R R' : Nat → Option ByteArray) (bb b' : Nat) (x : ByteArray) (ok : Bool) : Prop :=
  (ok = true ∧ R bb = some x ∧ b' = bb + 1 ∧ R' = offT R bb) ∨ (ok = false ∧ R bb = none ∧ b' = bb ∧ R' = R)
theorem rnext_any {w : World} {q rb n f bb sz : Nat} {R : Nat → Option ByteArray} (h : RcvAt w q rb n f bb sz R) (hb1 : bb < 1000000000) :
    Calls Try.prog 14 #[.pointer (some ⟨q, 0, none⟩)] w fun e w' =>
      ∃ x ok R' b', e = .returned (.tuple #[.string x, .bool ok]) ∧ RcvAt w' q rb n f b' sz R' ∧ NxA R R' bb b' x ok ∧ Touch (fun k => k = q ∨ k = rb) w w' := by
  cases hA : R bb with
  | some t =>
    refine (rnext_some h hA hb1).mono ?_
    rintro e w' ⟨rfl, h', hT⟩
    exact ⟨t, true, _, _, rfl, h', Or.inl ⟨rfl, hA, rfl, rfl⟩, hT⟩
  | none =>
    refine (rnext_none h hA).mono ?_
    rintro e w' ⟨rfl, hT⟩
    exact ⟨⟨#[]⟩, false, _, _, rfl, h.still hT, Or.inr ⟨rfl, hA, rfl, rfl⟩, hT.mono (fun _ e => e.elim)⟩
theorem openK_one (f b : Nat) (A : Nat → Bool) (hA : A b = false) (m : Nat) : (openK f b A (m + 1))[0]? = some (numU f b) := by
  induction m with
  | zero =>
    rw [openK_succ, if_neg (by rw [Nat.add_zero, hA]; decide)]
    simp [openK]
  | succ m ih =>
    rw [openK_succ, List.getElem?_append_left, ih]
    have := (List.getElem?_eq_some_iff.1 ih).1
    omega
theorem openK_pos1 (f b : Nat) (A : Nat → Bool) (m : Nat) (hA : A b = false) : 0 < (openK f b A (m + 1)).length := (List.getElem?_eq_some_iff.1 (openK_one f b A hA m)).1
theorem openK_at1 (f b : Nat) (A : Nat → Bool) (m k : Nat) (hk : k < (openK f b A m).length) : ∃ e, e < m ∧ (openK f b A m)[k]? = some (numU f (b + e)) := by
  unfold openK at hk ⊢
  rw [List.length_map] at hk
  have hmem := List.getElem_mem hk
  rw [List.mem_filter, List.mem_range] at hmem
  refine ⟨_, hmem.1, ?_⟩
  rw [List.getElem?_map, List.getElem?_eq_getElem hk]
  rfl
/-- The place of the open number kk; the first one is the base. -/
theorem openK_place (f b : Nat) (A : Nat → Bool) (m k i : Nat) (hm : 0 < m) (hA : A b = false) (hk : k < (openK f b A m).length) (h0 : 150 ≤ i → k = 0) : ∃ pl, b ≤ pl ∧ pl < b + m ∧ (150 ≤ i → pl = b) ∧ (openK f b A m)[k]? = some (numU f pl) := by
  by_cases hk0 : k = 0
  · subst hk0
    obtain ⟨m', rfl⟩ : ∃ m', m = m' + 1 := ⟨m - 1, by omega⟩
    exact ⟨b, Nat.le_refl _, by omega, fun _ => rfl, openK_one f b A hA m'⟩
  · obtain ⟨e, he, hx⟩ := openK_at1 f b A m k hk
    exact ⟨b + e, by omega, by omega, fun h => absurd (h0 h) hk0, hx⟩
end Go.Proofs.Ytblngiglfggjfaa

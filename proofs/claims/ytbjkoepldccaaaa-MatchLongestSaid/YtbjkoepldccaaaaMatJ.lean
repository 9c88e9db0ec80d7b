/- Package match's longest and put at any place of the text. -/
import Derived.Test.YtbjkoepldccaaaaMatF
import Derived.Test.YtbjkoepldccaaaaMatI
namespace Go.Proofs.Ytbjkoepldccaaaa
open Go Go.RowKit Go.Maps
set_option maxRecDepth 100000

/-- The longest match at any place. -/
theorem longest_any (b a fr mb pb tries : Nat) (T : ByteArray) (ps : List Nat) (w : World) (h : FAt w b T fr mb pb ps) (ha : a ≤ T.size + 1) (hn : ∀ p ∈ ps, p < a) (hT : T.size ≤ 900000) (ht : tries ≤ 1000000) (hfr : fr ≤ a) (hfull : Full T.data.toList fr a ps) :
    Calls Try.prog 13 #[.pointer (some ⟨b, 0, none⟩), .int .i64 (a : Nat), .int .i64 (tries : Nat)] w fun e w' => (∃ z d : Nat, e = .returned (.tuple #[.int .i64 (z : Nat), .int .i64 (d : Nat)]) ∧ lookU T.data.toList a tries = (z, d)) ∧ Touch (fun _ => False) w w' := by
  have hX := data_length T
  rcases Nat.lt_or_ge T.size (a + 3) with h1 | h1
  · refine (longest_few b a (tries : Nat) T w h.c0 h1 (by omega) (by omega)).mono ?_
    rintro e w' ⟨rfl, rfl⟩
    refine ⟨⟨0, 0, rfl, ?_⟩, Touch.refl _ _⟩
    unfold lookU
    rw [if_pos (by omega)]
  · refine (longest_calls b a fr mb pb tries (min (T.size - a) 258) T ps w h h1 hn (by omega) ht rfl).mono ?_
    rintro e w' ⟨⟨z, d, rfl, hR⟩, ht⟩
    refine ⟨⟨z, d, rfl, ?_⟩, ht⟩
    rw [hfull.chain h.falls hn hfr (by omega), ← hX] at hR
    exact hR.look (by omega)

/-- A place put, wherever it is. -/
theorem put_any (b i fr mb pb : Nat) (T : ByteArray) (ps : List Nat) (w : World) (h : FAt w b T fr mb pb ps) (hi : i ≤ T.size) (hn : ∀ p ∈ ps, p < i) (hT : T.size ≤ 900000) (hl : ps.length ≤ i) :
    Calls Try.prog 19 #[.pointer (some ⟨b, 0, none⟩), .int .i64 (i : Nat)] w fun e w' => e = .returned (.tuple #[]) ∧ (∃ ps', FAt w' b T fr mb pb ps' ∧ (∀ p ∈ ps', p < i + 1) ∧ ps'.length ≤ i + 1 ∧ ∀ fr0, Full T.data.toList fr0 i ps → Full T.data.toList fr0 (i + 1) ps') ∧ Touch (fun k => k = mb ∨ k = pb) w w' := by
  rcases Nat.lt_or_ge T.size (i + 3) with h1 | h1
  · refine (put_few b i T w h.c0 h1 (by omega) (by omega)).mono ?_
    rintro e w' ⟨rfl, rfl⟩
    exact ⟨rfl, ⟨ps, h, fun p hp => by have := hn p hp; omega, by omega, fun fr0 hf => hf.few (by rw [data_length]; exact h1)⟩, Touch.refl _ _⟩
  · refine (put_calls b i fr mb pb T ps w h h1 hn (by omega) (by omega)).mono ?_
    rintro e w' ⟨rfl, hF, ht⟩
    refine ⟨rfl, ⟨i :: ps, hF, fun p hp => ?_, by rw [List.length_cons]; omega, fun fr0 hf => hf.push⟩, ht⟩
    rcases List.mem_cons.1 hp with e | e
    · omega
    · have := hn p e; omega
end Go.Proofs.Ytbjkoepldccaaaa

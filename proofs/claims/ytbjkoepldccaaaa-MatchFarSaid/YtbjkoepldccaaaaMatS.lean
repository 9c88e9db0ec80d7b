/- The statements' own first lines, of package match. -/
import Derived.Test.YtbjkoepldccaaaaMatH
import Derived.Test.YtbjkoepldccaaaaMatM
namespace Go.Proofs.Ytbjkoepldccaaaa
open Go Go.RowKit Go.Maps
set_option maxRecDepth 100000

theorem tok_abc : tokL [97, 98, 99, 97, 98, 99, 100] 3 9 = [⟨0, 3, 3⟩, ⟨100, 0, 0⟩] := by kernel_rfl

theorem Toks.form {w : World} {v : Value} {l : List Tok} (h : Toks w v l) (hl : 0 < l.length) : ∃ g off cap, v = .slice (some ⟨g, off, none⟩) l.length cap ∧ l.length ≤ cap ∧ cap ≤ maxLen ∧ ∀ j t, l[j]? = some t →
    w.cell? ⟨g, off + j * 3, none⟩ = some (.int .u8 (t.b.toNat : Nat)) ∧ w.cell? ⟨g, off + j * 3 + 1, none⟩ = some (.int .i64 t.n) ∧ w.cell? ⟨g, off + j * 3 + 2, none⟩ = some (.int .i64 t.d) := by
  obtain ⟨a, cap, rfl, h1, h2, h3⟩ := h
  rcases h3 with rfl | ⟨g, off, rfl, h3⟩
  · simp at hl
  · exact ⟨g, off, cap, rfl, h1, h2, h3⟩

theorem long_abc : LongestR [97, 98, 99, 97, 98, 99, 100] 3 4 3 3 := by
  have key : ∀ q : Fin 3, mlen [97, 98, 99, 97, 98, 99, 100] q.val 3 4 ≤ 3 ∧ (mlen [97, 98, 99, 97, 98, 99, 100] q.val 3 4 = 3 → q.val ≤ 0) := by decide +kernel
  exact .inr ⟨by decide, 0, by decide, rfl, by decide, by decide +kernel, fun q hq _ => key ⟨q, hq⟩⟩
theorem speaks8_calls (w : World) : Calls Try.prog 7 #[] w fun e w' => e = .returned (.bool true) ∧ Touch (fun _ => False) w w' := by
  have HA := Lib.hid (Tokens_nine ⟨#[97, 98, 99]⟩ ⟨#[97, 98, 99, 100]⟩ ⟨#[97, 98, 99]⟩ ⟨#[97, 98, 99, 97, 98, 99, 100]⟩ w (by decide) (by decide) (by decide) rfl rfl)
  have HB := Lib.hid (fun W => Longest_short ⟨#[97, 98, 99]⟩ ⟨#[97, 98, 99, 100]⟩ ⟨#[97, 98, 99]⟩ ⟨#[97, 98, 99, 97, 98, 99, 100]⟩ W (by decide) (by decide) (by decide) rfl rfl)
  go_enter Try.func7, Try.ntmps7
  go_wp2_with fail
  refine HA.out.mono ?_
  rintro e w1 ⟨⟨v, rfl, hv, _⟩, ht⟩
  have hv2 : Toks w1 v [⟨0, 3, 3⟩, ⟨100, 0, 0⟩] := by rw [← tok_abc]; exact hv
  obtain ⟨g, off, cap, rfl, h1, h2, h3⟩ := hv2.form (by decide)
  obtain ⟨a0, a1, a2⟩ := h3 0 _ rfl
  obtain ⟨b0, b1, b2⟩ := h3 1 _ rfl
  have HT := Lib.hid ht
  clear hv hv2 h3 ht
  rw [show off + 0 * 3 = off by omega] at a0
  rw [show off + 0 * 3 + 1 = off + 1 by omega] at a1
  rw [show off + 0 * 3 + 2 = off + 2 by omega] at a2
  rw [show off + 1 * 3 = off + 3 by omega] at b0
  rw [show off + 1 * 3 + 1 = off + 3 + 1 by omega] at b1
  rw [show off + 1 * 3 + 2 = off + 3 + 2 by omega] at b2
  go_wp2_with fail
  refine (HB.out _).mono ?_
  rintro e w2 ⟨⟨z, d, rfl, hR⟩, ht2⟩
  obtain ⟨rfl, rfl⟩ := hR.one long_abc
  have p0 := ht2.cell a0 id
  have p1 := ht2.cell a1 id
  have p2 := ht2.cell a2 id
  have q0 := ht2.cell b0 id
  have q1 := ht2.cell b1 id
  have q2 := ht2.cell b2 id
  have HT2 := Lib.hid (HT.out.trans ht2)
  clear a0 a1 a2 b0 b1 b2 ht2 hR HT HA HB
  go_wp2_with fail
  go_ret
  exact ⟨rfl, HT2.out⟩
end Go.Proofs.Ytbjkoepldccaaaa

/- The walk of layer 11's statement that any time is told by a text, and any text as a time, or not. -/
import Derived.Test.YtbhjeolhndpnfaaDosH
import Derived.Test.YtbhjeolhndpnfaaDosV
namespace Go.Proofs.Ytbhjeolhndpnfaa
open Go Go.RowKit
set_option maxRecDepth 100000

/-- What is parsed of a text: its time, of just that text; else none. -/
structure Told (S : ByteArray) (u : Tim) (ok c d : Bool) : Prop where
  parse : ∀ W, Calls Try.prog 19 #[.string S] W fun e w' => e = .returned (.tuple #[u.v, .bool ok]) ∧ Touch (fun _ => False) W w'
  same : ((txtB u).toList == S.toList) = c
  empty : S.toList.isEmpty = d
  kind : (ok = true ∧ c = true ∧ d = false) ∨ (ok = false ∧ u = Tim.zero ∧ ((c = true ∧ d = true) ∨ (c = false ∧ d = false)))

theorem empty_iff (S : ByteArray) : S.toList.isEmpty = decide (S.size = 0) := by
  rw [ByteArray.toList_eq]
  show _ = decide (S.data.size = 0)
  obtain ⟨⟨l⟩⟩ := S
  cases l <;> simp

theorem told_any (S : ByteArray) : ∃ u ok c d, Told S u ok c d := by
  have hz : txtB Tim.zero = ⟨#[]⟩ := by decide
  have hzero : ∀ c : Bool, ((txtB Tim.zero).toList == S.toList) = decide (S.size = 0) := fun _ => by
    rw [strEq, hz, decide_eq_decide]
    constructor
    · intro h; rw [← h]; rfl
    · intro h
      apply ByteArray.ext
      exact (Array.eq_empty_of_size_eq_zero h).symm
  have kz : (false = true ∧ decide (S.size = 0) = true ∧ decide (S.size = 0) = false) ∨ (false = false ∧ Tim.zero = Tim.zero ∧ ((decide (S.size = 0) = true ∧ decide (S.size = 0) = true) ∨ (decide (S.size = 0) = false ∧ decide (S.size = 0) = false))) := by
    refine .inr ⟨rfl, rfl, ?_⟩
    cases decide (S.size = 0)
    · exact .inr ⟨rfl, rfl⟩
    · exact .inl ⟨rfl, rfl⟩
  by_cases h : S.size = 19
  · by_cases hb : txtB (parseT S) = S
    · refine ⟨parseT S, true, true, false, fun W => ?_, ?_, ?_, .inl ⟨rfl, rfl, rfl⟩⟩
      · have := parse_long S true W h (by simpa using hb)
        rwa [if_pos rfl] at this
      · rw [strEq]; simpa using hb
      · rw [empty_iff]; exact decide_eq_false (by omega)
    · refine ⟨Tim.zero, false, _, _, fun W => ?_, hzero true, empty_iff S, kz⟩
      have := parse_long S false W h (by simpa using hb)
      rwa [if_neg (by decide)] at this
  · exact ⟨Tim.zero, false, _, _, fun W => parse_short S W h, hzero true, empty_iff S, kz⟩

theorem first_text (w : World) : Calls Try.prog 17 #[.agg #[.int .i64 1980, .int .i64 1, .int .i64 1, .int .i64 0, .int .i64 0, .int .i64 0]] w fun e w' => e = .returned (.string ⟨#[49, 57, 56, 48, 45, 48, 49, 45, 48, 49, 32, 48, 48, 58, 48, 48, 58, 48, 48]⟩) ∧ Touch (fun _ => False) w w' := by
  have h := text_good ⟨1980, 1, 1, 0, 0, 0⟩ w ((good_iff _).1 (by decide))
  rw [show textB ⟨1980, 1, 1, 0, 0, 0⟩ = ⟨#[49, 57, 56, 48, 45, 48, 49, 45, 48, 49, 32, 48, 48, 58, 48, 48, 58, 48, 48]⟩ by decide +kernel] at h
  exact h
theorem first_day (w : World) : Calls Try.prog 18 #[.agg #[.int .i64 1980, .int .i64 1, .int .i64 1, .int .i64 0, .int .i64 0, .int .i64 0]] w fun e w' => e = .returned (.int .i64 2) ∧ Touch (fun _ => False) w w' := by
  have h := weekday_good ⟨1980, 1, 1, 0, 0, 0⟩ w ((good_iff _).1 (by decide))
  rw [show (2 + daysA ⟨1980, 1, 1, 0, 0, 0⟩) % 7 = 2 by decide +kernel] at h
  exact h

theorem ahead_self (t : Tim) (w : World) : Calls Try.prog 20 #[t.v, t.v] w fun e w' => e = .returned (.bool false) ∧ Touch (fun _ => False) w w' := by
  cases h : goodB t
  · exact ahead_false t t w h
  · exact ahead_both t t false w ((good_iff t).1 h) ((good_iff t).1 h) (by simp)

set_option maxHeartbeats 4000000 in
theorem dtexts_bad (t : Tim) (s : ByteArray) (w : World) (hg : goodB t = false) : Calls Try.prog 6 #[t.v, .string s] w fun e w' => e = .returned (.bool true) ∧ Touch (fun _ => False) w w' := by
  have HR := Lib.hid (fun W => (refgood_calls t W).mono fun e w' (h : e = .returned (.bool (goodB t)) ∧ Touch (fun _ => False) W w') => (show e = .returned (.bool false) ∧ Touch (fun _ => False) W w' by rw [hg] at h; exact h))
  have HX := Lib.hid (fun W => text_bad t W hg)
  have HD := Lib.hid (fun W => weekday_bad t W hg)
  have HA := Lib.hid (fun W => ahead_self t W)
  clear hg
  obtain ⟨k, hk⟩ : ∃ k : Nat, k = min s.size 30 := ⟨_, rfl⟩
  have k0 : (if (30 : Int) < (s.size : Int) then (30 : Int) else (s.size : Int)) = (k : Int) := by split <;> omega
  have k1 : min (s.size : Int) 30 = (k : Int) := by omega
  have k2 : k ≤ s.size := by omega
  have k3 : (k : Int) ≤ (s.size : Int) := by omega
  obtain ⟨S, hS⟩ : ∃ S, s.extract 0 k = S := ⟨_, rfl⟩
  obtain ⟨u, ok, c, d, hT⟩ := told_any S
  have HP := Lib.hid hT.parse
  have HU := Lib.hid (fun W => text_calls u W)
  have hsame := hT.same
  have hemp := hT.empty
  have hkind := hT.kind
  clear hT hk
  generalize txtB u = X at *
  obtain ⟨y, mo, dd, hh, mi, ss⟩ := t
  rcases hkind with ⟨rfl, rfl, rfl⟩ | ⟨rfl, rfl, ⟨rfl, rfl⟩ | ⟨rfl, rfl⟩⟩
  · obtain ⟨y', mo', dd', hh', mi', ss'⟩ := u
    unfold Tim.v at *
    simp only at *
    go_enter Try.func6, Try.ntmps6
    go_wp2_with (first
      | (go_at_call 7; refine (speaks11_calls _).mono ?_; rintro e w1 ⟨rfl, ht1⟩; obtain ⟨c0, c1, c2, c3, c4, c5, hx1, hl1⟩ := box6 ht1; have HX1 := Lib.hid hx1; clear hx1)
      | (go_at_call 17; with_reducible refine (HX.out _).mono ?_; rintro e w2 ⟨rfl, ht2⟩; clear c0 c1 c2 c3 c4 c5; have hx2 := (((Touch.refl (fun _ => False) _).alloc _).trans ht2).held HX1.out id; obtain ⟨c0, c1, c2, c3, c4, c5⟩ := row6 hx2; obtain ⟨-, -, -, -, -, -, hb2, hl2⟩ := box6 ht2; have HB2 := Lib.hid hb2; clear hb2 hx2)
      | (go_at_call 8; refine (HR.out _).mono ?_; rintro e w3 ⟨rfl, ht3⟩; clear c0 c1 c2 c3 c4 c5; have hb3 := ht3.held HB2.out id; obtain ⟨c0, c1, c2, c3, c4, c5⟩ := row6 hb3; have HB3 := Lib.hid hb3; clear hb3)
      | (go_at_call 18; with_reducible refine (HD.out _).mono ?_; rintro e w4 ⟨rfl, ht4⟩; clear c0 c1 c2 c3 c4 c5; have HB4 := Lib.hid (ht4.held HB3.out id))
      | (go_at_call 19; with_reducible refine (HP.out _).mono ?_; rintro e w5 ⟨rfl, ht5⟩; have HB5 := Lib.hid (ht5.held HB4.out id); have hl5 := row_lt HB5.out)
      | (go_at_call 17; with_reducible refine (HU.out _).mono ?_; rintro e w6 ⟨rfl, ht6⟩; have HB6 := Lib.hid (((((Touch.refl (fun _ => False) _).alloc _).alloc _).trans ht6).held HB5.out id); obtain ⟨u0, u1, u2, u3, u4, u5, hu6, -⟩ := box6 (((Touch.refl (fun _ => False) _).alloc _).trans ht6); obtain ⟨f0, f1, f2, f3, f4, f5, hf6, -⟩ := box6b ht6; have HU6 := Lib.hid hu6; have HF6 := Lib.hid hf6; clear hu6 hf6)
      | (go_at_call 18; with_reducible refine (first_day _).mono ?_; rintro e w7 ⟨rfl, ht7⟩; clear f0 f1 f2 f3 f4 f5 u0 u1 u2 u3 u4 u5; obtain ⟨f0, f1, f2, f3, f4, f5⟩ := row6 (ht7.held HF6.out id))
      | (go_at_call 17; with_reducible refine (first_text _).mono ?_; rintro e w8 ⟨rfl, ht8⟩; clear f0 f1 f2 f3 f4 f5; obtain ⟨c0, c1, c2, c3, c4, c5⟩ := row6 (ht8.held (ht7.held HB6.out id) id))
      | (go_at_call 20; with_reducible refine (HA.out _).mono ?_; rintro e w9 ⟨rfl, ht9⟩))
    go_ret
    exact ⟨rfl, ((((((((((Touch.refl _ _).alloc _).trans ht1).alloc _).trans (ht2.trans (ht3.trans (ht4.trans ht5)))).alloc _).alloc _).trans ht6).trans ht7).trans ht8).trans ht9⟩
  all_goals
    unfold Tim.zero at *
    unfold Tim.v at *
    simp only at *
    go_enter Try.func6, Try.ntmps6
    go_wp2_with (first
      | (go_at_call 7; refine (speaks11_calls _).mono ?_; rintro e w1 ⟨rfl, ht1⟩; obtain ⟨c0, c1, c2, c3, c4, c5, hx1, hl1⟩ := box6 ht1; have HX1 := Lib.hid hx1; clear hx1)
      | (go_at_call 17; with_reducible refine (HX.out _).mono ?_; rintro e w2 ⟨rfl, ht2⟩; clear c0 c1 c2 c3 c4 c5; have hx2 := (((Touch.refl (fun _ => False) _).alloc _).trans ht2).held HX1.out id; obtain ⟨c0, c1, c2, c3, c4, c5⟩ := row6 hx2; obtain ⟨-, -, -, -, -, -, hb2, hl2⟩ := box6 ht2; have HB2 := Lib.hid hb2; clear hb2 hx2)
      | (go_at_call 8; refine (HR.out _).mono ?_; rintro e w3 ⟨rfl, ht3⟩; clear c0 c1 c2 c3 c4 c5; have hb3 := ht3.held HB2.out id; obtain ⟨c0, c1, c2, c3, c4, c5⟩ := row6 hb3; have HB3 := Lib.hid hb3; clear hb3)
      | (go_at_call 18; with_reducible refine (HD.out _).mono ?_; rintro e w4 ⟨rfl, ht4⟩; clear c0 c1 c2 c3 c4 c5; have HB4 := Lib.hid (ht4.held HB3.out id))
      | (go_at_call 19; with_reducible refine (HP.out _).mono ?_; rintro e w5 ⟨rfl, ht5⟩; have HB5 := Lib.hid (ht5.held HB4.out id); have hl5 := row_lt HB5.out)
      | (go_at_call 17; with_reducible refine (HU.out _).mono ?_; rintro e w6 ⟨rfl, ht6⟩; have HB6 := Lib.hid (((((Touch.refl (fun _ => False) _).alloc _).alloc _).trans ht6).held HB5.out id); obtain ⟨u0, u1, u2, u3, u4, u5, hu6, -⟩ := box6 (((Touch.refl (fun _ => False) _).alloc _).trans ht6); obtain ⟨f0, f1, f2, f3, f4, f5, hf6, -⟩ := box6b ht6; have HU6 := Lib.hid hu6; have HF6 := Lib.hid hf6; clear hu6 hf6)
      | (go_at_call 18; with_reducible refine (first_day _).mono ?_; rintro e w7 ⟨rfl, ht7⟩; clear f0 f1 f2 f3 f4 f5 u0 u1 u2 u3 u4 u5; obtain ⟨f0, f1, f2, f3, f4, f5⟩ := row6 (ht7.held HF6.out id))
      | (go_at_call 17; with_reducible refine (first_text _).mono ?_; rintro e w8 ⟨rfl, ht8⟩; clear f0 f1 f2 f3 f4 f5; obtain ⟨c0, c1, c2, c3, c4, c5⟩ := row6 (ht8.held (ht7.held HB6.out id) id))
      | (go_at_call 20; with_reducible refine (HA.out _).mono ?_; rintro e w9 ⟨rfl, ht9⟩))
    go_ret
    exact ⟨rfl, ((((((((((Touch.refl _ _).alloc _).trans ht1).alloc _).trans (ht2.trans (ht3.trans (ht4.trans ht5)))).alloc _).alloc _).trans ht6).trans ht7).trans ht8).trans ht9⟩
end Go.Proofs.Ytbhjeolhndpnfaa

/- Package match's Tokens over the translated program: exactly which tokens are made. -/
import Derived.Test.YtbjkoepldccaaaaMatK9
import Derived.Test.YtbjkoepldccaaaaMatL
namespace Go.Proofs.Ytbjkoepldccaaaa
open Go Go.RowKit Go.Maps
set_option maxRecDepth 100000

/-- The tokens of a text behind its first bytes. -/
def tokL (X : List UInt8) (fr lv : Nat) : List Tok :=
  if lv = 0 ∨ X.length < fr + 3 then (X.drop fr).map byteT else restT X lv (2 * 2 ^ lv) fr (lookU X fr (if lv = 9 then 32768 else 2 * 2 ^ lv))

theorem Tokens_out (ahead s : ByteArray) (n : Int) (w : World) (h : n < 0 ∨ 9 < n) :
    Calls Try.prog 10 #[.string ahead, .string s, .int .i64 n] w fun e w' => e = .returned (.tuple #[.slice none 0 0, .int .i64 1]) ∧ Touch (fun _ => False) w w' := by
  rcases h with h | h
  · go_enter Try.func10, Try.ntmps10
    go_wp2_with fail
    go_ret2
    exact ⟨rfl, Touch.refl _ _⟩
  · have h0 : ¬ n < 0 := by omega
    go_enter Try.func10, Try.ntmps10
    go_wp2_with fail
    go_ret2
    exact ⟨rfl, Touch.refl _ _⟩

/-- What Tokens answers. -/
def TokOut (w : World) (L : List Tok) (e : Ending) (w' : World) : Prop :=
  (∃ v, e = .returned (.tuple #[v, .int .i64 0]) ∧ Toks w' v L ∧ ∀ g, v.ownBlock = some g → w.heap.size ≤ g) ∧ Touch (fun _ => False) w w'

theorem drop_app (A s T : ByteArray) (h : T = A ++ s) : T.data.toList.drop A.size = s.data.toList := by
  rw [h, ByteArray.data_append, Array.toList_append, ← data_length A, List.drop_left]

theorem Tokens_bytes (ahead s A T : ByteArray) (lv : Nat) (w : World) (hl : lv ≤ 9) (hs : s.size ≤ 300000) (hA : A = ahead.extract (ahead.size - 32768) ahead.size) (hT : T = A ++ s) (h : lv = 0 ∨ s.size < 3) :
    Calls Try.prog 10 #[.string ahead, .string s, .int .i64 (lv : Nat)] w (TokOut w (tokL T.data.toList A.size lv)) := by
  have hTs : T.size = A.size + s.size := by rw [hT]; simp
  have e : tokL T.data.toList A.size lv = s.data.toList.map byteT := by
    unfold tokL
    rw [if_pos (by rw [data_length]; omega), drop_app A s T hT]
  rw [e]
  have HB := Lib.hid (bytesOf_calls s w (by omega))
  clear hT hA hTs e
  by_cases h0 : lv = 0
  · subst h0
    go_enter Try.func10, Try.ntmps10
    go_wp2_with fail
    refine HB.out.mono ?_
    rintro e w1 ⟨⟨v, rfl, hv, hg⟩, ht⟩
    go_wp2_with fail
    go_ret2
    exact ⟨⟨v, rfl, hv, hg⟩, ht⟩
  · have h1 : ¬ ((lv : Int) < 0) := by omega
    have h2 : ¬ (9 < (lv : Int)) := by omega
    have h3 : ((lv : Int) == 0) = false := beq_eq_false_iff_ne.2 (by omega)
    have h3' : ¬ ((lv : Int) = 0) := by omega
    have h4 : (s.size : Int) < 3 := by omega
    go_enter Try.func10, Try.ntmps10
    go_wp2_with fail
    refine HB.out.mono ?_
    rintro e w1 ⟨⟨v, rfl, hv, hg⟩, ht⟩
    go_wp2_with fail
    go_ret2
    exact ⟨⟨v, rfl, hv, hg⟩, ht⟩

/-- What the finder's tokens come to, for their caller. -/
theorem tok_out {w w1 w' : World} {A s T : ByteArray} {b mb pb : Nat} {v : Value} {ts L : List Tok} (hge : w.heap.size ≤ b ∧ w.heap.size ≤ mb ∧ w.heap.size ≤ pb) (ht : Touch (fun _ => False) w w1) (ho : w'.ownsRow w1.heap.size 33 3 v ts.length (toksV ts)) (ht2 : Touch (fun k => k = mb ∨ k = pb) w1 w') (hL : L = ts) :
    TokOut w L (.returned (.tuple #[v, .int .i64 0])) w' := by
  subst hL
  have hs := ht.size
  refine ⟨⟨v, rfl, Toks.of_own ho, fun g hg => by have := own_base ho g hg; omega⟩, ht.trans' ht2 (fun k hk => .inr ?_)⟩
  rcases hk with e | e <;> omega

theorem full_of {T : ByteArray} {fr n : Nat} {ps : List Nat} (hall : ∀ p, p < fr → wantH T fr n (hashN T.data.toList p) → p ∈ ps) (hn : T.data.toList.length = fr + n + 2) : Full T.data.toList fr fr ps := by
  intro p hp h3 ⟨i, h1, h2, h4⟩
  exact hall p hp ⟨i - fr, by omega, by rw [show fr + (i - fr) = i by omega]; exact h4⟩

theorem Tokens_few (ahead s A T : ByteArray) (lv : Nat) (w : World) (hl1 : 1 ≤ lv) (hl : lv ≤ 8) (h3 : 3 ≤ s.size) (hs : s.size ≤ 300000) (hah : ahead.size ≤ 100000) (hA : A = ahead.extract (ahead.size - 32768) ahead.size) (hT : T = A ++ s) :
    Calls Try.prog 10 #[.string ahead, .string s, .int .i64 (lv : Nat)] w (TokOut w (tokL T.data.toList A.size lv)) := by
  have hTs : T.size = A.size + s.size := by rw [hT]; simp
  have hAs : A.size ≤ 32768 := by rw [hA]; simp; omega
  have e : tokL T.data.toList A.size lv = restT T.data.toList lv (2 * 2 ^ lv) A.size (lookU T.data.toList A.size (2 * 2 ^ lv)) := by
    unfold tokL
    rw [if_neg (by rw [data_length]; omega), if_neg (by omega)]
  rw [e]
  have HN := Lib.hid (newFinder_calls ahead s A T w h3 hs hah hA hT)
  clear hT hA e
  have h1 : ¬ ((lv : Int) < 0) := by omega
  have h2 : ¬ (9 < (lv : Int)) := by omega
  have h5 : ((lv : Int) == 0) = false := beq_eq_false_iff_ne.2 (by omega)
  have h5' : ¬ ((lv : Int) = 0) := by omega
  have h4 : ¬ ((s.size : Int) < 3) := by omega
  go_enter Try.func10, Try.ntmps10
  go_wp2_with fail
  refine HN.out.mono ?_
  rintro e w1 ⟨⟨b, mb, pb, ps, rfl, hF, hge, hlt, hall⟩, ht⟩
  have hfull := full_of hall (by rw [data_length]; omega)
  have hpl := desc_len ps 0 A.size hF.falls (fun q hq => ⟨Nat.zero_le _, hlt q hq⟩)
  have HTK := Lib.hid (tokens_calls b A.size mb pb lv T ps w1 hF hlt (by omega) (by omega) hl1 hl (by omega) (2 * 2 ^ lv) rfl hfull)
  have HGE := Lib.hid hge
  have HT := Lib.hid ht
  clear hF hge hlt hall hfull hpl ht HN
  go_wp2_with fail
  refine HTK.out.mono ?_
  rintro e w2 ⟨⟨v, ts, rfl, hown, hL⟩, ht2⟩
  have HO := Lib.hid hown
  have HL := Lib.hid hL
  have HT2 := Lib.hid ht2
  clear hown hL ht2 HTK
  go_wp2_with fail
  go_ret2
  exact tok_out (A := A) (s := s) (T := T) HGE.out HT.out HO.out HT2.out HL.out

theorem Tokens_nine (ahead s A T : ByteArray) (w : World) (h3 : 3 ≤ s.size) (hs : s.size ≤ 300000) (hah : ahead.size ≤ 100000) (hA : A = ahead.extract (ahead.size - 32768) ahead.size) (hT : T = A ++ s) :
    Calls Try.prog 10 #[.string ahead, .string s, .int .i64 9] w (TokOut w (tokL T.data.toList A.size 9)) := by
  have hTs : T.size = A.size + s.size := by rw [hT]; simp
  have hAs : A.size ≤ 32768 := by rw [hA]; simp; omega
  have e : tokL T.data.toList A.size 9 = restT T.data.toList 9 1024 A.size (lookU T.data.toList A.size 32768) := by
    unfold tokL
    rw [if_neg (by rw [data_length]; omega), if_pos rfl]
  rw [e]
  have HN := Lib.hid (newFinder_calls ahead s A T w h3 hs hah hA hT)
  clear hT hA e
  have h4 : ¬ ((s.size : Int) < 3) := by omega
  go_enter Try.func10, Try.ntmps10
  go_wp2_with fail
  refine HN.out.mono ?_
  rintro e w1 ⟨⟨b, mb, pb, ps, rfl, hF, hge, hlt, hall⟩, ht⟩
  have hfull := full_of hall (by rw [data_length]; omega)
  have hpl := desc_len ps 0 A.size hF.falls (fun q hq => ⟨Nat.zero_le _, hlt q hq⟩)
  have HTK := Lib.hid (tokens_nine b A.size mb pb T ps w1 hF hlt (by omega) (by omega) (by omega) hfull)
  have HGE := Lib.hid hge
  have HT := Lib.hid ht
  clear hF hge hlt hall hfull hpl ht HN
  go_wp2_with fail
  refine HTK.out.mono ?_
  rintro e w2 ⟨⟨v, ts, rfl, hown, hL⟩, ht2⟩
  have HO := Lib.hid hown
  have HL := Lib.hid hL
  have HT2 := Lib.hid ht2
  clear hown hL ht2 HTK
  go_wp2_with fail
  go_ret2
  exact tok_out (A := A) (s := s) (T := T) HGE.out HT.out HO.out HT2.out HL.out

/-- Package match's Tokens, of any level. -/
theorem Tokens_calls (ahead s A T : ByteArray) (lv : Nat) (w : World) (hl : lv ≤ 9) (hs : s.size ≤ 300000) (hah : ahead.size ≤ 100000) (hA : A = ahead.extract (ahead.size - 32768) ahead.size) (hT : T = A ++ s) :
    Calls Try.prog 10 #[.string ahead, .string s, .int .i64 (lv : Nat)] w (TokOut w (tokL T.data.toList A.size lv)) := by
  by_cases h : lv = 0 ∨ s.size < 3
  · exact Tokens_bytes ahead s A T lv w hl hs hA hT h
  · by_cases h9 : lv = 9
    · subst h9
      exact Tokens_nine ahead s A T w (by omega) hs hah hA hT
    · exact Tokens_few ahead s A T lv w (by omega) (by omega) (by omega) hs hah hA hT

/-- They tell the text. -/
theorem tokL_tell (X : List UInt8) (fr lv : Nat) (h : fr ≤ X.length) : expandL (X.take fr) (tokL X fr lv) = some X := by
  unfold tokL
  split
  · have key : ∀ (Y b : List UInt8), expandL b (Y.map byteT) = some (b ++ Y) := by
      intro Y
      induction Y with
      | nil => intro b; simp [expandL]
      | cons y Y ih =>
        intro b
        rw [List.map_cons, expandL, if_pos ⟨by simp [goodB, byteT], by show (0 : Int) ≤ _; omega⟩]
        show expandL (tellL (byteT y) b) _ = _
        rw [show tellL (byteT y) b = b ++ [y] by simp [tellL, byteT], ih]
        simp
    rw [key, List.take_append_drop]
  · exact restT_tell X lv _ fr _ h (look_found _ _ _)
theorem tokL_len (X : List UInt8) (fr lv : Nat) : (tokL X fr lv).length ≤ X.length - fr := by
  unfold tokL
  split
  · simp
  · exact tokF_len X lv _ _ fr _
end Go.Proofs.Ytbjkoepldccaaaa

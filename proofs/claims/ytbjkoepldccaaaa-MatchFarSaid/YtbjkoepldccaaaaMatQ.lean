/- Package match's first token, at the highest level; plain lists. -/
import Derived.Test.YtbjkoepldccaaaaMatS
namespace Go.Proofs.Ytbjkoepldccaaaa
open Go Go.RowKit Go.Maps
set_option maxRecDepth 100000

theorem look_long (X : List UInt8) (a : Nat) : LongestR X a (min (X.length - a) 258) (lookU X a 32768).1 (lookU X a 32768).2 := by
  rcases Nat.lt_or_ge X.length (a + 3) with h | h
  · have e : lookU X a 32768 = (0, 0) := by
      unfold lookU
      rw [if_pos h]
    rw [e]
    refine .inl ⟨rfl, rfl, fun q _ _ => ?_⟩
    have := mlen_le X q a (min (X.length - a) 258)
    omega
  · have h1 := (look_E X a 32768 h).toR (allP_falls X a) (allP_lt X a)
    exact FoundR.all (ps := (List.range a).reverse) h1 (fun p hp => by simpa using hp) (fun p hp _ => by simpa using hp)
theorem look_le {X : List UInt8} {a tries z d : Nat} (h : LongestR X a (min (X.length - a) 258) z d) : (lookU X a tries).1 ≤ z := by
  rcases look_found X a tries with e | ⟨h3, p, hp, h4, h5, h6⟩
  · rw [e]; exact Nat.zero_le _
  · rcases h with ⟨h1, h2, h7⟩ | ⟨h1, q, h2, h7, h8, h9, h10⟩
    · have := h7 p hp (by omega)
      omega
    · have := (h10 p hp (by omega)).1
      omega

/-- The first token at the highest level. -/
theorem first_tok {X : List UInt8} {fr z d : Nat} (h : fr < X.length) (hR : LongestR X fr (min (X.length - fr) 258) z d) :
    ∃ t r, tokL X fr 9 = t :: r ∧ 0 ≤ t.n ∧ (0 < t.n → t.n = z ∧ t.d = d) ∧ (t.n = 0 → z = 0 ∨ ∀ z2 d2, LongestR X (fr + 1) (min (X.length - (fr + 1)) 258) z2 d2 → z < z2) := by
  unfold tokL
  by_cases h3 : X.length < fr + 3
  · rw [if_pos (.inr h3)]
    have hf := hR.few (by omega)
    rw [List.drop_eq_getElem_cons h, List.map_cons]
    exact ⟨_, _, rfl, Int.le_refl 0, fun h => absurd h (Int.lt_irrefl 0), fun _ => .inl hf.1⟩
  · rw [if_neg (by omega), if_pos rfl]
    have hone := (look_long X fr).one hR
    generalize hm : lookU X fr 32768 = m at hone
    obtain ⟨m1, m2⟩ := m
    obtain ⟨e1, e2⟩ := hone
    simp only at e1 e2
    subst e1 e2
    by_cases hc : m1 = 0 ∨ (4 ≤ 9 ∧ m1 < 258 ∧ m1 < (lookU X (fr + 1) (2 * 2 ^ 9)).1)
    · rw [restT_byte X 9 _ fr _ h hc]
      refine ⟨_, _, rfl, Int.le_refl 0, fun h => absurd h (Int.lt_irrefl 0), fun _ => ?_⟩
      rcases hc with e | ⟨_, _, e⟩
      · exact .inl e
      · exact .inr fun z2 d2 h2 => Nat.lt_of_lt_of_le e (look_le h2)
    · rw [restT_match X 9 _ fr _ h hc]
      refine ⟨_, _, rfl, by show (0 : Int) ≤ (m1 : Int); omega, fun _ => ⟨rfl, rfl⟩, fun h0 => ?_⟩
      have h0' : (m1 : Int) = 0 := h0
      exact absurd (.inl (by omega)) hc
theorem tokL_zero (X : List UInt8) (fr : Nat) : ∀ (j : Nat) (t : Tok), (tokL X fr 0)[j]? = some t → t.n = 0 := by
  intro j t h
  unfold tokL at h
  rw [if_pos (.inl rfl), List.getElem?_map] at h
  cases hx : (X.drop fr)[j]? with
  | none => rw [hx] at h; cases h
  | some x =>
    rw [hx] at h
    have : byteT x = t := Option.some.inj h
    rw [← this]; rfl
theorem near_self (A : ByteArray) (h : A.size ≤ 32768) : A = A.extract (A.size - 32768) A.size := by
  rw [show A.size - 32768 = 0 by omega]; simp
theorem app_take_list (A S : ByteArray) : (A ++ S).data.toList.take A.size = A.data.toList := by
  rw [ByteArray.data_append, Array.toList_append, ← data_length A, List.take_left]
theorem exp_tokL (A S : ByteArray) (lv : Nat) : expV A.size (expandL A.data.toList (tokL (A ++ S).data.toList A.size lv)) = .tuple #[.string S, .bool true] := by
  have h1 := tokL_tell (A ++ S).data.toList A.size lv (by rw [data_length]; simp)
  rw [app_take_list] at h1
  rw [h1]
  show Value.tuple #[.string ⟨((A ++ S).data.toList.drop A.size).toArray⟩, .bool true] = _
  rw [drop_app A S _ rfl]
theorem cut_one (A S : ByteArray) (h : 1 ≤ S.size) : (A ++ S.extract 0 1) ++ S.extract 1 S.size = A ++ S := by
  rw [ByteArray.append_assoc]
  congr 1
  apply ByteArray.ext
  rw [ByteArray.data_append, ByteArray.data_extract, ByteArray.data_extract]
  simp
  exact .inr (by omega)
end Go.Proofs.Ytbjkoepldccaaaa

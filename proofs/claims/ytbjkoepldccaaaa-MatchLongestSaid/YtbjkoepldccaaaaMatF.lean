/- Package match's Longest over the translated program. -/
import Derived.Test.YtbjkoepldccaaaaMatE
import Derived.Deep.CutBlock
import Derived.Deep.DeepCutAuto
namespace Go.Proofs.Ytbjkoepldccaaaa
open Go Go.RowKit Go.Maps
set_option maxRecDepth 100000

/-- The longest match at a place, and the nearest one of those. -/
def LongestR (X : List UInt8) (a M s d : Nat) : Prop :=
  (s = 0 ∧ d = 0 ∧ ∀ q, q < a → a - q ≤ 32768 → mlen X q a M < 3) ∨
  (3 ≤ s ∧ ∃ p, p < a ∧ d = a - p ∧ d ≤ 32768 ∧ mlen X p a M = s ∧ ∀ q, q < a → a - q ≤ 32768 → mlen X q a M ≤ s ∧ (mlen X q a M = s → q ≤ p))
theorem FoundR.all {X : List UInt8} {a M s d : Nat} {ps : List Nat} (h : FoundR X a M 32768 (chainP X ps (hashN X a)) s d) (hlt : ∀ p ∈ ps, p < a) (hall : ∀ p, p < a → hashN X p = hashN X a → p ∈ ps) : LongestR X a M s d := by
  have key : ∀ q, q < a → 3 ≤ mlen X q a M → q ∈ chainP X ps (hashN X a) := fun q hq h3 => by
    have e : hashN X q = hashN X a := hashN_same X q a fun k hk => mlen_same X q a M k (by omega)
    exact List.mem_filter.2 ⟨hall q hq e, by simp [e]⟩
  rcases h with ⟨h1, h2, h3⟩ | ⟨h1, p, hp, h2, h3, h4, h5⟩
  · refine .inl ⟨h1, h2, fun q hq hw => ?_⟩
    rcases Nat.lt_or_ge (mlen X q a M) 3 with h | h
    · exact h
    · exact h3 (Nat.le_refl _) q (key q hq h) hw
  · refine .inr ⟨h1, p, hlt p (List.mem_filter.1 hp).1, h2, h3, h4, fun q hq hw => ?_⟩
    rcases Nat.lt_or_ge (mlen X q a M) 3 with h | h
    · exact ⟨by omega, fun e => by omega⟩
    · exact h5 (Nat.le_refl _) q (key q hq h) hw

theorem longest_calls (b a fr mb pb tries M : Nat) (T : ByteArray) (ps : List Nat) (w : World) (h : FAt w b T fr mb pb ps) (ha : a + 3 ≤ T.size) (hn : ∀ p ∈ ps, p < a) (hT : T.size ≤ 1000000) (ht : tries ≤ 1000000) (hM : M = min (T.size - a) 258) :
    Calls Try.prog 13 #[.pointer (some ⟨b, 0, none⟩), .int .i64 (a : Nat), .int .i64 (tries : Nat)] w fun e w' => (∃ s d : Nat, e = .returned (.tuple #[.int .i64 (s : Nat), .int .i64 (d : Nat)]) ∧ FoundE T.data.toList a M tries (chainP T.data.toList ps (hashN T.data.toList a)) s d) ∧ Touch (fun _ => False) w w' := by
  rcases Nat.lt_or_ge 258 (T.size - a) with h1 | h1
  · exact longest_A b a fr mb pb tries M T ps w h ha hn hT ht hM h1
  · exact longest_B b a fr mb pb tries M T ps w h ha hn hT ht hM h1

theorem Longest_few (ahead s : ByteArray) (w : World) (h3 : s.size < 3) :
    Calls Try.prog 8 #[.string ahead, .string s] w fun e w' => e = .returned (.tuple #[.int .i64 0, .int .i64 0]) ∧ w = w' := by
  have h1 : min (s.size : Int) 258 = (s.size : Int) := by omega
  have h2 : (s.size : Int) < 3 := by omega
  go_enter Try.func8, Try.ntmps8
  go_wp2_with fail
  go_ret2
  exact ⟨rfl, rfl⟩

theorem Longest_short (ahead s A T : ByteArray) (w : World) (h3 : 3 ≤ s.size) (hs : s.size ≤ 258) (hah : ahead.size ≤ 100000) (hA : A = ahead.extract (ahead.size - 32768) ahead.size) (hTe : T = A ++ s) :
    Calls Try.prog 8 #[.string ahead, .string s] w fun e w' => (∃ z d : Nat, e = .returned (.tuple #[.int .i64 (z : Nat), .int .i64 (d : Nat)]) ∧ LongestR T.data.toList A.size s.size z d) ∧ Touch (fun _ => False) w w' := by
  have h1 : min (s.size : Int) 258 = (s.size : Int) := by omega
  have h2 : (3 : Int) ≤ (s.size : Int) := by omega
  have HN := Lib.hid (newFinder_calls ahead s A T w h3 (by omega) hah hA hTe)
  have hAs : A.size ≤ 32768 := by rw [hA]; simp; omega
  have hTs : T.size = A.size + s.size := by rw [hTe]; simp
  clear hA hTe
  go_enter Try.func8, Try.ntmps8
  go_wp2_with fail
  refine HN.out.mono ?_
  rintro e w1 ⟨⟨b, mb, pb, ps, rfl, hF, hge, hlt, hall⟩, ht⟩
  have HF := Lib.hid hF
  have HT := Lib.hid ht
  have HALL := Lib.hid hall
  have HLT := Lib.hid hlt
  have e1 := hF.c1
  clear hF ht hall hlt
  go_wp2_with fail
  refine (longest_calls b A.size A.size mb pb 32768 s.size T ps w1 HF.out (by omega) HLT.out (by omega) (by omega) (by omega)).mono ?_
  rintro e w2 ⟨⟨z, d, rfl, hR⟩, ht2⟩
  have HR := Lib.hid ((hR.toR (List.Pairwise.sublist List.filter_sublist HF.out.falls) (fun p hp => HLT.out p (List.mem_filter.1 hp).1)).all HLT.out (fun p hp he => HALL.out p hp ⟨0, by omega, by rw [Nat.add_zero]; exact he.symm⟩))
  clear hR
  have HT2 := Lib.hid ht2
  clear ht2
  go_wp2_with fail
  go_ret2
  exact ⟨⟨z, d, rfl, HR.out⟩, HT.out.trans HT2.out⟩

theorem Longest_long (ahead s A S T : ByteArray) (w : World) (hs : 258 < s.size) (hs2 : s.size ≤ 300000) (hah : ahead.size ≤ 100000) (hA : A = ahead.extract (ahead.size - 32768) ahead.size) (hS : S = s.extract 0 258) (hTe : T = A ++ S) :
    Calls Try.prog 8 #[.string ahead, .string s] w fun e w' => (∃ z d : Nat, e = .returned (.tuple #[.int .i64 (z : Nat), .int .i64 (d : Nat)]) ∧ LongestR T.data.toList A.size S.size z d) ∧ Touch (fun _ => False) w w' := by
  have h1 : min (s.size : Int) 258 = 258 := by omega
  have h2 : (258 : Int) ≤ (s.size : Int) := by omega
  have hSs : S.size = 258 := by rw [hS]; simp; omega
  have HN := Lib.hid (newFinder_calls ahead S A T w (by omega) (by omega) hah hA hTe)
  have hAs : A.size ≤ 32768 := by rw [hA]; simp; omega
  have hTs : T.size = A.size + S.size := by rw [hTe]; simp
  have hS' : s.extract 0 258 = S := hS.symm
  clear hA hTe hS
  go_enter Try.func8, Try.ntmps8
  go_wp2_with fail
  refine HN.out.mono ?_
  rintro e w1 ⟨⟨b, mb, pb, ps, rfl, hF, hge, hlt, hall⟩, ht⟩
  have HF := Lib.hid hF
  have HT := Lib.hid ht
  have HALL := Lib.hid hall
  have HLT := Lib.hid hlt
  have e1 := hF.c1
  clear hF ht hall hlt
  go_wp2_with fail
  refine (longest_calls b A.size A.size mb pb 32768 S.size T ps w1 HF.out (by omega) HLT.out (by omega) (by omega) (by omega)).mono ?_
  rintro e w2 ⟨⟨z, d, rfl, hR⟩, ht2⟩
  have HR := Lib.hid ((hR.toR (List.Pairwise.sublist List.filter_sublist HF.out.falls) (fun p hp => HLT.out p (List.mem_filter.1 hp).1)).all HLT.out (fun p hp he => HALL.out p hp ⟨0, by omega, by rw [Nat.add_zero]; exact he.symm⟩))
  clear hR
  have HT2 := Lib.hid ht2
  clear ht2
  go_wp2_with fail
  go_ret2
  exact ⟨⟨z, d, rfl, HR.out⟩, HT.out.trans HT2.out⟩
end Go.Proofs.Ytbjkoepldccaaaa

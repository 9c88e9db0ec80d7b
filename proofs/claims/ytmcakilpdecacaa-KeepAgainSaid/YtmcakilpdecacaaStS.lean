/- Contracts of package stage, sixth part: Sum, Starts; the reference's Read. -/
import Derived.Test.YtmcakilpdecacaaStD
import Derived.Test.YtmcakilpdecacaaWlB
namespace Go.Proofs.Ytmcakilpdecacaa
open Go Go.RowKit Go.Maps
set_option maxRecDepth 100000

theorem stEq {a b : ByteArray} : (a.toList == b.toList) = decide (a = b) := by
  rw [ByteArray.toList_eq, ByteArray.toList_eq]
  by_cases h : a = b
  · subst h; simp
  · rw [decide_eq_false h, beq_eq_false_iff_ne]
    exact fun he => h (ba_ext he)
theorem ba_of (l : List UInt8) : (⟨l.toArray⟩ : ByteArray).data.toList = l := rfl
theorem ba_of_size (l : List UInt8) : (⟨l.toArray⟩ : ByteArray).size = l.length := by show l.toArray.size = _; simp

/-- Sum of what is read. -/
theorem stsum_any {w : World} {fb : Nat} {p k : Int} {s : ByteArray} (hs : s.size ≤ 9223372036854775807) (hr : Calls Try.prog 28 #[.pointer (some ⟨fb, 0, none⟩), .int .i64 p, .int .i64 k] w fun e w' => e = .returned (.tuple #[.string s, .int .i64 0]) ∧ Touch (fun _ => False) w w') :
    Calls Try.prog 36 #[.pointer (some ⟨fb, 0, none⟩), .int .i64 p, .int .i64 k] w fun e w' => e = .returned (.tuple #[.int .u32 (moreN 0 s.data.toList), .int .i64 0]) ∧ Touch (fun _ => False) w w' := by
  have HR := Lib.hid hr
  clear hr
  go_enter Try.func36, Try.ntmps36
  go_wp2_with fail
  refine HR.out.mono ?_
  rintro e wa ⟨rfl, hTa⟩
  go_wp2_with fail
  refine (make_calls wa).mono ?_
  rintro e wb ⟨rfl, hTab, hTb⟩
  go_wp2_with fail
  refine (wsum_calls _ s wb hTab hs).mono ?_
  rintro e wc ⟨rfl, nq, rfl⟩
  go_wp2_with fail
  go_ret2
  exact ⟨rfl, (hTa.trans hTb).drewN _⟩
theorem stsum_err {w : World} {v : Value} {p k z : Int} (hz : z ≠ 0) (hr : Calls Try.prog 28 #[v, .int .i64 p, .int .i64 k] w fun e w' => e = .returned (.tuple #[.string ⟨#[]⟩, .int .i64 z]) ∧ w = w') :
    Calls Try.prog 36 #[v, .int .i64 p, .int .i64 k] w fun e w' => e = .returned (.tuple #[.int .u32 0, .int .i64 z]) ∧ w = w' := by
  have HR := Lib.hid hr
  clear hr
  have d1 : (z != 0) = true := by simpa using hz
  go_enter Try.func36, Try.ntmps36
  go_wp2_with fail
  refine HR.out.mono ?_
  rintro e w' ⟨rfl, rfl⟩
  go_wp2_with fail
  go_ret2
  exact ⟨rfl, rfl⟩
theorem fil_sum {w : World} {b lb mb c n t fb fi mo : Nat} {A : List UInt8} (h : Fil w b lb mb c n t fb fi mo A) (p k : Nat) (hk : p + k ≤ A.length) :
    Calls Try.prog 36 #[.pointer (some ⟨fb, 0, none⟩), .int .i64 p, .int .i64 k] w fun e w' => e = .returned (.tuple #[.int .u32 (moreN 0 ((A.drop p).take k)), .int .i64 0]) ∧ Touch (fun _ => False) w w' :=
  stsum_any (by rw [ba_of_size, List.length_take, List.length_drop]; have := h.le.1; obtain ⟨_, _, _, _, _, _, _, h6⟩ := h; omega) (fil_read h p k hk)

theorem ststarts_nil (s : ByteArray) (w : World) : Calls Try.prog 38 #[.pointer none, .string s] w fun e w' => e = .returned (.tuple #[.bool false, .int .i64 1]) ∧ w = w' := by
  go_enter Try.func38, Try.ntmps38
  go_wp2
  go_ret2
  exact ⟨rfl, rfl⟩
theorem fil_starts_long {w : World} {b lb mb c n t fb fi mo : Nat} {A : List UInt8} (h : Fil w b lb mb c n t fb fi mo A) (s : ByteArray) (hs : A.length < s.size) :
    Calls Try.prog 38 #[.pointer (some ⟨fb, 0, none⟩), .string s] w fun e w' => e = .returned (.tuple #[.bool false, .int .i64 0]) ∧ w = w' := by
  obtain ⟨L, C, h1, h2, h3, h4, h5, h6⟩ := h
  obtain ⟨c0, c1, c2, c3⟩ := h2.cells
  have d1 : decide ((A.length : Int) < (s.size : Int)) = true := decide_eq_true (by omega)
  have d2 : decide (A.length < s.size) = true := decide_eq_true (by omega)
  clear h1 h2 h3
  go_enter Try.func38, Try.ntmps38
  go_wp2
  go_ret2
  exact ⟨rfl, rfl⟩
theorem fil_starts {w : World} {b lb mb c n t fb fi mo : Nat} {A : List UInt8} (h : Fil w b lb mb c n t fb fi mo A) (s : ByteArray) (hs : s.size ≤ A.length) :
    Calls Try.prog 38 #[.pointer (some ⟨fb, 0, none⟩), .string s] w fun e w' => e = .returned (.tuple #[.bool (decide ((⟨(A.take s.size).toArray⟩ : ByteArray) = s)), .int .i64 0]) ∧ Touch (fun _ => False) w w' := by
  have hrd := fil_read h 0 s.size (by omega)
  rw [List.drop_zero] at hrd
  have HR := Lib.hid hrd
  obtain ⟨L, C, h1, h2, h3, h4, h5, h6⟩ := h
  obtain ⟨c0, c1, c2, c3⟩ := h2.cells
  have d1 : decide ((A.length : Int) < (s.size : Int)) = false := decide_eq_false (by omega)
  have d2 : decide (A.length < s.size) = false := decide_eq_false (by omega)
  generalize (⟨(A.take s.size).toArray⟩ : ByteArray) = F at HR ⊢
  clear h1 h2 h3 hrd
  rw [← stEq]
  go_enter Try.func38, Try.ntmps38
  go_wp2_with fail
  refine HR.out.mono ?_
  rintro e wa ⟨rfl, hTa⟩
  go_wp2_with fail
  go_ret2
  exact ⟨rfl, hTa⟩

/-- The reference's Read. -/
theorem refread_ok (s : ByteArray) (p k : Nat) (hk : p + k ≤ s.size) (hs : s.size ≤ 4194304) (w : World) :
    Calls Try.prog 29 #[.string s, .int .i64 p, .int .i64 k] w fun e w' => e = .returned (.tuple #[.string (s.extract p (p + k)), .bool true]) ∧ w = w' := by
  have d1 : decide ((p : Int) < 0) = false := decide_eq_false (by omega)
  have d2 : decide ((k : Int) < 0) = false := decide_eq_false (by omega)
  have d3 : decide ((s.size : Int) < (p : Int)) = false := decide_eq_false (by omega)
  have hw : IntKind.i64.wrap ((s.size : Int) - (p : Int)) = (s.size : Int) - (p : Int) := IntWalk.i64_in _ (by omega)
  have d4 : decide ((s.size : Int) - (p : Int) < (k : Int)) = false := decide_eq_false (by omega)
  obtain ⟨q, hq⟩ : ∃ q : Nat, p + k = q := ⟨_, rfl⟩
  have hqI : (p : Int) + (k : Int) = (q : Int) := by omega
  have hwq : IntKind.i64.wrap ((p : Int) + (k : Int)) = (q : Int) := by rw [hqI]; exact IntWalk.i64_in _ (by omega)
  have h1 : (p : Int) ≤ (q : Int) := by omega
  have h2 : (q : Int) ≤ (s.size : Int) := by omega
  have h0 : (0 : Int) ≤ (p : Int) := by omega
  rw [hq]
  go_enter Try.func29, Try.ntmps29
  go_wp2
  go_ret2
  exact ⟨rfl, rfl⟩
theorem refread_bad (s : ByteArray) (p k : Int) (hs : s.size ≤ 4194304) (hk2 : k ≤ 9223372036854775807) (hb : p < 0 ∨ k < 0 ∨ s.size - k < p) (w : World) :
    Calls Try.prog 29 #[.string s, .int .i64 p, .int .i64 k] w fun e w' => e = .returned (.tuple #[.string ⟨#[]⟩, .bool false]) ∧ w = w' := by
  by_cases hp : p < 0
  · have d1 : decide (p < 0) = true := decide_eq_true hp
    clear hb
    go_enter Try.func29, Try.ntmps29
    go_wp2
    go_ret2
    exact ⟨rfl, rfl⟩
  have d1 : decide (p < 0) = false := decide_eq_false hp
  by_cases hk : k < 0
  · have d2 : decide (k < 0) = true := decide_eq_true hk
    clear hb
    go_enter Try.func29, Try.ntmps29
    go_wp2
    go_ret2
    exact ⟨rfl, rfl⟩
  have d2 : decide (k < 0) = false := decide_eq_false hk
  by_cases h3 : (s.size : Int) < p
  · have d3 : decide ((s.size : Int) < p) = true := decide_eq_true h3
    clear hb
    go_enter Try.func29, Try.ntmps29
    go_wp2
    go_ret2
    exact ⟨rfl, rfl⟩
  have d3 : decide ((s.size : Int) < p) = false := decide_eq_false h3
  have hw : IntKind.i64.wrap ((s.size : Int) - p) = (s.size : Int) - p := IntWalk.i64_in _ (by omega)
  have d4 : decide ((s.size : Int) - p < k) = true := decide_eq_true (by omega)
  clear hb
  go_enter Try.func29, Try.ntmps29
  go_wp2
  go_ret2
  exact ⟨rfl, rfl⟩

end Go.Proofs.Ytmcakilpdecacaa

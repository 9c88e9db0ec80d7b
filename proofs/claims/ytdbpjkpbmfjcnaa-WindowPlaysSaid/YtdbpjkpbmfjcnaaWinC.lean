/- Contracts of package window over the translated program: its text; a fresh window; the statement's own example. -/
import Derived.Test.YtdbpjkpbmfjcnaaWinB
import Derived.Laws.IdiomStrings
namespace Go.Proofs.Ytdbpjkpbmfjcnaa
open Go Go.RowKit
set_option maxRecDepth 100000

theorem ring_full {R all : List UInt8} (h : RingOf R all) : R.drop (all.length % 32768) ++ R.take (all.length % 32768) = all.drop (all.length - 32768) := by
  obtain ⟨h1, h2⟩ := h
  by_cases hf : all.length < 32768
  · have e : R = all := by
      apply List.ext_getElem?
      intro i
      by_cases hi : i < all.length
      · have := h2 i (by omega) hi
        rwa [Nat.mod_eq_of_lt (by omega)] at this
      · rw [List.getElem?_eq_none (by omega), List.getElem?_eq_none (by omega)]
    rw [e, Nat.mod_eq_of_lt hf, List.drop_length, List.take_length, Nat.sub_eq_zero_of_le (by omega), List.drop_zero, List.nil_append]
  · have hRl : R.length = 32768 := by omega
    obtain ⟨q, hq⟩ : ∃ q, q = all.length % 32768 := ⟨_, rfl⟩
    rw [← hq]
    apply List.ext_getElem?
    intro j
    by_cases hj : j < 32768
    · have hg := h2 (all.length - 32768 + j) (by omega) (by omega)
      rw [List.getElem?_drop, ← hg]
      by_cases hjq : j < 32768 - q
      · rw [List.getElem?_append_left (by rw [List.length_drop]; omega), List.getElem?_drop]
        congr 1
        omega
      · rw [List.getElem?_append_right (by rw [List.length_drop]; omega), List.length_drop, List.getElem?_take, if_pos (by omega)]
        congr 1
        omega
    · rw [List.getElem?_eq_none (by simp; omega), List.getElem?_eq_none (by simp; omega)]

/-- The last bytes of all. -/
def lastL (all : List UInt8) : List UInt8 := all.drop (all.length - 32768)

theorem run_row_from {P : Program} (w : World) (src e dst : TypeId) (hs : P.underlying src = some (.slice e)) (he : P.underlying e = some (.int .u8)) (hd : P.underlying dst = some .string)
    {g off n cap q c : Nat} {e0 : TypeId} {X : List UInt8} (h : Row w e0 (.slice (some ⟨g, off, none⟩) n cap) (byteVs X)) :
    (convert src dst (.slice (some ⟨g, off + q, none⟩) (n - q) c)).run P w = .ok (.string ⟨(X.drop q).toArray⟩) w := by
  obtain ⟨h1, h2⟩ := h.cells
  rw [byteVs_length] at h1
  subst h1
  have := run_convert_bytes_back (P := P) w src dst e ⟨g, off + q, none⟩ c (X.drop q) hs he hd (fun j hj => by
    have hj' : j < X.length - q := by simpa using hj
    have h3 := h2 (q + j) (.int .u8 ((X[q + j]).toNat : Nat)) (by simp [byteVs, show q + j < X.length by omega])
    have h4 : (⟨g, off + q, none⟩ : Addr).add j = ⟨g, off + (q + j), none⟩ := by
      by_cases h0 : j = 0
      · subst h0; simp [Addr.add]
      · simp [Addr.add, h0, Nat.add_assoc]
    rw [h4, h3]
    simp)
  rwa [List.length_drop] at this
theorem run_row_fromif {P : Program} (w : World) (src e dst : TypeId) (hs : P.underlying src = some (.slice e)) (he : P.underlying e = some (.int .u8)) (hd : P.underlying dst = some .string)
    {g off n cap q c : Nat} {e0 : TypeId} {X : List UInt8} (h : Row w e0 (.slice (some ⟨g, off, none⟩) n cap) (byteVs X)) (hnc : X.length ≤ cap) :
    (convert src dst (.slice (if cap = q then some ⟨g, off, none⟩ else some ⟨g, off + q, none⟩) (n - q) c)).run P w = .ok (.string ⟨(X.drop q).toArray⟩) w := by
  by_cases hq : cap = q
  · rw [if_pos hq]
    obtain ⟨h1, h2⟩ := h.cells
    rw [byteVs_length] at h1
    subst h1
    have := run_convert_bytes_back (P := P) w src dst e ⟨g, off, none⟩ c (X.drop q) hs he hd (fun j hj => by
      have hj' : j < X.length - q := by simpa using hj
      omega)
    rwa [List.length_drop] at this
  · rw [if_neg hq]
    exact run_row_from w src e dst hs he hd h
theorem run_row_upto {P : Program} (w : World) (src e dst : TypeId) (hs : P.underlying src = some (.slice e)) (he : P.underlying e = some (.int .u8)) (hd : P.underlying dst = some .string)
    {g off n cap q c : Nat} {e0 : TypeId} {X : List UInt8} (h : Row w e0 (.slice (some ⟨g, off, none⟩) n cap) (byteVs X)) (hq : q ≤ n) :
    (convert src dst (.slice (some ⟨g, off, none⟩) q c)).run P w = .ok (.string ⟨(X.take q).toArray⟩) w := by
  obtain ⟨h1, h2⟩ := h.cells
  rw [byteVs_length] at h1
  subst h1
  have := run_convert_bytes_back (P := P) w src dst e ⟨g, off, none⟩ c (X.take q) hs he hd (fun j hj => by
    have hj' : j < q ∧ j < X.length := by simp at hj; omega
    have h3 := h2 j (.int .u8 ((X[j]'hj'.2).toNat : Nat)) (by simp [byteVs, hj'.2])
    have h4 : (⟨g, off, none⟩ : Addr).add j = ⟨g, off + j, none⟩ := by
      by_cases h0 : j = 0
      · subst h0; simp [Addr.add]
      · simp [Addr.add, h0]
    rw [h4, h3]
    simp)
  rwa [List.length_take, Nat.min_eq_left hq] at this

theorem str_append (A B : List UInt8) : ((⟨A.toArray⟩ : ByteArray) ++ ⟨B.toArray⟩) = ⟨(A ++ B).toArray⟩ := by
  apply ByteArray.ext
  simp [ByteArray.data_append]

set_option maxHeartbeats 400000 in
theorem text_calls (b : Nat) (all : List UInt8) (w0 w : World) (h : FrW w0 w b all) (hl : all.length < 1099511627776) :
    Calls Try.prog 43 #[.pointer (some ⟨b, 0, none⟩)] w fun e w' => e = .returned (.string ⟨(lastL all).toArray⟩) ∧ Touch (fun _ => False) w w' := by
  obtain ⟨row, ⟨R, v, ⟨c0, c1, f0, f1⟩, hrow, hap, rfl, hR⟩, x1, x2, x3⟩ := h
  clear x1 x2 x3
  have hRT := ring_full hR
  have hqR : all.length % 32768 ≤ R.length := by have := hR.1; omega
  obtain ⟨a, cap, hv, hc1, hc2⟩ := hrow.form
  rw [byteVs_length] at hv hc1
  obtain ⟨q, hq⟩ : ∃ q, q = all.length % 32768 := ⟨_, rfl⟩
  rw [← hq] at hRT hqR
  have hqi : (all.length : Int) % 32768 = (q : Nat) := by omega
  have HLT := Lib.hid (show lastL all = R.drop q ++ R.take q from hRT.symm)
  have HRB := Lib.hid (show R.length ≤ 32768 by have := hR.1; omega)
  have hq0 : (0 : Int) ≤ (q : Int) := by omega
  have hq1 : (q : Int) ≤ (R.length : Int) := by omega
  have hq2 : (R.length : Int) ≤ (cap : Int) := by omega
  have hq3 : (q : Int) ≤ (cap : Int) := by omega
  cases a with
  | none =>
    rcases hrow with ⟨e1, e2⟩ | ⟨g, off, cap', cur, e1, _⟩
    · rw [hv] at e1
      injection e1 with _ e1 e3
      have hR0 : R = [] := List.eq_nil_of_length_eq_zero e1
      subst hR0
      subst e3
      have hq4 : q = 0 := by simpa using hqR
      subst hq4
      subst hv
      clear hR hq hRT hqR hap e1 e2 hc1 hc2 hq0 hq1 hq2 hq3 hl
      go_enter Try.func43, Try.ntmps43
      have hn := run_bytes_row (P := Try.prog) w.drew 64 5 9 Try.underlying64 Try.underlying5 Try.underlying9 (xs := []) (Row.nil _ 5)
      go_wp2
      go_region
      go_wp2
      go_ret
      rw [HLT.out]
      exact ⟨rfl, (Touch.refl _ _).drew⟩
    · rw [hv] at e1; cases e1
  | some a =>
    obtain ⟨g, off, hga⟩ : ∃ g off, a = ⟨g, off, none⟩ := by
      rcases hrow with ⟨e1, e2⟩ | ⟨g, off, cap', cur, e1, _⟩
      · rw [hv] at e1; cases e1
      · rw [hv] at e1; injection e1 with e1; injection e1 with e1; exact ⟨g, off, e1⟩
    subst hga
    subst hv
    have hrowd := hrow.kept ((Touch.refl (fun _ => False) w).drew) (fun _ _ => id)
    have HFROM := Lib.hid (fun c => run_row_fromif (P := Try.prog) (q := q) (c := c) w.drew 64 5 9 Try.underlying64 Try.underlying5 Try.underlying9 hrowd hc1)
    have HUPTO := Lib.hid (fun c => run_row_upto (P := Try.prog) (q := q) (c := c) w.drew 64 5 9 Try.underlying64 Try.underlying5 Try.underlying9 hrowd hqR)
    clear hR hq hRT hqR hap hc1 hc2 hl
    go_enter Try.func43, Try.ntmps43
    go_upto_region 4 with fail
    rw [hqi]
    obtain ⟨s1, hs1⟩ : ∃ s : ByteArray, s = ⟨(R.drop q).toArray⟩ := ⟨_, rfl⟩
    obtain ⟨s2, hs2⟩ : ∃ s : ByteArray, s = ⟨(R.take q).toArray⟩ := ⟨_, rfl⟩
    have hu := HUPTO.out
    rw [← hs2] at hu
    have hz1 : s1.size ≤ 32768 := by
      have := HRB.out
      rw [hs1]
      show (R.drop q).toArray.size ≤ 32768
      simp
      omega
    have hz2 : s2.size ≤ 32768 := by
      have := HRB.out
      rw [hs2]
      show (R.take q).toArray.size ≤ 32768
      simp
      omega
    have hadd := fun W => run_string_add_sum (P := Try.prog) W s1 s2 (by omega)
    have HS := Lib.hid (And.intro hs1 hs2)
    clear hz1 hz2
    by_cases hcq : cap = q
    · have hf := HFROM.out
      rw [if_pos hcq, ← hs1] at hf
      clear hqi HFROM HUPTO c1 f1 hrow hrowd hs1 hs2
      subst hcq
      go_region_with (fail)
      all_goals
        clear hf hu hadd hq0 hq1 hq2 hq3 c0 f0 HRB
        go_wp2
        go_ret
        rw [HLT.out]
        refine ⟨ret1 (congrArg Value.string ?_), (Touch.refl _ _).drew⟩
        rw [HS.out.1, HS.out.2]
        exact str_append _ _
    · have hf := HFROM.out
      rw [if_neg hcq, ← hs1] at hf
      clear hqi HFROM HUPTO c1 f1 hrow hrowd hs1 hs2
      go_region_with (fail)
      all_goals
        clear hf hu hadd hq0 hq1 hq2 hq3 c0 f0 HRB
        go_wp2
        go_ret
        rw [HLT.out]
        refine ⟨ret1 (congrArg Value.string ?_), (Touch.refl _ _).drew⟩
        rw [HS.out.1, HS.out.2]
        exact str_append _ _

theorem fresh_win (w0 w : World) (t : TypeId) (ht : Touch (fun _ => False) w0 w) : FrW w0 (w.alloc (.cells #[.slice none 0 0, .int .i64 0] t)) w.heap.size [] := by
  have hh := heap_alloc_new w (.cells #[.slice none 0 0, .int .i64 0] t)
  refine ⟨none, ⟨[], .slice none 0 0, ⟨?_, ?_, ?_, ?_⟩, Row.nil _ _, by simp [Value.ownBlock], rfl, ring_nil⟩, ht.size, fun g hg => (by cases hg), ht.alloc _⟩
  · rw [cell_of_row _ _ _ _ _ _ hh]; rfl
  · rw [cell_of_row _ _ _ _ _ _ hh]; rfl
  · simp only [World.frozen?, hh]
    rfl
  · simp only [World.frozen?, hh]
    rfl

set_option maxHeartbeats 400000 in
theorem speaks6_calls (w : World) : Calls Try.prog 34 #[] w fun e w' => e = .returned (.bool true) ∧ Touch (fun _ => False) w w' := by
  go_enter Try.func34, Try.ntmps34
  go_wp2_with fail
  refine (add_fr w _ ⟨#[97, 98, 99]⟩ [] _ (fresh_win w w _ (Touch.refl _ _)) (by decide)).mono ?_
  rintro e w1 ⟨rfl, h1⟩
  generalize w.heap.size = b at h1 ⊢
  go_wp2_with fail
  refine (copy_in b 4 2 _ w w1 h1 (by decide) (by decide) (by decide) (by decide)).mono ?_
  rintro e w2 ⟨rfl, h2⟩
  have e1 : copyL 4 2 (([] : List UInt8) ++ (⟨#[97, 98, 99]⟩ : ByteArray).data.toList) = [97, 98, 99, 98, 99, 98, 99] := rfl
  have e2 : (([] : List UInt8) ++ (⟨#[97, 98, 99]⟩ : ByteArray).data.toList).length = 3 := rfl
  rw [e1] at h2
  rw [e1, e2]
  clear e1 e2
  have hb : Calls Try.prog 39 #[.pointer (some ⟨b, 0, none⟩), .int .i64 1] w2 fun e w' => e = .returned (.tuple #[.int .u8 99, .bool true]) ∧ Touch (fun _ => False) w2 w' := back_in b 1 _ w w2 h2 (by decide) (by simp) (by simp)
  go_wp2_with fail
  refine hb.mono ?_
  rintro e w3 ⟨rfl, ht3⟩
  have h3 := h2.still ht3
  have hl : ∀ W, FrW w W b [97, 98, 99, 98, 99, 98, 99] → Calls Try.prog 41 #[.pointer (some ⟨b, 0, none⟩)] W fun e w' => e = .returned (.int .i64 7) ∧ W = w' := fun W h => by
    obtain ⟨row, hW, _⟩ := h
    exact len_calls b 0 _ row W hW
  have HL := Lib.hid hl
  clear hl hb h1 h2 ht3
  go_wp2_with fail
  refine (HL.out _ h3).mono ?_
  rintro e w4 ⟨rfl, rfl⟩
  have e7 : lastL [97, 98, 99, 98, 99, 98, 99] = [97, 98, 99, 98, 99, 98, 99] := by simp [lastL]
  have HT := Lib.hid (text_calls b [97, 98, 99, 98, 99, 98, 99] w w3 h3 (by simp))
  rw [e7] at HT
  go_wp2_with fail
  refine HT.out.mono ?_
  rintro e w5 ⟨rfl, ht5⟩
  go_wp2_with fail
  go_ret
  exact ⟨rfl, h3.touch.trans ht5⟩
end Go.Proofs.Ytdbpjkpbmfjcnaa

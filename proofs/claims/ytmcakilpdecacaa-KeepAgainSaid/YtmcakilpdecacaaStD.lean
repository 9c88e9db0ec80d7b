/- Contracts of package stage, fifth part: a file in use on a disk without a fuse; that the program speaks. -/
import Derived.Test.YtmcakilpdecacaaStQ
import Derived.Test.YtmcakilpdecacaaStR
namespace Go.Proofs.Ytmcakilpdecacaa
open Go Go.RowKit Go.Maps
set_option maxRecDepth 100000

/-- A file in use, with these bytes, on a disk without a fuse. -/
def Fil (w : World) (b lb mb c n t fb fi mo : Nat) (A : List UInt8) : Prop :=
  ∃ L C, DkAt w b lb mb c n L C t (-1) true ∧ FlAt w fb b fi mo A.length ∧ Holds L C (fi * 64) A ∧ ¬ DkS b lb mb fb ∧ fi * 64 + mo ≤ n * 64 ∧ A.length ≤ mo

theorem Fil.still {w w' : World} {b lb mb c n t fb fi mo : Nat} {A : List UInt8} (h : Fil w b lb mb c n t fb fi mo A) (ht : Touch (fun _ => False) w w') : Fil w' b lb mb c n t fb fi mo A := by
  obtain ⟨L, C, h1, h2, h3, h4, h5, h6⟩ := h
  exact ⟨L, C, h1.still ht, h2.kept ht id, h3, h4, h5, h6⟩
theorem Fil.le {w : World} {b lb mb c n t fb fi mo : Nat} {A : List UInt8} (h : Fil w b lb mb c n t fb fi mo A) : mo ≤ 4194304 ∧ A.length ≤ mo ∧ fb < w.heap.size := by
  obtain ⟨L, C, h1, h2, h3, h4, h5, h6⟩ := h
  have := h1.n2
  exact ⟨by omega, h6, h2.lt⟩

theorem holds_nil (L : List UInt8) (C : List Ent) (p : Nat) : Holds L C p [] := rfl

theorem fil_new {w : World} {b lb mb c n : Nat} {L : List UInt8} {C : List Ent} {t : Nat} (h : DkAt w b lb mb c n L C t (-1) true) (a s : Nat) {A : List UInt8} (hA : Holds L C (a * 64) A) (hs : 1 ≤ s) (ha : a + s ≤ n) (hz : A.length ≤ s * 64) :
    Calls Try.prog 27 #[.pointer (some ⟨b, 0, none⟩), .int .i64 a, .int .i64 s, .int .i64 A.length] w fun e w' => ∃ fb, e = .returned (.tuple #[.pointer (some ⟨fb, 0, none⟩), .int .i64 0]) ∧ Fil w' b lb mb c n t fb a (s * 64) A ∧ w.heap.size ≤ fb ∧ Touch (fun _ => False) w w' := by
  refine (stnew_calls h a s A.length hs ha hz).mono ?_
  rintro e w' ⟨fb, rfl, hF, hfb, hT⟩
  have hl := h.lt
  exact ⟨fb, rfl, ⟨L, C, h.still hT, hF, hA, by rintro (h | h | h) <;> omega, by omega, hz⟩, hfb, hT⟩
theorem fil_again {w : World} {b lb mb c n t fb fi mo : Nat} {A : List UInt8} (h : Fil w b lb mb c n t fb fi mo A) (s : Nat) (hs : 1 ≤ s) (hmo : mo = s * 64) :
    Calls Try.prog 27 #[.pointer (some ⟨b, 0, none⟩), .int .i64 fi, .int .i64 s, .int .i64 A.length] w fun e w' => ∃ fb', e = .returned (.tuple #[.pointer (some ⟨fb', 0, none⟩), .int .i64 0]) ∧ Fil w' b lb mb c n t fb' fi mo A ∧ w.heap.size ≤ fb' ∧ Touch (fun _ => False) w w' := by
  obtain ⟨L, C, h1, h2, h3, h4, h5, h6⟩ := h
  subst hmo
  exact fil_new h1 fi s h3 hs (by omega) h6

theorem fil_append {w : World} {b lb mb c n t fb fi mo : Nat} {A : List UInt8} (h : Fil w b lb mb c n t fb fi mo A) (s : ByteArray) (hs : s.size ≤ mo - A.length) (ht : t + s.size ≤ 1000000) :
    Calls Try.prog 32 #[.pointer (some ⟨fb, 0, none⟩), .string s] w fun e w' => e = .returned (.int .i64 0) ∧ ∃ t', t' ≤ t + s.size ∧ Fil w' b lb mb c n t' fb fi mo (A ++ s.data.toList) ∧ Touch (fun k => DkS b lb mb k ∨ k = fb) w w' := by
  obtain ⟨L, C, h1, h2, h3, h4, h5, h6⟩ := h
  refine (stappend_calls h1 h2 h4 h5 h6 s hs ht).mono ?_
  rintro e w' ⟨⟨rfl, C', t', f', hf, ht', hD, hF, hI, hK⟩ | ⟨hf, _⟩, hT⟩
  · obtain rfl := hf rfl
    have e1 : (A ++ s.data.toList).length = A.length + s.size := by rw [List.length_append, ba_len]
    exact ⟨rfl, t', ht', ⟨L, C', hD, by rw [e1]; exact hF, h3.app hI, h4, h5, by rw [e1]; omega⟩, hT⟩
  · exact absurd rfl hf
theorem fil_full {w : World} {b lb mb c n t fb fi mo : Nat} {A : List UInt8} (h : Fil w b lb mb c n t fb fi mo A) (s : ByteArray) (hs : mo - A.length < s.size) :
    Calls Try.prog 32 #[.pointer (some ⟨fb, 0, none⟩), .string s] w fun e w' => e = .returned (.int .i64 15) ∧ Touch (fun _ => False) w w' := by
  have hl := h.le
  obtain ⟨L, C, h1, h2, h3, h4, h5, h6⟩ := h
  exact stappend_full h2 hl.1 h6 s hs
theorem fil_read {w : World} {b lb mb c n t fb fi mo : Nat} {A : List UInt8} (h : Fil w b lb mb c n t fb fi mo A) (p k : Nat) (hk : p + k ≤ A.length) :
    Calls Try.prog 28 #[.pointer (some ⟨fb, 0, none⟩), .int .i64 p, .int .i64 k] w fun e w' => e = .returned (.tuple #[.string ⟨((A.drop p).take k).toArray⟩, .int .i64 0]) ∧ Touch (fun _ => False) w w' := by
  obtain ⟨L, C, h1, h2, h3, h4, h5, h6⟩ := h
  have := stread_calls h1 h2 h5 h6 p k hk
  rw [h3.part hk] at this
  exact this
theorem fil_read_all {w : World} {b lb mb c n t fb fi mo : Nat} {A : ByteArray} (h : Fil w b lb mb c n t fb fi mo A.data.toList) :
    Calls Try.prog 28 #[.pointer (some ⟨fb, 0, none⟩), .int .i64 0, .int .i64 A.size] w fun e w' => e = .returned (.tuple #[.string A, .int .i64 0]) ∧ Touch (fun _ => False) w w' := by
  have := fil_read h 0 A.size (by rw [ba_len]; omega)
  rw [List.drop_zero, List.take_of_length_le (Nat.le_of_eq (ba_len A))] at this
  have e1 : (⟨A.data.toList.toArray⟩ : ByteArray) = A := by cases A; simp
  rw [e1] at this
  exact this
theorem fil_bad {w : World} {b lb mb c n t fb fi mo : Nat} {A : List UInt8} (h : Fil w b lb mb c n t fb fi mo A) (p k : Int) (hk2 : k ≤ 9223372036854775807) (hb : p < 0 ∨ k < 0 ∨ A.length - k < p) :
    Calls Try.prog 28 #[.pointer (some ⟨fb, 0, none⟩), .int .i64 p, .int .i64 k] w fun e w' => e = .returned (.tuple #[.string ⟨#[]⟩, .int .i64 20]) ∧ w = w' := by
  have hl := h.le
  obtain ⟨L, C, h1, h2, h3, h4, h5, h6⟩ := h
  exact stread_bad h2 (by omega) p k hk2 hb
theorem fil_len {w : World} {b lb mb c n t fb fi mo : Nat} {A : List UInt8} (h : Fil w b lb mb c n t fb fi mo A) : Calls Try.prog 33 #[.pointer (some ⟨fb, 0, none⟩)] w fun e w' => e = .returned (.int .i64 A.length) ∧ w = w' := by
  obtain ⟨L, C, h1, h2, h3, h4, h5, h6⟩ := h
  exact stlen_calls h2
theorem fil_room {w : World} {b lb mb c n t fb fi mo : Nat} {A : List UInt8} (h : Fil w b lb mb c n t fb fi mo A) : Calls Try.prog 34 #[.pointer (some ⟨fb, 0, none⟩)] w fun e w' => e = .returned (.int .i64 ((mo - A.length : Nat) : Int)) ∧ Touch (fun _ => False) w w' := by
  have hl := h.le
  obtain ⟨L, C, h1, h2, h3, h4, h5, h6⟩ := h
  exact stroom_calls h2 h6 hl.1
theorem fil_cut {w : World} {b lb mb c n t fb fi mo : Nat} {A : List UInt8} (h : Fil w b lb mb c n t fb fi mo A) (k : Nat) (hk : k ≤ A.length) : Calls Try.prog 30 #[.pointer (some ⟨fb, 0, none⟩), .int .i64 k] w fun e w' => e = .returned (.int .i64 0) ∧ Fil w' b lb mb c n t fb fi mo (A.take k) ∧ Touch (fun k => k = fb) w w' := by
  obtain ⟨L, C, h1, h2, h3, h4, h5, h6⟩ := h
  refine (stcut_calls h2 k hk).mono ?_
  rintro e w' ⟨rfl, hF, hT⟩
  have e1 : (A.take k).length = k := by rw [List.length_take]; omega
  exact ⟨rfl, ⟨L, C, h1.kept hT (fun e => h4 (e ▸ .inl rfl)) (fun e => h4 (e ▸ .inr (.inl rfl))) (fun e => h4 (e ▸ .inr (.inr rfl))), by rw [e1]; exact hF, h3.take k hk, h4, h5, by rw [e1]; omega⟩, hT⟩
theorem fil_sync {w : World} {b lb mb c n t fb fi mo : Nat} {A : List UInt8} (h : Fil w b lb mb c n t fb fi mo A) : Calls Try.prog 31 #[.pointer (some ⟨fb, 0, none⟩)] w fun e w' => e = .returned (.int .i64 0) ∧ Fil w' b lb mb c n t fb fi mo A ∧ Touch (DkS b lb mb) w w' := by
  obtain ⟨L, C, h1, h2, h3, h4, h5, h6⟩ := h
  refine (stsync_any h2 (Q := fun w' => ∃ L', (L'.length = n * 64 ∧ ∀ k : Nat, k < n → sec L' k = (readS L C k).data.toList) ∧ DkAt w' b lb mb c n L' [] t (-1) true ∧ Touch (DkS b lb mb) w w') (sync_ok h1 (by omega))).mono ?_
  rintro e w' ⟨rfl, L', ⟨hL1, hL2⟩, hD, hT⟩
  refine ⟨rfl, ⟨L', [], hD, h2.kept hT h4, h3.congr fun j hj => ?_, h4, h5, h6⟩, hT⟩
  show (sec L' ((fi * 64 + j) / 64)).toArray.toList.getD _ 0 = _
  rw [hL2 _ (by omega)]
  rfl

theorem Touch.from {S : Nat → Prop} {a b c : World} (h : Touch (fun _ => False) a b) (k : Touch S b c) (hs : ∀ i, S i → a.heap.size ≤ i) : Touch (fun _ => False) a c := h.trans' k (fun i hi => .inr (hs i hi))

set_option maxHeartbeats 1000000 in
theorem speaks19_calls (w : World) : Calls Try.prog 26 #[] w fun e w' => e = .returned (.bool true) ∧ Touch (fun _ => False) w w' := by
  go_enter Try.func26, Try.ntmps26
  go_wp2_with fail
  refine (new_calls 4 w (by omega) (by omega)).mono ?_
  rintro e w1 ⟨b, lb, mb, rfl, hD1, hN, hT1⟩
  have HD1 := Lib.hid hD1
  have HNB := Lib.hid hN
  clear hD1 hN
  go_wp2_with fail
  refine (fil_new HD1.out 1 2 (A := []) (holds_nil _ _ _) (by omega) (by omega) (by simp)).mono ?_
  rintro e w2 ⟨fb, rfl, hF2, hfb, hT2⟩
  have HF2 := Lib.hid hF2
  have HS : Hid (∀ k, DkS b lb mb k ∨ k = fb → w.heap.size ≤ k) := Lib.hid (fun k hk => by
    have := HNB.out; have := hT1.size
    rcases hk with (h | h | h) | h <;> omega)
  have HT2 := Lib.hid (hT1.trans hT2)
  clear hF2 hfb hT1 hT2
  go_wp2_with fail
  refine (fil_append HF2.out ⟨#[97, 98, 99]⟩ (by decide) (by decide)).mono ?_
  rintro e w3 ⟨rfl, t', ht', hF3, hT3⟩
  have HF3 : Hid (Fil w3 b lb mb (4 * 64) 4 t' fb 1 (2 * 64) [97, 98, 99]) := Lib.hid hF3
  have HT3 := Lib.hid (HT2.out.from hT3 HS.out)
  clear hF3 hT3 ht'
  go_wp2_with fail
  refine (fil_read HF3.out 1 2 (by decide)).mono ?_
  rintro e w4 ⟨rfl, hT4⟩
  have HF4 := Lib.hid (HF3.out.still hT4)
  have HT4 := Lib.hid (HT3.out.trans hT4)
  clear hT4
  rw [show (⟨(([97, 98, 99] : List UInt8).drop 1 |>.take 2).toArray⟩ : ByteArray) = ⟨#[98, 99]⟩ from rfl]
  go_wp2_with fail
  refine (fil_len HF4.out).mono ?_
  rintro e w' ⟨rfl, rfl⟩
  go_wp2_with fail
  refine (fil_room HF4.out).mono ?_
  rintro e w5 ⟨rfl, hT5⟩
  go_wp2_with fail
  go_ret
  exact ⟨rfl, HT4.out.trans hT5⟩

end Go.Proofs.Ytmcakilpdecacaa


/- Contracts of package wal, seventh part: a log in use; that the program speaks. -/
import Derived.Test.YtmcakilpdecacaaWlG
namespace Go.Proofs.Ytmcakilpdecacaa
open Go Go.RowKit Go.Maps
set_option maxRecDepth 100000

theorem secsOf_get (L : List UInt8) (at' sn j : Nat) (hj : j < sn) : (secsOf L at' sn)[j]? = some (sec L (at' + j)) := by
  simp [secsOf, hj]
theorem secsOf_eq {L L' : List UInt8} {at' sn : Nat} (h : ∀ j, j < sn → sec L' (at' + j) = sec L (at' + j)) : secsOf L' at' sn = secsOf L at' sn := by
  apply List.map_congr_left
  intro j hj
  exact h j (by simpa using hj)
theorem secsOf_put {L L' : List UInt8} {n at' sn r : Nat} {S : List UInt8} (_hr : r < sn) (hfit : at' + sn ≤ n) (h : ∀ k : Nat, k < n → sec L' k = if k = at' + r then S else sec L k) : secsOf L' at' sn = (secsOf L at' sn).set r S := by
  apply List.ext_getElem?
  intro j
  by_cases hj : j < sn
  · rw [secsOf_get _ _ _ _ hj, h _ (by omega), List.getElem?_set, secsOf_len]
    by_cases e : r = j
    · subst e; rw [if_pos rfl, if_pos rfl, if_pos hj]
    · rw [if_neg (by omega), if_neg e, secsOf_get _ _ _ _ hj]
  · rw [List.getElem?_eq_none (by rw [secsOf_len]; omega), List.getElem?_eq_none (by rw [List.length_set, secsOf_len]; omega)]
theorem sec_zero {n k : Nat} (hk : k < n) : sec (List.replicate (n * 64) 0) k = List.replicate 64 0 := by
  simp only [sec, List.drop_replicate, List.take_replicate]
  congr 1; omega
theorem secsOf_zero {n at' sn : Nat} (hfit : at' + sn ≤ n) : secsOf (List.replicate (n * 64) 0) at' sn = List.replicate sn (List.replicate 64 0) := by
  apply List.ext_getElem?
  intro j
  by_cases hj : j < sn
  · rw [secsOf_get _ _ _ _ hj, sec_zero (by omega), List.getElem?_replicate, if_pos hj]
  · rw [List.getElem?_eq_none (by rw [secsOf_len]; omega), List.getElem?_eq_none (by rw [List.length_replicate]; omega)]
theorem LogSecs.start (sn : Nat) : LogSecs (List.replicate sn (List.replicate 64 0)) 0 [] :=
  ⟨fun S hS => .inl (List.eq_of_mem_replicate hS), fun h => absurd h (Nat.lt_irrefl 0), by simp, fun _ => rfl⟩

theorem ba_self (s : ByteArray) : (⟨s.data.toList.toArray⟩ : ByteArray) = s := by cases s; simp

/-- A log in use: the disk, the log, and what lasts. -/
structure Live (w : World) (b lb mb c n : Nat) (L : List UInt8) (t : Nat) (f : Int) (gb at' sn N : Nat) (s : ByteArray) : Prop where
  disk : DkAt w b lb mb c n L [] t f true
  log : LogAt w gb b at' sn N s false
  sep : ¬ DkS b lb mb gb
  secs : LogSecs (secsOf L at' sn) N s.data.toList

/-- A log of which a Put had an error. -/
structure Dead (w : World) (b lb mb c n : Nat) (L : List UInt8) (t : Nat) (gb at' sn N : Nat) (s : ByteArray) : Prop where
  disk : DkAt w b lb mb c n L [] t (-1) false
  log : LogAt w gb b at' sn N s true
  sep : ¬ DkS b lb mb gb
  secs : LogSecs (secsOf L at' sn) N s.data.toList

theorem Live.still {w w' : World} {b lb mb c n : Nat} {L : List UInt8} {t : Nat} {f : Int} {gb at' sn N : Nat} {s : ByteArray} (h : Live w b lb mb c n L t f gb at' sn N s) (ht : Touch (fun _ => False) w w') : Live w' b lb mb c n L t f gb at' sn N s :=
  ⟨h.disk.still ht, h.log.kept ht id, h.sep, h.secs⟩

/-- A disk with a log on it is opened (again). -/
theorem lopen_calls {w : World} {b lb mb c n : Nat} {L : List UInt8} {t : Nat} {f : Int} (h : DkAt w b lb mb c n L [] t f true) (at' sn : Nat) (h2 : 2 ≤ sn) (hfit : at' + sn ≤ n) {N : Nat} {s : ByteArray} (hN : N < 1000000) (hS : LogSecs (secsOf L at' sn) N s.data.toList) :
    Calls Try.prog 68 #[.pointer (some ⟨b, 0, none⟩), .int .i64 at', .int .i64 sn] w fun e w' => ∃ gb, e = .returned (.tuple #[.pointer (some ⟨gb, 0, none⟩), .int .i64 0]) ∧ Live w' b lb mb c n L t f gb at' sn N s ∧ w.heap.size ≤ gb ∧ Touch (fun _ => False) w w' := by
  refine (open_calls h at' sn h2 hfit).mono ?_
  rintro e w' ⟨gb, rfl, hL, hg, hT⟩
  rw [hS.last hN] at hL
  have hl := h.lt
  exact ⟨gb, rfl, ⟨h.still hT, by rw [ba_self] at hL; exact hL, by rintro (h | h | h) <;> omega, hS⟩, hg, hT⟩

/-- What comes of a Put of a log in use. -/
def LOut (w' : World) (b lb mb c n : Nat) (L : List UInt8) (t : Nat) (f : Int) (gb at' sn N : Nat) (s0 s : ByteArray) (e : Ending) : Prop :=
  (f ≠ 0 ∧ f ≠ 1 ∧ e = .returned (.int .i64 0) ∧ ∃ L', sec L' (at' + (N + 1) % sn) = slotB (N + 1) s.data.toList ∧ Live w' b lb mb c n L' (t + 1) (burnF f) gb at' sn (N + 1) s) ∨
  ((f = 0 ∨ f = 1) ∧ e = .returned (.int .i64 14) ∧ ∃ t', t' ≤ t + 1 ∧ Dead w' b lb mb c n L t' gb at' sn N s0)

theorem lput_calls {w : World} {b lb mb c n : Nat} {L : List UInt8} {t : Nat} {f : Int} {gb at' sn N : Nat} {s0 : ByteArray} (h : Live w b lb mb c n L t f gb at' sn N s0) (h2 : 2 ≤ sn) (hfit : at' + sn ≤ n) (s : ByteArray) (hs : s.size ≤ 23) (hN : N < 1000000) (ht : t < 1000000) :
    Calls Try.prog 89 #[.pointer (some ⟨gb, 0, none⟩), .string s] w fun e w' => Touch (fun k => DkS b lb mb k ∨ k = gb) w w' ∧ LOut w' b lb mb c n L t f gb at' sn N s0 s e := by
  refine (put_calls h.disk h.log h.sep h2 hfit s hN hs ht).mono ?_
  rintro e w' ⟨hT, ⟨hf0, hf1, rfl, hL, L', hL', hD⟩ | ⟨hf, rfl, hL, t', ht', hD⟩⟩
  · have hr : (N + 1) % sn < sn := Nat.mod_lt _ (by omega)
    have hsz : s.data.toList.length ≤ 23 := by rw [Array.length_toList]; exact hs
    have hp := h.secs.put (by rw [secsOf_len]; exact h2) s.data.toList hsz
    rw [secsOf_len] at hp
    exact ⟨hT, .inl ⟨hf0, hf1, rfl, L', by rw [hL' _ (by omega), if_pos rfl], hD, hL, h.sep, by rw [secsOf_put hr hfit hL']; exact hp⟩⟩
  · exact ⟨hT, .inr ⟨hf, rfl, t', ht', hD, hL, h.sep, h.secs⟩⟩

end Go.Proofs.Ytmcakilpdecacaa

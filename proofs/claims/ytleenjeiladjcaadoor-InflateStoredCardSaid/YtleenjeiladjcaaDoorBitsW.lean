
/- Contracts of package bits' Writer over the translated program, by the list of its bits. -/
import Derived.Test.YtleenjeiladjcaaDoorBitsA
namespace Go.Proofs.YtleenjeiladjcaaDoor
open Go Go.RowKit
set_option maxRecDepth 100000

/-- Where a row lies now: where it lay, or in a new block. -/
def Sep (n : Nat) (row row' : Option Nat) : Prop := row' = row ∨ ∃ g, row' = some g ∧ n ≤ g

theorem Sep.refl (n : Nat) (a : Option Nat) : Sep n a a := .inl rfl
theorem Sep.trans {n m : Nat} {a b c : Option Nat} (h : Sep n a b) (k : Sep m b c) (hm : n ≤ m) : Sep n a c := by
  rcases k with rfl | ⟨g, rfl, hg⟩
  · exact h
  · exact .inr ⟨g, rfl, by omega⟩
theorem Sep.ne {n h : Nat} {a b : Option Nat} (hs : Sep n a b) (ha : a ≠ some h) (hh : h < n) : b ≠ some h := by
  rcases hs with rfl | ⟨g, rfl, hg⟩
  · exact ha
  · intro e; injection e with e; omega
/-- What wrote in the block and in its row alone. -/
theorem Sep.touch {a b c : World} {k0 : Nat} {row row1 : Option Nat} (ht : Touch (fun k => k = k0 ∨ row = some k) a b) (hs : Sep a.heap.size row row1) (ht' : Touch (fun k => k = k0 ∨ row1 = some k) b c) : Touch (fun k => k = k0 ∨ row = some k) a c :=
  ht.trans' ht' (fun i hi => by
    rcases hi with rfl | hi
    · exact .inl (.inl rfl)
    · rcases hs with rfl | ⟨g, rfl, hg⟩
      · exact .inl (.inr hi)
      · injection hi with hi; right; omega)

theorem write_calls (b o vv n : Nat) (l : List Nat) (row : Option Nat) (w : World) (h : WrAt w b o l row) (h1 : 1 ≤ n) (h2 : n ≤ 32) (hv : vv < 18446744073709551616) (hl : l.length < 562949953421312) :
    Calls Tryd.prog 18 #[.pointer (some ⟨b, o, none⟩), .int .u64 vv, .int .i64 n] w fun e w' => e = .returned (.tuple #[]) ∧
      ∃ row', WrAt w' b o (l ++ bitsN n vv) row' ∧ Sep w.heap.size row row' ∧ Touch (fun k => k = b ∨ row = some k) w w' := by
  obtain ⟨xs, p, s, v, hw, rfl, hs, hp, rfl⟩ := h
  have hx : xs.length < 70368744177664 := by rw [List.length_append, bitsL_length] at hl; omega
  refine (write_some b o p s n vv xs v w hp hs h1 h2 hv hx hw).mono ?_
  rintro e w' ⟨he, v', hw', hsep, ht⟩
  exact ⟨he, v'.ownBlock, ⟨_, _, _, v', hw', rfl, Nat.mod_lt _ (by decide), acc_lt s p n vv _ hp rfl, (acc_bits xs s p n vv _ hp rfl).symm⟩, hsep, ht⟩

set_option maxHeartbeats 400000 in
theorem write_none (q : Option Addr) (vv n : Int) (w : World) (h : q = none ∨ n < 1 ∨ 32 < n) :
    Calls Tryd.prog 18 #[.pointer q, .int .u64 vv, .int .i64 n] w fun e w' => e = .returned (.tuple #[]) ∧ w = w' := by
  cases q with
  | none =>
    go_enter Tryd.func18, Tryd.ntmps18
    go_wp2
    ((try simp only [Exit.inBlock, Exit.then]); refine bodyPost_ret (results_none rfl _ _ _) rfl ?_); exact ⟨rfl, rfl⟩
  | some a =>
    have h' : n < 1 ∨ 32 < n := by rcases h with h | h; cases h; exact h
    clear h
    by_cases h1 : n < 1
    · clear h'
      go_enter Tryd.func18, Tryd.ntmps18
      go_wp2
      ((try simp only [Exit.inBlock, Exit.then]); refine bodyPost_ret (results_none rfl _ _ _) rfl ?_); exact ⟨rfl, rfl⟩
    · have h2 : 32 < n := by omega
      clear h'
      go_enter Tryd.func18, Tryd.ntmps18
      go_wp2
      ((try simp only [Exit.inBlock, Exit.then]); refine bodyPost_ret (results_none rfl _ _ _) rfl ?_); exact ⟨rfl, rfl⟩

theorem walign_nil (w : World) : Calls Tryd.prog 19 #[.pointer none] w fun e w' => e = .returned (.tuple #[]) ∧ w = w' := by
  go_enter Tryd.func19, Tryd.ntmps19
  go_wp2
  go_end0
  exact ⟨rfl, rfl⟩

theorem walign_calls (b o : Nat) (l : List Nat) (row : Option Nat) (w : World) (h : WrAt w b o l row) (hl : l.length < 562949953421312) :
    Calls Tryd.prog 19 #[.pointer (some ⟨b, o, none⟩)] w fun e w' => e = .returned (.tuple #[]) ∧
      ∃ row', WrAt w' b o (l ++ List.replicate (padN l.length) 0) row' ∧ Sep w.heap.size row row' ∧ Touch (fun k => k = b ∨ row = some k) w w' := by
  have h0 := h
  obtain ⟨xs, p, s, v, ⟨⟨c0, c1, c2, f0, f1, f2⟩, hrow, hap⟩, rfl, hs, hp, hlist⟩ := h
  have hpad : padN l.length = (8 - s) % 8 := by rw [hlist, List.length_append, bitsL_length, bitsN_length]; unfold padN; omega
  have HL := Lib.hid hlist
  clear hlist
  by_cases hs0 : s = 0
  · have hp0 : padN l.length = 0 := by rw [hpad, hs0]
    rw [hp0]
    clear hpad hp0
    subst hs0
    go_enter Tryd.func19, Tryd.ntmps19
    go_wp2
    go_end0
    exact ⟨rfl, v.ownBlock, by simpa using h0, .inl rfl, Touch.refl _ _⟩
  · have hp0 : padN l.length = 8 - s := by rw [hpad]; omega
    rw [hp0]
    clear hpad hp0
    have hs1 : 0 < s := by omega
    have hz := Lib.hid (bitsN_zero (8 - s))
    have he := Lib.hid (show (8 : Int) - (s : Int) = ((8 - s : Nat) : Int) by omega)
    clear hs0
    go_enter Tryd.func19, Tryd.ntmps19
    go_wp2_with fail
    rw [he.out]
    refine (write_calls b o 0 (8 - s) l v.ownBlock _ h0 (by omega) (by omega) (by decide) hl).mono ?_
    rintro e w' ⟨rfl, row', hq⟩
    rw [hz.out] at hq
    have HQ := Lib.hid hq
    clear hq
    go_wp2
    go_end0
    exact ⟨rfl, row', HQ.out⟩

theorem drain_nil (w : World) : Calls Tryd.prog 21 #[.pointer none] w fun e w' => e = .returned (.string ⟨#[]⟩) ∧ w = w' := by
  go_enter Tryd.func21, Tryd.ntmps21
  go_wp2
  go_ret
  exact ⟨rfl, rfl⟩

theorem drain_calls (b o : Nat) (l : List Nat) (row : Option Nat) (w : World) (h : WrAt w b o l row) :
    Calls Tryd.prog 21 #[.pointer (some ⟨b, o, none⟩)] w fun e w' => e = .returned (.string ⟨(bytesL l).toArray⟩) ∧
      WrAt w' b o (l.drop (l.length / 8 * 8)) none ∧ Touch (fun k => k = b) w w' := by
  obtain ⟨xs, p, s, v, ⟨hC, hrow, hap⟩, rfl, hs, hp, hlist⟩ := h
  have hb1 : bytesL l = xs := by rw [hlist]; exact bytesL_bits xs _ (by rw [bitsN_length]; exact hs)
  have hb2 : l.drop (l.length / 8 * 8) = bitsN s p := by rw [hlist]; exact drop_whole xs _ (by rw [bitsN_length]; exact hs)
  rw [hb1, hb2]
  clear hb1 hb2 hlist
  have hconv := run_bytes_row (P := Tryd.prog) w 39 5 9 Tryd.underlying39 Tryd.underlying5 Tryd.underlying9 hrow
  have hC0 := hC
  obtain ⟨c0, c1, c2, f0, f1, f2⟩ := hC
  go_enter Tryd.func21, Tryd.ntmps21
  go_wp2
  go_ret
  exact ⟨rfl, ⟨[], p, s, .slice none 0 0, ⟨hC0.set0 _, Row.nil _ _, by simp [Value.ownBlock]⟩, rfl, hs, hp, rfl⟩, (Touch.refl (fun k => k = b) _).setCell (Or.inl rfl) _⟩

theorem add_nil (t : ByteArray) (w : World) : Calls Tryd.prog 20 #[.pointer none, .string t] w fun e w' => e = .returned (.tuple #[]) ∧ w = w' := by
  go_enter Tryd.func20, Tryd.ntmps20
  go_wp2
  ((try simp only [Exit.inBlock, Exit.then]); refine bodyPost_ret (results_none rfl _ _ _) rfl ?_); exact ⟨rfl, rfl⟩

set_option maxHeartbeats 400000 in
theorem add_calls (b o : Nat) (t : ByteArray) (l : List Nat) (row : Option Nat) (w : World) (h : WrAt w b o l row) (hl : l.length + 8 * t.size < 562949953421312) :
    Calls Tryd.prog 20 #[.pointer (some ⟨b, o, none⟩), .string t] w fun e w' => e = .returned (.tuple #[]) ∧
      ∃ row', WrAt w' b o (l ++ List.replicate (padN l.length) 0 ++ bitsL t.data.toList) row' ∧ Sep w.heap.size row row' ∧ Touch (fun k => k = b ∨ row = some k) w w' := by
  obtain ⟨i0, hi, hz0, hz1, hz2⟩ := info_parts Tryd.info5
  go_enter Tryd.func20, Tryd.ntmps20
  go_wp2_with fail
  refine (walign_calls b o l row _ h (by omega)).mono ?_
  rintro e w1 ⟨rfl, row1, hw1, hsep1, ht1⟩
  obtain ⟨xs, p, s, v, ⟨hC, hrow, hap⟩, hv, hs, hp, hlist⟩ := hw1
  have hlen : (l ++ List.replicate (padN l.length) 0).length = 8 * xs.length + s := by rw [hlist, List.length_append, bitsL_length, bitsN_length]
  have hs0 : s = 0 := by rw [List.length_append, List.length_replicate] at hlen; unfold padN at hlen; omega
  subst hs0
  have hxl : xs.length + t.size < 70368744177665 := by rw [List.length_append, List.length_replicate] at hlen; unfold padN at hlen; omega
  have HL := Lib.hid hlist
  have HV := Lib.hid hv
  clear hlist hv hlen
  have hC0 := hC
  obtain ⟨c0, c1, c2, f0, f1, f2⟩ := hC
  have hlb := hC0.lt
  go_wp2_with (at_builtin; refine wpList_append_row _ rfl (.tmp 12) (.tmp 13) 39 9 rfl 5 i0 _ 1 Tryd.underlying39 hi hz0 hz1 hz2 rfl v (byteVs xs) rfl hrow (.string t) rfl t.size (byteCells t) (Src.ofString _ Tryd.underlying9 t) (by rw [byteVs_length]; unfold maxLen; omega) (by rw [byteVs_length]; omega) ?_; intro v2 w2 hrow2 hgrow hown2; obtain ⟨a2, cap2, hv2, hc2, hc3⟩ := hrow2.form; subst hv2; have hB : w2.heap[b]? = w1.heap[b]? := hgrow.block b hlb (fun e => hap e.symm); have g0 := (World.cell?_of_block (a := ⟨b, o, none⟩) hB).trans c0; have e0 := (World.frozen?_of_block (a := ⟨b, o, none⟩) hB).trans f0)
  go_end0
  rw [List.length_append] at hrow2 hown2
  have hap2 : (Value.slice a2 ((byteVs xs).length + (byteCells t).length) cap2).ownBlock ≠ some b := by
    intro e; rcases hown2 with h | h
    · exact hap (h.symm.trans e)
    · rw [h] at e; simp at e; omega
  have hsep2 : Sep w1.heap.size row1 (Value.slice a2 ((byteVs xs).length + (byteCells t).length) cap2).ownBlock := by
    rcases hown2 with h | h
    · rw [h, HV.out]; exact .inl rfl
    · rw [h]; exact .inr ⟨_, rfl, Nat.le_refl _⟩
  have hT : Touch (fun k => k = b ∨ row1 = some k) w1 w2 := (Touch.refl _ _).grown hgrow (fun g hg => .inl (.inr (by rw [← HV.out, hg])))
  have hrow3 : Row w2 5 (Value.slice a2 ((byteVs xs).length + (byteCells t).length) cap2) (byteVs (xs ++ t.data.toList)) := by rw [byteVs_append]; exact hrow2
  refine ⟨rfl, _, ⟨xs ++ t.data.toList, p, 0, _, ⟨(hC0.of_block hB).set0 _, hrow3.kept ((Touch.refl (fun k => k = b) _).setCell (Or.inl rfl) _) (fun g hg e => hap2 (by rw [hg, e])), hap2⟩, rfl, hs, hp, ?_⟩, hsep1.trans hsep2 ht1.size, Sep.touch ht1 hsep1 (hT.setCell (Or.inl (Or.inl rfl)) _)⟩
  rw [HL.out, bitsL_append]
  simp [bitsN]
end Go.Proofs.YtleenjeiladjcaaDoor

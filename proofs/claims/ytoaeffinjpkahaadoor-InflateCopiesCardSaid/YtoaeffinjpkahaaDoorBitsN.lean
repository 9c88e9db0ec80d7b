/- Contracts of package bits over the translated program: Writer and Reader by the list of their bits, Put and Get. -/
import Derived.Test.YtoaeffinjpkahaaDoorRows
import Derived.Test.YtoaeffinjpkahaaDoorNum
import Derived.Test.YtoaeffinjpkahaaDoorMem
import Derived.WalkSpells
import Derived.WalkLawsBesides
import Derived.Lib.Hide
import Derived.Laws.BitsAllLaws
import Derived.RegionTactic
import Derived.BigRegion
import Derived.BigQuiet
import Derived.Deep.QuietTactic
import Derived.Deep.RegionHeld3
import Derived.Deep.RegionLaw
namespace Go.Proofs.YtoaeffinjpkahaaDoor
set_option linter.unusedSimpArgs false
set_option linter.unusedVariables false
open Go Go.RowKit
set_option maxRecDepth 100000

/-- A Writer's three cells and its whole bytes. -/
structure WrRaw (w : World) (b o : Nat) (xs : List UInt8) (p s : Nat) (v : Value) : Prop where
  cells : Cell3 w b o v (.int .u64 p) (.int .i64 s)
  row : Row w 5 v (byteVs xs)
  apart : v.ownBlock ≠ some b

/-- A Writer by the list of its bits. -/
def WrAt (w : World) (b o : Nat) (l : List Nat) (row : Option Nat) : Prop :=
  ∃ xs p s v, WrRaw w b o xs p s v ∧ v.ownBlock = row ∧ s < 8 ∧ p < 2 ^ s ∧ l = bitsL xs ++ bitsN s p

theorem Tryd.info5 : (Tryd.prog.info? 5).map (fun i => (i.zero, i.size, i.bytes)) = some (some (.int .u8 0), 1, 1) := by kernel_rfl

theorem wrap_u64_in (x : Nat) (h : x < 18446744073709551616) : IntKind.u64.wrap (x : Int) = (x : Int) := by
  rw [IntKind.wrap_u64]; omega

theorem acc_val (p s n vv : Nat) (hp : p < 2 ^ s) (hs : s < 8) (h2 : n ≤ 32) (hv : vv < 18446744073709551616) :
    bits .or .u64 (p : Int) (IntKind.u64.wrap (bits .and .u64 (vv : Int) (IntKind.u64.wrap (IntKind.u64.wrap (2 ^ n) - 1)) * 2 ^ s)) = ((p + vv % 2 ^ n * 2 ^ s : Nat) : Int) := by
  have hn1 : 2 ^ n ≤ 2 ^ 32 := Nat.pow_le_pow_right (by decide) h2
  have hn0 := Nat.two_pow_pos n
  have hs1 : 2 ^ s ≤ 2 ^ 7 := Nat.pow_le_pow_right (by decide) (by omega)
  have e1 : ((2 : Int) ^ n) = ((2 ^ n : Nat) : Int) := by simp
  have e2 : ((2 : Int) ^ s) = ((2 ^ s : Nat) : Int) := by simp
  rw [e1, e2, wrap_u64_in _ (by omega), show ((2 ^ n : Nat) : Int) - 1 = ((2 ^ n - 1 : Nat) : Int) by omega, wrap_u64_in _ (by omega), u64_and_nat _ _ hv (by omega), Nat.and_two_pow_sub_one_eq_mod]
  have h3 := Nat.mod_lt vv hn0
  have h4 : vv % 2 ^ n * 2 ^ s ≤ (2 ^ 32) * 2 ^ 7 := Nat.mul_le_mul (by omega) hs1
  rw [show ((vv % 2 ^ n : Nat) : Int) * ((2 ^ s : Nat) : Int) = ((vv % 2 ^ n * 2 ^ s : Nat) : Int) by simp, wrap_u64_in _ (by omega), u64_or_nat _ _ (by omega) (by omega), or_join s p _ hp]

theorem u8_wrap (a : Nat) : IntKind.u8.wrap (a : Int) = ((UInt8.ofNat (a % 256)).toNat : Int) := by
  rw [IntKind.wrap_u8']
  simp

theorem acc_le (p s n vv : Nat) (hp : p < 2 ^ s) (hs : s < 8) (h2 : n ≤ 32) : p + vv % 2 ^ n * 2 ^ s < 549755813888 := by
  have hn1 : 2 ^ n ≤ 2 ^ 32 := Nat.pow_le_pow_right (by decide) h2
  have hn0 := Nat.two_pow_pos n
  have hs1 : 2 ^ s ≤ 2 ^ 7 := Nat.pow_le_pow_right (by decide) (by omega)
  have h3 := Nat.mod_lt vv hn0
  have h5 : (vv % 2 ^ n + 1) * 2 ^ s ≤ 2 ^ n * 2 ^ s := Nat.mul_le_mul_right _ h3
  have h4 : 2 ^ n * 2 ^ s ≤ (2 ^ 32) * 2 ^ 7 := Nat.mul_le_mul (by omega) hs1
  rw [Nat.add_mul, Nat.one_mul] at h5
  omega

theorem byteVs_snoc (xs : List UInt8) (k a : Nat) : byteVs (xs ++ leB k a) ++ [Value.int .u8 (IntKind.u8.wrap ((a / 256 ^ k : Nat) : Int))] = byteVs (xs ++ leB (k + 1) a) := by
  rw [leB_snoc, ← List.append_assoc, u8_wrap]
  simp only [byteVs, List.map_append, List.map_cons, List.map_nil]

set_option maxHeartbeats 800000 in
theorem write_some (b o p s n vv : Nat) (xs : List UInt8) (v : Value) (w : World) (hp : p < 2 ^ s) (hs : s < 8) (h1 : 1 ≤ n) (h2 : n ≤ 32) (hv : vv < 18446744073709551616) (hl : xs.length < 70368744177664)
    (h : WrRaw w b o xs p s v) :
    Calls Tryd.prog 31 #[.pointer (some ⟨b, o, none⟩), .int .u64 vv, .int .i64 n] w fun e w' => e = .returned (.tuple #[]) ∧
      ∃ v', WrRaw w' b o (xs ++ leB ((s + n) / 8) (p + vv % 2 ^ n * 2 ^ s)) ((p + vv % 2 ^ n * 2 ^ s) / 256 ^ ((s + n) / 8)) ((s + n) % 8) v' ∧
        (v'.ownBlock = v.ownBlock ∨ ∃ g, v'.ownBlock = some g ∧ w.heap.size ≤ g) ∧ Touch (fun k => k = b ∨ v.ownBlock = some k) w w' := by
  obtain ⟨hcells, hrow, hap⟩ := h
  obtain ⟨c0, c1, c2, f0, f1, f2⟩ := hcells
  have hval := Lib.hid (acc_val p s n vv hp hs h2 hv)
  have hle := acc_le p s n vv hp hs h2
  obtain ⟨i0, hi, hz0, hz1, hz2⟩ := info_parts Tryd.info5
  go_enter Tryd.func31, Tryd.ntmps31
  go_wp2
  go_region
  go_wp2
  rw [hval.out]
  clear hval
  generalize hA : p + vv % 2 ^ n * 2 ^ s = acc at hle ⊢
  have HA := Lib.hid hA
  clear hA
  go_loopw [46] (fun i wr => ∃ k v', k ≤ (s + n) / 8 ∧ i = .int .i64 (k : Nat) ∧ WrRaw wr b o (xs ++ leB k acc) (acc / 256 ^ k) (s + n) v' ∧ (v'.ownBlock = v.ownBlock ∨ ∃ g, v'.ownBlock = some g ∧ w.heap.size ≤ g) ∧ Touch (fun k => k = b ∨ v.ownBlock = some k) w wr) (fun i _ => (s + n) / 8 - (intOf i).toNat)
  case atStart =>
    refine ⟨0, v, Nat.zero_le _, rfl, ⟨?_, ?_, hap⟩, .inl rfl, ?_⟩
    · simpa using (((Cell3.mk c0 c1 c2 f0 f1 f2).set1 (.int .u64 (acc : Int))).set2 (.int .i64 ((s : Int) + n))).drew
    · simp only [leB, List.append_nil]
      exact hrow.kept (((Touch.refl (fun k => k = b) _).setCell (Or.inl rfl) _).setCell (Or.inl rfl) _).drew (fun g hg e => hap (by rw [hg, e]))
    · exact (((Touch.refl _ _).setCell (Or.inl (Or.inl rfl)) _).setCell (Or.inl (Or.inl rfl)) _).drew
  case round =>
    obtain ⟨k, v', hk, rfl, hw, hb, ht⟩ := hrel
    clear c0 c1 c2 f0 f1 f2 hrow hap
    obtain ⟨hcells, hrow, hap⟩ := hw
    have hC := hcells
    obtain ⟨c0, c1, c2, f0, f1, f2⟩ := hcells
    have hlb := World.block_lt_of_cell? wr _ c0
    have ha : acc / 256 ^ k ≤ acc := Nat.div_le_self _ _
    have hln : (xs ++ leB k acc).length = xs.length + k := by rw [List.length_append, leB_length]
    have hsn := Lib.hid (byteVs_snoc xs k acc)
    have hln' := Lib.hid hln
    have hsucc := Lib.hid (show acc / 256 ^ k / 256 = acc / 256 ^ (k + 1) by rw [Nat.div_div_eq_div_mul, Nat.pow_succ])
    clear hln
    by_cases hlt : k < (s + n) / 8
    · go_wp2
      go_region_law
        ((refine step_append_row _ (by rfl) _ _ _ _ (by rfl) 5 i0 _ 1 Tryd.underlying58 hi hz0 hz1 hz2 rfl v' (byteVs (xs ++ leB k acc)) (by rfl) (by exact hrow.kept (S := fun _ => False) (((Touch.refl _ _).alloc _).drew) (fun _ _ => id)) (.slice (some ⟨wr.heap.size, 0, none⟩) 1 1) (by rfl) 1 [.int .u8 (IntKind.u8.wrap ((acc / 256 ^ k : Nat) : Int))] (by exact Src.ofCell Tryd.underlying58 (heap_alloc_new wr _) rfl) (by rw [byteVs_length, hln'.out]; unfold maxLen; omega) (by rw [byteVs_length, hln'.out]; omega) ?_; intro v2 w1 hrow1 hgrow hown1; obtain ⟨a2, cap2, hv2, hc2, hc3⟩ := hrow1.form; subst hv2; have hB : w1.heap[b]? = wr.heap[b]? := (hgrow.block b (by simp; omega) (fun e => hap e.symm)).trans (Below.heap_alloc wr _ _ hlb); have g0 := (World.cell?_of_block (a := ⟨b, o, none⟩) hB).trans c0; have g1 := (World.cell?_of_block (a := ⟨b, o + 1, none⟩) hB).trans c1; have g2 := (World.cell?_of_block (a := ⟨b, o + 2, none⟩) hB).trans c2; have e0 := (World.frozen?_of_block (a := ⟨b, o, none⟩) hB).trans f0; have e1 := (World.frozen?_of_block (a := ⟨b, o + 1, none⟩) hB).trans f1; have e2 := (World.frozen?_of_block (a := ⟨b, o + 2, none⟩) hB).trans f2))
      all_goals
        go_wp2
        go_roundw
        case rel =>
          have hap1 : (Value.slice a2 (byteVs (xs ++ leB k acc) ++ [Value.int .u8 (IntKind.u8.wrap ((acc / 256 ^ k : Nat) : Int))]).length cap2).ownBlock ≠ some b := by
            intro e; rcases hown1 with h | h
            · exact hap (h.symm.trans e)
            · rw [h] at e; simp at e; omega
          have hlen : (byteVs (xs ++ leB k acc) ++ [Value.int .u8 (IntKind.u8.wrap ((acc / 256 ^ k : Nat) : Int))]).length = (byteVs (xs ++ leB k acc)).length + 1 := by simp
          have hC1 := (hC.of_block hB).set0 (.slice a2 ((byteVs (xs ++ leB k acc)).length + 1) cap2)
          have hC2 := hC1.set1 (.int .u64 ((acc / 256 ^ k / 256 : Nat) : Int))
          rw [hlen, hsn.out] at hrow1
          rw [hlen] at hap1 hown1
          have hgt : wr.heap.size ≤ w1.heap.size := by have := hgrow.size; simp at this; omega
          have hT : Touch (fun k => k = b ∨ v.ownBlock = some k) w w1 := (ht.alloc _).drew.grown hgrow (fun g hg => by
            rcases hb with hb | ⟨g', hb, hb'⟩
            · exact .inl (.inr (by rw [← hb, hg]))
            · right; rw [hg] at hb; injection hb with hb; omega)
          refine ⟨k + 1, .slice a2 ((byteVs (xs ++ leB k acc)).length + 1) cap2, by omega, by go_num, ⟨?_, ?_, hap1⟩, ?_, ?_⟩
          · rw [← hsucc.out]; simpa using hC2
          · exact hrow1.kept (((Touch.refl (fun k => k = b) _).setCell (Or.inl rfl) _).setCell (Or.inl rfl) _) (fun g hg e => hap1 (by rw [hg, e]))
          · rcases hown1 with h | h
            · rw [h]; exact hb
            · right; exact ⟨_, h, by have := ht.size; simp; omega⟩
          · exact (hT.setCell (.inl (.inl rfl)) _).setCell (.inl (.inl rfl)) _
        case measure => simp [intOf]; omega
    · obtain rfl : k = (s + n) / 8 := by omega
      go_wp2
      go_end0
      rw [HA.out]
      refine ⟨rfl, v', ⟨?_, ?_, hap⟩, hb, ?_⟩
      · simpa using hC.set2 (.int .i64 (((s + n) % 8 : Nat) : Int))
      · exact hrow.kept ((Touch.refl (fun k => k = b) _).setCell (Or.inl rfl) _) (fun g hg e => hap (by rw [hg, e]))
      · exact ht.setCell (.inl (.inl rfl)) _
end Go.Proofs.YtoaeffinjpkahaaDoor
/- Contracts of package bits' Writer over the translated program, by the list of its bits. -/
namespace Go.Proofs.YtoaeffinjpkahaaDoor
set_option linter.unusedSimpArgs false
set_option linter.unusedVariables false
open Go Go.RowKit
set_option maxRecDepth 100000

/-- Where a row lies now: where it lay, or in a new block. -/
def Sep (n : Nat) (row row' : Option Nat) : Prop := row' = row ∨ ∃ g, row' = some g ∧ n ≤ g

theorem Sep.refl (n : Nat) (a : Option Nat) : Sep n a a := .inl rfl
theorem Sep.trans {n m : Nat} {a b c : Option Nat} (h : Sep n a b) (k : Sep m b c) (hm : n ≤ m) : Sep n a c := by
  rcases k with rfl | ⟨g, rfl, hg⟩
  · exact h
  · exact .inr ⟨g, rfl, by omega⟩
theorem Sep.ne {n h : Nat} {a b : Option Nat} (hs : Sep n a b) (ha : a ≠ some h) (hh : h < n) : b ≠ some h := by
  rcases hs with rfl | ⟨g, rfl, hg⟩
  · exact ha
  · intro e; injection e with e; omega
/-- What wrote in the block and in its row alone. -/
theorem Sep.touch {a b c : World} {k0 : Nat} {row row1 : Option Nat} (ht : Touch (fun k => k = k0 ∨ row = some k) a b) (hs : Sep a.heap.size row row1) (ht' : Touch (fun k => k = k0 ∨ row1 = some k) b c) : Touch (fun k => k = k0 ∨ row = some k) a c :=
  ht.trans' ht' (fun i hi => by
    rcases hi with rfl | hi
    · exact .inl (.inl rfl)
    · rcases hs with rfl | ⟨g, rfl, hg⟩
      · exact .inl (.inr hi)
      · injection hi with hi; right; omega)

theorem write_calls (b o vv n : Nat) (l : List Nat) (row : Option Nat) (w : World) (h : WrAt w b o l row) (h1 : 1 ≤ n) (h2 : n ≤ 32) (hv : vv < 18446744073709551616) (hl : l.length < 562949953421312) :
    Calls Tryd.prog 31 #[.pointer (some ⟨b, o, none⟩), .int .u64 vv, .int .i64 n] w fun e w' => e = .returned (.tuple #[]) ∧
      ∃ row', WrAt w' b o (l ++ bitsN n vv) row' ∧ Sep w.heap.size row row' ∧ Touch (fun k => k = b ∨ row = some k) w w' := by
  obtain ⟨xs, p, s, v, hw, rfl, hs, hp, rfl⟩ := h
  have hx : xs.length < 70368744177664 := by rw [List.length_append, bitsL_length] at hl; omega
  refine (write_some b o p s n vv xs v w hp hs h1 h2 hv hx hw).mono ?_
  rintro e w' ⟨he, v', hw', hsep, ht⟩
  exact ⟨he, v'.ownBlock, ⟨_, _, _, v', hw', rfl, Nat.mod_lt _ (by decide), acc_lt s p n vv _ hp rfl, (acc_bits xs s p n vv _ hp rfl).symm⟩, hsep, ht⟩

set_option maxHeartbeats 400000 in
theorem write_none (q : Option Addr) (vv n : Int) (w : World) (h : q = none ∨ n < 1 ∨ 32 < n) :
    Calls Tryd.prog 31 #[.pointer q, .int .u64 vv, .int .i64 n] w fun e w' => e = .returned (.tuple #[]) ∧ w = w' := by
  cases q with
  | none =>
    go_enter Tryd.func31, Tryd.ntmps31
    go_wp2
    ((try simp only [Exit.inBlock, Exit.then]); refine bodyPost_ret (results_none rfl _ _ _) rfl ?_); exact ⟨rfl, rfl⟩
  | some a =>
    have h' : n < 1 ∨ 32 < n := by rcases h with h | h; cases h; exact h
    clear h
    by_cases h1 : n < 1
    · clear h'
      go_enter Tryd.func31, Tryd.ntmps31
      go_wp2
      ((try simp only [Exit.inBlock, Exit.then]); refine bodyPost_ret (results_none rfl _ _ _) rfl ?_); exact ⟨rfl, rfl⟩
    · have h2 : 32 < n := by omega
      clear h'
      go_enter Tryd.func31, Tryd.ntmps31
      go_wp2
      ((try simp only [Exit.inBlock, Exit.then]); refine bodyPost_ret (results_none rfl _ _ _) rfl ?_); exact ⟨rfl, rfl⟩

theorem walign_nil (w : World) : Calls Tryd.prog 32 #[.pointer none] w fun e w' => e = .returned (.tuple #[]) ∧ w = w' := by
  go_enter Tryd.func32, Tryd.ntmps32
  go_wp2
  go_end0
  exact ⟨rfl, rfl⟩

theorem walign_calls (b o : Nat) (l : List Nat) (row : Option Nat) (w : World) (h : WrAt w b o l row) (hl : l.length < 562949953421312) :
    Calls Tryd.prog 32 #[.pointer (some ⟨b, o, none⟩)] w fun e w' => e = .returned (.tuple #[]) ∧
      ∃ row', WrAt w' b o (l ++ List.replicate (padN l.length) 0) row' ∧ Sep w.heap.size row row' ∧ Touch (fun k => k = b ∨ row = some k) w w' := by
  have h0 := h
  obtain ⟨xs, p, s, v, ⟨⟨c0, c1, c2, f0, f1, f2⟩, hrow, hap⟩, rfl, hs, hp, hlist⟩ := h
  have hpad : padN l.length = (8 - s) % 8 := by rw [hlist, List.length_append, bitsL_length, bitsN_length]; unfold padN; omega
  have HL := Lib.hid hlist
  clear hlist
  by_cases hs0 : s = 0
  · have hp0 : padN l.length = 0 := by rw [hpad, hs0]
    rw [hp0]
    clear hpad hp0
    subst hs0
    go_enter Tryd.func32, Tryd.ntmps32
    go_wp2
    go_end0
    exact ⟨rfl, v.ownBlock, by simpa using h0, .inl rfl, Touch.refl _ _⟩
  · have hp0 : padN l.length = 8 - s := by rw [hpad]; omega
    rw [hp0]
    clear hpad hp0
    have hs1 : 0 < s := by omega
    have hz := Lib.hid (bitsN_zero (8 - s))
    have he := Lib.hid (show (8 : Int) - (s : Int) = ((8 - s : Nat) : Int) by omega)
    clear hs0
    go_enter Tryd.func32, Tryd.ntmps32
    go_wp2_with fail
    rw [he.out]
    refine (write_calls b o 0 (8 - s) l v.ownBlock _ h0 (by omega) (by omega) (by decide) hl).mono ?_
    rintro e w' ⟨rfl, row', hq⟩
    rw [hz.out] at hq
    have HQ := Lib.hid hq
    clear hq
    go_wp2
    go_end0
    exact ⟨rfl, row', HQ.out⟩

theorem drain_nil (w : World) : Calls Tryd.prog 34 #[.pointer none] w fun e w' => e = .returned (.string ⟨#[]⟩) ∧ w = w' := by
  go_enter Tryd.func34, Tryd.ntmps34
  go_wp2
  go_ret
  exact ⟨rfl, rfl⟩

theorem drain_calls (b o : Nat) (l : List Nat) (row : Option Nat) (w : World) (h : WrAt w b o l row) :
    Calls Tryd.prog 34 #[.pointer (some ⟨b, o, none⟩)] w fun e w' => e = .returned (.string ⟨(bytesL l).toArray⟩) ∧
      WrAt w' b o (l.drop (l.length / 8 * 8)) none ∧ Touch (fun k => k = b) w w' := by
  obtain ⟨xs, p, s, v, ⟨hC, hrow, hap⟩, rfl, hs, hp, hlist⟩ := h
  have hb1 : bytesL l = xs := by rw [hlist]; exact bytesL_bits xs _ (by rw [bitsN_length]; exact hs)
  have hb2 : l.drop (l.length / 8 * 8) = bitsN s p := by rw [hlist]; exact drop_whole xs _ (by rw [bitsN_length]; exact hs)
  rw [hb1, hb2]
  clear hb1 hb2 hlist
  have hconv := run_bytes_row (P := Tryd.prog) w 58 5 9 Tryd.underlying58 Tryd.underlying5 Tryd.underlying9 hrow
  have hC0 := hC
  obtain ⟨c0, c1, c2, f0, f1, f2⟩ := hC
  go_enter Tryd.func34, Tryd.ntmps34
  go_wp2
  go_ret
  exact ⟨rfl, ⟨[], p, s, .slice none 0 0, ⟨hC0.set0 _, Row.nil _ _, by simp [Value.ownBlock]⟩, rfl, hs, hp, rfl⟩, (Touch.refl (fun k => k = b) _).setCell (Or.inl rfl) _⟩

theorem add_nil (t : ByteArray) (w : World) : Calls Tryd.prog 33 #[.pointer none, .string t] w fun e w' => e = .returned (.tuple #[]) ∧ w = w' := by
  go_enter Tryd.func33, Tryd.ntmps33
  go_wp2
  ((try simp only [Exit.inBlock, Exit.then]); refine bodyPost_ret (results_none rfl _ _ _) rfl ?_); exact ⟨rfl, rfl⟩

set_option maxHeartbeats 400000 in
theorem add_calls (b o : Nat) (t : ByteArray) (l : List Nat) (row : Option Nat) (w : World) (h : WrAt w b o l row) (hl : l.length + 8 * t.size < 562949953421312) :
    Calls Tryd.prog 33 #[.pointer (some ⟨b, o, none⟩), .string t] w fun e w' => e = .returned (.tuple #[]) ∧
      ∃ row', WrAt w' b o (l ++ List.replicate (padN l.length) 0 ++ bitsL t.data.toList) row' ∧ Sep w.heap.size row row' ∧ Touch (fun k => k = b ∨ row = some k) w w' := by
  obtain ⟨i0, hi, hz0, hz1, hz2⟩ := info_parts Tryd.info5
  go_enter Tryd.func33, Tryd.ntmps33
  go_wp2_with fail
  refine (walign_calls b o l row _ h (by omega)).mono ?_
  rintro e w1 ⟨rfl, row1, hw1, hsep1, ht1⟩
  obtain ⟨xs, p, s, v, ⟨hC, hrow, hap⟩, hv, hs, hp, hlist⟩ := hw1
  have hlen : (l ++ List.replicate (padN l.length) 0).length = 8 * xs.length + s := by rw [hlist, List.length_append, bitsL_length, bitsN_length]
  have hs0 : s = 0 := by rw [List.length_append, List.length_replicate] at hlen; unfold padN at hlen; omega
  subst hs0
  have hxl : xs.length + t.size < 70368744177665 := by rw [List.length_append, List.length_replicate] at hlen; unfold padN at hlen; omega
  have HL := Lib.hid hlist
  have HV := Lib.hid hv
  clear hlist hv hlen
  have hC0 := hC
  obtain ⟨c0, c1, c2, f0, f1, f2⟩ := hC
  have hlb := hC0.lt
  go_wp2_with (at_builtin; refine wpList_append_row _ rfl (.tmp 12) (.tmp 13) 58 9 rfl 5 i0 _ 1 Tryd.underlying58 hi hz0 hz1 hz2 rfl v (byteVs xs) rfl hrow (.string t) rfl t.size (byteCells t) (Src.ofString _ Tryd.underlying9 t) (by rw [byteVs_length]; unfold maxLen; omega) (by rw [byteVs_length]; omega) ?_; intro v2 w2 hrow2 hgrow hown2; obtain ⟨a2, cap2, hv2, hc2, hc3⟩ := hrow2.form; subst hv2; have hB : w2.heap[b]? = w1.heap[b]? := hgrow.block b hlb (fun e => hap e.symm); have g0 := (World.cell?_of_block (a := ⟨b, o, none⟩) hB).trans c0; have e0 := (World.frozen?_of_block (a := ⟨b, o, none⟩) hB).trans f0)
  go_end0
  rw [List.length_append] at hrow2 hown2
  have hap2 : (Value.slice a2 ((byteVs xs).length + (byteCells t).length) cap2).ownBlock ≠ some b := by
    intro e; rcases hown2 with h | h
    · exact hap (h.symm.trans e)
    · rw [h] at e; simp at e; omega
  have hsep2 : Sep w1.heap.size row1 (Value.slice a2 ((byteVs xs).length + (byteCells t).length) cap2).ownBlock := by
    rcases hown2 with h | h
    · rw [h, HV.out]; exact .inl rfl
    · rw [h]; exact .inr ⟨_, rfl, Nat.le_refl _⟩
  have hT : Touch (fun k => k = b ∨ row1 = some k) w1 w2 := (Touch.refl _ _).grown hgrow (fun g hg => .inl (.inr (by rw [← HV.out, hg])))
  have hrow3 : Row w2 5 (Value.slice a2 ((byteVs xs).length + (byteCells t).length) cap2) (byteVs (xs ++ t.data.toList)) := by rw [byteVs_append]; exact hrow2
  refine ⟨rfl, _, ⟨xs ++ t.data.toList, p, 0, _, ⟨(hC0.of_block hB).set0 _, hrow3.kept ((Touch.refl (fun k => k = b) _).setCell (Or.inl rfl) _) (fun g hg e => hap2 (by rw [hg, e])), hap2⟩, rfl, hs, hp, ?_⟩, hsep1.trans hsep2 ht1.size, Sep.touch ht1 hsep1 (hT.setCell (Or.inl (Or.inl rfl)) _)⟩
  rw [HL.out, bitsL_append]
  simp [bitsN]
end Go.Proofs.YtoaeffinjpkahaaDoor
/- Contracts of package bits' Reader over the translated program, by the list of its bits. -/
namespace Go.Proofs.YtoaeffinjpkahaaDoor
set_option linter.unusedSimpArgs false
set_option linter.unusedVariables false
open Go Go.RowKit
set_option maxRecDepth 100000
variable {φ : TypeId × (Nat → Option Value)}

/-- A Reader by the list of its bits. -/
def RdAt (φ : TypeId × (Nat → Option Value)) (w : World) (b o : Nat) (l : List Nat) (row : Option Nat) : Prop :=
  ∃ (ys : List UInt8) (g : Nat) (v : Value), Cell2 φ w b o v (.int .i64 g) ∧ Row w 5 v (byteVs ys) ∧ v.ownBlock ≠ some b ∧ v.ownBlock = row ∧ g < 8 ∧ g ≤ 8 * ys.length ∧ l = (bitsL ys).drop g

theorem rd_length {ys : List UInt8} {g : Nat} : ((bitsL ys).drop g).length = 8 * ys.length - g := by rw [List.length_drop, bitsL_length]

theorem feed_nil (t : ByteArray) (w : World) : Calls Tryd.prog 35 #[.pointer none, .string t] w fun e w' => e = .returned (.tuple #[]) ∧ w = w' := by
  go_enter Tryd.func35, Tryd.ntmps35
  go_wp2
  go_end0
  exact ⟨rfl, rfl⟩

set_option maxHeartbeats 400000 in
theorem feed_calls (b o : Nat) (t : ByteArray) (l : List Nat) (row : Option Nat) (w : World) (h : RdAt φ w b o l row) (hl : l.length + 8 * t.size < 562949953421312) :
    Calls Tryd.prog 35 #[.pointer (some ⟨b, o, none⟩), .string t] w fun e w' => e = .returned (.tuple #[]) ∧
      ∃ row', RdAt φ w' b o (l ++ bitsL t.data.toList) row' ∧ Sep w.heap.size row row' ∧ Touch (fun k => k = b ∨ row = some k) w w' := by
  obtain ⟨ys, g, v, hC, hrow, hap, hv, hg, hgy, hlist⟩ := h
  have hlen : l.length = 8 * ys.length - g := by rw [hlist, rd_length]
  obtain ⟨i0, hi, hz0, hz1, hz2⟩ := info_parts Tryd.info5
  have hyl : ys.length + t.size < 70368744177665 := by omega
  have HL := Lib.hid hlist
  have HV := Lib.hid hv
  clear hlist hv hlen
  have hC0 := hC
  obtain ⟨c0, c1, f0, f1⟩ := hC
  have hlb := hC0.lt
  go_enter Tryd.func35, Tryd.ntmps35
  go_wp2_with (at_builtin; refine wpList_append_row _ rfl (.tmp 10) (.tmp 11) 58 9 rfl 5 i0 _ 1 Tryd.underlying58 hi hz0 hz1 hz2 rfl v (byteVs ys) rfl hrow (.string t) rfl t.size (byteCells t) (Src.ofString _ Tryd.underlying9 t) (by rw [byteVs_length]; unfold maxLen; omega) (by rw [byteVs_length]; omega) ?_; intro v2 w2 hrow2 hgrow hown2; obtain ⟨a2, cap2, hv2, hc2, hc3⟩ := hrow2.form; subst hv2; have hB : w2.heap[b]? = w.heap[b]? := hgrow.block b hlb (fun e => hap e.symm); have g0 := (World.cell?_of_block (a := ⟨b, o, none⟩) hB).trans c0; have e0 := (World.frozen?_of_block (a := ⟨b, o, none⟩) hB).trans f0)
  go_end0
  rw [List.length_append] at hrow2 hown2
  have hap2 : (Value.slice a2 ((byteVs ys).length + (byteCells t).length) cap2).ownBlock ≠ some b := by
    intro e; rcases hown2 with h | h
    · exact hap (h.symm.trans e)
    · rw [h] at e; simp at e; omega
  have hsep2 : Sep w.heap.size row (Value.slice a2 ((byteVs ys).length + (byteCells t).length) cap2).ownBlock := by
    rcases hown2 with h | h
    · rw [h, HV.out]; exact .inl rfl
    · rw [h]; exact .inr ⟨_, rfl, Nat.le_refl _⟩
  have hT : Touch (fun k => k = b ∨ row = some k) w w2 := (Touch.refl _ _).grown hgrow (fun g hg => .inl (.inr (by rw [← HV.out, hg])))
  have hrow3 : Row w2 5 (Value.slice a2 ((byteVs ys).length + (byteCells t).length) cap2) (byteVs (ys ++ t.data.toList)) := by rw [byteVs_append]; exact hrow2
  refine ⟨rfl, _, ⟨ys ++ t.data.toList, g, _, (hC0.of_block hB).set0 _, hrow3.kept ((Touch.refl (fun k => k = b) _).setCell (Or.inl rfl) _) (fun g hg e => hap2 (by rw [hg, e])), hap2, rfl, hg, ?_, ?_⟩, hsep2, hT.setCell (Or.inl (Or.inl rfl)) _⟩
  · rw [List.length_append]; omega
  · rw [HL.out, bitsL_append, List.drop_append_of_le_length (by rw [bitsL_length]; exact hgy)]

theorem left_nil (w : World) : Calls Tryd.prog 65 #[.pointer none] w fun e w' => e = .returned (.int .i64 0) ∧ w = w' := by
  go_enter Tryd.func65, Tryd.ntmps65
  go_wp2
  go_ret
  exact ⟨rfl, rfl⟩

theorem left_calls (b o : Nat) (l : List Nat) (row : Option Nat) (w : World) (h : RdAt φ w b o l row) (hl : l.length < 562949953421312) :
    Calls Tryd.prog 65 #[.pointer (some ⟨b, o, none⟩)] w fun e w' => e = .returned (.int .i64 l.length) ∧ w' = w.drew := by
  obtain ⟨ys, g, v, hC, hrow, hap, hv, hg, hgy, hlist⟩ := h
  have hlen : l.length = 8 * ys.length - g := by rw [hlist, rd_length]
  obtain ⟨a, cap, hv', hc1, hc2⟩ := hrow.form
  rw [byteVs_length] at hv'
  subst hv'
  rw [hlen] at hl ⊢
  clear hlist hlen hv
  obtain ⟨c0, c1, f0, f1⟩ := hC
  have he := Lib.hid (show ((8 * ys.length - g : Nat) : Int) = 8 * (ys.length : Int) - (g : Int) by omega)
  go_enter Tryd.func65, Tryd.ntmps65
  go_wp2
  go_region
  go_wp2
  go_ret
  exact ⟨by rw [he.out]; simp, rfl⟩

theorem drop_calls (b o n : Nat) (l : List Nat) (row : Option Nat) (w : World) (h : RdAt φ w b o l row) (hl : l.length < 562949953421312) (hn : n ≤ l.length) :
    Calls Tryd.prog 101 #[.pointer (some ⟨b, o, none⟩), .int .i64 n] w fun e w' => e = .returned (.tuple #[]) ∧
      RdAt φ w' b o (l.drop n) row ∧ Touch (fun k => k = b) w w' := by
  obtain ⟨ys, g, v, hC, hrow, hap, hv, hg, hgy, hlist⟩ := h
  have hlen : l.length = 8 * ys.length - g := by rw [hlist, rd_length]
  have HL := Lib.hid hlist
  have HV := Lib.hid hv
  have hC0 := hC
  obtain ⟨c0, c1, f0, f1⟩ := hC
  obtain ⟨a, cap, hv', hc1, hc2⟩ := hrow.form
  rw [byteVs_length] at hv' hc1
  subst hv'
  have hq : (g + n) / 8 ≤ ys.length := by omega
  unfold maxLen at hc2
  clear hlist hv
  rw [hlen] at hl hn
  clear hlen
  go_enter Tryd.func101, Tryd.ntmps101
  go_wp2
  go_region
  all_goals go_wp2
  all_goals go_end0
  all_goals
    have hfin : ∀ (v2 : Value) (w2 : World), Cell2 φ w2 b o v2 (.int .i64 (((g + n) % 8 : Nat) : Int)) → Row w2 5 v2 (byteVs (ys.drop ((g + n) / 8))) → v2.ownBlock = (Value.slice a ys.length cap).ownBlock → RdAt φ w2 b o (l.drop n) row := by
      intro v2 w2 k1 k2 k3
      refine ⟨ys.drop ((g + n) / 8), (g + n) % 8, v2, k1, k2, by rw [k3]; exact hap, by rw [k3]; exact HV.out, Nat.mod_lt _ (by decide), by rw [List.length_drop]; omega, ?_⟩
      rw [HL.out, List.drop_drop, ← bitsL_drop, List.drop_drop]
      congr 1; omega
  · subst h
    obtain ⟨k2, k3⟩ := hrow.from_end hq
    rw [byteVs_drop] at k2
    refine ⟨rfl, hfin _ _ ?_ (k2.kept ((((Touch.refl (fun k => k = b) _).setCell (Or.inl rfl) _).setCell (Or.inl rfl) _).setCell (Or.inl rfl) _).drew (fun g hg e => hap (by rw [← k3, hg, e]))) k3, ((((Touch.refl (fun k => k = b) _).setCell (Or.inl rfl) _).setCell (Or.inl rfl) _).setCell (Or.inl rfl) _).drew⟩
    simpa using (((hC0.set1 (.int .i64 ((g : Int) + n))).set0 (.slice a (ys.length - (g + n) / 8) 0)).set1 (.int .i64 (((g + n) % 8 : Nat) : Int))).drew
  · obtain ⟨k2, k3⟩ := hrow.from hq h
    rw [byteVs_drop] at k2
    refine ⟨rfl, hfin _ _ ?_ (k2.kept ((((Touch.refl (fun k => k = b) _).setCell (Or.inl rfl) _).setCell (Or.inl rfl) _).setCell (Or.inl rfl) _).drew (fun g hg e => hap (by rw [← k3, hg, e]))) k3, ((((Touch.refl (fun k => k = b) _).setCell (Or.inl rfl) _).setCell (Or.inl rfl) _).setCell (Or.inl rfl) _).drew⟩
    simpa using (((hC0.set1 (.int .i64 ((g : Int) + n))).set0 (.slice (Option.map (fun x => x.add ((g + n) / 8)) a) (ys.length - (g + n) / 8) (cap - (g + n) / 8))).set1 (.int .i64 (((g + n) % 8 : Nat) : Int))).drew

theorem WrAt.kept {S : Nat → Prop} {w w' : World} {b o : Nat} {l : List Nat} {row : Option Nat} (h : WrAt w b o l row) (ht : Touch S w w') (hb : ¬ S b) (hr : ∀ g, row = some g → ¬ S g) : WrAt w' b o l row := by
  obtain ⟨xs, p, s, v, ⟨hC, hrow, hap⟩, hv, r⟩ := h
  exact ⟨xs, p, s, v, ⟨hC.kept ht hb, hrow.kept ht (fun g hg => hr g (by rw [← hv, hg])), hap⟩, hv, r⟩
theorem RdAt.kept {S : Nat → Prop} {w w' : World} {b o : Nat} {l : List Nat} {row : Option Nat} (h : RdAt φ w b o l row) (ht : Touch S w w') (hb : ¬ S b) (hr : ∀ g, row = some g → ¬ S g) : RdAt φ w' b o l row := by
  obtain ⟨ys, g, v, hC, hrow, hap, hv, r⟩ := h
  exact ⟨ys, g, v, hC.kept ht hb, hrow.kept ht (fun g hg => hr g (by rw [← hv, hg])), hap, hv, r⟩

theorem ralign_nil (w : World) : Calls Tryd.prog 100 #[.pointer none] w fun e w' => e = .returned (.tuple #[]) ∧ w = w' := by
  go_enter Tryd.func100, Tryd.ntmps100
  go_wp2
  go_end0
  exact ⟨rfl, rfl⟩

theorem ralign_calls (b o : Nat) (l : List Nat) (row : Option Nat) (w : World) (h : RdAt φ w b o l row) (hl : l.length < 562949953421312) :
    Calls Tryd.prog 100 #[.pointer (some ⟨b, o, none⟩)] w fun e w' => e = .returned (.tuple #[]) ∧
      RdAt φ w' b o (l.drop (l.length % 8)) row ∧ Touch (fun k => k = b) w w' := by
  have h0 := h
  obtain ⟨ys, g, v, ⟨c0, c1, f0, f1⟩, hrow, hap, hv, hg, hgy, hlist⟩ := h
  have hlen : l.length = 8 * ys.length - g := by rw [hlist, rd_length]
  have hpad : l.length % 8 = (8 - g) % 8 := by omega
  clear hlist hv
  by_cases hs0 : g = 0
  · have hp0 : l.length % 8 = 0 := by omega
    rw [hp0]
    clear hpad hp0 hlen
    subst hs0
    go_enter Tryd.func100, Tryd.ntmps100
    go_wp2
    go_end0
    exact ⟨rfl, by simpa using h0, Touch.refl _ _⟩
  · have hp0 : l.length % 8 = 8 - g := by omega
    rw [hp0]
    have hle : 8 - g ≤ l.length := by omega
    clear hpad hp0 hlen
    have hs1 : 0 < g := by omega
    have he := Lib.hid (show (8 : Int) - (g : Int) = ((8 - g : Nat) : Int) by omega)
    clear hs0
    go_enter Tryd.func100, Tryd.ntmps100
    go_wp2_with fail
    rw [he.out]
    refine (drop_calls b o (8 - g) l row _ h0 hl hle).mono ?_
    rintro e w' ⟨rfl, hq⟩
    have HQ := Lib.hid hq
    clear hq
    go_wp2
    go_end0
    exact ⟨rfl, HQ.out⟩

set_option maxHeartbeats 400000 in
theorem peek_out (q : Option Addr) (n : Int) (w : World) (h : q = none ∨ n < 0 ∨ 32 < n) :
    Calls Tryd.prog 66 #[.pointer q, .int .i64 n] w fun e w' => e = .returned (.tuple #[.int .u64 0, .bool false]) ∧ w = w' := by
  cases q with
  | none =>
    go_enter Tryd.func66, Tryd.ntmps66
    go_wp2_with fail
    go_ret2
    exact ⟨rfl, rfl⟩
  | some a =>
    have h' : n < 0 ∨ 32 < n := by rcases h with h | h; cases h; exact h
    clear h
    by_cases h1 : n < 0
    · clear h'
      go_enter Tryd.func66, Tryd.ntmps66
      go_wp2_with fail
      go_ret2
      exact ⟨rfl, rfl⟩
    · have h2 : 32 < n := by omega
      clear h'
      go_enter Tryd.func66, Tryd.ntmps66
      go_wp2_with fail
      go_ret2
      exact ⟨rfl, rfl⟩

set_option maxHeartbeats 400000 in
theorem peek_less (b o n : Nat) (l : List Nat) (row : Option Nat) (w : World) (h : RdAt φ w b o l row) (hl : l.length < 562949953421312) (hn : n ≤ 32) (hlt : l.length < n) :
    Calls Tryd.prog 66 #[.pointer (some ⟨b, o, none⟩), .int .i64 n] w fun e w' => e = .returned (.tuple #[.int .u64 0, .bool false]) ∧ w' = w.drew := by
  go_enter Tryd.func66, Tryd.ntmps66
  go_wp2_with fail
  refine (left_calls b o l row _ h hl).mono ?_
  rintro e w' ⟨rfl, rfl⟩
  go_wp2_with fail
  go_ret2
  exact ⟨rfl, rfl⟩

end Go.Proofs.YtoaeffinjpkahaaDoor
/- Contracts of package bits' Reader over the translated program: Peek, Read, Take. -/
namespace Go.Proofs.YtoaeffinjpkahaaDoor
set_option linter.unusedSimpArgs false
set_option linter.unusedVariables false
open Go Go.RowKit
set_option maxRecDepth 100000
variable {φ : TypeId × (Nat → Option Value)}

theorem peek_or (x : Nat) (c k : Nat) (hx : x < 2 ^ (8 * k)) (hc : c < 256) (hk : k ≤ 4) :
    bits .or .u64 (x : Int) (IntKind.u64.wrap ((c : Int) * 2 ^ (8 * k))) = ((x ||| c * 2 ^ (8 * k) : Nat) : Int) := by
  have h1 : 2 ^ (8 * k) ≤ 2 ^ 32 := Nat.pow_le_pow_right (by decide) (by omega)
  have h2 : c * 2 ^ (8 * k) ≤ 255 * 2 ^ 32 := Nat.mul_le_mul (by omega) h1
  have e2 : ((2 : Int) ^ (8 * k)) = ((2 ^ (8 * k) : Nat) : Int) := by simp
  rw [e2, show (c : Int) * ((2 ^ (8 * k) : Nat) : Int) = ((c * 2 ^ (8 * k) : Nat) : Int) by simp, wrap_u64_in _ (by omega), u64_or_nat _ _ (by omega) (by omega)]

theorem peek_and (x n : Nat) (hx : x < 18446744073709551616) (hn : n ≤ 32) :
    bits .and .u64 (x : Int) (IntKind.u64.wrap (IntKind.u64.wrap (2 ^ n) - 1)) = ((x % 2 ^ n : Nat) : Int) := by
  have hn1 : 2 ^ n ≤ 2 ^ 32 := Nat.pow_le_pow_right (by decide) hn
  have hn0 := Nat.two_pow_pos n
  have e1 : ((2 : Int) ^ n) = ((2 ^ n : Nat) : Int) := by simp
  rw [e1, wrap_u64_in _ (by omega), show ((2 ^ n : Nat) : Int) - 1 = ((2 ^ n - 1 : Nat) : Int) by omega, wrap_u64_in _ (by omega), u64_and_nat _ _ hx (by omega), Nat.and_two_pow_sub_one_eq_mod]

theorem peek_last (x g n : Nat) (hx : x < 18446744073709551616) (hn : n ≤ 32) :
    bits .and .u64 ((x : Int) / 2 ^ g) (IntKind.u64.wrap (IntKind.u64.wrap (2 ^ n) - 1)) = ((x / 2 ^ g % 2 ^ n : Nat) : Int) := by
  have e : (x : Int) / 2 ^ g = ((x / 2 ^ g : Nat) : Int) := by simp
  rw [e]
  exact peek_and _ n (Nat.lt_of_le_of_lt (Nat.div_le_self _ _) hx) hn

theorem ret2 {a b c d : Value} (h : a = c) (k : b = d) : Ending.returned (.tuple #[a, b]) = .returned (.tuple #[c, d]) := by rw [h, k]
theorem val_u64 {a b : Int} (h : a = b) : Value.int .u64 a = .int .u64 b := by rw [h]

set_option maxHeartbeats 800000 in
theorem peek_some (b o n : Nat) (l : List Nat) (row : Option Nat) (w : World) (h : RdAt φ w b o l row) (hl : l.length < 562949953421312) (hn : n ≤ 32) (hle : n ≤ l.length) :
    Calls Tryd.prog 66 #[.pointer (some ⟨b, o, none⟩), .int .i64 n] w fun e w' => e = .returned (.tuple #[.int .u64 (numN (l.take n)), .bool true]) ∧ Touch (fun _ => False) w w' := by
  have h0 := h
  obtain ⟨ys, g, v, ⟨c0, c1, f0, f1⟩, hrow, hap, hv, hg, hgy, hlist⟩ := h
  have hlen : l.length = 8 * ys.length - g := by rw [hlist, rd_length]
  have hval := Lib.hid (show numN (l.take n) = getN (ys.take ((g + n + 7) / 8)) / 2 ^ g % 2 ^ n by rw [hlist]; exact peek_val ys g n _ (by omega))
  have hyl : ys.length < 70368744177665 := by omega
  have hcy : (g + n + 7) / 8 ≤ ys.length := by omega
  clear hlist hv
  by_cases hc : 0 < (g + n + 7) / 8
  · obtain ⟨gb, off, cap, hv', hcap, hgb, hcells⟩ := hrow.addr (by rw [byteVs_length]; omega)
    rw [byteVs_length] at hv' hcap
    subst hv'
    go_enter Tryd.func66, Tryd.ntmps66
    go_wp2_with fail
    refine (left_calls b o l row _ h0 hl).mono ?_
    rintro e w' ⟨rfl, rfl⟩
    go_wp2_with fail
    go_loop [6, 32] (fun t i => ∃ k : Nat, k ≤ (g + n + 7) / 8 ∧ i = .int .i64 k ∧ t = .int .u64 (getN (ys.take k))) (fun _ i => (g + n + 7) / 8 - (intOf i).toNat)
    case atStart => exact ⟨0, Nat.zero_le _, rfl, rfl⟩
    case round =>
      obtain ⟨k, hk, rfl, rfl⟩ := hrel
      by_cases hlt : k < (g + n + 7) / 8
      · have hky : k < ys.length := by omega
        have hcell := hcells k (.int .u8 (ys[k].toNat)) (by simp [byteVs, hky])
        have hx := Lib.hid (peek_or (getN (ys.take k)) ys[k].toNat k (getN_take_lt ys k k (Nat.le_refl _)) ys[k].toNat_lt (by omega))
        have hs := Lib.hid (getN_take_succ ys k hky)
        have hb1 := ys[k].toNat_lt
        clear hcells
        go_wp2_with fail
        go_round
        case rel => exact ⟨k + 1, by omega, by go_num, by rw [hx.out, hs.out]⟩
        case measure => simp [intOf]; omega
      · obtain rfl : k = (g + n + 7) / 8 := by omega
        have hx := getN_take_lt ys ((g + n + 7) / 8) 5 (by omega)
        have hand := Lib.hid (peek_last (getN (ys.take ((g + n + 7) / 8))) g n (by omega) hn)
        clear hx
        clear hcells
        go_wp2_with fail
        go_region
        go_wp2_with fail
        go_ret2
        exact ⟨ret2 (val_u64 (hand.out.trans (by rw [hval.out]))) rfl, ((Touch.refl _ _).drew).drew⟩
  · obtain rfl : n = 0 := by omega
    obtain rfl : g = 0 := by omega
    go_enter Tryd.func66, Tryd.ntmps66
    go_wp2_with fail
    refine (left_calls b o l row _ h0 hl).mono ?_
    rintro e w' ⟨rfl, rfl⟩
    go_wp2_with fail
    go_loop [6, 32] (fun t i => i = .int .i64 0 ∧ t = .int .u64 0) (fun _ i => 0)
    case atStart => exact ⟨rfl, rfl⟩
    case round =>
      obtain ⟨rfl, rfl⟩ := hrel
      go_wp2_with fail
      go_region
      go_wp2_with fail
      go_ret2
      exact ⟨ret2 (val_u64 (by simp [numN]; decide)) rfl, ((Touch.refl _ _).drew).drew⟩

theorem peek_calls (b o n : Nat) (l : List Nat) (row : Option Nat) (w : World) (h : RdAt φ w b o l row) (hl : l.length < 562949953421312) (hn : n ≤ 32) :
    Calls Tryd.prog 66 #[.pointer (some ⟨b, o, none⟩), .int .i64 n] w fun e w' => e = .returned (.tuple #[.int .u64 (if n ≤ l.length then numN (l.take n) else 0 : Nat), .bool (decide (n ≤ l.length))]) ∧ Touch (fun _ => False) w w' := by
  by_cases hle : n ≤ l.length
  · rw [if_pos hle]
    simp only [hle, decide_true]
    exact peek_some b o n l row w h hl hn hle
  · rw [if_neg hle]
    simp only [hle, decide_false]
    exact (peek_less b o n l row w h hl hn (by omega)).mono fun e w' ⟨h1, h2⟩ => ⟨h1, by rw [h2]; exact (Touch.refl _ _).drew⟩

set_option maxHeartbeats 400000 in
theorem read_out (q : Option Addr) (n : Int) (w : World) (h : q = none ∨ n < 0 ∨ 32 < n) :
    Calls Tryd.prog 67 #[.pointer q, .int .i64 n] w fun e w' => e = .returned (.tuple #[.int .u64 0, .bool false]) ∧ w = w' := by
  have h := Lib.hid h
  go_enter Tryd.func67, Tryd.ntmps67
  go_wp2_with fail
  refine (peek_out q n _ h.out).mono ?_
  rintro e w' ⟨rfl, rfl⟩
  go_wp2_with fail
  go_ret2
  exact ⟨rfl, rfl⟩

set_option maxHeartbeats 400000 in
theorem read_less (b o n : Nat) (l : List Nat) (row : Option Nat) (w : World) (h : RdAt φ w b o l row) (hl : l.length < 562949953421312) (hn : n ≤ 32) (hle : l.length < n) :
    Calls Tryd.prog 67 #[.pointer (some ⟨b, o, none⟩), .int .i64 n] w fun e w' => e = .returned (.tuple #[.int .u64 0, .bool false]) ∧ w' = w.drew := by
  go_enter Tryd.func67, Tryd.ntmps67
  go_wp2_with fail
  refine (peek_less b o n l row _ h hl hn hle).mono ?_
  rintro e w' ⟨rfl, rfl⟩
  go_wp2_with fail
  go_ret2
  exact ⟨rfl, rfl⟩

set_option maxHeartbeats 400000 in
theorem read_some (b o n : Nat) (l : List Nat) (row : Option Nat) (w : World) (h : RdAt φ w b o l row) (hl : l.length < 562949953421312) (hn : n ≤ 32) (hle : n ≤ l.length) :
    Calls Tryd.prog 67 #[.pointer (some ⟨b, o, none⟩), .int .i64 n] w fun e w' => e = .returned (.tuple #[.int .u64 (numN (l.take n)), .bool true]) ∧ RdAt φ w' b o (l.drop n) row ∧ Touch (fun k => k = b) w w' := by
  go_enter Tryd.func67, Tryd.ntmps67
  go_wp2_with fail
  refine (peek_some b o n l row _ h hl hn hle).mono ?_
  rintro e w1 ⟨rfl, ht⟩
  go_wp2_with fail
  refine (drop_calls b o n l row _ (h.kept ht id (fun _ _ => id)) hl hle).mono ?_
  rintro e w2 ⟨rfl, hq⟩
  have HQ := Lib.hid hq
  clear hq
  go_wp2_with fail
  go_ret2
  exact ⟨rfl, HQ.out.1, (ht.mono (fun _ h => h.elim)).trans HQ.out.2⟩

theorem take_nil (n : Int) (w : World) : Calls Tryd.prog 64 #[.pointer none, .int .i64 n] w fun e w' => e = .returned (.string ⟨#[]⟩) ∧ w = w' := by
  go_enter Tryd.func64, Tryd.ntmps64
  go_wp2
  go_ret
  exact ⟨rfl, rfl⟩

set_option maxHeartbeats 400000 in
theorem take_calls (b o : Nat) (n : Int) (l : List Nat) (row : Option Nat) (w : World) (h : RdAt φ w b o l row) (hl : l.length < 562949953421312) (hn1 : -9223372036854775808 ≤ n) (hn2 : n ≤ 9223372036854775807) (m : Nat) (hm : (m : Int) = max 0 (min n ((l.length / 8 : Nat) : Int))) :
    Calls Tryd.prog 64 #[.pointer (some ⟨b, o, none⟩), .int .i64 n] w fun e w' => e = .returned (.string ⟨(bytesL ((l.drop (l.length % 8)).take (8 * m))).toArray⟩) ∧
      RdAt φ w' b o ((l.drop (l.length % 8)).drop (8 * m)) row ∧ Touch (fun k => k = b) w w' := by
  go_enter Tryd.func64, Tryd.ntmps64
  go_wp2_with fail
  refine (ralign_calls b o l row _ h hl).mono ?_
  rintro e w1 ⟨rfl, hr, ht⟩
  have hr0 := hr
  obtain ⟨ys, g, v, ⟨c0, c1, f0, f1⟩, hrow, hap, hv, hg, hgy, hlist⟩ := hr
  have hlen : (l.drop (l.length % 8)).length = 8 * ys.length - g := by rw [hlist, rd_length]
  rw [List.length_drop] at hlen
  obtain rfl : g = 0 := by omega
  have hyl : l.length / 8 = ys.length := by omega
  rw [hyl] at hm
  have hmy : m ≤ ys.length := by omega
  have HL := Lib.hid hlist
  have HM := Lib.hid hm
  clear hlist hm hv
  obtain ⟨a, cap, hv', hc1, hc2⟩ := hrow.form
  rw [byteVs_length] at hv' hc1
  subst hv'
  unfold maxLen at hc2
  have hyl2 : ys.length < 70368744177665 := by omega
  have hres := Lib.hid (show bytesL ((l.drop (l.length % 8)).take (8 * m)) = ys.take m by
    rw [HL.out, List.drop_zero, bitsL_take, ← List.append_nil (bitsL (ys.take m)), bytesL_bits _ [] (by decide)])
  have h8 : 8 * m ≤ (l.drop (l.length % 8)).length := by rw [List.length_drop]; omega
  have h8l : (l.drop (l.length % 8)).length < 562949953421312 := by rw [List.length_drop]; omega
  have H8 := Lib.hid (show (8 : Int) * (m : Int) = ((8 * m : Nat) : Int) by simp)
  have hrm := hrow.upto hmy
  rw [byteVs_take] at hrm
  have hconv := run_bytes_row (P := Tryd.prog) w1 58 5 9 Tryd.underlying58 Tryd.underlying5 Tryd.underlying9 hrm
  clear hlen hyl
  by_cases h1 : n < 0
  · obtain rfl : m = 0 := by have := HM.out; omega
    clear HM H8
    go_wp2_with fail
    refine (drop_calls b o 0 _ row _ hr0 h8l h8).mono ?_
    rintro e w2 ⟨rfl, hq⟩
    have HQ := Lib.hid hq
    clear hq
    go_wp2_with fail
    go_ret
    exact ⟨by rw [hres.out]; rfl, HQ.out.1, ht.trans HQ.out.2⟩
  · by_cases h2 : n ≤ (ys.length : Int)
    · obtain rfl : n = (m : Int) := by have := HM.out; omega
      clear HM
      by_cases hm0 : m = 0
      · subst hm0
        clear H8
        go_wp2_with fail
        refine (drop_calls b o 0 _ row _ hr0 h8l h8).mono ?_
        rintro e w2 ⟨rfl, hq⟩
        have HQ := Lib.hid hq
        clear hq
        go_wp2_with fail
        go_ret
        exact ⟨by rw [hres.out]; rfl, HQ.out.1, ht.trans HQ.out.2⟩
      · have hm1 : 0 < m := by omega
        clear hm0
        go_wp2_with fail
        rw [H8.out]
        refine (drop_calls b o _ _ row _ hr0 h8l h8).mono ?_
        rintro e w2 ⟨rfl, hq⟩
        have HQ := Lib.hid hq
        clear hq
        go_wp2_with fail
        go_ret
        exact ⟨by rw [hres.out]; rfl, HQ.out.1, ht.trans HQ.out.2⟩
    · by_cases hy0 : ys.length = 0
      · obtain rfl : ys = [] := List.eq_nil_of_length_eq_zero hy0
        obtain rfl : m = 0 := by simpa using hmy
        have hn0 : 0 < n := by simpa using h2
        clear HM H8 h2
        go_wp2_with fail
        refine (drop_calls b o 0 _ row _ hr0 h8l h8).mono ?_
        rintro e w2 ⟨rfl, hq⟩
        have HQ := Lib.hid hq
        clear hq
        go_wp2_with fail
        go_ret
        exact ⟨by rw [hres.out]; rfl, HQ.out.1, ht.trans HQ.out.2⟩
      · obtain rfl : m = ys.length := by have := HM.out; omega
        have hy1 : 0 < ys.length := by omega
        clear HM hy0
        go_wp2_with fail
        rw [H8.out]
        refine (drop_calls b o _ _ row _ hr0 h8l h8).mono ?_
        rintro e w2 ⟨rfl, hq⟩
        have HQ := Lib.hid hq
        clear hq
        go_wp2_with fail
        go_ret
        exact ⟨by rw [hres.out, List.take_length]; rfl, HQ.out.1, ht.trans HQ.out.2⟩

end Go.Proofs.YtoaeffinjpkahaaDoor
/- Contracts of package bits' Put and Get, and of the document's own answers of layer 1, over the translated program. -/
namespace Go.Proofs.YtoaeffinjpkahaaDoor
set_option linter.unusedSimpArgs false
set_option linter.unusedVariables false
open Go Go.RowKit
set_option maxRecDepth 100000

def intVs (l : List Nat) : List Value := l.map fun b => Value.int .i64 (b : Nat)
theorem intVs_length (l : List Nat) : (intVs l).length = l.length := by simp [intVs]
theorem intVs_append (a b : List Nat) : intVs (a ++ b) = intVs a ++ intVs b := by simp [intVs]

theorem ret1 {a b : Value} (h : a = b) : Ending.returned a = .returned b := by rw [h]
theorem str_eq {a b : ByteArray} (h : a.data.toList = b.data.toList) : Value.string a = .string b := by
  congr 1
  cases a; cases b
  congr 1
  exact Array.ext' h

theorem data_length (s : ByteArray) : s.data.toList.length = s.size := Array.length_toList
theorem get_or (s : ByteArray) (k : Nat) (hk : k < s.size) (hs : s.size ≤ 8) :
    bits .or .u64 ((getN (s.data.toList.take k) : Nat) : Int) (IntKind.u64.wrap ((s[k].toNat : Int) * 2 ^ (8 * k))) = ((getN (s.data.toList.take (k + 1)) : Nat) : Int) := by
  have hk' : k < s.data.toList.length := by rw [data_length]; exact hk
  have hx := getN_take_lt s.data.toList k k (Nat.le_refl _)
  have h7 : 2 ^ (8 * k) ≤ 2 ^ 56 := Nat.pow_le_pow_right (by decide) (by omega)
  have hc := s[k].toNat_lt
  have h2 : s[k].toNat * 2 ^ (8 * k) ≤ 255 * 2 ^ 56 := Nat.mul_le_mul (by omega) h7
  have e2 : ((2 : Int) ^ (8 * k)) = ((2 ^ (8 * k) : Nat) : Int) := by simp
  rw [e2, show (s[k].toNat : Int) * ((2 ^ (8 * k) : Nat) : Int) = ((s[k].toNat * 2 ^ (8 * k) : Nat) : Int) by simp, wrap_u64_in _ (by omega), u64_or_nat _ _ (by omega) (by omega), ← getN_take_succ _ k hk']
  rfl

theorem refget_step (s : ByteArray) (k : Nat) (h0 : 0 < k) (hk : k ≤ s.size) (hs : s.size ≤ 8) :
    IntKind.u64.wrap (IntKind.u64.wrap (256 * ((getN (s.data.toList.drop k) : Nat) : Int)) + IntKind.u64.wrap ((s[k - 1]'(by omega)).toNat : Int)) = ((getN (s.data.toList.drop (k - 1)) : Nat) : Int) := by
  have hl := data_length s
  have h1 := getN_lt (s.data.toList.drop k)
  rw [List.length_drop, pow_256] at h1
  have h2 : 2 ^ (8 * (s.data.toList.length - k)) ≤ 2 ^ 56 := Nat.pow_le_pow_right (by decide) (by omega)
  have hc := (s[k - 1]'(by omega)).toNat_lt
  rw [show (256 : Int) * ((getN (s.data.toList.drop k) : Nat) : Int) = ((256 * getN (s.data.toList.drop k) : Nat) : Int) by simp, wrap_u64_in _ (by omega), wrap_u64_in _ (by omega),
    show ((256 * getN (s.data.toList.drop k) : Nat) : Int) + ((s[k - 1]'(by omega)).toNat : Int) = ((256 * getN (s.data.toList.drop k) + (s[k - 1]'(by omega)).toNat : Nat) : Int) by simp, wrap_u64_in _ (by omega)]
  have e : s.data.toList.drop (k - 1) = s[k - 1]'(by omega) :: s.data.toList.drop k := by
    have := List.drop_eq_getElem_cons (l := s.data.toList) (i := k - 1) (by omega)
    rw [show k - 1 + 1 = k by omega] at this
    exact this
  rw [e]
  simp only [getN]
  congr 1
  omega

theorem run_one_byte (m : Nat) (W : World) :
    (convert 58 9 (.slice (some ⟨W.heap.size, 0, none⟩) 1 1)).run Tryd.prog (W.alloc (.cells #[.int .u8 ((m : Int) % 256)] 5)) = .ok (.string ⟨#[UInt8.ofNat (m % 256)]⟩) (W.alloc (.cells #[.int .u8 ((m : Int) % 256)] 5)) := by
  have h : Row (W.alloc (.cells #[.int .u8 ((m : Int) % 256)] 5)) 5 (.slice (some ⟨W.heap.size, 0, none⟩) 1 1) (byteVs [UInt8.ofNat (m % 256)]) :=
    .inr ⟨W.heap.size, 0, 1, _, rfl, heap_alloc_new W _, by simp [byteVs], by decide, by simp, by simp [byteVs]⟩
  have := run_bytes_row (P := Tryd.prog) _ 58 5 9 Tryd.underlying58 Tryd.underlying5 Tryd.underlying9 h
  simpa using this

theorem shr_byte (n k : Nat) : IntKind.u8.wrap ((n : Int) / 2 ^ (8 * k)) = ((UInt8.ofNat (n / 256 ^ k % 256)).toNat : Int) := by
  rw [show (n : Int) / 2 ^ (8 * k) = ((n / 256 ^ k : Nat) : Int) by rw [pow_256]; simp, u8_wrap]

theorem put_none (n : Nat) (size : Int) (w : World) (h : size < 1 ∨ 8 < size) : Calls Tryd.prog 54 #[.int .u64 n, .int .i64 size] w fun e w' => e = .returned (.string ⟨#[]⟩) ∧ w = w' := by
  by_cases h1 : size < 1
  · clear h
    go_enter Tryd.func54, Tryd.ntmps54
    go_wp2
    go_ret
    exact ⟨rfl, rfl⟩
  · have h2 : 8 < size := by omega
    clear h
    go_enter Tryd.func54, Tryd.ntmps54
    go_wp2
    go_ret
    exact ⟨rfl, rfl⟩

set_option maxHeartbeats 400000 in
theorem put_small (n size : Nat) (w : World) (h1 : 1 ≤ size) (hs : size ≤ 8) : Calls Tryd.prog 54 #[.int .u64 n, .int .i64 size] w fun e w' => e = .returned (.string ⟨(leB size n).toArray⟩) ∧ Touch (fun _ => False) w w' := by
  obtain ⟨i0, hi, hz0, hz1, hz2⟩ := info_parts Tryd.info5
  obtain ⟨w1, hmk, hown, hgrow⟩ := run_make_full (P := Tryd.prog) w w.heap.size 58 5 i0 _ 1 Tryd.underlying58 hi hz0 hz1 .i64 .i64 size (by rw [hz2]; omega) (by unfold maxLen; omega) (Nat.le_refl _)
  have hrow := Row.of_own hown
  have hlen0 : (madeCells (Value.int .u8 0).cells (size * 1)).toList.length = size := by have := hown.1; omega
  have hT := (Touch.refl (fun _ => False) w).grown hgrow (fun k h => by cases h)
  clear hown hgrow
  generalize (madeCells (Value.int .u8 0).cells (size * 1)).toList = zs at hrow hlen0
  generalize hG : w.heap.size = G at hrow hmk
  have HG := Lib.hid hG
  clear hG
  go_enter Tryd.func54, Tryd.ntmps54
  go_wp2
  go_loopw [16] (fun i wr => ∃ k : Nat, k ≤ size ∧ i = .int .i64 k ∧ Row wr 5 (.slice (some ⟨G, 0, none⟩) size size) (byteVs (leB k n) ++ zs.drop k) ∧ Touch (fun _ => False) w wr) (fun i _ => size - (intOf i).toNat)
  case atStart => exact ⟨0, Nat.zero_le _, rfl, by simpa [leB, byteVs] using hrow, hT⟩
  case round =>
    obtain ⟨k, hk, rfl, hr, ht⟩ := hrel
    by_cases hlt : k < size
    · have hv := Lib.hid (shr_byte n k)
      have hset := hr.set hlt (.int .u8 (IntKind.u8.wrap ((n : Int) / 2 ^ (8 * k))))
      have hcell := hr.cells.2 k (zs.getD k undef) (by
        rw [List.getElem?_append_right (by rw [byteVs_length, leB_length]; exact Nat.le_refl _), byteVs_length, leB_length, List.getElem?_drop]
        simp [List.getD, hlen0, hlt])
      have hfree := hr.free (k := k)
      rw [Nat.zero_add] at hcell hfree hset
      have HR := Lib.hid (⟨hr, hset⟩ : _ ∧ _)
      clear hr hset hrow
      go_wp2
      go_roundw
      case rel =>
        refine ⟨k + 1, by omega, by go_num, ?_, ht.setCell (Or.inr (by rw [HG.out]; exact Nat.le_refl _)) _⟩
        have h := HR.out.2
        have e : (byteVs (leB k n) ++ zs.drop k).set k (Value.int .u8 (IntKind.u8.wrap ((n : Int) / 2 ^ (8 * k)))) = byteVs (leB (k + 1) n) ++ zs.drop (k + 1) := by
          rw [List.set_append_right _ _ (by rw [byteVs_length, leB_length]; exact Nat.le_refl _), byteVs_length, leB_length, Nat.sub_self, List.drop_eq_getElem_cons (by omega), List.set_cons_zero, leB_snoc, hv.out, byteVs_append]
          simp [byteVs]
        rw [e] at h
        exact h
      case measure => simp [intOf]; omega
    · obtain rfl : k = size := by omega
      have hr' : Row wr 5 (.slice (some ⟨G, 0, none⟩) k k) (byteVs (leB k n)) := by
        rw [List.drop_eq_nil_of_le (by omega), List.append_nil] at hr; exact hr
      have hconv := run_bytes_row (P := Tryd.prog) wr 58 5 9 Tryd.underlying58 Tryd.underlying5 Tryd.underlying9 hr'
      clear hr hr' hrow
      go_wp2
      go_ret
      exact ⟨rfl, ht⟩
end Go.Proofs.YtoaeffinjpkahaaDoor

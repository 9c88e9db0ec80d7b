/- Contracts of package bits over the translated program: Writer and Reader by the list of their bits, Put and Get. -/
import Derived.Test.YtleenjeiladjcaaDoorRows
import Derived.Test.YtleenjeiladjcaaDoorNum
import Derived.Test.YtleenjeiladjcaaDoorMem
import Derived.WalkSpells
import Derived.WalkLawsBesides
import Derived.Lib.Hide
import Derived.Laws.BitsAllLaws
import Derived.RegionTactic
import Derived.BigRegion
import Derived.BigQuiet
import Derived.Deep.QuietTactic
import Derived.Deep.RegionHeld3
import Derived.Deep.RegionLaw
namespace Go.Proofs.YtleenjeiladjcaaDoor
open Go Go.RowKit
set_option maxRecDepth 100000

/-- A Writer's three cells and its whole bytes. -/
structure WrRaw (w : World) (b o : Nat) (xs : List UInt8) (p s : Nat) (v : Value) : Prop where
  cells : Cell3 w b o v (.int .u64 p) (.int .i64 s)
  row : Row w 5 v (byteVs xs)
  apart : v.ownBlock ≠ some b

/-- A Writer by the list of its bits. -/
def WrAt (w : World) (b o : Nat) (l : List Nat) (row : Option Nat) : Prop :=
  ∃ xs p s v, WrRaw w b o xs p s v ∧ v.ownBlock = row ∧ s < 8 ∧ p < 2 ^ s ∧ l = bitsL xs ++ bitsN s p

theorem Tryd.info5 : (Tryd.prog.info? 5).map (fun i => (i.zero, i.size, i.bytes)) = some (some (.int .u8 0), 1, 1) := by kernel_rfl

theorem wrap_u64_in (x : Nat) (h : x < 18446744073709551616) : IntKind.u64.wrap (x : Int) = (x : Int) := by
  rw [IntKind.wrap_u64]; omega

theorem acc_val (p s n vv : Nat) (hp : p < 2 ^ s) (hs : s < 8) (h2 : n ≤ 32) (hv : vv < 18446744073709551616) :
    bits .or .u64 (p : Int) (IntKind.u64.wrap (bits .and .u64 (vv : Int) (IntKind.u64.wrap (IntKind.u64.wrap (2 ^ n) - 1)) * 2 ^ s)) = ((p + vv % 2 ^ n * 2 ^ s : Nat) : Int) := by
  have hn1 : 2 ^ n ≤ 2 ^ 32 := Nat.pow_le_pow_right (by decide) h2
  have hn0 := Nat.two_pow_pos n
  have hs1 : 2 ^ s ≤ 2 ^ 7 := Nat.pow_le_pow_right (by decide) (by omega)
  have e1 : ((2 : Int) ^ n) = ((2 ^ n : Nat) : Int) := by simp
  have e2 : ((2 : Int) ^ s) = ((2 ^ s : Nat) : Int) := by simp
  rw [e1, e2, wrap_u64_in _ (by omega), show ((2 ^ n : Nat) : Int) - 1 = ((2 ^ n - 1 : Nat) : Int) by omega, wrap_u64_in _ (by omega), u64_and_nat _ _ hv (by omega), Nat.and_two_pow_sub_one_eq_mod]
  have h3 := Nat.mod_lt vv hn0
  have h4 : vv % 2 ^ n * 2 ^ s ≤ (2 ^ 32) * 2 ^ 7 := Nat.mul_le_mul (by omega) hs1
  rw [show ((vv % 2 ^ n : Nat) : Int) * ((2 ^ s : Nat) : Int) = ((vv % 2 ^ n * 2 ^ s : Nat) : Int) by simp, wrap_u64_in _ (by omega), u64_or_nat _ _ (by omega) (by omega), or_join s p _ hp]

theorem u8_wrap (a : Nat) : IntKind.u8.wrap (a : Int) = ((UInt8.ofNat (a % 256)).toNat : Int) := by
  rw [IntKind.wrap_u8']
  simp

theorem acc_le (p s n vv : Nat) (hp : p < 2 ^ s) (hs : s < 8) (h2 : n ≤ 32) : p + vv % 2 ^ n * 2 ^ s < 549755813888 := by
  have hn1 : 2 ^ n ≤ 2 ^ 32 := Nat.pow_le_pow_right (by decide) h2
  have hn0 := Nat.two_pow_pos n
  have hs1 : 2 ^ s ≤ 2 ^ 7 := Nat.pow_le_pow_right (by decide) (by omega)
  have h3 := Nat.mod_lt vv hn0
  have h5 : (vv % 2 ^ n + 1) * 2 ^ s ≤ 2 ^ n * 2 ^ s := Nat.mul_le_mul_right _ h3
  have h4 : 2 ^ n * 2 ^ s ≤ (2 ^ 32) * 2 ^ 7 := Nat.mul_le_mul (by omega) hs1
  rw [Nat.add_mul, Nat.one_mul] at h5
  omega

theorem byteVs_snoc (xs : List UInt8) (k a : Nat) : byteVs (xs ++ leB k a) ++ [Value.int .u8 (IntKind.u8.wrap ((a / 256 ^ k : Nat) : Int))] = byteVs (xs ++ leB (k + 1) a) := by
  rw [leB_snoc, ← List.append_assoc, u8_wrap]
  simp only [byteVs, List.map_append, List.map_cons, List.map_nil]

set_option maxHeartbeats 800000 in
theorem write_some (b o p s n vv : Nat) (xs : List UInt8) (v : Value) (w : World) (hp : p < 2 ^ s) (hs : s < 8) (h1 : 1 ≤ n) (h2 : n ≤ 32) (hv : vv < 18446744073709551616) (hl : xs.length < 70368744177664)
    (h : WrRaw w b o xs p s v) :
    Calls Tryd.prog 18 #[.pointer (some ⟨b, o, none⟩), .int .u64 vv, .int .i64 n] w fun e w' => e = .returned (.tuple #[]) ∧
      ∃ v', WrRaw w' b o (xs ++ leB ((s + n) / 8) (p + vv % 2 ^ n * 2 ^ s)) ((p + vv % 2 ^ n * 2 ^ s) / 256 ^ ((s + n) / 8)) ((s + n) % 8) v' ∧
        (v'.ownBlock = v.ownBlock ∨ ∃ g, v'.ownBlock = some g ∧ w.heap.size ≤ g) ∧ Touch (fun k => k = b ∨ v.ownBlock = some k) w w' := by
  obtain ⟨hcells, hrow, hap⟩ := h
  obtain ⟨c0, c1, c2, f0, f1, f2⟩ := hcells
  have hval := Lib.hid (acc_val p s n vv hp hs h2 hv)
  have hle := acc_le p s n vv hp hs h2
  obtain ⟨i0, hi, hz0, hz1, hz2⟩ := info_parts Tryd.info5
  go_enter Tryd.func18, Tryd.ntmps18
  go_wp2
  go_region
  go_wp2
  rw [hval.out]
  clear hval
  generalize hA : p + vv % 2 ^ n * 2 ^ s = acc at hle ⊢
  have HA := Lib.hid hA
  clear hA
  go_loopw [46] (fun i wr => ∃ k v', k ≤ (s + n) / 8 ∧ i = .int .i64 (k : Nat) ∧ WrRaw wr b o (xs ++ leB k acc) (acc / 256 ^ k) (s + n) v' ∧ (v'.ownBlock = v.ownBlock ∨ ∃ g, v'.ownBlock = some g ∧ w.heap.size ≤ g) ∧ Touch (fun k => k = b ∨ v.ownBlock = some k) w wr) (fun i _ => (s + n) / 8 - (intOf i).toNat)
  case atStart =>
    refine ⟨0, v, Nat.zero_le _, rfl, ⟨?_, ?_, hap⟩, .inl rfl, ?_⟩
    · simpa using (((Cell3.mk c0 c1 c2 f0 f1 f2).set1 (.int .u64 (acc : Int))).set2 (.int .i64 ((s : Int) + n))).drew
    · simp only [leB, List.append_nil]
      exact hrow.kept (((Touch.refl (fun k => k = b) _).setCell (Or.inl rfl) _).setCell (Or.inl rfl) _).drew (fun g hg e => hap (by rw [hg, e]))
    · exact (((Touch.refl _ _).setCell (Or.inl (Or.inl rfl)) _).setCell (Or.inl (Or.inl rfl)) _).drew
  case round =>
    obtain ⟨k, v', hk, rfl, hw, hb, ht⟩ := hrel
    clear c0 c1 c2 f0 f1 f2 hrow hap
    obtain ⟨hcells, hrow, hap⟩ := hw
    have hC := hcells
    obtain ⟨c0, c1, c2, f0, f1, f2⟩ := hcells
    have hlb := World.block_lt_of_cell? wr _ c0
    have ha : acc / 256 ^ k ≤ acc := Nat.div_le_self _ _
    have hln : (xs ++ leB k acc).length = xs.length + k := by rw [List.length_append, leB_length]
    have hsn := Lib.hid (byteVs_snoc xs k acc)
    have hln' := Lib.hid hln
    have hsucc := Lib.hid (show acc / 256 ^ k / 256 = acc / 256 ^ (k + 1) by rw [Nat.div_div_eq_div_mul, Nat.pow_succ])
    clear hln
    by_cases hlt : k < (s + n) / 8
    · go_wp2
      go_region_law
        ((refine step_append_row _ (by rfl) _ _ _ _ (by rfl) 5 i0 _ 1 Tryd.underlying39 hi hz0 hz1 hz2 rfl v' (byteVs (xs ++ leB k acc)) (by rfl) (by exact hrow.kept (S := fun _ => False) (((Touch.refl _ _).alloc _).drew) (fun _ _ => id)) (.slice (some ⟨wr.heap.size, 0, none⟩) 1 1) (by rfl) 1 [.int .u8 (IntKind.u8.wrap ((acc / 256 ^ k : Nat) : Int))] (by exact Src.ofCell Tryd.underlying39 (heap_alloc_new wr _) rfl) (by rw [byteVs_length, hln'.out]; unfold maxLen; omega) (by rw [byteVs_length, hln'.out]; omega) ?_; intro v2 w1 hrow1 hgrow hown1; obtain ⟨a2, cap2, hv2, hc2, hc3⟩ := hrow1.form; subst hv2; have hB : w1.heap[b]? = wr.heap[b]? := (hgrow.block b (by simp; omega) (fun e => hap e.symm)).trans (Below.heap_alloc wr _ _ hlb); have g0 := (World.cell?_of_block (a := ⟨b, o, none⟩) hB).trans c0; have g1 := (World.cell?_of_block (a := ⟨b, o + 1, none⟩) hB).trans c1; have g2 := (World.cell?_of_block (a := ⟨b, o + 2, none⟩) hB).trans c2; have e0 := (World.frozen?_of_block (a := ⟨b, o, none⟩) hB).trans f0; have e1 := (World.frozen?_of_block (a := ⟨b, o + 1, none⟩) hB).trans f1; have e2 := (World.frozen?_of_block (a := ⟨b, o + 2, none⟩) hB).trans f2))
      all_goals
        go_wp2
        go_roundw
        case rel =>
          have hap1 : (Value.slice a2 (byteVs (xs ++ leB k acc) ++ [Value.int .u8 (IntKind.u8.wrap ((acc / 256 ^ k : Nat) : Int))]).length cap2).ownBlock ≠ some b := by
            intro e; rcases hown1 with h | h
            · exact hap (h.symm.trans e)
            · rw [h] at e; simp at e; omega
          have hlen : (byteVs (xs ++ leB k acc) ++ [Value.int .u8 (IntKind.u8.wrap ((acc / 256 ^ k : Nat) : Int))]).length = (byteVs (xs ++ leB k acc)).length + 1 := by simp
          have hC1 := (hC.of_block hB).set0 (.slice a2 ((byteVs (xs ++ leB k acc)).length + 1) cap2)
          have hC2 := hC1.set1 (.int .u64 ((acc / 256 ^ k / 256 : Nat) : Int))
          rw [hlen, hsn.out] at hrow1
          rw [hlen] at hap1 hown1
          have hgt : wr.heap.size ≤ w1.heap.size := by have := hgrow.size; simp at this; omega
          have hT : Touch (fun k => k = b ∨ v.ownBlock = some k) w w1 := (ht.alloc _).drew.grown hgrow (fun g hg => by
            rcases hb with hb | ⟨g', hb, hb'⟩
            · exact .inl (.inr (by rw [← hb, hg]))
            · right; rw [hg] at hb; injection hb with hb; omega)
          refine ⟨k + 1, .slice a2 ((byteVs (xs ++ leB k acc)).length + 1) cap2, by omega, by go_num, ⟨?_, ?_, hap1⟩, ?_, ?_⟩
          · rw [← hsucc.out]; simpa using hC2
          · exact hrow1.kept (((Touch.refl (fun k => k = b) _).setCell (Or.inl rfl) _).setCell (Or.inl rfl) _) (fun g hg e => hap1 (by rw [hg, e]))
          · rcases hown1 with h | h
            · rw [h]; exact hb
            · right; exact ⟨_, h, by have := ht.size; simp; omega⟩
          · exact (hT.setCell (.inl (.inl rfl)) _).setCell (.inl (.inl rfl)) _
        case measure => simp [intOf]; omega
    · obtain rfl : k = (s + n) / 8 := by omega
      go_wp2
      go_end0
      rw [HA.out]
      refine ⟨rfl, v', ⟨?_, ?_, hap⟩, hb, ?_⟩
      · simpa using hC.set2 (.int .i64 (((s + n) % 8 : Nat) : Int))
      · exact hrow.kept ((Touch.refl (fun k => k = b) _).setCell (Or.inl rfl) _) (fun g hg e => hap (by rw [hg, e]))
      · exact ht.setCell (.inl (.inl rfl)) _
end Go.Proofs.YtleenjeiladjcaaDoor

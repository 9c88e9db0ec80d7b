/- A decoder: readLength. -/
import Derived.Test.YtbbhilmkipghiaaDoorInfI
import Derived.Test.YtbbhilmkipghiaaDoorLzA
import Derived.Test.YtbbhilmkipghiaaDoorInfD
import Derived.Test.YtbbhilmkipghiaaDoorInfK
import Derived.Test.YtbbhilmkipghiaaDoorInfN
namespace Go.Proofs.YtbbhilmkipghiaaDoor
open Go Go.RowKit
set_option maxRecDepth 100000

set_option maxHeartbeats 2000000 in
theorem ilen_more {U : Nat → Prop} {w0 w : World} {b : Nat} {s : PS} (h : DecR U w0 w b s) (he : s.extra ≤ 32) (hl : s.bits.length < s.extra) : Calls Tryd.prog 52 #[.pointer (some ⟨b, 0, none⟩)] w fun e w' => e = .returned (.int .i64 2) ∧ DecR U w0 w' b s := by
  obtain ⟨v5, g, v7, v8, p17, p18, hD, hown, hT⟩ := h
  have HR := Lib.hid (read_less b 5 s.extra s.bits _ w.drew (rd_at (hD.still (Touch.refl _ _).drew).blk (hD.still (Touch.refl _ _).drew).rd hD.ap.1) (by omega) he hl)
  have c23 : w.cell? ⟨b, 23, none⟩ = some (.int .i64 (s.extra : Nat)) := Block.cell hD.blk 23
  have HD := Lib.hid (show DecR U w0 w b s from ⟨v5, g, v7, v8, p17, p18, hD, hown, hT⟩)
  clear hD hown hT hl he
  go_enter Tryd.func52, Tryd.ntmps52
  go_upto_region 1 with fail
  go_region_law (first
    | (go_simp; go_at_call 43; refine HR.out.mono ?_; rintro e w1 ⟨rfl, rfl⟩))
  go_wp2_with fail
  go_ret
  exact ⟨rfl, HD.out.still ((Touch.refl _ _).drew.drew)⟩

set_option maxHeartbeats 2000000 in
theorem ilen_ok {U : Nat → Prop} {w0 w : World} {b : Nat} {s : PS} (h : DecR U w0 w b s) (he : s.extra ≤ 16) (hz : s.size ≤ 65536) (hl : s.extra ≤ s.bits.length) (N : Nat) (hN : N = numN (s.bits.take s.extra)) (hN2 : N < 65536) : Calls Tryd.prog 52 #[.pointer (some ⟨b, 0, none⟩)] w fun e w' => e = .returned (.int .i64 0) ∧ DecR U w0 w' b { s with bits := s.bits.drop s.extra, size := s.size + N, st := 9 } := by
  obtain ⟨v5, g, v7, v8, p17, p18, hD, hown, hT⟩ := h
  have hread := read_some b 5 s.extra s.bits _ w.drew (rd_at (hD.still (Touch.refl _ _).drew).blk (hD.still (Touch.refl _ _).drew).rd hD.ap.1) (by have := hD.lb.1; omega) (by omega) hl
  rw [← hN] at hread
  have HR := Lib.hid hread
  have c23 : w.cell? ⟨b, 23, none⟩ = some (.int .i64 (s.extra : Nat)) := Block.cell hD.blk 23
  have HD := Lib.hid hD
  have HO := Lib.hid (⟨hown, hT⟩ : _ ∧ _)
  have hsum : (s.size : Int) + (N : Int) = ((s.size + N : Nat) : Int) := by omega
  clear hread hD hown hT hl hN
  go_enter Tryd.func52, Tryd.ntmps52
  go_upto_region 1 with fail
  go_region_law (first
    | (go_simp; go_at_call 43; refine HR.out.mono ?_; rintro e w1 ⟨rfl, hR1, hT1⟩; have HD1 := Lib.hid (⟨hR1, (Touch.refl (fun k => k = b) w).drew.trans hT1⟩ : _ ∧ _); clear hR1 hT1))
  go_upto_region 4 with fail
  obtain ⟨v5', g', hD1, ho⟩ := HD.out.read HD1.out.1 HD1.out.2 ⟨s.extra, rfl⟩
  have m21 : w1.cell? ⟨b, 21, none⟩ = some (.int .i64 (s.size : Nat)) := Block.cell hD1.blk 21
  have g21 := Block.free hD1.blk 21
  have hB2 := Block.set hD1.blk 21 (.int .i64 ((s.size + N : Nat) : Int))
  have m0 : (w1.setCell ⟨b, 21, none⟩ (.int .i64 ((s.size : Int) + (N : Int)))).cell? ⟨b, 0, none⟩ = some (.int .i64 (s.st : Nat)) := by rw [hsum]; exact Block.cell hB2 0
  have g0 : (w1.setCell ⟨b, 21, none⟩ (.int .i64 ((s.size : Int) + (N : Int)))).frozen? ⟨b, 0, none⟩ = false := by rw [hsum]; exact Block.free hB2 0
  have HSUM := Lib.hid hsum
  have HD2 := Lib.hid (⟨hD1, ho, hB2⟩ : _ ∧ _ ∧ _)
  clear hD1 ho hB2 hsum
  go_wp2_with fail

  go_ret
  rw [HSUM.out]
  have hT2 : Touch (fun k => k = b) w1 ((w1.setCell ⟨b, 21, none⟩ (.int .i64 ((s.size + N : Nat) : Int))).setCell ⟨b, 0, none⟩ (.int .i64 9)) := ((Touch.refl (fun k => k = b) w1).setCell (p := ⟨b, 21, none⟩) (Or.inl rfl) _).setCell (p := ⟨b, 0, none⟩) (Or.inl rfl) _
  exact ⟨rfl, DecR.step HO.out.1 HO.out.2 (HD1.out.2.trans hT2) (fun k e => .inl (.inl e)) (fun k e => .inl (mut_same HD2.out.2.1 e))
    (HD2.out.1.put (s' := { s with bits := s.bits.drop s.extra, size := s.size + N, st := 9 }) hT2 (Block.set HD2.out.2.2 0 _) rfl rfl rfl rfl ⟨HD2.out.1.lb.2.2.2.1, HD2.out.1.lb.2.2.2.2⟩)⟩
end Go.Proofs.YtbbhilmkipghiaaDoor
/- A decoder: readSymbol and readDist, by the codes of the fixed blocks; where bits are too few. -/
namespace Go.Proofs.YtbbhilmkipghiaaDoor
open Go Go.RowKit
set_option maxRecDepth 100000

/-- Next of a decoder's code of distances, where just one symbol is found. -/
theorem inextd_calls {w : World} {b : Nat} {s : PS} {v5 v7 v8 p17 p18 : Value} {g : Nat} (h : DecM w b s v5 g v7 v8 p17 p18) (hf : s.fixed = true) {c : Nat} (hF : FoundAt fixD s.bits c) (hU : ∀ t, FoundAt fixD s.bits t → t = c) :
    Calls Tryd.prog 66 #[p18, .pointer (some ⟨b, 5, none⟩)] w fun e w' => e = .returned (.tuple #[.int .i64 (c : Nat), .int .i64 0]) ∧
      (∃ v5' g', DecM w' b { s with bits := s.bits.drop (fixD.getD c 0) } v5' g' v7 v8 p17 p18 ∧ v5'.ownBlock = v5.ownBlock) ∧ Touch (fun k => k = b) w w' := by
  obtain ⟨_, ⟨cb, n0, n1, rfl, hC, hn, hdis⟩⟩ := h.cod hf
  refine (next_calls cb n0 n1 fixD b 5 s.bits _ w hC whole_fixD (rd_at h.blk h.rd h.ap.1) h.l2 (by have := h.lb.1; omega) (fun e => hdis b e.1 e.2 (.inl rfl))).mono ?_
  rintro e w' (⟨t, ht, he, hR, hT⟩ | ⟨hno, _⟩ | ⟨hno, _⟩)
  · obtain rfl := hU t ht
    obtain ⟨v5', g', hD, ho⟩ := h.read hR hT ⟨_, rfl⟩
    exact ⟨he, ⟨v5', g', hD, ho⟩, hT⟩
  · exact absurd hF (hno c)
  · exact absurd hF (hno c)
/-- Next where bits are too few. -/
theorem inext_more {w : World} {b : Nat} {s : PS} {v5 v7 v8 p17 p18 : Value} {g : Nat} (h : DecM w b s v5 g v7 v8 p17 p18) (hf : s.fixed = true) (hno : ∀ t, ¬ FoundAt fixW s.bits t) (hco : ComesAt fixW s.bits) :
    Calls Tryd.prog 66 #[p17, .pointer (some ⟨b, 5, none⟩)] w fun e w' => e = .returned (.tuple #[.int .i64 0, .int .i64 2]) ∧ Touch (fun _ => False) w w' := by
  obtain ⟨⟨cb, n0, n1, rfl, hC, hn, hdis⟩, _⟩ := h.cod hf
  refine (next_calls cb n0 n1 fixW b 5 s.bits _ w hC whole_fixW (rd_at h.blk h.rd h.ap.1) h.l2 (by have := h.lb.1; omega) (fun e => hdis b e.1 e.2 (.inl rfl))).mono ?_
  rintro e w' (⟨t, ht, _⟩ | ⟨_, _, he, _, hT⟩ | ⟨_, hc, _⟩)
  · exact absurd ht (hno t)
  · exact ⟨he, hT⟩
  · exact absurd hco hc
theorem inextd_more {w : World} {b : Nat} {s : PS} {v5 v7 v8 p17 p18 : Value} {g : Nat} (h : DecM w b s v5 g v7 v8 p17 p18) (hf : s.fixed = true) (hno : ∀ t, ¬ FoundAt fixD s.bits t) (hco : ComesAt fixD s.bits) :
    Calls Tryd.prog 66 #[p18, .pointer (some ⟨b, 5, none⟩)] w fun e w' => e = .returned (.tuple #[.int .i64 0, .int .i64 2]) ∧ Touch (fun _ => False) w w' := by
  obtain ⟨_, ⟨cb, n0, n1, rfl, hC, hn, hdis⟩⟩ := h.cod hf
  refine (next_calls cb n0 n1 fixD b 5 s.bits _ w hC whole_fixD (rd_at h.blk h.rd h.ap.1) h.l2 (by have := h.lb.1; omega) (fun e => hdis b e.1 e.2 (.inl rfl))).mono ?_
  rintro e w' (⟨t, ht, _⟩ | ⟨_, _, he, _, hT⟩ | ⟨_, hc, _⟩)
  · exact absurd ht (hno t)
  · exact ⟨he, hT⟩
  · exact absurd hco hc

set_option maxHeartbeats 2000000 in
theorem isym_more {U : Nat → Prop} {w0 w : World} {b : Nat} {s : PS} (h : DecR U w0 w b s) (hf : s.fixed = true) (hno : ∀ t, ¬ FoundAt fixW s.bits t) (hco : ComesAt fixW s.bits) :
    Calls Tryd.prog 51 #[.pointer (some ⟨b, 0, none⟩)] w fun e w' => e = .returned (.int .i64 2) ∧ DecR U w0 w' b s := by
  have h0 := h
  obtain ⟨v5, g, v7, v8, p17, p18, hD, hown, hT⟩ := h
  have c17 : w.cell? ⟨b, 17, none⟩ = some p17 := Block.cell hD.blk 17
  have hp : ∃ a, p17 = .pointer (some a) := by
    obtain ⟨⟨cb, _, _, rfl, _⟩, _⟩ := hD.cod hf
    exact ⟨_, rfl⟩
  obtain ⟨ca, rfl⟩ := hp
  have HN := Lib.hid (inext_more (hD.still (Touch.refl (fun _ => False) w).drew) hf hno hco)
  have HD := Lib.hid h0
  clear hD hown hT hf hno hco h0
  go_enter Tryd.func51, Tryd.ntmps51
  go_upto_region 1 with fail
  go_region_law (first
    | (go_simp; go_at_call 66; refine HN.out.mono ?_; rintro e w1 ⟨rfl, ht1⟩; have HT1 := Lib.hid ((Touch.refl (fun _ => False) w).drew.trans ht1); clear ht1))
  go_wp2_with fail
  go_ret
  exact ⟨rfl, HD.out.still HT1.out⟩
set_option maxHeartbeats 2000000 in
theorem idist_more {U : Nat → Prop} {w0 w : World} {b : Nat} {s : PS} (h : DecR U w0 w b s) (hf : s.fixed = true) (hno : ∀ t, ¬ FoundAt fixD s.bits t) (hco : ComesAt fixD s.bits) :
    Calls Tryd.prog 53 #[.pointer (some ⟨b, 0, none⟩)] w fun e w' => e = .returned (.int .i64 2) ∧ DecR U w0 w' b s := by
  have h0 := h
  obtain ⟨v5, g, v7, v8, p17, p18, hD, hown, hT⟩ := h
  have c18 : w.cell? ⟨b, 18, none⟩ = some p18 := Block.cell hD.blk 18
  have hp : ∃ a, p18 = .pointer (some a) := by
    obtain ⟨_, ⟨cb, _, _, rfl, _⟩⟩ := hD.cod hf
    exact ⟨_, rfl⟩
  obtain ⟨ca, rfl⟩ := hp
  have HN := Lib.hid (inextd_more (hD.still (Touch.refl (fun _ => False) w).drew) hf hno hco)
  have HD := Lib.hid h0
  clear hD hown hT hf hno hco h0
  go_enter Tryd.func53, Tryd.ntmps53
  go_upto_region 1 with fail
  go_region_law (first
    | (go_simp; go_at_call 66; refine HN.out.mono ?_; rintro e w1 ⟨rfl, ht1⟩; have HT1 := Lib.hid ((Touch.refl (fun _ => False) w).drew.trans ht1); clear ht1))
  go_wp2_with fail
  go_ret
  exact ⟨rfl, HD.out.still HT1.out⟩

set_option maxHeartbeats 2000000 in
/-- A length's symbol. -/
theorem isym_len {U : Nat → Prop} {w0 w : World} {b : Nat} {s : PS} (h : DecR U w0 w b s) (hf : s.fixed = true) (t : Nat) (ht : t < 29) (m : Nat) (hm9 : fixW.getD (257 + t) 0 = m) (hF : FoundAt fixW s.bits (257 + t)) (hU : ∀ q, FoundAt fixW s.bits q → q = 257 + t) :
    Calls Tryd.prog 51 #[.pointer (some ⟨b, 0, none⟩)] w fun e w' => e = .returned (.int .i64 0) ∧ DecR U w0 w' b { s with bits := s.bits.drop m, size := lenL t, extra := lenE t, st := 8 } := by
  obtain ⟨v5, g, v7, v8, p17, p18, hD, hown, hT⟩ := h
  have c17 : w.cell? ⟨b, 17, none⟩ = some p17 := Block.cell hD.blk 17
  have hp : ∃ a, p17 = .pointer (some a) := by
    obtain ⟨⟨cb, _, _, rfl, _⟩, _⟩ := hD.cod hf
    exact ⟨_, rfl⟩
  obtain ⟨ca, rfl⟩ := hp
  have HN := Lib.hid (inext_calls (hD.still (Touch.refl (fun _ => False) w).drew) hf hF hU)
  have HL := Lib.hid (fun W => lengthof_in t W ht)
  have HO := Lib.hid (⟨hown, hT⟩ : _ ∧ _)
  obtain ⟨k, hk⟩ : ∃ k, k = 257 + t := ⟨_, rfl⟩
  have hkI : ((t : Int) + 257) = (k : Int) := by omega
  rw [← hk] at HN
  rw [hkI] at HL
  have H7 := Lib.hid hm9
  rw [← hk] at H7
  have hk1 : ¬ (k : Int) < 256 := by omega
  have hk2 : ¬ (k : Int) = 256 := by omega
  obtain ⟨L, hL⟩ : ∃ L, L = lenL t := ⟨_, rfl⟩
  obtain ⟨E, hE⟩ : ∃ E, E = lenE t := ⟨_, rfl⟩
  rw [← hL, ← hE] at HL
  rw [← hL, ← hE]
  clear hD hown hT hf hF hU hm9 hk hkI hL hE
  go_enter Tryd.func51, Tryd.ntmps51
  go_upto_region 1 with fail
  go_region_law (first
    | (go_simp; go_at_call 66; refine HN.out.mono ?_; rintro e w1 ⟨rfl, hd1, ht1⟩; have HD1 := Lib.hid (⟨hd1, (Touch.refl (fun k => k = b) w).drew.trans ht1⟩ : _ ∧ _); clear hd1 ht1))
  go_wp2_with fail
  refine (HL.out w1).mono ?_
  rintro e w2 ⟨rfl, rfl⟩
  obtain ⟨v5', g', hD1, ho⟩ := HD1.out.1
  rw [H7.out] at hD1
  have m21 : w1.cell? ⟨b, 21, none⟩ = some (.int .i64 (s.size : Nat)) := Block.cell hD1.blk 21
  have g21 := Block.free hD1.blk 21
  have m23 : w1.cell? ⟨b, 23, none⟩ = some (.int .i64 (s.extra : Nat)) := Block.cell hD1.blk 23
  have g23 := Block.free hD1.blk 23
  have hB2 := Block.set (Block.set hD1.blk 21 (.int .i64 (L : Int))) 23 (.int .i64 (E : Int))
  have m0 : ((w1.setCell ⟨b, 21, none⟩ (.int .i64 (L : Int))).setCell ⟨b, 23, none⟩ (.int .i64 (E : Int))).cell? ⟨b, 0, none⟩ = some (.int .i64 (s.st : Nat)) := Block.cell hB2 0
  have g0 := Block.free hB2 0
  have HD2 := Lib.hid (⟨hD1, ho, hB2⟩ : _ ∧ _ ∧ _)
  clear hD1 ho hB2
  go_wp2_with fail
  go_ret
  have hT2 : Touch (fun k => k = b) w1 (((w1.setCell ⟨b, 21, none⟩ (.int .i64 (L : Int))).setCell ⟨b, 23, none⟩ (.int .i64 (E : Int))).setCell ⟨b, 0, none⟩ (.int .i64 8)) := (((Touch.refl (fun k => k = b) w1).setCell (p := ⟨b, 21, none⟩) (Or.inl rfl) _).setCell (p := ⟨b, 23, none⟩) (Or.inl rfl) _).setCell (p := ⟨b, 0, none⟩) (Or.inl rfl) _
  exact ⟨rfl, DecR.step HO.out.1 HO.out.2 (HD1.out.2.trans hT2) (fun k e => .inl (.inl e)) (fun k e => .inl (mut_same HD2.out.2.1 e))
    (HD2.out.1.put (s' := { s with bits := s.bits.drop m, size := L, extra := E, st := 8 }) hT2 (Block.set HD2.out.2.2 0 _) rfl rfl rfl rfl ⟨HD2.out.1.lb.2.2.2.1, HD2.out.1.lb.2.2.2.2⟩)⟩
set_option maxHeartbeats 2000000 in
/-- A distance's symbol. -/
theorem idist_ok {U : Nat → Prop} {w0 w : World} {b : Nat} {s : PS} (h : DecR U w0 w b s) (hf : s.fixed = true) (t : Nat) (ht : t < 30) (hF : FoundAt fixD s.bits t) (hU : ∀ q, FoundAt fixD s.bits q → q = t) :
    Calls Tryd.prog 53 #[.pointer (some ⟨b, 0, none⟩)] w fun e w' => e = .returned (.int .i64 0) ∧ DecR U w0 w' b { s with bits := s.bits.drop (fixD.getD t 0), dist := leastN 1 t + 1, extra := extN 1 t, st := 10 } := by
  obtain ⟨v5, g, v7, v8, p17, p18, hD, hown, hT⟩ := h
  have c18 : w.cell? ⟨b, 18, none⟩ = some p18 := Block.cell hD.blk 18
  have hp : ∃ a, p18 = .pointer (some a) := by
    obtain ⟨_, ⟨cb, _, _, rfl, _⟩⟩ := hD.cod hf
    exact ⟨_, rfl⟩
  obtain ⟨ca, rfl⟩ := hp
  have HN := Lib.hid (inextd_calls (hD.still (Touch.refl (fun _ => False) w).drew) hf hF hU)
  have HO := Lib.hid (⟨hown, hT⟩ : _ ∧ _)
  obtain ⟨L, hL⟩ : ∃ L, L = leastN 1 t + 1 := ⟨_, rfl⟩
  obtain ⟨E, hE⟩ : ∃ E, E = extN 1 t := ⟨_, rfl⟩
  have hdo := fun W => distof_in t W ht
  rw [← hL, ← hE] at hdo
  have HL := Lib.hid hdo
  rw [← hL, ← hE]
  clear hD hown hT hf hF hU hL hE hdo
  go_enter Tryd.func53, Tryd.ntmps53
  go_upto_region 1 with fail
  go_region_law (first
    | (go_simp; go_at_call 66; refine HN.out.mono ?_; rintro e w1 ⟨rfl, hd1, ht1⟩; have HD1 := Lib.hid (⟨hd1, (Touch.refl (fun k => k = b) w).drew.trans ht1⟩ : _ ∧ _); clear hd1 ht1))
  go_wp2_with fail
  refine (HL.out w1).mono ?_
  rintro e w2 ⟨rfl, rfl⟩
  obtain ⟨v5', g', hD1, ho⟩ := HD1.out.1
  have m22 : w1.cell? ⟨b, 22, none⟩ = some (.int .i64 (s.dist : Nat)) := Block.cell hD1.blk 22
  have g22 := Block.free hD1.blk 22
  have m23 : w1.cell? ⟨b, 23, none⟩ = some (.int .i64 (s.extra : Nat)) := Block.cell hD1.blk 23
  have g23 := Block.free hD1.blk 23
  have hB2 := Block.set (Block.set hD1.blk 22 (.int .i64 (L : Int))) 23 (.int .i64 (E : Int))
  have m0 : ((w1.setCell ⟨b, 22, none⟩ (.int .i64 (L : Int))).setCell ⟨b, 23, none⟩ (.int .i64 (E : Int))).cell? ⟨b, 0, none⟩ = some (.int .i64 (s.st : Nat)) := Block.cell hB2 0
  have g0 := Block.free hB2 0
  have HD2 := Lib.hid (⟨hD1, ho, hB2⟩ : _ ∧ _ ∧ _)
  clear hD1 ho hB2
  go_wp2_with fail
  go_ret
  have hT2 : Touch (fun k => k = b) w1 (((w1.setCell ⟨b, 22, none⟩ (.int .i64 (L : Int))).setCell ⟨b, 23, none⟩ (.int .i64 (E : Int))).setCell ⟨b, 0, none⟩ (.int .i64 10)) := (((Touch.refl (fun k => k = b) w1).setCell (p := ⟨b, 22, none⟩) (Or.inl rfl) _).setCell (p := ⟨b, 23, none⟩) (Or.inl rfl) _).setCell (p := ⟨b, 0, none⟩) (Or.inl rfl) _
  exact ⟨rfl, DecR.step HO.out.1 HO.out.2 (HD1.out.2.trans hT2) (fun k e => .inl (.inl e)) (fun k e => .inl (mut_same HD2.out.2.1 e))
    (HD2.out.1.put (s' := { s with bits := s.bits.drop (fixD.getD t 0), dist := L, extra := E, st := 10 }) hT2 (Block.set HD2.out.2.2 0 _) rfl rfl rfl rfl ⟨HD2.out.1.lb.2.2.2.1, HD2.out.1.lb.2.2.2.2⟩)⟩
end Go.Proofs.YtbbhilmkipghiaaDoor
/- Plain: the words of the fixed codes, bit by bit; which symbol is found ahead of other bits, and that none is found in a word's beginning. -/
namespace Go.Proofs.YtbbhilmkipghiaaDoor
open Go Go.RowKit
set_option maxRecDepth 100000

/-- A number in so many bits, the highest first. -/
def msb (n v : Nat) : List Nat := (List.range n).map fun i => v / 2 ^ (n - 1 - i) % 2
/-- The word of a symbol of bytes and lengths. -/
def fw (t : Nat) : List Nat := if t < 144 then msb 8 (48 + t) else if t < 256 then msb 9 (256 + t) else if t < 280 then msb 7 (t - 256) else msb 8 (t - 88)
/-- The word of a distance's symbol. -/
def fd (t : Nat) : List Nat := msb 5 t
theorem fw_word : ∀ t, t < 288 → wordH (fixW.getD t 0) (codeN fixW t) = fw t ∧ fixW.getD t 0 = (fw t).length ∧ fixW.getD t 0 ≠ 0 := by decide +kernel
theorem fd_word : ∀ t, t < 32 → wordH (fixD.getD t 0) (codeN fixD t) = fd t ∧ fixD.getD t 0 = (fd t).length ∧ fixD.getD t 0 ≠ 0 := by decide +kernel
theorem fixW_len : fixW.length = 288 := by decide +kernel
theorem fixD_len : fixD.length = 32 := by decide +kernel
def isPre : List Nat → List Nat → Bool
  | [], _ => true
  | _ :: _, [] => false
  | x :: l, y :: r => x == y && isPre l r
theorem isPre_of : ∀ (l r more : List Nat), l.length ≤ r.length → (∃ a, l ++ a = r ++ more) → isPre l r = true
  | [], _, _, _, _ => rfl
  | x :: l, [], _, h, _ => by simp at h
  | x :: l, y :: r, more, h, ⟨a, e⟩ => by
    simp only [List.cons_append, List.cons.injEq] at e
    simp only [isPre, Bool.and_eq_true, beq_iff_eq]
    exact ⟨e.1, isPre_of l r more (by simpa using h) ⟨a, e.2⟩⟩
theorem fw_free0 : (List.range 288).all (fun s => (List.range 288).all fun t => s == t || !isPre (fw s) (fw t)) = true := by decide +kernel
theorem fw_free {s t : Nat} (hs : s < 288) (ht : t < 288) (h : isPre (fw s) (fw t) = true) : s = t := by
  have h0 := List.all_eq_true.1 fw_free0 s (List.mem_range.2 hs)
  have h1 := List.all_eq_true.1 h0 t (List.mem_range.2 ht)
  simp only [h, Bool.not_true, Bool.or_false, beq_iff_eq] at h1
  exact h1
theorem fd_free0 : (List.range 32).all (fun s => (List.range 32).all fun t => s == t || !isPre (fd s) (fd t)) = true := by decide +kernel
theorem fd_free {s t : Nat} (hs : s < 32) (ht : t < 32) (h : isPre (fd s) (fd t) = true) : s = t := by
  have h0 := List.all_eq_true.1 fd_free0 s (List.mem_range.2 hs)
  have h1 := List.all_eq_true.1 h0 t (List.mem_range.2 ht)
  simp only [h, Bool.not_true, Bool.or_false, beq_iff_eq] at h1
  exact h1

/-- What holds of a list of lengths whose words are told, and none of which begins another. -/
structure Words (ls : List Nat) (N : Nat) (f : Nat → List Nat) : Prop where
  len : ls.length = N
  word : ∀ t, t < N → wordH (ls.getD t 0) (codeN ls t) = f t ∧ ls.getD t 0 = (f t).length ∧ ls.getD t 0 ≠ 0
  free : ∀ s t, s < N → t < N → isPre (f s) (f t) = true → s = t
theorem fixW_words : Words fixW 288 fw := ⟨fixW_len, fw_word, fun _ _ hs ht h => fw_free hs ht h⟩
theorem fixD_words : Words fixD 32 fd := ⟨fixD_len, fd_word, fun _ _ hs ht h => fd_free hs ht h⟩

theorem Words.found {ls : List Nat} {N : Nat} {f : Nat → List Nat} (h : Words ls N f) {t : Nat} (ht : t < N) (more : List Nat) : FoundAt ls (f t ++ more) t := by
  obtain ⟨h1, h2, h3⟩ := h.word t ht
  refine ⟨by rw [h.len]; exact ht, h3, by rw [h2]; simp, ?_⟩
  rw [h1, h2, List.take_left]
theorem Words.begins {ls : List Nat} {N : Nat} {f : Nat → List Nat} (h : Words ls N f) {t : Nat} {l : List Nat} (hf : FoundAt ls l t) : t < N ∧ ∃ a, f t ++ a = l := by
  obtain ⟨h1, h2, h3, h4⟩ := hf
  rw [h.len] at h1
  obtain ⟨k1, k2, k3⟩ := h.word t h1
  rw [k1] at h4
  exact ⟨h1, l.drop (ls.getD t 0), by rw [← h4, List.take_append_drop]⟩
theorem Words.only {ls : List Nat} {N : Nat} {f : Nat → List Nat} (h : Words ls N f) {t : Nat} (ht : t < N) (more : List Nat) : ∀ s, FoundAt ls (f t ++ more) s → s = t := by
  intro s hs
  obtain ⟨h1, a, ha⟩ := h.begins hs
  rcases Nat.le_total (f s).length (f t).length with hl | hl
  · exact h.free s t h1 ht (isPre_of _ _ more hl ⟨a, ha⟩)
  · exact (h.free t s ht h1 (isPre_of _ _ a hl ⟨more, ha.symm⟩)).symm
theorem Words.cut {ls : List Nat} {N : Nat} {f : Nat → List Nat} (h : Words ls N f) {t : Nat} (ht : t < N) {p q : List Nat} (hp : p ++ q = f t) (hq : q ≠ []) : (∀ s, ¬ FoundAt ls p s) ∧ ComesAt ls p := by
  obtain ⟨k1, k2, k3⟩ := h.word t ht
  have hql : 0 < q.length := List.length_pos_iff.2 hq
  have hlen : (f t).length = p.length + q.length := by rw [← hp, List.length_append]
  refine ⟨fun s hs => ?_, t, by rw [h.len]; exact ht, k3, by omega, by rw [k1, ← hp, List.take_left]⟩
  obtain ⟨h1, a, ha⟩ := h.begins hs
  have hl : (f s).length ≤ (f t).length := by
    have e := congrArg List.length ha
    rw [List.length_append] at e
    omega
  have e := h.free s t h1 ht (isPre_of _ _ [] hl ⟨a ++ q, by rw [List.append_nil, ← hp, ← ha, List.append_assoc]⟩)
  subst e
  have e := congrArg List.length ha
  rw [List.length_append] at e
  omega
end Go.Proofs.YtbbhilmkipghiaaDoor
/- A decoder: readDistBits. -/
namespace Go.Proofs.YtbbhilmkipghiaaDoor
open Go Go.RowKit
set_option maxRecDepth 100000

set_option maxHeartbeats 2000000 in
theorem idb_more {U : Nat → Prop} {w0 w : World} {b : Nat} {s : PS} (h : DecR U w0 w b s) (he : s.extra ≤ 32) (hl : s.bits.length < s.extra) : Calls Tryd.prog 54 #[.pointer (some ⟨b, 0, none⟩)] w fun e w' => e = .returned (.int .i64 2) ∧ DecR U w0 w' b s := by
  obtain ⟨v5, g, v7, v8, p17, p18, hD, hown, hT⟩ := h
  have HR := Lib.hid (read_less b 5 s.extra s.bits _ w.drew (rd_at (hD.still (Touch.refl _ _).drew).blk (hD.still (Touch.refl _ _).drew).rd hD.ap.1) (by omega) he hl)
  have c23 : w.cell? ⟨b, 23, none⟩ = some (.int .i64 (s.extra : Nat)) := Block.cell hD.blk 23
  have HD := Lib.hid (show DecR U w0 w b s from ⟨v5, g, v7, v8, p17, p18, hD, hown, hT⟩)
  clear hD hown hT hl he
  go_enter Tryd.func54, Tryd.ntmps54
  go_upto_region 1 with fail
  go_region_law (first
    | (go_simp; go_at_call 43; refine HR.out.mono ?_; rintro e w1 ⟨rfl, rfl⟩))
  go_wp2_with fail
  go_ret
  exact ⟨rfl, HD.out.still ((Touch.refl _ _).drew.drew)⟩

theorem copyL_len (n d : Nat) (l : List UInt8) : (copyL n d l).length = l.length + n := by
  induction n generalizing l with
  | zero => rfl
  | succ n ih => unfold copyL; rw [ih, List.length_append]; simp; omega

/-- What each operation of readDistBits leaves, from its window's call on. -/
def dbI (b size dist N : Nat) (T : ByteArray) (i : Nat) (v : Value) (_ : World) : Prop := match i with
  | 0 => v = .pointer (some ⟨b, 0, none⟩)
  | 1 => v = .pointer (some ⟨b, 0, none⟩)
  | 2 => v = .pointer (some ⟨b, 8, none⟩)
  | 3 => v = .pointer (some ⟨b, 0, none⟩)
  | 4 => v = .pointer (some ⟨b, 0, none⟩)
  | 5 => v = .pointer (some ⟨b, 21, none⟩)
  | 6 => v = .int .i64 (size : Nat)
  | 7 => v = .pointer (some ⟨b, 0, none⟩)
  | 8 => v = .pointer (some ⟨b, 0, none⟩)
  | 9 => v = .pointer (some ⟨b, 22, none⟩)
  | 10 => v = .int .i64 (dist : Nat)
  | 11 => v = .int .u64 (N : Nat)
  | 12 => v = .int .i64 (N : Nat)
  | 13 => v = .int .i64 ((dist : Int) + (N : Int))
  | 14 => v = .tuple #[.string T, .bool true]
  | 15 => v = .tuple #[.string T, .bool true]
  | 16 => v = .string T
  | 17 => v = .bool true
  | 18 => v = .string T
  | 19 => v = .bool true
  | _ => True
theorem dbI_keep {b size dist N : Nat} {T : ByteArray} {W W' : World} : ∀ j v, dbI b size dist N T j v W → dbI b size dist N T j v W' := by
  intro j v h
  match j, h with
  | 0, h => exact h
  | 1, h => exact h
  | 2, h => exact h
  | 3, h => exact h
  | 4, h => exact h
  | 5, h => exact h
  | 6, h => exact h
  | 7, h => exact h
  | 8, h => exact h
  | 9, h => exact h
  | 10, h => exact h
  | 11, h => exact h
  | 12, h => exact h
  | 13, h => exact h
  | 14, h => exact h
  | 15, h => exact h
  | 16, h => exact h
  | 17, h => exact h
  | 18, h => exact h
  | 19, h => exact h
  | _ + 20, _ => trivial
def dbC (φ : TypeId × (Nat → Option Value)) (w : World) (b : Nat) (row : Option Nat) (A : List UInt8) (ls : Array Bool) (W : World) : Prop := (ls.getD 14 true = false → Touch (fun _ => False) w W) ∧ (ls.getD 14 true = true → WinOut φ w W b 8 row A)
theorem dbC_other {φ : TypeId × (Nat → Option Value)} {w : World} {b : Nat} {row : Option Nat} {A : List UInt8} {ls : Array Bool} {W : World} (h : dbC φ w b row A ls W) {i : Nat} (hi : i ≠ 14) : dbC φ w b row A (ls.setIfInBounds i true) W := by
  obtain ⟨h1, h2⟩ := h
  have hb : (i == 14) = false := by simpa using hi
  refine ⟨fun e => ?_, fun e => ?_⟩
  · rw [getD_set4, hb, Bool.or_false] at e
    exact h1 e
  · rw [getD_set4, hb, Bool.or_false] at e
    exact h2 e

theorem WinOut.from_still {φ : TypeId × (Nat → Option Value)} {w0 w w' : World} {b o : Nat} {row : Option Nat} {A : List UInt8} (h : WinOut φ w w' b o row A) (ht : Touch (fun _ => False) w0 w) : WinOut φ w0 w' b o row A := by
  obtain ⟨r, h1, h2, h3⟩ := h
  have hsz := ht.size
  refine ⟨r, h1, ?_, (ht.mono (fun _ e => e.elim)).trans h3⟩
  rcases h2 with h2 | ⟨q, hq, hge⟩
  · exact .inl h2
  · exact .inr ⟨q, hq, by omega⟩
set_option maxHeartbeats 4000000 in
/-- A match whose bytes are there. -/
theorem idb_ok {U : Nat → Prop} {w0 w : World} {b : Nat} {s : PS} (h : DecR U w0 w b s) (he : s.extra ≤ 16) (hl : s.extra ≤ s.bits.length) (N : Nat) (hN : N = numN (s.bits.take s.extra)) (hN2 : N < 65536) (hdd : s.dist < 65536) (hs : s.size ≤ 258) (h1 : 1 ≤ s.dist + N) (h2 : s.dist + N ≤ min s.all.length 32768)
    (hz : s.out.length < 999999000 ∧ s.all.length < 999999000) (A : List UInt8) (hA : A = copyL s.size (s.dist + N) s.all) :
    Calls Tryd.prog 54 #[.pointer (some ⟨b, 0, none⟩)] w fun e w' => e = .returned (.int .i64 0) ∧ DecR U w0 w' b { s with bits := s.bits.drop s.extra, all := A, out := s.out ++ A.drop s.all.length, st := 7 } := by
  obtain ⟨v5, g, v7, v8, p17, p18, hD, hown, hT⟩ := h
  have hread := read_some b 5 s.extra s.bits _ w.drew (rd_at (hD.still (Touch.refl _ _).drew).blk (hD.still (Touch.refl _ _).drew).rd hD.ap.1) (by have := hD.lb.1; omega) (by omega) hl
  rw [← hN] at hread
  have HR := Lib.hid hread
  have c23 : w.cell? ⟨b, 23, none⟩ = some (.int .i64 (s.extra : Nat)) := Block.cell hD.blk 23
  have HD := Lib.hid hD
  have HO := Lib.hid (⟨hown, hT⟩ : _ ∧ _)
  have HA := Lib.hid (⟨hA, hs, h1, h2, hz⟩ : _ ∧ _ ∧ _ ∧ _ ∧ _)
  obtain ⟨i0, hi, hz0, hz1, hz2⟩ := info_parts Tryd.info5
  clear hread hD hown hT hl hN hA hs h1 h2 hz
  go_enter Tryd.func54, Tryd.ntmps54
  go_upto_region 1 with fail
  go_region_law (first
    | (go_simp; go_at_call 43; refine HR.out.mono ?_; rintro e w1 ⟨rfl, hR1, hT1⟩; have HD1 := Lib.hid (⟨hR1, (Touch.refl (fun k => k = b) w).drew.trans hT1⟩ : _ ∧ _); clear hR1 hT1))
  go_upto_region 4 with fail
  obtain ⟨v5', g', hD1, ho⟩ := HD.out.read HD1.out.1 HD1.out.2 ⟨s.extra, rfl⟩
  have m21 : w1.cell? ⟨b, 21, none⟩ = some (.int .i64 (s.size : Nat)) := Block.cell hD1.blk 21
  have m22 : w1.cell? ⟨b, 22, none⟩ = some (.int .i64 (s.dist : Nat)) := Block.cell hD1.blk 22
  obtain ⟨size, hsz⟩ : ∃ n, n = s.size := ⟨_, rfl⟩
  obtain ⟨dist, hds⟩ : ∃ n, n = s.dist := ⟨_, rfl⟩
  have hcopy := fun W (hW : Touch (fun _ => False) w1 W) => copy_win b 8 s.size (s.dist + N) s.all _ W (win_at (hD1.still hW).blk (hD1.still hW).win (hD1.still hW).ap.2.2.1) HA.out.2.1 HA.out.2.2.1 HA.out.2.2.2.1 (by have := HA.out.2.2.2.2.2; omega)
  rw [← HA.out.1, show ((s.dist + N : Nat) : Int) = (s.dist : Int) + (N : Int) by omega, ← hsz, ← hds] at hcopy
  obtain ⟨T, hTT⟩ : ∃ T : ByteArray, T = ⟨(A.drop s.all.length).toArray⟩ := ⟨_, rfl⟩
  rw [← hTT] at hcopy
  have HTT := Lib.hid hTT
  have HC := Lib.hid hcopy
  have c21 : ∀ W, Touch (fun _ => False) w1 W → W.cell? ⟨b, 21, none⟩ = some (.int .i64 (size : Nat)) := fun W hW => by rw [hsz]; exact Block.cell (hD1.still hW).blk 21
  have c22 : ∀ W, Touch (fun _ => False) w1 W → W.cell? ⟨b, 22, none⟩ = some (.int .i64 (dist : Nat)) := fun W hW => by rw [hds]; exact Block.cell (hD1.still hW).blk 22
  have HCE := Lib.hid (⟨c21, c22⟩ : _ ∧ _)
  have HD2 := Lib.hid (⟨hD1, ho⟩ : _ ∧ _)
  have hdd2 : dist < 65536 := by omega
  clear hD1 ho hcopy hTT c21 c22 m21 m22 hsz hds hdd
  refine wp_region_inv5 (dbC (70, fun i => (decL { s with bits := s.bits.drop s.extra } v5' g' v7 v8 p17 p18)[i]?) w1 b v8.ownBlock A) (dbI b size dist N T) (by kernel_rfl) (by kernel_rfl) (by kernel_rfl) ⟨fun _ => (Touch.refl _ _).drew, (fun e => by simp at e)⟩ ?_ ?_
  · intro i o hio ls a W hun hcl hdl hC hbase hkeep hdone
    have hlt9 := op_lt hio
    obtain ⟨hbd, hbs, hbb⟩ := hbase
    have b0 : a.tmps[0]?.getD undef = .pointer (some ⟨b, 0, none⟩) := by rw [(hbb 0 (noDst_spec (by kernel_rfl)))]; rfl
    have b3 : a.tmps[3]?.getD undef = .int .u64 (N : Nat) := by rw [(hbb 3 (noDst_spec (by kernel_rfl)))]; rfl
    rcases (by simp at hlt9; omega : i = 0 ∨ i = 1 ∨ i = 2 ∨ i = 3 ∨ i = 4 ∨ i = 5 ∨ i = 6 ∨ i = 7 ∨ i = 8 ∨ i = 9 ∨ i = 10 ∨ i = 11 ∨ i = 12 ∨ i = 13 ∨ i = 14 ∨ i = 15 ∨ i = 16 ∨ i = 17 ∨ i = 18 ∨ i = 19) with rfl | rfl | rfl | rfl | rfl | rfl | rfl | rfl | rfl | rfl | rfl | rfl | rfl | rfl | rfl | rfl | rfl | rfl | rfl | rfl
    · simp only [List.getElem?_toArray, List.getElem?_cons_zero, Option.some.injEq] at hio
      subst hio
      refine ⟨rfl, ?_⟩
      refine r4_val (v := .pointer (some ⟨b, 0, none⟩)) ?_ ⟨_, rfl, rfl, dbC_other hC (by decide), fun _ _ h => dbI_keep _ _ h⟩
      simp [execOp, Act.eval, b0]
    · simp only [List.getElem?_toArray, List.getElem?_cons_zero, List.getElem?_cons_succ, Option.some.injEq] at hio
      subst hio
      have t20 : a.tmps[20]?.getD undef = .pointer (some ⟨b, 0, none⟩) := by simpa [valOf, dbI] using hdone 0 _ rfl (r4_edge 0 (by kernel_rfl) hdl)
      refine ⟨rfl, ?_⟩
      refine r4_val (v := .pointer (some ⟨b, 0, none⟩)) ?_ ⟨_, rfl, rfl, dbC_other hC (by decide), fun _ _ h => dbI_keep _ _ h⟩
      simp [execOp, Act.eval, t20]
      try go_simp
    · simp only [List.getElem?_toArray, List.getElem?_cons_zero, List.getElem?_cons_succ, Option.some.injEq] at hio
      subst hio
      have t21 : a.tmps[21]?.getD undef = .pointer (some ⟨b, 0, none⟩) := by simpa [valOf, dbI] using hdone 1 _ rfl (r4_edge 1 (by kernel_rfl) hdl)
      refine ⟨rfl, ?_⟩
      refine r4_val (v := .pointer (some ⟨b, 8, none⟩)) ?_ ⟨_, rfl, rfl, dbC_other hC (by decide), fun _ _ h => dbI_keep _ _ h⟩
      simp [execOp, Act.eval, t21]
      try go_simp
    · simp only [List.getElem?_toArray, List.getElem?_cons_zero, List.getElem?_cons_succ, Option.some.injEq] at hio
      subst hio
      refine ⟨rfl, ?_⟩
      refine r4_val (v := .pointer (some ⟨b, 0, none⟩)) ?_ ⟨_, rfl, rfl, dbC_other hC (by decide), fun _ _ h => dbI_keep _ _ h⟩
      simp [execOp, Act.eval, b0]
    · simp only [List.getElem?_toArray, List.getElem?_cons_zero, List.getElem?_cons_succ, Option.some.injEq] at hio
      subst hio
      have t23 : a.tmps[23]?.getD undef = .pointer (some ⟨b, 0, none⟩) := by simpa [valOf, dbI] using hdone 3 _ rfl (r4_edge 3 (by kernel_rfl) hdl)
      refine ⟨rfl, ?_⟩
      refine r4_val (v := .pointer (some ⟨b, 0, none⟩)) ?_ ⟨_, rfl, rfl, dbC_other hC (by decide), fun _ _ h => dbI_keep _ _ h⟩
      simp [execOp, Act.eval, t23]
      try go_simp
    · simp only [List.getElem?_toArray, List.getElem?_cons_zero, List.getElem?_cons_succ, Option.some.injEq] at hio
      subst hio
      have t24 : a.tmps[24]?.getD undef = .pointer (some ⟨b, 0, none⟩) := by simpa [valOf, dbI] using hdone 4 _ rfl (r4_edge 4 (by kernel_rfl) hdl)
      refine ⟨rfl, ?_⟩
      refine r4_val (v := .pointer (some ⟨b, 21, none⟩)) ?_ ⟨_, rfl, rfl, dbC_other hC (by decide), fun _ _ h => dbI_keep _ _ h⟩
      simp [execOp, Act.eval, t24]
      try go_simp
    · simp only [List.getElem?_toArray, List.getElem?_cons_zero, List.getElem?_cons_succ, Option.some.injEq] at hio
      subst hio
      have t25 : a.tmps[25]?.getD undef = .pointer (some ⟨b, 21, none⟩) := by simpa [valOf, dbI] using hdone 5 _ rfl (r4_edge 5 (by kernel_rfl) hdl)
      refine ⟨rfl, ?_⟩
      have hl14 : ls.getD 14 true = false := by
        cases hls : ls.getD 14 true with
        | false => rfl
        | true => exact absurd (r4_edge 6 (by kernel_rfl) (hcl 14 _ rfl hls)) (by rw [hun]; decide)
      have hcell := HCE.out.1 W (hC.1 hl14)
      refine r4_val (v := .int .i64 (size : Nat)) ?_ ⟨_, rfl, rfl, dbC_other hC (by decide), fun _ _ h => dbI_keep _ _ h⟩
      simp [execOp, Act.eval, t25]
      go_simp
    · simp only [List.getElem?_toArray, List.getElem?_cons_zero, List.getElem?_cons_succ, Option.some.injEq] at hio
      subst hio
      refine ⟨rfl, ?_⟩
      refine r4_val (v := .pointer (some ⟨b, 0, none⟩)) ?_ ⟨_, rfl, rfl, dbC_other hC (by decide), fun _ _ h => dbI_keep _ _ h⟩
      simp [execOp, Act.eval, b0]
    · simp only [List.getElem?_toArray, List.getElem?_cons_zero, List.getElem?_cons_succ, Option.some.injEq] at hio
      subst hio
      have t27 : a.tmps[27]?.getD undef = .pointer (some ⟨b, 0, none⟩) := by simpa [valOf, dbI] using hdone 7 _ rfl (r4_edge 7 (by kernel_rfl) hdl)
      refine ⟨rfl, ?_⟩
      refine r4_val (v := .pointer (some ⟨b, 0, none⟩)) ?_ ⟨_, rfl, rfl, dbC_other hC (by decide), fun _ _ h => dbI_keep _ _ h⟩
      simp [execOp, Act.eval, t27]
      try go_simp
    · simp only [List.getElem?_toArray, List.getElem?_cons_zero, List.getElem?_cons_succ, Option.some.injEq] at hio
      subst hio
      have t28 : a.tmps[28]?.getD undef = .pointer (some ⟨b, 0, none⟩) := by simpa [valOf, dbI] using hdone 8 _ rfl (r4_edge 8 (by kernel_rfl) hdl)
      refine ⟨rfl, ?_⟩
      refine r4_val (v := .pointer (some ⟨b, 22, none⟩)) ?_ ⟨_, rfl, rfl, dbC_other hC (by decide), fun _ _ h => dbI_keep _ _ h⟩
      simp [execOp, Act.eval, t28]
      try go_simp
    · simp only [List.getElem?_toArray, List.getElem?_cons_zero, List.getElem?_cons_succ, Option.some.injEq] at hio
      subst hio
      have t29 : a.tmps[29]?.getD undef = .pointer (some ⟨b, 22, none⟩) := by simpa [valOf, dbI] using hdone 9 _ rfl (r4_edge 9 (by kernel_rfl) hdl)
      refine ⟨rfl, ?_⟩
      have hl14 : ls.getD 14 true = false := by
        cases hls : ls.getD 14 true with
        | false => rfl
        | true => exact absurd (r4_edge 10 (by kernel_rfl) (hcl 13 _ rfl (r4_edge 13 (by kernel_rfl) (hcl 14 _ rfl hls)))) (by rw [hun]; decide)
      have hcell := HCE.out.2 W (hC.1 hl14)
      refine r4_val (v := .int .i64 (dist : Nat)) ?_ ⟨_, rfl, rfl, dbC_other hC (by decide), fun _ _ h => dbI_keep _ _ h⟩
      simp [execOp, Act.eval, t29]
      go_simp
    · simp only [List.getElem?_toArray, List.getElem?_cons_zero, List.getElem?_cons_succ, Option.some.injEq] at hio
      subst hio
      refine ⟨rfl, ?_⟩
      refine r4_val (v := .int .u64 (N : Nat)) ?_ ⟨_, rfl, rfl, dbC_other hC (by decide), fun _ _ h => dbI_keep _ _ h⟩
      simp [execOp, Act.eval, b3]
    · simp only [List.getElem?_toArray, List.getElem?_cons_zero, List.getElem?_cons_succ, Option.some.injEq] at hio
      subst hio
      have t31 : a.tmps[31]?.getD undef = .int .u64 (N : Nat) := by simpa [valOf, dbI] using hdone 11 _ rfl (r4_edge 11 (by kernel_rfl) hdl)
      refine ⟨rfl, ?_⟩
      refine r4_val (v := .int .i64 (N : Nat)) ?_ ⟨_, rfl, rfl, dbC_other hC (by decide), fun _ _ h => dbI_keep _ _ h⟩
      simp [execOp, Act.eval, t31]
      go_simp
      exact IntWalk.i64_in _ (by omega)
    · simp only [List.getElem?_toArray, List.getElem?_cons_zero, List.getElem?_cons_succ, Option.some.injEq] at hio
      subst hio
      have t30 : a.tmps[30]?.getD undef = .int .i64 (dist : Nat) := by simpa [valOf, dbI] using hdone 10 _ rfl (r4_edge 10 (by kernel_rfl) hdl)
      have t32 : a.tmps[32]?.getD undef = .int .i64 (N : Nat) := by simpa [valOf, dbI] using hdone 12 _ rfl (r4_edge 12 (by kernel_rfl) hdl)
      refine ⟨rfl, ?_⟩
      refine r4_val (v := .int .i64 ((dist : Int) + (N : Int))) ?_ ⟨_, rfl, rfl, dbC_other hC (by decide), fun _ _ h => dbI_keep _ _ h⟩
      simp [execOp, Act.eval, t30, t32]
      go_simp
      exact IntWalk.i64_in _ (by omega)
    · simp only [List.getElem?_toArray, List.getElem?_cons_zero, List.getElem?_cons_succ, Option.some.injEq] at hio
      subst hio
      have t22 : a.tmps[22]?.getD undef = .pointer (some ⟨b, 8, none⟩) := by simpa [valOf, dbI] using hdone 2 _ rfl (r4_edge 2 (by kernel_rfl) hdl)
      have t26 : a.tmps[26]?.getD undef = .int .i64 (size : Nat) := by simpa [valOf, dbI] using hdone 6 _ rfl (r4_edge 6 (by kernel_rfl) hdl)
      have t33 : a.tmps[33]?.getD undef = .int .i64 ((dist : Int) + (N : Int)) := by simpa [valOf, dbI] using hdone 13 _ rfl (r4_edge 13 (by kernel_rfl) hdl)
      refine ⟨rfl, ?_⟩
      refine r4_call (R := fun r W' => r = .tuple #[.string T, .bool true] ∧ WinOut (70, fun i => (decL { s with bits := s.bits.drop s.extra } v5' g' v7 v8 p17 p18)[i]?) w1 W' b 8 v8.ownBlock A) (f := 71) (args := #[.pointer (some ⟨b, 8, none⟩), .int .i64 (size : Nat), .int .i64 ((dist : Int) + (N : Int))]) ?_ ((HC.out W (hC.1 hun)).mono fun e W' h => ⟨_, h.1, (⟨rfl, h.2.from_still (hC.1 hun)⟩ : (_ : Value) = .tuple #[.string T, .bool true] ∧ _)⟩) (fun v W' hw => ⟨_, rfl, hw.1, ⟨(fun e => by rw [getD_set4] at e; simp at e), fun _ => hw.2⟩, fun _ _ h => dbI_keep _ _ h⟩)
      simp [execOp, resolve, invoke, Act.eval, t22, t26, t33]
      try rfl
    · simp only [List.getElem?_toArray, List.getElem?_cons_zero, List.getElem?_cons_succ, Option.some.injEq] at hio
      subst hio
      have t34 : a.tmps[34]?.getD undef = .tuple #[.string T, .bool true] := by simpa [valOf, dbI] using hdone 14 _ rfl (r4_edge 14 (by kernel_rfl) hdl)
      refine ⟨rfl, ?_⟩
      refine r4_val (v := .tuple #[.string T, .bool true]) ?_ ⟨_, rfl, rfl, dbC_other hC (by decide), fun _ _ h => dbI_keep _ _ h⟩
      simp [execOp, Act.eval, t34]
      try go_simp
    · simp only [List.getElem?_toArray, List.getElem?_cons_zero, List.getElem?_cons_succ, Option.some.injEq] at hio
      subst hio
      have t19 : a.tmps[19]?.getD undef = .tuple #[.string T, .bool true] := by simpa [valOf, dbI] using hdone 15 _ rfl (r4_edge 15 (by kernel_rfl) hdl)
      refine ⟨rfl, ?_⟩
      refine r4_val (v := .string T) ?_ ⟨_, rfl, rfl, dbC_other hC (by decide), fun _ _ h => dbI_keep _ _ h⟩
      simp [execOp, Act.eval, t19]
      try go_simp
    · simp only [List.getElem?_toArray, List.getElem?_cons_zero, List.getElem?_cons_succ, Option.some.injEq] at hio
      subst hio
      have t19 : a.tmps[19]?.getD undef = .tuple #[.string T, .bool true] := by simpa [valOf, dbI] using hdone 15 _ rfl (r4_edge 15 (by kernel_rfl) hdl)
      refine ⟨rfl, ?_⟩
      refine r4_val (v := .bool true) ?_ ⟨_, rfl, rfl, dbC_other hC (by decide), fun _ _ h => dbI_keep _ _ h⟩
      simp [execOp, Act.eval, t19]
      try go_simp
    · simp only [List.getElem?_toArray, List.getElem?_cons_zero, List.getElem?_cons_succ, Option.some.injEq] at hio
      subst hio
      have t35 : a.tmps[35]?.getD undef = .string T := by simpa [valOf, dbI] using hdone 16 _ rfl (r4_edge 16 (by kernel_rfl) hdl)
      refine ⟨rfl, ?_⟩
      refine r4_val (v := .string T) ?_ ⟨_, rfl, rfl, dbC_other hC (by decide), fun _ _ h => dbI_keep _ _ h⟩
      simp [execOp, Act.eval, t35]
      try go_simp
    · simp only [List.getElem?_toArray, List.getElem?_cons_zero, List.getElem?_cons_succ, Option.some.injEq] at hio
      subst hio
      have t36 : a.tmps[36]?.getD undef = .bool true := by simpa [valOf, dbI] using hdone 17 _ rfl (r4_edge 17 (by kernel_rfl) hdl)
      refine ⟨rfl, ?_⟩
      refine r4_val (v := .bool true) ?_ ⟨_, rfl, rfl, dbC_other hC (by decide), fun _ _ h => dbI_keep _ _ h⟩
      simp [execOp, Act.eval, t36]
      try go_simp
  · intro ls a W hall hC hbase hdone
    have HW2 := Lib.hid (hC.2 (hall 14 (by decide)))
    have h4 : a.tmps[4]?.getD undef = .bool true := by simpa [valOf, dbI] using hdone 19 _ rfl
    have h5 : a.tmps[5]?.getD undef = .string T := by simpa [valOf, dbI] using hdone 18 _ rfl
    have hact := act_lit hbase [4, 5, 19, 20, 21, 22, 23, 24, 25, 26, 27, 28, 29, 30, 31, 32, 33, 34, 35, 36] (by decide) (by kernel_rfl)
    obtain ⟨v19x, h19⟩ : ∃ v, a.tmps[19]?.getD undef = v := ⟨_, rfl⟩
    obtain ⟨v20x, h20⟩ : ∃ v, a.tmps[20]?.getD undef = v := ⟨_, rfl⟩
    obtain ⟨v21x, h21⟩ : ∃ v, a.tmps[21]?.getD undef = v := ⟨_, rfl⟩
    obtain ⟨v22x, h22⟩ : ∃ v, a.tmps[22]?.getD undef = v := ⟨_, rfl⟩
    obtain ⟨v23x, h23⟩ : ∃ v, a.tmps[23]?.getD undef = v := ⟨_, rfl⟩
    obtain ⟨v24x, h24⟩ : ∃ v, a.tmps[24]?.getD undef = v := ⟨_, rfl⟩
    obtain ⟨v25x, h25⟩ : ∃ v, a.tmps[25]?.getD undef = v := ⟨_, rfl⟩
    obtain ⟨v26x, h26⟩ : ∃ v, a.tmps[26]?.getD undef = v := ⟨_, rfl⟩
    obtain ⟨v27x, h27⟩ : ∃ v, a.tmps[27]?.getD undef = v := ⟨_, rfl⟩
    obtain ⟨v28x, h28⟩ : ∃ v, a.tmps[28]?.getD undef = v := ⟨_, rfl⟩
    obtain ⟨v29x, h29⟩ : ∃ v, a.tmps[29]?.getD undef = v := ⟨_, rfl⟩
    obtain ⟨v30x, h30⟩ : ∃ v, a.tmps[30]?.getD undef = v := ⟨_, rfl⟩
    obtain ⟨v31x, h31⟩ : ∃ v, a.tmps[31]?.getD undef = v := ⟨_, rfl⟩
    obtain ⟨v32x, h32⟩ : ∃ v, a.tmps[32]?.getD undef = v := ⟨_, rfl⟩
    obtain ⟨v33x, h33⟩ : ∃ v, a.tmps[33]?.getD undef = v := ⟨_, rfl⟩
    obtain ⟨v34x, h34⟩ : ∃ v, a.tmps[34]?.getD undef = v := ⟨_, rfl⟩
    obtain ⟨v35x, h35⟩ : ∃ v, a.tmps[35]?.getD undef = v := ⟨_, rfl⟩
    obtain ⟨v36x, h36⟩ : ∃ v, a.tmps[36]?.getD undef = v := ⟨_, rfl⟩
    clear hall hdone hC hbase
    dsimp only [layL, Nat.reduceAdd, Nat.reduceBEq, cond_true, cond_false] at hact
    simp only [h4, h5, h19, h20, h21, h22, h23, h24, h25, h26, h27, h28, h29, h30, h31, h32, h33, h34, h35, h36] at hact
    clear h4 h5 h19 h20 h21 h22 h23 h24 h25 h26 h27 h28 h29 h30 h31 h32 h33 h34 h35 h36
    subst hact
    dsimp only [Exit.inBlock, Exit.then]
    go_upto_region 7 with fail
    obtain ⟨row', hW2, hS2, hT2⟩ := HW2.out
    obtain ⟨v8', hD2, hM2⟩ := HD2.out.1.putw hW2 hS2 hT2 (by rw [HA.out.1, copyL_len]; have := HA.out.2; omega)
    have hM2' : ∀ k, Mut b v5' v7 v8' k → Mut b v5' v7 v8 k ∨ w1.heap.size ≤ k := hM2
    have hT2' : Touch (fun k => k = b ∨ v8.ownBlock = some k) w1 W := hT2
    have c7 : W.cell? ⟨b, 7, none⟩ = some v7 := Block.cell hD2.blk 7
    have f7 := Block.free hD2.blk 7
    have HD3 := Lib.hid (⟨hD2, hM2', hT2'⟩ : _ ∧ _ ∧ _)
    have HBL := Lib.hid hD2.blk.lt
    have HROW : Hid (Row W 5 v7 (byteVs s.out)) := Lib.hid hD2.out
    have HNB : Hid (v7.ownBlock ≠ some b) := Lib.hid hD2.ap.2.1
    have HTL : Hid (T.size ≤ 258) := Lib.hid (by
      rw [HTT.out]
      show (A.drop s.all.length).toArray.size ≤ 258
      rw [List.size_toArray, List.length_drop, HA.out.1, copyL_len]
      have := HA.out.2.1; omega)
    clear hW2 hS2 hT2 hD2 hM2 hM2' hT2' HC HW2
    go_wp2_with (at_builtin; refine wpList_append_row _ rfl (.tmp 43) (.tmp 44) 24 9 rfl 5 i0 _ 1 Tryd.underlying24 hi hz0 hz1 hz2 rfl v7 (byteVs s.out) rfl HROW.out (.string T) rfl T.size (byteCells T) (Src.ofString _ Tryd.underlying9 T) (by rw [byteVs_length]; unfold maxLen; have := HTL.out; have := HA.out.2.2.2.2.1; omega) (by rw [byteVs_length]; have := HTL.out; have := HA.out.2.2.2.2.1; omega) ?_; intro v9 w4 hrow4 hgrow4 hown4; obtain ⟨a9, c9, hv9, hc91, hc92⟩ := hrow4.form; subst hv9; have hB4 : w4.heap[b]? = W.heap[b]? := hgrow4.block b HBL.out (fun e => HNB.out e.symm); have g7 := (World.cell?_of_block (a := ⟨b, 7, none⟩) hB4).trans c7; have e7 := (World.frozen?_of_block (a := ⟨b, 7, none⟩) hB4).trans f7; have hBl4 : Block w4 b 70 _ := hB4.trans HD3.out.1.blk; have m0 : ∀ x, (w4.setCell ⟨b, 7, none⟩ x).cell? ⟨b, 0, none⟩ = some (.int .i64 (s.st : Nat)) := fun x => Block.cell (Block.set hBl4 7 x) 0; have f0 : ∀ x, (w4.setCell ⟨b, 7, none⟩ x).frozen? ⟨b, 0, none⟩ = false := fun x => Block.free (Block.set hBl4 7 x) 0; have HG := Lib.hid (⟨hrow4, hgrow4, hown4⟩ : _ ∧ _ ∧ _); clear hrow4 hgrow4 hown4 hBl4)
    go_ret
    obtain ⟨hg1, hg2, hg3⟩ := HG.out
    rw [List.length_append] at hg1 hg3
    have hT24 : Touch (fun q => v7.ownBlock = some q) W w4 := (Touch.refl (fun q => v7.ownBlock = some q) W).grown hg2 (fun q hq => .inl hq)
    have hTb : T.data.toList = A.drop s.all.length := by rw [HTT.out]
    have hrow : Row w4 5 (.slice a9 ((byteVs s.out).length + (byteCells T).length) c9) (byteVs (s.out ++ A.drop s.all.length)) := by
      rw [byteVs_append, ← hTb]
      exact hg1
    obtain ⟨hD5, hM5⟩ := HD3.out.1.told' hrow (fun q hq => by
      rcases hg3 with e | e
      · exact .inl (by rw [← e]; exact hq)
      · right
        have e9 := e.symm.trans hq
        have h8 := Option.some.inj e9
        rw [← h8]
        exact Nat.le_refl _) hT24 (fun q e => .inl e) (by rw [List.length_append, List.length_drop, HA.out.1, copyL_len]; have := HA.out.2; omega)
    have hT5 : Touch (fun q => v7.ownBlock = some q ∨ q = b) W ((w4.setCell ⟨b, 7, none⟩ (.slice a9 ((byteVs s.out).length + (byteCells T).length) c9)).setCell ⟨b, 0, none⟩ (.int .i64 7)) := ((hT24.mono (fun q e => .inl e)).setCell (p := ⟨b, 7, none⟩) (Or.inl (Or.inr rfl)) _).setCell (p := ⟨b, 0, none⟩) (Or.inl (Or.inr rfl)) _
    have hD6 := hD5.put (s' := { s with bits := s.bits.drop s.extra, all := A, out := s.out ++ A.drop s.all.length, st := 7 }) ((Touch.refl (fun k => k = b) _).setCell (p := ⟨b, 0, none⟩) (Or.inl rfl) (.int .i64 7)) (Block.set hD5.blk 0 _) rfl rfl rfl rfl ⟨hD5.lb.2.2.2.1, hD5.lb.2.2.2.2⟩
    obtain ⟨o1, t1⟩ := own_step (v5' := v5') (v7' := v7) (v8' := v8) HO.out.1 HO.out.2 HD1.out.2 (fun k e => .inl (.inl e)) (fun k e => .inl (mut_same HD2.out.2 e))
    obtain ⟨o2, t2⟩ := own_step (v5' := v5') (v7' := v7) (v8' := v8') o1 t1 HD3.out.2.2 (fun k e => by
      rcases e with e | e
      · exact .inl (.inl e)
      · exact .inl (.inr (.inr (.inr e)))) HD3.out.2.1
    refine ⟨rfl, DecR.step (S := fun q => v7.ownBlock = some q ∨ q = b) o2 t2 hT5 (fun q e => ?_) hM5 hD6⟩
    rcases e with e | e
    · exact .inl (.inr (.inr (.inl e)))
    · exact .inl (.inl e)
end Go.Proofs.YtbbhilmkipghiaaDoor
/- A decoder: run through the parts that are there; Feed of a piece. -/
namespace Go.Proofs.YtbbhilmkipghiaaDoor
open Go Go.RowKit
set_option maxRecDepth 100000

/-- As many parts as are there, and then one that isn't. -/
theorem run_parts {U : Nat → Prop} {w0 w : World} {b : Nat} (n : Nat) (S : Nat → PS) (h : DecR U w0 w b (S 0)) (hne : ∀ i, i ≤ n → (S i).st < 11)
    (hstep : ∀ i, i < n → ∀ W, DecR U w0 W b (S i) → Calls Tryd.prog 38 #[.pointer (some ⟨b, 0, none⟩)] W fun e w' => e = .returned (.int .i64 0) ∧ DecR U w0 w' b (S (i + 1)))
    (hlast : ∀ W, DecR U w0 W b (S n) → Calls Tryd.prog 38 #[.pointer (some ⟨b, 0, none⟩)] W fun e w' => e = .returned (.int .i64 2) ∧ DecR U w0 w' b (S n)) :
    Calls Tryd.prog 30 #[.pointer (some ⟨b, 0, none⟩)] w fun e w' => e = .returned (.int .i64 2) ∧ DecR U w0 w' b (S n) := by
  have HS := Lib.hid hstep
  have HE := Lib.hid (⟨hlast, hne⟩ : _ ∧ _)
  have H0 := Lib.hid h
  clear hstep hlast hne h
  go_enter Tryd.func30, Tryd.ntmps30
  go_wp2_with fail
  go_loopg [] n (fun g wr => g ≤ n ∧ RowKit.Hid (DecR U w0 wr b (S (n - g))))
  case atStart => exact ⟨Nat.le_refl _, by rw [Nat.sub_self]; exact H0⟩
  case round =>
    clear H0
    obtain ⟨hg, HD⟩ := hrel
    have c0 := HD.out.cell0
    have hlt := HE.out.2 (n - gk) (by omega)
    have hnI : ¬ (((S (n - gk)).st : Nat) : Int) = 11 := by omega
    rcases Nat.eq_zero_or_pos gk with h0 | h0
    · subst h0
      rw [Nat.sub_zero] at HD
      have HP := Lib.hid (HE.out.1 wr HD.out)
      generalize (S (n - 0)).st = q at c0 hlt hnI
      clear HD
      go_wp2_with fail
      refine HP.out.mono ?_
      rintro e w' ⟨rfl, hD⟩
      have HD := Lib.hid hD
      clear hD
      go_wp2_with fail
      go_ret
      exact ⟨rfl, HD.out⟩
    · have HP := Lib.hid (HS.out (n - gk) (by omega) wr HD.out)
      rw [show n - gk + 1 = n - (gk - 1) by omega] at HP
      generalize (S (n - gk)).st = q at c0 hlt hnI
      clear HD
      go_wp2_with fail
      refine HP.out.mono ?_
      rintro e w' ⟨rfl, hD⟩
      have HD := Lib.hid hD
      clear hD
      go_wp2_with fail
      go_roundg (gk - 1)
      case measure => omega
      case rel => exact ⟨by omega, HD⟩

set_option maxHeartbeats 2000000 in
theorem ifeed_part {U : Nat → Prop} {w0 w : World} {b : Nat} {s : PS} (h : DecR U w0 w b s) (hst : s.st < 11) (t : ByteArray) (s2 : PS) (hz : s.bits.length + 8 * t.size < 1000000000) (hz2 : s.came + t.size < 1000000000) (hz3 : s2.told + s2.out.length < 1000000000)
    (hrun : ∀ W, DecR U w0 W b { s with came := s.came + t.size, bits := s.bits ++ bitsL t.data.toList } → Calls Tryd.prog 30 #[.pointer (some ⟨b, 0, none⟩)] W fun e w' => e = .returned (.int .i64 2) ∧ DecR U w0 w' b s2) :
    Calls Tryd.prog 19 #[.pointer (some ⟨b, 0, none⟩), .string t] w fun e w' => e = .returned (.tuple #[.string ⟨s2.out.toArray⟩, .int .i64 0]) ∧ DecR U w0 w' b { s2 with out := [], told := s2.told + s2.out.length } := by
  obtain ⟨c1, c2, _, hf, _⟩ := h.cells
  have f2 := hf 2
  have hadd : (s.came : Int) + (t.size : Int) = ((s.came + t.size : Nat) : Int) := by omega
  obtain ⟨N, hN⟩ : ∃ N, N = s.came + t.size := ⟨_, rfl⟩
  rw [← hN] at hadd hrun hz2
  have HA := Lib.hid (h.set2 N hz2)
  have HR := Lib.hid hrun
  have HZ := Lib.hid (⟨hz, hz3⟩ : _ ∧ _)
  have HST := Lib.hid hst
  obtain ⟨n, hn⟩ : ∃ n, n = s2.out.length := ⟨_, rfl⟩
  obtain ⟨S, hS⟩ : ∃ S : ByteArray, S = ⟨s2.out.toArray⟩ := ⟨_, rfl⟩
  have hSz : S.size = n := by rw [hS, hn]; rfl
  rw [← hS]
  obtain ⟨M, hM⟩ : ∃ M, M = s2.told + n := ⟨_, rfl⟩
  rw [← hn, ← hM]
  have hadd3 : (s2.told : Int) + (n : Int) = (M : Int) := by omega
  have hMz : M < 1000000000 := by omega
  have hnz : n < 1000000000 := by omega
  have HS := Lib.hid (⟨hS, hMz⟩ : _ ∧ _)
  clear h hf hrun hN hz hz3 hst hn hS hM hMz
  go_enter Tryd.func19, Tryd.ntmps19
  go_wp2_with fail
  refine (idone_run HA.out.cell0 HST.out).mono ?_
  rintro e w1 ⟨rfl, rfl⟩
  generalize w.setCell ⟨b, 2, none⟩ (.int .i64 (N : Nat)) = w1 at HA ⊢
  go_wp2_with fail
  refine (feed_dec HA.out t HZ.out.1).mono ?_
  rintro e w2 ⟨rfl, hD2⟩
  have HD2 := Lib.hid hD2
  clear hD2
  go_wp2_with fail
  refine (HR.out w2 HD2.out).mono ?_
  rintro e w3 ⟨rfl, hD3⟩
  obtain ⟨e1, _, e3, hf3, v7, e7, hrow⟩ := hD3.cells
  obtain ⟨hb1, _, hb3⟩ := hD3.bounds
  have f7 := hf3 7
  have f3 := hf3 3
  have hcv := run_bytes_row (P := Tryd.prog) w3 24 5 9 Tryd.underlying24 Tryd.underlying5 Tryd.underlying9 hrow
  rw [← HS.out.1] at hcv
  have HE := Lib.hid (hD3.set7.set3 M HS.out.2)
  clear hD3 hf3 hrow
  go_wp2_with fail
  refine (settle_more _ _).mono ?_
  rintro e w4 ⟨rfl, rfl⟩
  generalize (w3.setCell ⟨b, 7, none⟩ (.slice none 0 0)).setCell ⟨b, 3, none⟩ (.int .i64 (M : Nat)) = w4 at HE ⊢
  have k1 := HE.out.cells.1
  go_wp2_with fail
  go_region
  go_wp2_with fail
  go_ret2
  exact ⟨rfl, HE.out.still (Touch.refl _ _).drew⟩
end Go.Proofs.YtbbhilmkipghiaaDoor
/- A decoder: a part by its state; what a part does where all its bits are there, and where they are not. -/
namespace Go.Proofs.YtbbhilmkipghiaaDoor
open Go Go.RowKit
set_option maxRecDepth 100000

theorem part_8 {w : World} {b : Nat} (h0 : w.cell? ⟨b, 0, none⟩ = some (.int .i64 8)) {r : Int} {Q : World → Prop}
    (hc : Calls Tryd.prog 52 #[.pointer (some ⟨b, 0, none⟩)] w fun e w' => e = .returned (.int .i64 r) ∧ Q w') :
    Calls Tryd.prog 38 #[.pointer (some ⟨b, 0, none⟩)] w fun e w' => e = .returned (.int .i64 r) ∧ Q w' := by
  have HC := Lib.hid hc
  clear hc
  go_enter Tryd.func38, Tryd.ntmps38
  go_wp2_with fail
  refine HC.out.mono ?_
  rintro e w' ⟨rfl, hq⟩
  have HQ := Lib.hid hq
  clear hq
  go_wp2_with fail
  go_ret
  exact ⟨rfl, HQ.out⟩
theorem part_9 {w : World} {b : Nat} (h0 : w.cell? ⟨b, 0, none⟩ = some (.int .i64 9)) {r : Int} {Q : World → Prop}
    (hc : Calls Tryd.prog 53 #[.pointer (some ⟨b, 0, none⟩)] w fun e w' => e = .returned (.int .i64 r) ∧ Q w') :
    Calls Tryd.prog 38 #[.pointer (some ⟨b, 0, none⟩)] w fun e w' => e = .returned (.int .i64 r) ∧ Q w' := by
  have HC := Lib.hid hc
  clear hc
  go_enter Tryd.func38, Tryd.ntmps38
  go_wp2_with fail
  refine HC.out.mono ?_
  rintro e w' ⟨rfl, hq⟩
  have HQ := Lib.hid hq
  clear hq
  go_wp2_with fail
  go_ret
  exact ⟨rfl, HQ.out⟩
theorem part_10 {w : World} {b : Nat} (h0 : w.cell? ⟨b, 0, none⟩ = some (.int .i64 10)) {r : Int} {Q : World → Prop}
    (hc : Calls Tryd.prog 54 #[.pointer (some ⟨b, 0, none⟩)] w fun e w' => e = .returned (.int .i64 r) ∧ Q w') :
    Calls Tryd.prog 38 #[.pointer (some ⟨b, 0, none⟩)] w fun e w' => e = .returned (.int .i64 r) ∧ Q w' := by
  have HC := Lib.hid hc
  clear hc
  go_enter Tryd.func38, Tryd.ntmps38
  go_wp2_with fail
  refine HC.out.mono ?_
  rintro e w' ⟨rfl, hq⟩
  have HQ := Lib.hid hq
  clear hq
  go_wp2_with fail
  go_ret
  exact ⟨rfl, HQ.out⟩
/-- A decoder's state by what its part asks, and by what was fed and told. -/
def psAt (c : PS) (came told : Nat) (out : List UInt8) (l : List Nat) : PS := { c with came := came, told := told, out := out, bits := l }
/-- A part whose bits are all there leads on, and tells so much. -/
def StepOk (c : PS) (bs : List Nat) (c' : PS) (o : List UInt8) : Prop := ∀ (U : Nat → Prop) (w0 W : World) (b came told : Nat) (out : List UInt8) (more : List Nat), out.length < 900000000 → DecR U w0 W b (psAt c came told out (bs ++ more)) →
  Calls Tryd.prog 38 #[.pointer (some ⟨b, 0, none⟩)] W fun e w' => e = .returned (.int .i64 0) ∧ DecR U w0 w' b (psAt c' came told (out ++ o) more)
/-- One whose bits aren't all there waits. -/
def CutOk (c : PS) (bs : List Nat) : Prop := ∀ (U : Nat → Prop) (w0 W : World) (b came told : Nat) (out : List UInt8) (p q : List Nat), p ++ q = bs → q ≠ [] → DecR U w0 W b (psAt c came told out p) →
  Calls Tryd.prog 38 #[.pointer (some ⟨b, 0, none⟩)] W fun e w' => e = .returned (.int .i64 2) ∧ DecR U w0 w' b (psAt c came told out p)

theorem proper {p q bs : List Nat} (h : p ++ q = bs) (hq : q ≠ []) : p.length < bs.length := by
  have := List.length_pos_iff.2 hq
  rw [← h, List.length_append]; omega

/-- The three bits of a fixed block. -/
theorem step_block {c : PS} (h0 : c.st = 0) (hf : c.fixed = false) {x0 : Nat} : StepOk c [x0, 1, 0] { c with last := x0 == 1, fixed := true, st := 7 } [] := by
  intro U w0 W b came told out more _ hD
  rw [List.append_nil]
  have c0 := hD.cell0
  have h1 : (psAt c came told out ([x0, 1, 0] ++ more)).st = 0 := h0
  rw [h1] at c0
  exact part_0 c0 (iblock_fixed hD (x0 := x0) (l := more) rfl hf)
theorem cut_block {c : PS} (h0 : c.st = 0) {x0 : Nat} : CutOk c [x0, 1, 0] := by
  intro U w0 W b came told out p q hp hq hD
  have c0 := hD.cell0
  have h1 : (psAt c came told out p).st = 0 := h0
  rw [h1] at c0
  exact part_0 c0 (iblock_more hD (proper hp hq))
theorem fw_sz {t : Nat} (ht : t < 288) : fixW.getD t 0 = (fw t).length := (fw_word t ht).2.1
/-- A byte. -/
theorem step_lit {c : PS} (h0 : c.st = 7) (hf : c.fixed = true) (x : UInt8) (ha : c.all.length < 900000000) : StepOk c (fw x.toNat) { c with all := c.all ++ [x] } [x] := by
  intro U w0 W b came told out more ho hD
  have c0 := hD.cell0
  have h1 : (psAt c came told out (fw x.toNat ++ more)).st = 7 := h0
  rw [h1] at c0
  have hx : x.toNat < 288 := by have := x.toNat_lt; omega
  have h := isym_lit hD hf x (fw x.toNat).length (fw_sz hx) (fixW_words.found hx more) (fixW_words.only hx more) ⟨by show out.length < _; omega, by show c.all.length < _; omega⟩
  have e : (psAt c came told out (fw x.toNat ++ more)).bits.drop (fw x.toNat).length = more := List.drop_left
  rw [e] at h
  exact part_7 c0 h
theorem cut_sym {c : PS} (h0 : c.st = 7) (hf : c.fixed = true) {t : Nat} (ht : t < 288) : CutOk c (fw t) := by
  intro U w0 W b came told out p q hp hq hD
  have c0 := hD.cell0
  have h1 : (psAt c came told out p).st = 7 := h0
  rw [h1] at c0
  obtain ⟨hno, hco⟩ := fixW_words.cut ht hp hq
  exact part_7 c0 (isym_more hD hf hno hco)
/-- The block's end. -/
theorem step_end {c : PS} (h0 : c.st = 7) (hf : c.fixed = true) : StepOk c (fw 256) { c with st := if c.last then 11 else 0 } [] := by
  intro U w0 W b came told out more _ hD
  rw [List.append_nil]
  have c0 := hD.cell0
  have h1 : (psAt c came told out (fw 256 ++ more)).st = 7 := h0
  rw [h1] at c0
  have h := isym_end hD hf (fixW_words.found (by decide) more) (fixW_words.only (by decide) more)
  have e7 : (fw 256).length = 7 := rfl
  have e : (psAt c came told out (fw 256 ++ more)).bits.drop 7 = more := by rw [← e7]; exact List.drop_left
  rw [e] at h
  exact part_7 c0 h
/-- A length's symbol, and its bits. -/
theorem step_len {c : PS} (h0 : c.st = 7) (hf : c.fixed = true) {t : Nat} (ht : t < 29) : StepOk c (fw (257 + t)) { c with size := lenL t, extra := lenE t, st := 8 } [] := by
  intro U w0 W b came told out more _ hD
  rw [List.append_nil]
  have c0 := hD.cell0
  have h1 : (psAt c came told out (fw (257 + t) ++ more)).st = 7 := h0
  rw [h1] at c0
  have hx : 257 + t < 288 := by omega
  have h := isym_len hD hf t ht (fw (257 + t)).length (fw_sz hx) (fixW_words.found hx more) (fixW_words.only hx more)
  have e : (psAt c came told out (fw (257 + t) ++ more)).bits.drop (fw (257 + t)).length = more := List.drop_left
  rw [e] at h
  exact part_7 c0 h
theorem num_small {l : List Nat} (h : ∀ x ∈ l, x < 2) (h16 : l.length ≤ 16) (hl : l.length < 16) : numN l < 65536 := by
  have h1 := numN_lt l h
  have h2 : 2 ^ l.length ≤ 2 ^ 15 := Nat.pow_le_pow_right (by decide) (by omega)
  omega
theorem step_lbits {c : PS} (h0 : c.st = 8) {bs : List Nat} (hb : bs.length = c.extra) (hb2 : ∀ x ∈ bs, x < 2) (he : c.extra < 16) (hz : c.size ≤ 65536) : StepOk c bs { c with size := c.size + numN bs, st := 9 } [] := by
  intro U w0 W b came told out more _ hD
  rw [List.append_nil]
  have c0 := hD.cell0
  have h1 : (psAt c came told out (bs ++ more)).st = 8 := h0
  rw [h1] at c0
  have et : (psAt c came told out (bs ++ more)).bits.take (psAt c came told out (bs ++ more)).extra = bs := by show (bs ++ more).take c.extra = bs; rw [← hb]; exact List.take_left
  have ed : (psAt c came told out (bs ++ more)).bits.drop (psAt c came told out (bs ++ more)).extra = more := by show (bs ++ more).drop c.extra = more; rw [← hb]; exact List.drop_left
  have h := ilen_ok hD (by show c.extra ≤ 16; omega) hz (by show c.extra ≤ (bs ++ more).length; rw [List.length_append]; omega) (numN bs) (by rw [et]) (num_small hb2 (by omega) (by omega))
  rw [ed] at h
  exact part_8 c0 h
theorem cut_lbits {c : PS} (h0 : c.st = 8) {bs : List Nat} (hb : bs.length = c.extra) (he : c.extra < 16) : CutOk c bs := by
  intro U w0 W b came told out p q hp hq hD
  have c0 := hD.cell0
  have h1 : (psAt c came told out p).st = 8 := h0
  rw [h1] at c0
  exact part_8 c0 (ilen_more hD (by show c.extra ≤ 32; omega) (by have := proper hp hq; show p.length < c.extra; omega))
/-- A distance's symbol, and its bits. -/
theorem step_dist {c : PS} (h0 : c.st = 9) (hf : c.fixed = true) {t : Nat} (ht : t < 30) : StepOk c (fd t) { c with dist := leastN 1 t + 1, extra := extN 1 t, st := 10 } [] := by
  intro U w0 W b came told out more _ hD
  rw [List.append_nil]
  have c0 := hD.cell0
  have h1 : (psAt c came told out (fd t ++ more)).st = 9 := h0
  rw [h1] at c0
  have hx : t < 32 := by omega
  have h := idist_ok hD hf t ht (fixD_words.found hx more) (fixD_words.only hx more)
  have e : (psAt c came told out (fd t ++ more)).bits.drop (fixD.getD t 0) = more := by rw [(fd_word t hx).2.1]; exact List.drop_left
  rw [e] at h
  exact part_9 c0 h
theorem cut_dist {c : PS} (h0 : c.st = 9) (hf : c.fixed = true) {t : Nat} (ht : t < 32) : CutOk c (fd t) := by
  intro U w0 W b came told out p q hp hq hD
  have c0 := hD.cell0
  have h1 : (psAt c came told out p).st = 9 := h0
  rw [h1] at c0
  obtain ⟨hno, hco⟩ := fixD_words.cut ht hp hq
  exact part_9 c0 (idist_more hD hf hno hco)
theorem step_dbits {c : PS} (h0 : c.st = 10) {bs : List Nat} (hb : bs.length = c.extra) (hb2 : ∀ x ∈ bs, x < 2) (he : c.extra < 16) (hdd : c.dist < 65536) (hs : c.size ≤ 258) (h1d : 1 ≤ c.dist + numN bs) (h2d : c.dist + numN bs ≤ min c.all.length 32768) (ha : c.all.length < 900000000) :
    StepOk c bs { c with all := copyL c.size (c.dist + numN bs) c.all, st := 7 } ((copyL c.size (c.dist + numN bs) c.all).drop c.all.length) := by
  intro U w0 W b came told out more ho hD
  have c0 := hD.cell0
  have h1 : (psAt c came told out (bs ++ more)).st = 10 := h0
  rw [h1] at c0
  have et : (psAt c came told out (bs ++ more)).bits.take (psAt c came told out (bs ++ more)).extra = bs := by show (bs ++ more).take c.extra = bs; rw [← hb]; exact List.take_left
  have ed : (psAt c came told out (bs ++ more)).bits.drop (psAt c came told out (bs ++ more)).extra = more := by show (bs ++ more).drop c.extra = more; rw [← hb]; exact List.drop_left
  have h := idb_ok hD (by show c.extra ≤ 16; omega) (by show c.extra ≤ (bs ++ more).length; rw [List.length_append]; omega) (numN bs) (by rw [et]) (num_small hb2 (by omega) (by omega)) hdd hs h1d h2d ⟨by show out.length < _; omega, by show c.all.length < _; omega⟩ (copyL c.size (c.dist + numN bs) c.all) rfl
  rw [ed] at h
  exact part_10 c0 h
theorem cut_dbits {c : PS} (h0 : c.st = 10) {bs : List Nat} (hb : bs.length = c.extra) (he : c.extra < 16) : CutOk c bs := by
  intro U w0 W b came told out p q hp hq hD
  have c0 := hD.cell0
  have h1 : (psAt c came told out p).st = 10 := h0
  rw [h1] at c0
  exact part_10 c0 (idb_more hD (by show c.extra ≤ 32; omega) (by have := proper hp hq; show p.length < c.extra; omega))
end Go.Proofs.YtbbhilmkipghiaaDoor
/- A decoder: a chain of parts, fed in any pieces. -/
namespace Go.Proofs.YtbbhilmkipghiaaDoor
open Go Go.RowKit
set_option maxRecDepth 100000

/-- So many parts' bits, from one on. -/
def flat (bs : Nat → List Nat) : Nat → Nat → List Nat
  | _, 0 => []
  | i, k + 1 => bs i ++ flat bs (i + 1) k
/-- What so many parts tell, from one on. -/
def tl (o : Nat → List UInt8) (i : Nat) : Nat → List UInt8
  | 0 => []
  | k + 1 => tl o i k ++ o (i + k)
theorem flat_cut (bs : Nat → List Nat) : ∀ (k i : Nat) (B y tail : List Nat), B ++ y = flat bs i k ++ tail →
    (∃ j r q, j < k ∧ B = flat bs i j ++ r ∧ r ++ q = bs (i + j) ∧ q ≠ []) ∨ (∃ t', B = flat bs i k ++ t' ∧ t' ++ y = tail)
  | 0, i, B, y, tail, h => .inr ⟨B, rfl, h⟩
  | k + 1, i, B, y, tail, h => by
    have h' : B ++ y = bs i ++ (flat bs (i + 1) k ++ tail) := by rw [h]; simp [flat]
    rcases List.append_eq_append_iff.1 h' with ⟨a, h1, h2⟩ | ⟨c, h1, h2⟩
    · by_cases ha : a = []
      · subst ha
        rw [List.append_nil] at h1
        rcases flat_cut bs k (i + 1) [] y tail (by rw [List.nil_append] at h2 ⊢; exact h2) with ⟨j, r, q, hj, hB, hr, hq⟩ | ⟨t', hB, ht⟩
        · exact .inl ⟨j + 1, r, q, by omega, by show B = bs i ++ flat bs (i + 1) j ++ r; rw [List.append_assoc, ← hB, List.append_nil, h1], by rw [hr]; congr 1; omega, hq⟩
        · exact .inr ⟨t', by show B = bs i ++ flat bs (i + 1) k ++ t'; rw [List.append_assoc, ← hB, List.append_nil, h1], ht⟩
      · exact .inl ⟨0, B, a, by omega, rfl, h1.symm, ha⟩
    · rcases flat_cut bs k (i + 1) c y tail h2.symm with ⟨j, r, q, hj, hB, hr, hq⟩ | ⟨t', hB, ht⟩
      · exact .inl ⟨j + 1, r, q, by omega, by show B = bs i ++ flat bs (i + 1) j ++ r; rw [h1, hB, List.append_assoc], by rw [hr]; congr 1; omega, hq⟩
      · exact .inr ⟨t', by show B = bs i ++ flat bs (i + 1) k ++ t'; rw [h1, hB, List.append_assoc], ht⟩

/-- Parts that lead to a stream's end. -/
structure Chain (n : Nat) (c : Nat → PS) (bs : Nat → List Nat) (o : Nat → List UInt8) : Prop where
  step : ∀ i, i < n → StepOk (c i) (bs i) (c (i + 1)) (o i)
  cut : ∀ i, i < n → CutOk (c i) (bs i)
  st : ∀ i, i < n → (c i).st < 11
  fin : (c n).st = 11

theorem flat_next (bs : Nat → List Nat) {i j k : Nat} (h : k < j) : flat bs (i + k) (j - k) = bs (i + k) ++ flat bs (i + (k + 1)) (j - (k + 1)) := by
  rw [show j - k = (j - (k + 1)) + 1 by omega]
  rfl
theorem Chain.run_wait {n : Nat} {c : Nat → PS} {bs : Nat → List Nat} {o : Nat → List UInt8} (h : Chain n c bs o) {U : Nat → Prop} {w0 w : World} {b came told i j : Nat} {r q : List Nat} (hj : i + j < n) (hr : r ++ q = bs (i + j)) (hq : q ≠ []) (ho : ∀ k, k ≤ j → (tl o i k).length < 900000000)
    (hD : DecR U w0 w b (psAt (c i) came told [] (flat bs i j ++ r))) :
    Calls Tryd.prog 30 #[.pointer (some ⟨b, 0, none⟩)] w fun e w' => e = .returned (.int .i64 2) ∧ DecR U w0 w' b (psAt (c (i + j)) came told (tl o i j) r) := by
  have key := run_parts (U := U) (w0 := w0) (w := w) (b := b) j (fun k => psAt (c (i + k)) came told (tl o i k) (flat bs (i + k) (j - k) ++ r)) hD (fun k hk => h.st (i + k) (by omega)) (fun k hk W hW => ?_) (fun W hW => ?_)
  · rw [show j - j = 0 by omega] at key
    exact key
  · try dsimp only at hW
    rw [flat_next bs hk, List.append_assoc] at hW
    exact h.step (i + k) (by omega) U w0 W b came told (tl o i k) _ (ho k (by omega)) hW
  · try dsimp only at hW ⊢
    rw [show j - j = 0 by omega] at hW ⊢
    exact h.cut (i + j) hj U w0 W b came told (tl o i j) r q hr hq hW
theorem Chain.run_end {n : Nat} {c : Nat → PS} {bs : Nat → List Nat} {o : Nat → List UInt8} (h : Chain n c bs o) {U : Nat → Prop} {w0 w : World} {b came told i j : Nat} {t : List Nat} (hj : i + j = n) (ho : ∀ k, k ≤ j → (tl o i k).length < 900000000)
    (hD : DecR U w0 w b (psAt (c i) came told [] (flat bs i j ++ t))) :
    Calls Tryd.prog 30 #[.pointer (some ⟨b, 0, none⟩)] w fun e w' => e = .returned (.int .i64 0) ∧ DecR U w0 w' b (psAt (c n) came told (tl o i j) t) := by
  have key := run_steps (U := U) (w0 := w0) (w := w) (b := b) j (fun k => psAt (c (i + k)) came told (tl o i k) (flat bs (i + k) (j - k) ++ t)) hD (by show (c (i + j)).st = 11; rw [hj]; exact h.fin) (fun k hk => h.st (i + k) (by omega)) (fun k hk W hW => ?_)
  · rw [show j - j = 0 by omega, hj] at key
    exact key
  · try dsimp only at hW
    rw [flat_next bs hk, List.append_assoc] at hW
    exact h.step (i + k) (by omega) U w0 W b came told (tl o i k) _ (ho k (by omega)) hW

/-- A piece of the stream: what it tells, and where the decoder is then. -/
theorem Chain.feed {n : Nat} {c : Nat → PS} {bs : Nat → List Nat} {o : Nat → List UInt8} (h : Chain n c bs o) {U : Nat → Prop} {w0 w : World} {b came told i : Nat} {r y tail : List Nat} (t : ByteArray) (hi : i < n) (ho : ∀ k, k ≤ n - i → (tl o i k).length < 900000000)
    (hy : (r ++ bitsL t.data.toList) ++ y = flat bs i (n - i) ++ tail) (hz : r.length + 8 * t.size < 1000000000) (hc : came + t.size < 1000000000) (ht : ∀ k, k ≤ n - i → told + (tl o i k).length < 1000000000)
    (hD : DecR U w0 w b (psAt (c i) came told [] r)) :
    Calls Tryd.prog 19 #[.pointer (some ⟨b, 0, none⟩), .string t] w fun e w' =>
      (∃ j r' q, i + j < n ∧ r ++ bitsL t.data.toList = flat bs i j ++ r' ∧ r' ++ q = bs (i + j) ∧ q ≠ [] ∧ e = .returned (.tuple #[.string ⟨(tl o i j).toArray⟩, .int .i64 0]) ∧ DecR U w0 w' b (psAt (c (i + j)) (came + t.size) (told + (tl o i j).length) [] r')) ∨
      (∃ t', r ++ bitsL t.data.toList = flat bs i (n - i) ++ t' ∧ t' ++ y = tail ∧ e = .returned (.tuple #[.string ⟨(tl o i (n - i)).toArray⟩, .int .i64 0]) ∧ DecE w' b (came + t.size) (told + (tl o i (n - i)).length) (bytesL (t'.drop (t'.length % 8))) ∧ Touch U w0 w') := by
  rcases flat_cut bs (n - i) i _ y tail hy with ⟨j, r', q, hj, hB, hr, hq⟩ | ⟨t', hB, hyt⟩
  · have hf := ifeed_part hD (h.st i hi) t (psAt (c (i + j)) (came + t.size) told (tl o i j) r') hz hc (ht j (by omega)) (fun W hW => by
      have hW' : DecR U w0 W b (psAt (c i) (came + t.size) told [] (flat bs i j ++ r')) := by rw [← hB]; exact hW
      exact h.run_wait (by omega) hr hq (fun k hk => ho k (by omega)) hW')
    exact hf.mono fun e w' hw => .inl ⟨j, r', q, by omega, hB, hr, hq, hw.1, hw.2⟩
  · have hf := ifeed_end hD (h.st i hi) t (psAt (c n) (came + t.size) told (tl o i (n - i)) t') hz hc (ht (n - i) (Nat.le_refl _)) (fun W hW => by
      have hW' : DecR U w0 W b (psAt (c i) (came + t.size) told [] (flat bs i (n - i) ++ t')) := by rw [← hB]; exact hW
      exact h.run_end (by omega) (fun k hk => ho k (by omega)) hW')
    exact hf.mono fun e w' hw => .inr ⟨t', hB, hyt, hw.1, hw.2.1, hw.2.2⟩
end Go.Proofs.YtbbhilmkipghiaaDoor
/- Plain: the parts of a fixed block that tells some tokens, as a chain. -/
namespace Go.Proofs.YtbbhilmkipghiaaDoor
open Go Go.RowKit
set_option maxRecDepth 100000

inductive ChainL : PS → List (PS × List Nat × List UInt8) → PS → Prop
  | nil (c : PS) : c.st = 11 → ChainL c [] c
  | cons (c : PS) (bs : List Nat) (o : List UInt8) (c' : PS) (L : List (PS × List Nat × List UInt8)) (cN : PS) : c.st < 11 → StepOk c bs c' o → CutOk c bs → ChainL c' L cN → ChainL c ((c, bs, o) :: L) cN
def cOf (L : List (PS × List Nat × List UInt8)) (cN : PS) (i : Nat) : PS := ((L[i]?).map (·.1)).getD cN
def bOf (L : List (PS × List Nat × List UInt8)) (i : Nat) : List Nat := ((L[i]?).map (·.2.1)).getD []
def oOf (L : List (PS × List Nat × List UInt8)) (i : Nat) : List UInt8 := ((L[i]?).map (·.2.2)).getD []
theorem ChainL.first {c cN : PS} {L : List (PS × List Nat × List UInt8)} (h : ChainL c L cN) : cOf L cN 0 = c := by
  cases h <;> rfl
theorem ChainL.chain {c cN : PS} {L : List (PS × List Nat × List UInt8)} (h : ChainL c L cN) : Chain L.length (cOf L cN) (bOf L) (oOf L) := by
  induction h with
  | nil c h => exact ⟨fun i hi => by simp at hi, fun i hi => by simp at hi, fun i hi => by simp at hi, h⟩
  | cons c bs o c' L cN h1 h2 h3 h4 ih =>
    refine ⟨fun i hi => ?_, fun i hi => ?_, fun i hi => ?_, ih.fin⟩
    · cases i with
      | zero =>
        have e : cOf ((c, bs, o) :: L) cN (0 + 1) = c' := h4.first
        rw [e]
        exact h2
      | succ i => exact ih.step i (by simpa using hi)
    · cases i with
      | zero => exact h3
      | succ i => exact ih.cut i (by simpa using hi)
    · cases i with
      | zero => exact h1
      | succ i => exact ih.st i (by simpa using hi)
theorem flat_shift (x : PS × List Nat × List UInt8) (L : List (PS × List Nat × List UInt8)) : ∀ k i, flat (bOf (x :: L)) (i + 1) k = flat (bOf L) i k
  | 0, _ => rfl
  | k + 1, i => by
    show bOf (x :: L) (i + 1) ++ flat (bOf (x :: L)) (i + 1 + 1) k = bOf L i ++ flat (bOf L) (i + 1) k
    rw [flat_shift x L k (i + 1)]
    rfl
theorem flat_all : ∀ L : List (PS × List Nat × List UInt8), flat (bOf L) 0 L.length = (L.map (·.2.1)).flatten
  | [] => rfl
  | x :: L => by
    show bOf (x :: L) 0 ++ flat (bOf (x :: L)) (0 + 1) L.length = _
    rw [flat_shift x L L.length 0, flat_all L]
    rfl
theorem tl_add (o : Nat → List UInt8) (i : Nat) : ∀ k j, tl o i (k + j) = tl o i k ++ tl o (i + k) j
  | k, 0 => by simp [tl]
  | k, j + 1 => by
    show tl o i (k + j) ++ o (i + (k + j)) = tl o i k ++ (tl o (i + k) j ++ o (i + k + j))
    rw [tl_add o i k j, List.append_assoc, Nat.add_assoc]
theorem tl_shift (x : PS × List Nat × List UInt8) (L : List (PS × List Nat × List UInt8)) (i : Nat) : ∀ k, tl (oOf (x :: L)) (i + 1) k = tl (oOf L) i k
  | 0 => rfl
  | k + 1 => by
    show tl (oOf (x :: L)) (i + 1) k ++ oOf (x :: L) (i + 1 + k) = tl (oOf L) i k ++ oOf L (i + k)
    rw [tl_shift x L i k, show i + 1 + k = (i + k) + 1 by omega]
    rfl
theorem tl_all : ∀ L : List (PS × List Nat × List UInt8), tl (oOf L) 0 L.length = (L.map (·.2.2)).flatten
  | [] => rfl
  | x :: L => by
    rw [List.length_cons, Nat.add_comm, tl_add, tl_shift x L 0 L.length, tl_all L]
    rfl

/-- A token, with the symbols of its length and its distance. -/
inductive Tk
  | lit (x : UInt8)
  | mat (n d s t : Nat)
def Tk.ok (have' : Nat) : Tk → Prop
  | .lit _ => True
  | .mat n d s t => s < 29 ∧ t < 30 ∧ lenL s ≤ n ∧ n - lenL s < 2 ^ lenE s ∧ n ≤ 258 ∧ leastN 1 t + 1 ≤ d ∧ d - (leastN 1 t + 1) < 2 ^ extN 1 t ∧ d ≤ 32768 ∧ d ≤ have'
def Tk.bits : Tk → List Nat
  | .lit x => fw x.toNat
  | .mat n d s t => fw (257 + s) ++ (bitsN (lenE s) (n - lenL s) ++ (fd t ++ bitsN (extN 1 t) (d - (leastN 1 t + 1))))
def Tk.next (all : List UInt8) : Tk → List UInt8
  | .lit x => all ++ [x]
  | .mat n d _ _ => copyL n d all
def OkAll : List UInt8 → List Tk → Prop
  | _, [] => True
  | all, t :: l => t.ok all.length ∧ OkAll (t.next all) l
def nextL : List UInt8 → List Tk → List UInt8
  | all, [] => all
  | all, t :: l => nextL (t.next all) l
theorem lenE_lt (s : Nat) (h : s < 29) : lenE s < 16 ∧ lenL s ≤ 65536 := by
  have : ∀ s, s < 29 → lenE s < 16 ∧ lenL s ≤ 65536 := by decide +kernel
  exact this s h
theorem extN_lt (t : Nat) (h : t < 30) : extN 1 t < 16 ∧ leastN 1 t + 1 < 65536 := by
  have : ∀ s, s < 30 → extN 1 s < 16 ∧ leastN 1 s + 1 < 65536 := by decide +kernel
  exact this t h
theorem copyL_pre (n d : Nat) : ∀ l, ∃ e, copyL n d l = l ++ e ∧ e.length = n := by
  induction n with
  | zero => exact fun l => ⟨[], by simp [copyL], rfl⟩
  | succ n ih =>
    intro l
    obtain ⟨e, h1, h2⟩ := ih (l ++ [l.getD (l.length - d) 0])
    exact ⟨[l.getD (l.length - d) 0] ++ e, by rw [copyL, h1, List.append_assoc], by simp [h2]⟩
theorem tok_chain : ∀ (ts : List Tk) (c : PS), c.st = 7 → c.fixed = true → c.last = true → OkAll c.all ts → c.all.length + 258 * ts.length < 900000000 →
    ∃ L cN, ChainL c L cN ∧ (L.map (·.2.1)).flatten = (ts.map Tk.bits).flatten ++ fw 256 ∧ c.all ++ (L.map (·.2.2)).flatten = nextL c.all ts
  | [], c, h0, hf, hl, _, _ => by
    refine ⟨[(c, fw 256, [])], { c with st := 11 }, .cons c (fw 256) [] { c with st := 11 } [] _ (by rw [h0]; decide) ?_ (cut_sym h0 hf (by decide)) (.nil _ rfl), by simp, by simp [nextL]⟩
    have h := step_end h0 hf
    have e : (if c.last = true then 11 else 0) = 11 := if_pos hl
    rw [e] at h
    exact h
  | .lit x :: ts, c, h0, hf, hl, hok, hz => by
    simp only [List.length_cons] at hz
    obtain ⟨L, cN, h1, h2, h3⟩ := tok_chain ts { c with all := c.all ++ [x] } h0 hf hl hok.2 (by simp; omega)
    refine ⟨(c, fw x.toNat, [x]) :: L, cN, .cons _ _ _ _ _ _ (by rw [h0]; decide) (step_lit h0 hf x (by omega)) (cut_sym h0 hf (by have := x.toNat_lt; omega)) h1, ?_, ?_⟩
    · simp only [List.map_cons, List.flatten_cons, h2, Tk.bits, List.append_assoc]
    · have h3' : (c.all ++ [x]) ++ (L.map (·.2.2)).flatten = nextL (c.all ++ [x]) ts := h3
      simp only [List.map_cons, List.flatten_cons, nextL, Tk.next]
      rw [← h3', List.append_assoc]
  | .mat n d s t :: ts, c, h0, hf, hl, hok, hz => by
    simp only [List.length_cons] at hz
    obtain ⟨⟨k1, k2, k3, k4, k5, k6, k7, k8, k9⟩, hok2⟩ := hok
    obtain ⟨e1, e2⟩ := lenE_lt s k1
    obtain ⟨e3, e4⟩ := extN_lt t k2
    have hn : numN (bitsN (lenE s) (n - lenL s)) = n - lenL s := by rw [numN_bitsN, Nat.mod_eq_of_lt k4]
    have hd : numN (bitsN (extN 1 t) (d - (leastN 1 t + 1))) = d - (leastN 1 t + 1) := by rw [numN_bitsN, Nat.mod_eq_of_lt k7]
    have hn2 : lenL s + numN (bitsN (lenE s) (n - lenL s)) = n := by rw [hn]; omega
    have hd2 : leastN 1 t + 1 + numN (bitsN (extN 1 t) (d - (leastN 1 t + 1))) = d := by rw [hd]; omega
    have hcl : (copyL n d c.all).length = c.all.length + n := copyL_len n d c.all
    obtain ⟨L, cN, h1, h2, h3⟩ := tok_chain ts { c with size := n, extra := extN 1 t, dist := leastN 1 t + 1, all := copyL n d c.all, st := 7 } rfl hf hl hok2 (by show (copyL n d c.all).length + _ < _; rw [hcl]; omega)
    let c1 : PS := { c with size := lenL s, extra := lenE s, st := 8 }
    let c2 : PS := { c with size := n, extra := lenE s, st := 9 }
    let c3 : PS := { c with size := n, dist := leastN 1 t + 1, extra := extN 1 t, st := 10 }
    have s1 : StepOk c (fw (257 + s)) c1 [] := step_len h0 hf k1
    have s2 : StepOk c1 (bitsN (lenE s) (n - lenL s)) c2 [] := by
      have h := step_lbits (c := c1) rfl (bs := bitsN (lenE s) (n - lenL s)) (bitsN_length _ _) (fun x hx => bitsN_lt _ _ x hx) e1 e2
      have e : ({ c1 with size := c1.size + numN (bitsN (lenE s) (n - lenL s)), st := 9 } : PS) = c2 := by show ({ c with size := lenL s + _, extra := lenE s, st := 9 } : PS) = c2; rw [hn2]
      rw [← e]; exact h
    have s3 : StepOk c2 (fd t) c3 [] := step_dist (c := c2) rfl hf k2
    have s4 := step_dbits (c := c3) rfl (bs := bitsN (extN 1 t) (d - (leastN 1 t + 1))) (bitsN_length _ _) (fun x hx => bitsN_lt _ _ x hx) e3 e4 k5 (by show 1 ≤ leastN 1 t + 1 + _; omega) (by show leastN 1 t + 1 + _ ≤ min c.all.length 32768; rw [hd2]; omega) (by show c.all.length < _; omega)
    have s4' : StepOk c3 (bitsN (extN 1 t) (d - (leastN 1 t + 1))) { c with size := n, extra := extN 1 t, dist := leastN 1 t + 1, all := copyL n d c.all, st := 7 } ((copyL n d c.all).drop c.all.length) := by
      have e : copyL c3.size (c3.dist + numN (bitsN (extN 1 t) (d - (leastN 1 t + 1)))) c3.all = copyL n d c.all := by show copyL n (leastN 1 t + 1 + _) c.all = _; rw [hd2]
      rw [e] at s4
      exact s4
    refine ⟨(c, fw (257 + s), []) :: (c1, bitsN (lenE s) (n - lenL s), []) :: (c2, fd t, []) :: (c3, bitsN (extN 1 t) (d - (leastN 1 t + 1)), (copyL n d c.all).drop c.all.length) :: L, cN,
      .cons _ _ _ _ _ _ (by rw [h0]; decide) s1 (cut_sym h0 hf (by omega)) (.cons _ _ _ _ _ _ (by show 8 < 11; decide) s2 (cut_lbits (c := c1) rfl (bitsN_length _ _) e1) (.cons _ _ _ _ _ _ (by show 9 < 11; decide) s3 (cut_dist (c := c2) (t := t) rfl hf (by omega)) (.cons _ _ _ _ _ _ (by show 10 < 11; decide) s4' (cut_dbits (c := c3) rfl (bitsN_length _ _) e3) h1))), ?_, ?_⟩
    · simp only [List.map_cons, List.flatten_cons, h2, Tk.bits, List.append_assoc]
    · have h3' : copyL n d c.all ++ (L.map (·.2.2)).flatten = nextL (copyL n d c.all) ts := h3
      obtain ⟨e, he, _⟩ := copyL_pre n d c.all
      simp only [List.map_cons, List.flatten_cons, nextL, Tk.next, List.nil_append]
      rw [← h3', he, List.drop_left, List.append_assoc]
end Go.Proofs.YtbbhilmkipghiaaDoor
/- The law's own writing of a fixed block's words: high, symbol. -/
namespace Go.Proofs.YtbbhilmkipghiaaDoor
open Go Go.RowKit
set_option maxRecDepth 100000

/-- A writer that came since a world, by its bits, apart from another row; all else is as it was. -/
def WrF (v0 : Value) (w0 w : World) (b : Nat) (l : List Nat) : Prop := ∃ row, WrAt w b 0 l row ∧ (∀ k, row = some k → w0.heap.size ≤ k ∧ v0.ownBlock ≠ some k) ∧ (w0.heap.size ≤ b ∧ v0.ownBlock ≠ some b ∧ ∀ k, v0.ownBlock = some k → k < w.heap.size) ∧ Touch (fun _ => False) w0 w
theorem WrF.write {v0 : Value} {w0 w : World} {b : Nat} {l : List Nat} (h : WrF v0 w0 w b l) (vv n : Nat) (h1 : 1 ≤ n) (h2 : n ≤ 32) (hv : vv < 18446744073709551616) (hl : l.length < 562949953421312) :
    Calls Tryd.prog 8 #[.pointer (some ⟨b, 0, none⟩), .int .u64 vv, .int .i64 n] w fun e w' => e = .returned (.tuple #[]) ∧ WrF v0 w0 w' b (l ++ bitsN n vv) := by
  obtain ⟨row, hW, hr, hb, hT⟩ := h
  refine (write_calls b 0 vv n l row w hW h1 h2 hv hl).mono ?_
  rintro e w' ⟨he, row', hW', hs, ht⟩
  have hsz := hT.size
  refine ⟨he, row', hW', fun k hk => ?_, ⟨hb.1, hb.2.1, fun k hk => Nat.lt_of_lt_of_le (hb.2.2 k hk) ht.size⟩, hT.trans' ht (fun k hk => ?_)⟩
  · rcases hs with hs | ⟨q, hq, hge⟩
    · exact hr k (by rw [← hs]; exact hk)
    · rw [hq] at hk
      have := Option.some.inj hk
      exact ⟨by omega, fun e => by have := hb.2.2 k e; omega⟩
  · rcases hk with rfl | hk
    · exact .inr hb.1
    · exact .inr (hr k hk).1
/-- The other row may have grown. -/
theorem WrF.move {v0 v1 : Value} {w0 w w' : World} {b : Nat} {l : List Nat} (h : WrF v0 w0 w b l) (ht : Touch (fun k => v0.ownBlock = some k) w w') (h0 : ∀ k, v0.ownBlock = some k → w0.heap.size ≤ k)
    (h1 : v1.ownBlock = v0.ownBlock ∨ ∃ q, v1.ownBlock = some q ∧ w.heap.size ≤ q ∧ q < w'.heap.size) : WrF v1 w0 w' b l := by
  obtain ⟨row, hW, hr, hb, hT⟩ := h
  obtain ⟨xs, p, s, v, hraw, hrow, _⟩ := id hW
  have hbl : b < w.heap.size := World.block_lt_of_cell? w _ hraw.cells.1
  have hrl : ∀ k, row = some k → k < w.heap.size := fun k hk => hraw.row.lt k (by rw [hrow]; exact hk)
  refine ⟨row, hW.kept ht hb.2.1 (fun g hg => (hr g hg).2), fun k hk => ⟨(hr k hk).1, fun e => ?_⟩, ⟨hb.1, fun e => ?_, fun k hk => ?_⟩, hT.trans' ht (fun k hk => .inr (h0 k hk))⟩
  · rcases h1 with h1 | ⟨q, hq, hge, _⟩
    · exact (hr k hk).2 (by rw [← h1]; exact e)
    · rw [hq] at e
      have := Option.some.inj e
      have := hrl k hk
      omega
  · rcases h1 with h1 | ⟨q, hq, hge, _⟩
    · exact hb.2.1 (by rw [← h1]; exact e)
    · rw [hq] at e
      have := Option.some.inj e
      omega
  · rcases h1 with h1 | ⟨q, hq, _, hlt⟩
    · exact Nat.lt_of_lt_of_le (hb.2.2 k (by rw [← h1]; exact hk)) ht.size
    · rw [hq] at hk
      have := Option.some.inj hk
      omega
/-- A writer by what it wrote since a world. -/
def WrG (row : Option Nat) (w0 w : World) (b : Nat) (l : List Nat) : Prop := ∃ row', WrAt w b 0 l row' ∧ Sep w0.heap.size row row' ∧ Touch (fun k => k = b ∨ row = some k) w0 w
theorem WrG.refl {w : World} {b : Nat} {l : List Nat} {row : Option Nat} (h : WrAt w b 0 l row) : WrG row w w b l := ⟨row, h, Sep.refl _ _, Touch.refl _ _⟩
theorem WrG.write {row : Option Nat} {w0 w : World} {b : Nat} {l : List Nat} (h : WrG row w0 w b l) (vv n : Nat) (h2 : n ≤ 32) (hv : vv < 18446744073709551616) (hl : l.length < 562949953421312) :
    Calls Tryd.prog 8 #[.pointer (some ⟨b, 0, none⟩), .int .u64 vv, .int .i64 n] w fun e w' => e = .returned (.tuple #[]) ∧ WrG row w0 w' b (l ++ bitsN n vv) := by
  obtain ⟨row1, hW, hs, hT⟩ := h
  by_cases h1 : 1 ≤ n
  · refine (write_calls b 0 vv n l row1 w hW h1 h2 hv hl).mono ?_
    rintro e w' ⟨he, row', hW', hs', ht'⟩
    exact ⟨he, row', hW', hs.trans hs' hT.size, Sep.touch hT hs ht'⟩
  · obtain rfl : n = 0 := by omega
    refine (write_none _ _ _ w (.inr (.inl (by decide)))).mono ?_
    rintro e w' ⟨he, rfl⟩
    exact ⟨he, row1, by rw [show bitsN 0 vv = [] from rfl, List.append_nil]; exact hW, hs, hT⟩
theorem bitsN_one (v : Nat) : bitsN 1 v = [v % 2] := rfl
theorem msb_len (n v : Nat) : (msb n v).length = n := by simp [msb]
theorem msb_take (n v k : Nat) (h : k < n) : (msb n v).take (k + 1) = (msb n v).take k ++ [v / 2 ^ (n - 1 - k) % 2] := by
  rw [List.take_add_one]
  congr 1
  simp [msb, h]

set_option maxHeartbeats 1000000 in
theorem high_calls {v0 : Option Nat} {w0 w : World} {b : Nat} {l : List Nat} (h : WrG v0 w0 w b l) (v n : Nat) (hn1 : 1 ≤ n) (hn : n ≤ 9) (hv : v < 1000) (hl : l.length < 1000000000) :
    Calls Tryd.prog 14 #[.pointer (some ⟨b, 0, none⟩), .int .i64 v, .int .i64 n] w fun e w' => e = .returned (.tuple #[]) ∧ WrG v0 w0 w' b (l ++ msb n v) := by
  have H0 := Lib.hid h
  clear h
  have hm := msb_len n v
  have HM := Lib.hid hm
  clear hm
  go_enter Tryd.func14, Tryd.ntmps14
  go_wp2_with fail
  go_loopw [6] (fun iv wr => ∃ k : Nat, k ≤ n ∧ iv = .int .i64 ((n : Int) - 1 - (k : Int)) ∧ RowKit.Hid (WrG v0 w0 wr b (l ++ (msb n v).take k))) (fun iv _ => (intOf iv + 1).toNat)
  case atStart => exact ⟨0, Nat.zero_le _, by go_num, by rw [List.take_zero, List.append_nil]; exact H0⟩
  case round =>
    clear H0
    obtain ⟨k, hk, rfl, HW⟩ := hrel
    by_cases hlt : k < n
    · obtain ⟨q, hq⟩ : ∃ q : Nat, q = n - 1 - k := ⟨_, rfl⟩
      have hqI : (n : Int) - 1 - (k : Int) = (q : Int) := by omega
      rw [hqI]
      have hdiv : v / 2 ^ q < 18446744073709551616 := Nat.lt_of_le_of_lt (Nat.div_le_self _ _) (by omega)
      have HC := Lib.hid (HW.out.write (v / 2 ^ q) 1 (by decide) hdiv (by rw [List.length_append, List.length_take, HM.out]; omega))
      have HQ := Lib.hid (⟨hq, hqI, hlt⟩ : _ ∧ _ ∧ _)
      have hq0 : (0 : Int) ≤ (q : Int) := by omega
      have hq9 : (q : Int) < 64 := by omega
      have hwr : IntKind.u64.wrap ((v : Int) / 2 ^ q) = ((v / 2 ^ q : Nat) : Int) := by
        rw [show (v : Int) / 2 ^ q = ((v / 2 ^ q : Nat) : Int) by norm_cast]
        exact wrap_u64_in _ hdiv
      have HWR := Lib.hid hwr
      clear HW hdiv hq hqI hwr
      go_wp2_with fail
      rw [HWR.out]
      refine HC.out.mono ?_
      rintro e w' ⟨rfl, hW⟩
      have hW2 : WrG v0 w0 w' b (l ++ (msb n v).take (k + 1)) := by
        rw [msb_take n v k HQ.out.2.2, ← HQ.out.1, ← List.append_assoc]
        rw [bitsN_one] at hW
        exact hW
      have HW2 := Lib.hid hW2
      clear hW hW2 HC
      go_wp2_with fail
      go_roundw
      case rel => exact ⟨k + 1, HQ.out.2.2, by have := HQ.out.2.1; go_num, HW2⟩
      case measure => simp [intOf]
    · obtain rfl : k = n := by omega
      have hqI : (k : Int) - 1 - (k : Int) = -1 := by omega
      rw [hqI]
      rw [List.take_of_length_le (by rw [HM.out]; exact Nat.le_refl _)] at HW
      clear hqI
      go_wp2_with fail
      go_end0
      exact ⟨rfl, HW.out⟩
theorem symbol_calls {v0 : Option Nat} {w0 w : World} {b : Nat} {l : List Nat} (h : WrG v0 w0 w b l) (t : Nat) (ht : t < 288) (hl : l.length < 1000000000) :
    Calls Tryd.prog 10 #[.pointer (some ⟨b, 0, none⟩), .int .i64 t] w fun e w' => e = .returned (.tuple #[]) ∧ WrG v0 w0 w' b (l ++ fw t) := by
  have H0 := Lib.hid h
  clear h
  by_cases h1 : t < 144
  · have HC := Lib.hid (high_calls H0.out (48 + t) 8 (by decide) (by decide) (by omega) hl)
    have e : fw t = msb 8 (48 + t) := if_pos h1
    have HE := Lib.hid e
    have h1I : (t : Int) < 144 := by omega
    have HI := Lib.hid (show ((48 + t : Nat) : Int) = 48 + (t : Int) by omega)
    rw [HI.out] at HC
    clear H0 e h1
    go_enter Tryd.func10, Tryd.ntmps10
    go_wp2_with fail
    refine HC.out.mono ?_
    rintro e w' ⟨rfl, hW⟩
    have HW := Lib.hid hW
    clear hW HC
    go_wp2_with fail
    go_end0
    exact ⟨rfl, by rw [HE.out]; exact HW.out⟩
  by_cases h2 : t < 256
  · have HC := Lib.hid (high_calls H0.out (256 + t) 9 (by decide) (by decide) (by omega) hl)
    have e : fw t = msb 9 (256 + t) := (if_neg h1).trans (if_pos h2)
    have HE := Lib.hid e
    have h1I : ¬ (t : Int) < 144 := by omega
    have h2I : (t : Int) < 256 := by omega
    have HI := Lib.hid (show ((256 + t : Nat) : Int) = 400 + (t : Int) - 144 by omega)
    rw [HI.out] at HC
    clear H0 e h1 h2
    go_enter Tryd.func10, Tryd.ntmps10
    go_wp2_with fail
    refine HC.out.mono ?_
    rintro e w' ⟨rfl, hW⟩
    have HW := Lib.hid hW
    clear hW HC
    go_wp2_with fail
    go_end0
    exact ⟨rfl, by rw [HE.out]; exact HW.out⟩
  by_cases h3 : t < 280
  · have HC := Lib.hid (high_calls H0.out (t - 256) 7 (by decide) (by decide) (by omega) hl)
    have e : fw t = msb 7 (t - 256) := (if_neg h1).trans ((if_neg h2).trans (if_pos h3))
    have HE := Lib.hid e
    have h1I : ¬ (t : Int) < 144 := by omega
    have h2I : ¬ (t : Int) < 256 := by omega
    have h3I : (t : Int) < 280 := by omega
    have HI := Lib.hid (show ((t - 256 : Nat) : Int) = (t : Int) - 256 by omega)
    rw [HI.out] at HC
    clear H0 e h1 h2 h3
    go_enter Tryd.func10, Tryd.ntmps10
    go_wp2_with fail
    refine HC.out.mono ?_
    rintro e w' ⟨rfl, hW⟩
    have HW := Lib.hid hW
    clear hW HC
    go_wp2_with fail
    go_end0
    exact ⟨rfl, by rw [HE.out]; exact HW.out⟩
  · have HC := Lib.hid (high_calls H0.out (t - 88) 8 (by decide) (by decide) (by omega) hl)
    have e : fw t = msb 8 (t - 88) := (if_neg h1).trans ((if_neg h2).trans (if_neg h3))
    have HE := Lib.hid e
    have h1I : ¬ (t : Int) < 144 := by omega
    have h2I : ¬ (t : Int) < 256 := by omega
    have h3I : ¬ (t : Int) < 280 := by omega
    have HI := Lib.hid (show ((t - 88 : Nat) : Int) = 192 + (t : Int) - 280 by omega)
    rw [HI.out] at HC
    clear H0 e h1 h2 h3
    go_enter Tryd.func10, Tryd.ntmps10
    go_wp2_with fail
    refine HC.out.mono ?_
    rintro e w' ⟨rfl, hW⟩
    have HW := Lib.hid hW
    clear hW HC
    go_wp2_with fail
    go_end0
    exact ⟨rfl, by rw [HE.out]; exact HW.out⟩
end Go.Proofs.YtbbhilmkipghiaaDoor

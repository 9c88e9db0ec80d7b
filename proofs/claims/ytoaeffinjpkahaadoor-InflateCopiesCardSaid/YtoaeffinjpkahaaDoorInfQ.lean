
/- A decoder: readSymbol and readDist, by the codes of the fixed blocks; where bits are too few. -/
import Derived.Test.YtoaeffinjpkahaaDoorInfP
import Derived.Test.YtoaeffinjpkahaaDoorLzA
namespace Go.Proofs.YtoaeffinjpkahaaDoor
set_option linter.unusedSimpArgs false
set_option linter.unusedVariables false
open Go Go.RowKit
set_option maxRecDepth 100000

/-- Next of a decoder's code of distances, where just one symbol is found. -/
theorem inextd_calls {w : World} {b : Nat} {s : PS} {v5 v7 v8 p17 p18 : Value} {g : Nat} (h : DecM w b s v5 g v7 v8 p17 p18) {lw ld : List Nat} (hf : s.cds = some (lw, ld)) {c : Nat} (hF : FoundAt ld s.bits c) (hU : ∀ t, FoundAt ld s.bits t → t = c) :
    Calls Tryd.prog 126 #[p18, .pointer (some ⟨b, 5, none⟩)] w fun e w' => e = .returned (.tuple #[.int .i64 (c : Nat), .int .i64 0]) ∧
      (∃ v5' g', DecM w' b { s with bits := s.bits.drop (ld.getD c 0) } v5' g' v7 v8 p17 p18 ∧ v5'.ownBlock = v5.ownBlock) ∧ Touch (fun k => k = b) w w' := by
  obtain ⟨_, ⟨cb, n0, n1, rfl, hC, hn, hdis⟩⟩ := h.cod.cod _ _ hf
  refine (next_calls cb n0 n1 ld b 5 s.bits _ w hC (h.fx.2.1 _ _ hf).2 (rd_at h.blk h.rd h.ap.1) h.l2 (by have := h.lb.1; omega) (fun e => (hdis b e.1 e.2).1 (.inl rfl))).mono ?_
  rintro e w' (⟨t, ht, he, hR, hT⟩ | ⟨hno, _⟩ | ⟨hno, _⟩)
  · obtain rfl := hU t ht
    obtain ⟨v5', g', hD, ho⟩ := h.read hR hT ⟨_, rfl⟩
    exact ⟨he, ⟨v5', g', hD, ho⟩, hT⟩
  · exact absurd hF (hno c)
  · exact absurd hF (hno c)
/-- Next where bits are too few. -/
theorem inext_more {w : World} {b : Nat} {s : PS} {v5 v7 v8 p17 p18 : Value} {g : Nat} (h : DecM w b s v5 g v7 v8 p17 p18) {lw ld : List Nat} (hf : s.cds = some (lw, ld)) (hno : ∀ t, ¬ FoundAt lw s.bits t) (hco : ComesAt lw s.bits) :
    Calls Tryd.prog 126 #[p17, .pointer (some ⟨b, 5, none⟩)] w fun e w' => e = .returned (.tuple #[.int .i64 0, .int .i64 2]) ∧ Touch (fun _ => False) w w' := by
  obtain ⟨⟨cb, n0, n1, rfl, hC, hn, hdis⟩, _⟩ := h.cod.cod _ _ hf
  refine (next_calls cb n0 n1 lw b 5 s.bits _ w hC (h.fx.2.1 _ _ hf).1 (rd_at h.blk h.rd h.ap.1) h.l2 (by have := h.lb.1; omega) (fun e => (hdis b e.1 e.2).1 (.inl rfl))).mono ?_
  rintro e w' (⟨t, ht, _⟩ | ⟨_, _, he, _, hT⟩ | ⟨_, hc, _⟩)
  · exact absurd ht (hno t)
  · exact ⟨he, hT⟩
  · exact absurd hco hc
theorem inextd_more {w : World} {b : Nat} {s : PS} {v5 v7 v8 p17 p18 : Value} {g : Nat} (h : DecM w b s v5 g v7 v8 p17 p18) {lw ld : List Nat} (hf : s.cds = some (lw, ld)) (hno : ∀ t, ¬ FoundAt ld s.bits t) (hco : ComesAt ld s.bits) :
    Calls Tryd.prog 126 #[p18, .pointer (some ⟨b, 5, none⟩)] w fun e w' => e = .returned (.tuple #[.int .i64 0, .int .i64 2]) ∧ Touch (fun _ => False) w w' := by
  obtain ⟨_, ⟨cb, n0, n1, rfl, hC, hn, hdis⟩⟩ := h.cod.cod _ _ hf
  refine (next_calls cb n0 n1 ld b 5 s.bits _ w hC (h.fx.2.1 _ _ hf).2 (rd_at h.blk h.rd h.ap.1) h.l2 (by have := h.lb.1; omega) (fun e => (hdis b e.1 e.2).1 (.inl rfl))).mono ?_
  rintro e w' (⟨t, ht, _⟩ | ⟨_, _, he, _, hT⟩ | ⟨_, hc, _⟩)
  · exact absurd ht (hno t)
  · exact ⟨he, hT⟩
  · exact absurd hco hc

set_option maxHeartbeats 2000000 in
theorem isym_more {U : Nat → Prop} {w0 w : World} {b : Nat} {s : PS} (h : DecR U w0 w b s) {lw ld : List Nat} (hf : s.cds = some (lw, ld)) (hno : ∀ t, ¬ FoundAt lw s.bits t) (hco : ComesAt lw s.bits) :
    Calls Tryd.prog 96 #[.pointer (some ⟨b, 0, none⟩)] w fun e w' => e = .returned (.int .i64 2) ∧ DecR U w0 w' b s := by
  have h0 := h
  obtain ⟨v5, g, v7, v8, p17, p18, hD, hown, hT⟩ := h
  have c17 : w.cell? ⟨b, 17, none⟩ = some p17 := Block.cell hD.blk 17
  have hp : ∃ a, p17 = .pointer (some a) := by
    obtain ⟨⟨cb, _, _, rfl, _⟩, _⟩ := hD.cod.cod _ _ hf
    exact ⟨_, rfl⟩
  obtain ⟨ca, rfl⟩ := hp
  have HN := Lib.hid (inext_more (hD.still (Touch.refl (fun _ => False) w).drew) hf hno hco)
  have HD := Lib.hid h0
  clear hD hown hT hf hno hco h0
  go_enter Tryd.func96, Tryd.ntmps96
  go_upto_region 1 with fail
  go_region_law (first
    | (go_simp; go_at_call 126; refine HN.out.mono ?_; rintro e w1 ⟨rfl, ht1⟩; have HT1 := Lib.hid ((Touch.refl (fun _ => False) w).drew.trans ht1); clear ht1))
  go_wp2_with fail
  go_ret
  exact ⟨rfl, HD.out.still HT1.out⟩
set_option maxHeartbeats 2000000 in
theorem idist_more {U : Nat → Prop} {w0 w : World} {b : Nat} {s : PS} (h : DecR U w0 w b s) {lw ld : List Nat} (hf : s.cds = some (lw, ld)) (hno : ∀ t, ¬ FoundAt ld s.bits t) (hco : ComesAt ld s.bits) :
    Calls Tryd.prog 98 #[.pointer (some ⟨b, 0, none⟩)] w fun e w' => e = .returned (.int .i64 2) ∧ DecR U w0 w' b s := by
  have h0 := h
  obtain ⟨v5, g, v7, v8, p17, p18, hD, hown, hT⟩ := h
  have c18 : w.cell? ⟨b, 18, none⟩ = some p18 := Block.cell hD.blk 18
  have hp : ∃ a, p18 = .pointer (some a) := by
    obtain ⟨_, ⟨cb, _, _, rfl, _⟩⟩ := hD.cod.cod _ _ hf
    exact ⟨_, rfl⟩
  obtain ⟨ca, rfl⟩ := hp
  have HN := Lib.hid (inextd_more (hD.still (Touch.refl (fun _ => False) w).drew) hf hno hco)
  have HD := Lib.hid h0
  clear hD hown hT hf hno hco h0
  go_enter Tryd.func98, Tryd.ntmps98
  go_upto_region 1 with fail
  go_region_law (first
    | (go_simp; go_at_call 126; refine HN.out.mono ?_; rintro e w1 ⟨rfl, ht1⟩; have HT1 := Lib.hid ((Touch.refl (fun _ => False) w).drew.trans ht1); clear ht1))
  go_wp2_with fail
  go_ret
  exact ⟨rfl, HD.out.still HT1.out⟩

set_option maxHeartbeats 2000000 in
/-- A length's symbol. -/
theorem isym_len {U : Nat → Prop} {w0 w : World} {b : Nat} {s : PS} (h : DecR U w0 w b s) {lw ld : List Nat} (hf : s.cds = some (lw, ld)) (t : Nat) (ht : t < 29) (m : Nat) (hm9 : lw.getD (257 + t) 0 = m) (hF : FoundAt lw s.bits (257 + t)) (hU : ∀ q, FoundAt lw s.bits q → q = 257 + t) :
    Calls Tryd.prog 96 #[.pointer (some ⟨b, 0, none⟩)] w fun e w' => e = .returned (.int .i64 0) ∧ DecR U w0 w' b { s with bits := s.bits.drop m, size := lenL t, extra := lenE t, st := 8 } := by
  obtain ⟨v5, g, v7, v8, p17, p18, hD, hown, hT⟩ := h
  have c17 : w.cell? ⟨b, 17, none⟩ = some p17 := Block.cell hD.blk 17
  have hp : ∃ a, p17 = .pointer (some a) := by
    obtain ⟨⟨cb, _, _, rfl, _⟩, _⟩ := hD.cod.cod _ _ hf
    exact ⟨_, rfl⟩
  obtain ⟨ca, rfl⟩ := hp
  have HN := Lib.hid (inext_calls (hD.still (Touch.refl (fun _ => False) w).drew) hf hF hU)
  have HL := Lib.hid (fun W => lengthof_in t W ht)
  have HO := Lib.hid (⟨hown, hT⟩ : _ ∧ _)
  obtain ⟨k, hk⟩ : ∃ k, k = 257 + t := ⟨_, rfl⟩
  have hkI : ((t : Int) + 257) = (k : Int) := by omega
  rw [← hk] at HN
  rw [hkI] at HL
  have H7 := Lib.hid hm9
  rw [← hk] at H7
  have hk1 : ¬ (k : Int) < 256 := by omega
  have hk2 : ¬ (k : Int) = 256 := by omega
  obtain ⟨L, hL⟩ : ∃ L, L = lenL t := ⟨_, rfl⟩
  obtain ⟨E, hE⟩ : ∃ E, E = lenE t := ⟨_, rfl⟩
  rw [← hL, ← hE] at HL
  rw [← hL, ← hE]
  clear hD hown hT hf hF hU hm9 hk hkI hL hE
  go_enter Tryd.func96, Tryd.ntmps96
  go_upto_region 1 with fail
  go_region_law (first
    | (go_simp; go_at_call 126; refine HN.out.mono ?_; rintro e w1 ⟨rfl, hd1, ht1⟩; have HD1 := Lib.hid (⟨hd1, (Touch.refl (fun k => k = b) w).drew.trans ht1⟩ : _ ∧ _); clear hd1 ht1))
  go_wp2_with fail
  refine (HL.out w1).mono ?_
  rintro e w2 ⟨rfl, rfl⟩
  obtain ⟨v5', g', hD1, ho⟩ := HD1.out.1
  rw [H7.out] at hD1
  have m21 : w1.cell? ⟨b, 21, none⟩ = some (.int .i64 (s.size : Nat)) := Block.cell hD1.blk 21
  have g21 := Block.free hD1.blk 21
  have m23 : w1.cell? ⟨b, 23, none⟩ = some (.int .i64 (s.extra : Nat)) := Block.cell hD1.blk 23
  have g23 := Block.free hD1.blk 23
  have hB2 := Block.set (Block.set hD1.blk 21 (.int .i64 (L : Int))) 23 (.int .i64 (E : Int))
  have m0 : ((w1.setCell ⟨b, 21, none⟩ (.int .i64 (L : Int))).setCell ⟨b, 23, none⟩ (.int .i64 (E : Int))).cell? ⟨b, 0, none⟩ = some (.int .i64 (s.st : Nat)) := Block.cell hB2 0
  have g0 := Block.free hB2 0
  have HD2 := Lib.hid (⟨hD1, ho, hB2⟩ : _ ∧ _ ∧ _)
  clear hD1 ho hB2
  go_wp2_with fail
  go_ret
  have hT2 : Touch (fun k => k = b) w1 (((w1.setCell ⟨b, 21, none⟩ (.int .i64 (L : Int))).setCell ⟨b, 23, none⟩ (.int .i64 (E : Int))).setCell ⟨b, 0, none⟩ (.int .i64 8)) := (((Touch.refl (fun k => k = b) w1).setCell (p := ⟨b, 21, none⟩) (Or.inl rfl) _).setCell (p := ⟨b, 23, none⟩) (Or.inl rfl) _).setCell (p := ⟨b, 0, none⟩) (Or.inl rfl) _
  exact ⟨rfl, DecR.step HO.out.1 HO.out.2 (HD1.out.2.trans hT2) (fun k e => .inl (.inl e)) (fun k e => .inl (mut_same HD2.out.2.1 e))
    (HD2.out.1.put (s' := { s with bits := s.bits.drop m, size := L, extra := E, st := 8 }) hT2 (Block.set HD2.out.2.2 0 _) rfl rfl rfl ⟨rfl, rfl, rfl, rfl, rfl⟩ ⟨HD2.out.1.lb.2.2.2.1, HD2.out.1.lb.2.2.2.2⟩)⟩
set_option maxHeartbeats 2000000 in
/-- A distance's symbol. -/
theorem idist_ok {U : Nat → Prop} {w0 w : World} {b : Nat} {s : PS} (h : DecR U w0 w b s) {lw ld : List Nat} (hf : s.cds = some (lw, ld)) (t : Nat) (ht : t < 30) (hF : FoundAt ld s.bits t) (hU : ∀ q, FoundAt ld s.bits q → q = t) :
    Calls Tryd.prog 98 #[.pointer (some ⟨b, 0, none⟩)] w fun e w' => e = .returned (.int .i64 0) ∧ DecR U w0 w' b { s with bits := s.bits.drop (ld.getD t 0), dist := leastN 1 t + 1, extra := extN 1 t, st := 10 } := by
  obtain ⟨v5, g, v7, v8, p17, p18, hD, hown, hT⟩ := h
  have c18 : w.cell? ⟨b, 18, none⟩ = some p18 := Block.cell hD.blk 18
  have hp : ∃ a, p18 = .pointer (some a) := by
    obtain ⟨_, ⟨cb, _, _, rfl, _⟩⟩ := hD.cod.cod _ _ hf
    exact ⟨_, rfl⟩
  obtain ⟨ca, rfl⟩ := hp
  have HN := Lib.hid (inextd_calls (hD.still (Touch.refl (fun _ => False) w).drew) hf hF hU)
  have HO := Lib.hid (⟨hown, hT⟩ : _ ∧ _)
  obtain ⟨L, hL⟩ : ∃ L, L = leastN 1 t + 1 := ⟨_, rfl⟩
  obtain ⟨E, hE⟩ : ∃ E, E = extN 1 t := ⟨_, rfl⟩
  have hdo := fun W => distof_in t W ht
  rw [← hL, ← hE] at hdo
  have HL := Lib.hid hdo
  rw [← hL, ← hE]
  clear hD hown hT hf hF hU hL hE hdo
  go_enter Tryd.func98, Tryd.ntmps98
  go_upto_region 1 with fail
  go_region_law (first
    | (go_simp; go_at_call 126; refine HN.out.mono ?_; rintro e w1 ⟨rfl, hd1, ht1⟩; have HD1 := Lib.hid (⟨hd1, (Touch.refl (fun k => k = b) w).drew.trans ht1⟩ : _ ∧ _); clear hd1 ht1))
  go_wp2_with fail
  refine (HL.out w1).mono ?_
  rintro e w2 ⟨rfl, rfl⟩
  obtain ⟨v5', g', hD1, ho⟩ := HD1.out.1
  have m22 : w1.cell? ⟨b, 22, none⟩ = some (.int .i64 (s.dist : Nat)) := Block.cell hD1.blk 22
  have g22 := Block.free hD1.blk 22
  have m23 : w1.cell? ⟨b, 23, none⟩ = some (.int .i64 (s.extra : Nat)) := Block.cell hD1.blk 23
  have g23 := Block.free hD1.blk 23
  have hB2 := Block.set (Block.set hD1.blk 22 (.int .i64 (L : Int))) 23 (.int .i64 (E : Int))
  have m0 : ((w1.setCell ⟨b, 22, none⟩ (.int .i64 (L : Int))).setCell ⟨b, 23, none⟩ (.int .i64 (E : Int))).cell? ⟨b, 0, none⟩ = some (.int .i64 (s.st : Nat)) := Block.cell hB2 0
  have g0 := Block.free hB2 0
  have HD2 := Lib.hid (⟨hD1, ho, hB2⟩ : _ ∧ _ ∧ _)
  clear hD1 ho hB2
  go_wp2_with fail
  go_ret
  have hT2 : Touch (fun k => k = b) w1 (((w1.setCell ⟨b, 22, none⟩ (.int .i64 (L : Int))).setCell ⟨b, 23, none⟩ (.int .i64 (E : Int))).setCell ⟨b, 0, none⟩ (.int .i64 10)) := (((Touch.refl (fun k => k = b) w1).setCell (p := ⟨b, 22, none⟩) (Or.inl rfl) _).setCell (p := ⟨b, 23, none⟩) (Or.inl rfl) _).setCell (p := ⟨b, 0, none⟩) (Or.inl rfl) _
  exact ⟨rfl, DecR.step HO.out.1 HO.out.2 (HD1.out.2.trans hT2) (fun k e => .inl (.inl e)) (fun k e => .inl (mut_same HD2.out.2.1 e))
    (HD2.out.1.put (s' := { s with bits := s.bits.drop (ld.getD t 0), dist := L, extra := E, st := 10 }) hT2 (Block.set HD2.out.2.2 0 _) rfl rfl rfl ⟨rfl, rfl, rfl, rfl, rfl⟩ ⟨HD2.out.1.lb.2.2.2.1, HD2.out.1.lb.2.2.2.2⟩)⟩
end Go.Proofs.YtoaeffinjpkahaaDoor

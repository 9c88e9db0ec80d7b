/- A decoder: bits that are read; readBlock of a fixed block. -/
import Derived.Test.YtoaeffinjpkahaaDoorInfF
import Derived.Deep.RegionLaw
import Derived.Deep.LoopGhost
namespace Go.Proofs.YtoaeffinjpkahaaDoor
set_option linter.unusedSimpArgs false
set_option linter.unusedVariables false
open Go Go.RowKit
set_option maxRecDepth 100000

theorem mut_same {b : Nat} {v5 v5' v7 v8 : Value} (h : v5'.ownBlock = v5.ownBlock) {k : Nat} (hk : Mut b v5' v7 v8 k) : Mut b v5 v7 v8 k := by
  rcases hk with e | e | e | e
  · exact .inl e
  · exact .inr (.inl (by rw [← h]; exact e))
  · exact .inr (.inr (.inl e))
  · exact .inr (.inr (.inr e))
/-- Bits were read. -/
theorem DecM.read {w w1 : World} {b : Nat} {s : PS} {v5 v7 v8 p17 p18 : Value} {g : Nat} {l : List Nat} (h : DecM w b s v5 g v7 v8 p17 p18) (hR : RdAt (80, fun i => (decL s v5 g v7 v8 p17 p18)[i]?) w1 b 5 l v5.ownBlock) (ht : Touch (fun k => k = b) w w1) (hl : ∃ n, l = s.bits.drop n) :
    ∃ v5' g', DecM w1 b { s with bits := l } v5' g' v7 v8 p17 p18 ∧ v5'.ownBlock = v5.ownBlock := by
  obtain ⟨v5', g', hB, hrd, ho, hne⟩ := rd_back hR
  obtain ⟨n, hn⟩ := hl
  have hm := h.mlt
  obtain ⟨k1, k2, k3, k4, k5, k6, k7, k8, k9⟩ := h
  obtain ⟨a1, a2, a3, a4, a5, a6⟩ := k5
  refine ⟨v5', g', ⟨hB, hrd, k3.kept ht (fun k e e2 => a2 (by rw [e, e2])), k4.kept ht (fun k e e2 => a3 (by rw [e, e2])), ⟨hne, a2, a3, by rw [ho]; exact a4, by rw [ho]; exact a5, a6⟩, k6.step ht (fun k e => .inl (.inl e)) (fun k e => .inl (mut_same ho e)) ⟨rfl, rfl, rfl, rfl⟩, k7, ?_, ?_⟩, ho⟩
  · intro x hx
    rw [hn] at hx
    exact k8 x (List.mem_of_mem_drop hx)
  · refine ⟨?_, k9.2⟩
    show l.length < _
    rw [hn, List.length_drop]
    have := k9.1
    omega

set_option maxHeartbeats 2000000 in
theorem iblock_fixed {U : Nat → Prop} {w0 w : World} {b : Nat} {s : PS} (h : DecR U w0 w b s) {x0 : Nat} {l : List Nat} (hb : s.bits = x0 :: 1 :: 0 :: l) (hf : s.fixed = false) :
    Calls Tryd.prog 89 #[.pointer (some ⟨b, 0, none⟩)] w fun e w' => e = .returned (.int .i64 0) ∧ DecR U w0 w' b { s with bits := l, last := x0 == 1, fixed := true, cds := some (fixW, fixD), st := 7 } := by
  obtain ⟨v5, g, v7, v8, p17, p18, hD, hown, hT⟩ := h
  have hx0 : x0 < 2 := hD.l2 x0 (by rw [hb]; exact List.mem_cons_self)
  have hlen : 3 ≤ s.bits.length := by rw [hb]; simp
  have hread := read_some b 5 3 s.bits _ w (rd_at hD.blk hD.rd hD.ap.1) (by have := hD.lb.1; omega) (by omega) hlen
  have hnum : numN (s.bits.take 3) = x0 + 2 := by
    rw [hb]
    rcases (show x0 = 0 ∨ x0 = 1 by omega) with rfl | rfl <;> rfl
  have hdrop : s.bits.drop 3 = l := by rw [hb]; rfl
  rw [hnum] at hread
  have HR := Lib.hid hread
  have HD := Lib.hid hD
  have HO := Lib.hid (⟨hown, hT⟩ : _ ∧ _)
  have HDR := Lib.hid hdrop
  have HF := Lib.hid hf
  have q0 : bits .and .u64 2 1 = 0 := by decide
  have q1 : bits .and .u64 3 1 = 1 := by decide
  have c0 : w.cell? ⟨b, 0, none⟩ = some (.int .i64 (s.st : Nat)) := Block.cell hD.blk 0
  clear hread hD hown hT hdrop hnum hlen hf hb
  rcases (show x0 = 0 ∨ x0 = 1 by omega) with rfl | rfl
  all_goals
    go_enter Tryd.func89, Tryd.ntmps89
    go_wp2_with fail
    refine HR.out.mono ?_
    rintro e w1 ⟨rfl, hR1, hT1⟩
    rw [HDR.out] at hR1
    obtain ⟨v5', g', hD1, ho⟩ := HD.out.read hR1 hT1 ⟨3, HDR.out.symm⟩
    have m10 : w1.cell? ⟨b, 10, none⟩ = some (.bool s.last) := Block.cell hD1.blk 10
    have g10 := Block.free hD1.blk 10
    have hD2 : ∀ z : Bool, DecM (w1.setCell ⟨b, 10, none⟩ (.bool z)) b { s with bits := l, last := z } v5' g' v7 v8 p17 p18 := fun z =>
      hD1.put ((Touch.refl (fun k => k = b) w1).setCell (p := ⟨b, 10, none⟩) (Or.inl rfl) _) (Block.set hD1.blk 10 _) rfl rfl rfl ⟨rfl, rfl, rfl, rfl, rfl⟩ ⟨hD1.lb.2.2.2.1, hD1.lb.2.2.2.2⟩
    have hR2 : ∀ z : Bool, DecR U w0 (w1.setCell ⟨b, 10, none⟩ (.bool z)) b { s with bits := l, last := z } := fun z =>
      DecR.step HO.out.1 HO.out.2 (hT1.setCell (p := ⟨b, 10, none⟩) (Or.inl rfl) _) (fun k e => .inl (.inl e)) (fun k e => .inl (mut_same ho e)) (hD2 z)
    have H2 := Lib.hid hR2
    clear hR1 hT1 hD1 hD2 hR2 ho
    go_wp2_with fail
  · refine (ifixed_calls (H2.out false) HF.out).mono ?_
    rintro e w3 ⟨rfl, v5a, ga, v7a, v8a, p17a, p18a, hDa, howna, hTa⟩
    have m0 : w3.cell? ⟨b, 0, none⟩ = some (.int .i64 (s.st : Nat)) := Block.cell hDa.blk 0
    have g0 := Block.free hDa.blk 0
    have HA := Lib.hid (⟨hDa, howna, hTa⟩ : _ ∧ _ ∧ _)
    clear hDa howna hTa
    go_wp2_with fail
    go_ret
    exact ⟨rfl, DecR.step HA.out.2.1 HA.out.2.2 ((Touch.refl (fun k => k = b) w3).setCell (p := ⟨b, 0, none⟩) (Or.inl rfl) _) (fun k e => .inl (.inl e)) (fun k e => .inl e) (HA.out.1.put (s' := { s with bits := l, last := false, fixed := true, cds := some (fixW, fixD), st := 7 }) ((Touch.refl (fun k => k = b) w3).setCell (p := ⟨b, 0, none⟩) (Or.inl rfl) _) (Block.set HA.out.1.blk 0 _) rfl rfl rfl ⟨rfl, rfl, rfl, rfl, rfl⟩ ⟨HA.out.1.lb.2.2.2.1, HA.out.1.lb.2.2.2.2⟩)⟩
  · refine (ifixed_calls (H2.out true) HF.out).mono ?_
    rintro e w3 ⟨rfl, v5a, ga, v7a, v8a, p17a, p18a, hDa, howna, hTa⟩
    have m0 : w3.cell? ⟨b, 0, none⟩ = some (.int .i64 (s.st : Nat)) := Block.cell hDa.blk 0
    have g0 := Block.free hDa.blk 0
    have HA := Lib.hid (⟨hDa, howna, hTa⟩ : _ ∧ _ ∧ _)
    clear hDa howna hTa
    go_wp2_with fail
    go_ret
    exact ⟨rfl, DecR.step HA.out.2.1 HA.out.2.2 ((Touch.refl (fun k => k = b) w3).setCell (p := ⟨b, 0, none⟩) (Or.inl rfl) _) (fun k e => .inl (.inl e)) (fun k e => .inl e) (HA.out.1.put (s' := { s with bits := l, last := true, fixed := true, cds := some (fixW, fixD), st := 7 }) ((Touch.refl (fun k => k = b) w3).setCell (p := ⟨b, 0, none⟩) (Or.inl rfl) _) (Block.set HA.out.1.blk 0 _) rfl rfl rfl ⟨rfl, rfl, rfl, rfl, rfl⟩ ⟨HA.out.1.lb.2.2.2.1, HA.out.1.lb.2.2.2.2⟩)⟩
end Go.Proofs.YtoaeffinjpkahaaDoor
/- A decoder: readSymbol, where a byte or the block's end is told. -/
namespace Go.Proofs.YtoaeffinjpkahaaDoor
set_option linter.unusedSimpArgs false
set_option linter.unusedVariables false
open Go Go.RowKit
set_option maxRecDepth 100000

/-- Next of a decoder's code of bytes and lengths, where just one symbol is found. -/
theorem inext_calls {w : World} {b : Nat} {s : PS} {v5 v7 v8 p17 p18 : Value} {g : Nat} (h : DecM w b s v5 g v7 v8 p17 p18) {lw ld : List Nat} (hf : s.cds = some (lw, ld)) {c : Nat} (hF : FoundAt lw s.bits c) (hU : ∀ t, FoundAt lw s.bits t → t = c) :
    Calls Tryd.prog 126 #[p17, .pointer (some ⟨b, 5, none⟩)] w fun e w' => e = .returned (.tuple #[.int .i64 (c : Nat), .int .i64 0]) ∧
      (∃ v5' g', DecM w' b { s with bits := s.bits.drop (lw.getD c 0) } v5' g' v7 v8 p17 p18 ∧ v5'.ownBlock = v5.ownBlock) ∧ Touch (fun k => k = b) w w' := by
  obtain ⟨⟨cb, n0, n1, rfl, hC, hn, hdis⟩, _⟩ := h.cod.cod _ _ hf
  refine (next_calls cb n0 n1 lw b 5 s.bits _ w hC (h.fx.2.1 _ _ hf).1 (rd_at h.blk h.rd h.ap.1) h.l2 (by have := h.lb.1; omega) (fun e => (hdis b e.1 e.2).1 (.inl rfl))).mono ?_
  rintro e w' (⟨t, ht, he, hR, hT⟩ | ⟨hno, _⟩ | ⟨hno, _⟩)
  · obtain rfl := hU t ht
    obtain ⟨v5', g', hD, ho⟩ := h.read hR hT ⟨_, rfl⟩
    exact ⟨he, ⟨v5', g', hD, ho⟩, hT⟩
  · exact absurd hF (hno c)
  · exact absurd hF (hno c)

set_option maxHeartbeats 2000000 in
theorem isym_end {U : Nat → Prop} {w0 w : World} {b : Nat} {s : PS} (h : DecR U w0 w b s) {lw ld : List Nat} (hf : s.cds = some (lw, ld)) (hF : FoundAt lw s.bits 256) (hU : ∀ t, FoundAt lw s.bits t → t = 256) (m : Nat) (hm7 : lw.getD 256 0 = m) :
    Calls Tryd.prog 96 #[.pointer (some ⟨b, 0, none⟩)] w fun e w' => e = .returned (.int .i64 0) ∧ DecR U w0 w' b { s with bits := s.bits.drop m, st := if s.last then 11 else 0 } := by
  obtain ⟨v5, g, v7, v8, p17, p18, hD, hown, hT⟩ := h
  have c17 : w.cell? ⟨b, 17, none⟩ = some p17 := Block.cell hD.blk 17
  have hp : ∃ a, p17 = .pointer (some a) := by
    obtain ⟨⟨cb, _, _, rfl, _⟩, _⟩ := hD.cod.cod _ _ hf
    exact ⟨_, rfl⟩
  obtain ⟨ca, rfl⟩ := hp
  have HN := Lib.hid (inext_calls (hD.still (Touch.refl (fun _ => False) w).drew) hf hF hU)
  have HO := Lib.hid (⟨hown, hT⟩ : _ ∧ _)
  have H7 := Lib.hid hm7
  obtain ⟨N9, hN9⟩ : ∃ N9 : Nat, N9 = (if s.last then 11 else 0) := ⟨_, rfl⟩
  rw [← hN9]
  have HN9 := Lib.hid hN9
  clear hD hown hT hf hF hU hm7 hN9
  go_enter Tryd.func96, Tryd.ntmps96
  go_upto_region 1 with fail
  go_region_law (first
    | (go_simp; go_at_call 126; refine HN.out.mono ?_; rintro e w1 ⟨rfl, hd1, ht1⟩; have HD1 := Lib.hid (⟨hd1, (Touch.refl (fun k => k = b) w).drew.trans ht1⟩ : _ ∧ _); clear hd1 ht1))
  go_wp2_with fail
  obtain ⟨v5', g', hD1, ho⟩ := HD1.out.1
  rw [H7.out] at hD1
  have hR1 : DecR U w0 w1 b { s with bits := s.bits.drop m } := DecR.step HO.out.1 HO.out.2 HD1.out.2 (fun k e => .inl (.inl e)) (fun k e => .inl (mut_same ho e)) hD1
  refine (iend_calls hR1).mono ?_
  rintro e w2 ⟨rfl, hR2⟩
  dsimp only at hR2
  rw [← HN9.out] at hR2
  have HR2 := Lib.hid hR2
  clear hR2 hR1 hD1 ho
  go_wp2_with fail
  go_ret
  exact ⟨rfl, HR2.out⟩

/-- A byte was put into the window. -/
theorem DecM.putw {w w1 : World} {b : Nat} {s : PS} {v5 v7 v8 p17 p18 : Value} {g : Nat} {all : List UInt8} {row' : Option Nat} (h : DecM w b s v5 g v7 v8 p17 p18) (hW : WinAt (80, fun i => (decL s v5 g v7 v8 p17 p18)[i]?) w1 b 8 all row') (hs : Sep w.heap.size v8.ownBlock row') (ht : Touch (fun k => k = b ∨ v8.ownBlock = some k) w w1) (hl : all.length < 1000000000) :
    ∃ v8', DecM w1 b { s with all := all } v5 g v7 v8' p17 p18 ∧ ∀ k, Mut b v5 v7 v8' k → Mut b v5 v7 v8 k ∨ w.heap.size ≤ k := by
  obtain ⟨v8', hB, hwn, ho, hne⟩ := win_back hW
  have hm := h.mlt
  obtain ⟨k1, k2, k3, k4, k5, k6, k7, k8, k9⟩ := h
  obtain ⟨a1, a2, a3, a4, a5, a6⟩ := k5
  have hM : ∀ k, Mut b v5 v7 v8' k → Mut b v5 v7 v8 k ∨ w.heap.size ≤ k := by
    intro k hk
    rcases hk with e | e | e | e
    · exact .inl (.inl e)
    · exact .inl (.inr (.inl e))
    · exact .inl (.inr (.inr (.inl e)))
    · rw [ho] at e
      rcases hs with hs | ⟨q, hq, hge⟩
      · exact .inl (.inr (.inr (.inr (by rw [← hs]; exact e))))
      · rw [hq] at e
        have := Option.some.inj e
        exact .inr (by omega)
  have hS : ∀ k, (k = b ∨ v8.ownBlock = some k) → Mut b v5 v7 v8 k ∨ w.heap.size ≤ k := fun k e => by
    rcases e with e | e
    · exact .inl (.inl e)
    · exact .inl (.inr (.inr (.inr e)))
  have hx : ∀ k, k < w.heap.size → v8.ownBlock ≠ some k → v8'.ownBlock ≠ some k := by
    intro k hk hn e
    rw [ho] at e
    rcases hs with hs | ⟨q, hq, hge⟩
    · exact hn (by rw [← hs]; exact e)
    · rw [hq] at e
      have := Option.some.inj e
      omega
  refine ⟨v8', ⟨hB, k2.kept ht (fun k e e2 => ?_), k3.kept ht (fun k e e2 => ?_), hwn, ⟨a1, a2, hne, a4, fun k e => hx k (hm k (.inr (.inl e))) (a5 k e), fun k e => hx k (hm k (.inr (.inr (.inl e)))) (a6 k e)⟩, k6.step ht hS hM ⟨rfl, rfl, rfl, rfl⟩, k7, k8, ⟨k9.1, k9.2.1, hl, k9.2.2.2⟩⟩, hM⟩
  · rcases e2 with e2 | e2
    · exact a1 (by rw [e, e2])
    · exact a5 k e e2
  · rcases e2 with e2 | e2
    · exact a2 (by rw [e, e2])
    · exact a6 k e e2
/-- What it tells has grown. -/
theorem DecM.told' {S : Nat → Prop} {w w1 : World} {b : Nat} {s : PS} {v5 v7 v8 p17 p18 v7' : Value} {g : Nat} {out : List UInt8} (h : DecM w b s v5 g v7 v8 p17 p18) (hrow : Row w1 5 v7' (byteVs out)) (hs : ∀ k, v7'.ownBlock = some k → v7.ownBlock = some k ∨ w.heap.size ≤ k) (ht : Touch S w w1) (hSS : ∀ k, S k → v7.ownBlock = some k ∨ w.heap.size ≤ k) (hl : out.length < 1000000000) :
    DecM (w1.setCell ⟨b, 7, none⟩ v7') b { s with out := out } v5 g v7' v8 p17 p18 ∧ (∀ k, Mut b v5 v7' v8 k → Mut b v5 v7 v8 k ∨ w.heap.size ≤ k) := by
  have hm := h.mlt
  obtain ⟨k1, k2, k3, k4, k5, k6, k7, k8, k9⟩ := h
  obtain ⟨a1, a2, a3, a4, a5, a6⟩ := k5
  have hbl := hm b (.inl rfl)
  have hx : ∀ k, k < w.heap.size → v7.ownBlock ≠ some k → v7'.ownBlock ≠ some k := by
    intro k hk hn e
    rcases hs k e with e | e
    · exact hn e
    · omega
  have hM : ∀ k, Mut b v5 v7' v8 k → Mut b v5 v7 v8 k ∨ w.heap.size ≤ k := by
    intro k hk
    rcases hk with e | e | e | e
    · exact .inl (.inl e)
    · exact .inl (.inr (.inl e))
    · rcases hs k e with e | e
      · exact .inl (.inr (.inr (.inl e)))
      · exact .inr e
    · exact .inl (.inr (.inr (.inr e)))
  have hSb : ¬ S b := fun e => by
    rcases hSS b e with e | e
    · exact a2 e
    · omega
  have hB1 := k1.kept ht hSb
  have ht2 : Touch (fun k => S k ∨ k = b) w (w1.setCell ⟨b, 7, none⟩ v7') := (ht.mono (fun k e => .inl e)).setCell (p := ⟨b, 7, none⟩) (Or.inl (Or.inr rfl)) _
  have hS2 : ∀ k, (S k ∨ k = b) → Mut b v5 v7 v8 k ∨ w.heap.size ≤ k := fun k e => by
    rcases e with e | e
    · rcases hSS k e with e | e
      · exact .inl (.inr (.inr (.inl e)))
      · exact .inr e
    · exact .inl (.inl e)
  have hnb : v7'.ownBlock ≠ some b := hx b hbl a2
  refine ⟨⟨Block.set hB1 7 _, k2.kept ht2 (fun k e e2 => ?_), hrow.kept ((Touch.refl (fun k => k = b) w1).setCell (p := ⟨b, 7, none⟩) (Or.inl rfl) _) (fun k e e2 => hnb (by rw [e, e2])), k4.kept ht2 (fun k e e2 => ?_), ⟨a1, hnb, a3, fun k e => hx k (hm k (.inr (.inl e))) (a4 k e), a5, fun k e e2 => ?_⟩, k6.step ht2 hS2 hM ⟨rfl, rfl, rfl, rfl⟩, k7, k8, ⟨k9.1, hl, k9.2.2⟩⟩, hM⟩
  · have hlt := hm k (.inr (.inl e))
    rcases e2 with e2 | e2
    · rcases hSS k e2 with e2 | e2
      · exact a4 k e e2
      · omega
    · exact a1 (by rw [e, e2])
  · have hlt := hm k (.inr (.inr (.inr e)))
    rcases e2 with e2 | e2
    · rcases hSS k e2 with e2 | e2
      · exact a6 k e2 e
      · omega
    · exact a3 (by rw [e, e2])
  · have hlt := hm k (.inr (.inr (.inr e2)))
    exact hx k hlt (fun e3 => a6 k e3 e2) e
end Go.Proofs.YtoaeffinjpkahaaDoor
/- A decoder: readSymbol, where a byte is told. -/
namespace Go.Proofs.YtoaeffinjpkahaaDoor
set_option linter.unusedSimpArgs false
set_option linter.unusedVariables false
open Go Go.RowKit
set_option maxRecDepth 100000

theorem own_step {U S : Nat → Prop} {w0 w w' : World} {b : Nat} {v5 v7 v8 v5' v7' v8' : Value} (hown : ∀ k, Mut b v5 v7 v8 k → U k ∨ w0.heap.size ≤ k) (h0 : Touch U w0 w) (ht : Touch S w w')
    (hS : ∀ k, S k → Mut b v5 v7 v8 k ∨ w.heap.size ≤ k) (hM : ∀ k, Mut b v5' v7' v8' k → Mut b v5 v7 v8 k ∨ w.heap.size ≤ k) : (∀ k, Mut b v5' v7' v8' k → U k ∨ w0.heap.size ≤ k) ∧ Touch U w0 w' := by
  have hsz := h0.size
  refine ⟨fun k hk => ?_, h0.trans' ht (fun k hk => ?_)⟩
  · rcases hM k hk with e | e
    · exact hown k e
    · exact .inr (by omega)
  · rcases hS k hk with e | e
    · exact hown k e
    · exact .inr (by omega)

set_option maxHeartbeats 2000000 in
theorem isym_lit {U : Nat → Prop} {w0 w : World} {b : Nat} {s : PS} (h : DecR U w0 w b s) {lw ld : List Nat} (hf : s.cds = some (lw, ld)) (c : UInt8) (m : Nat) (hm9 : lw.getD c.toNat 0 = m) (hF : FoundAt lw s.bits c.toNat) (hU : ∀ t, FoundAt lw s.bits t → t = c.toNat) (hz : s.out.length < 999999999 ∧ s.all.length < 999999999) :
    Calls Tryd.prog 96 #[.pointer (some ⟨b, 0, none⟩)] w fun e w' => e = .returned (.int .i64 0) ∧ DecR U w0 w' b { s with bits := s.bits.drop m, all := s.all ++ [c], out := s.out ++ [c] } := by
  obtain ⟨v5, g, v7, v8, p17, p18, hD, hown, hT⟩ := h
  have c17 : w.cell? ⟨b, 17, none⟩ = some p17 := Block.cell hD.blk 17
  have hp : ∃ a, p17 = .pointer (some a) := by
    obtain ⟨⟨cb, _, _, rfl, _⟩, _⟩ := hD.cod.cod _ _ hf
    exact ⟨_, rfl⟩
  obtain ⟨ca, rfl⟩ := hp
  have HN := Lib.hid (inext_calls (hD.still (Touch.refl (fun _ => False) w).drew) hf hF hU)
  have HO := Lib.hid (⟨hown, hT⟩ : _ ∧ _)
  have H7 := Lib.hid hm9
  have HZ := Lib.hid hz
  have hc := c.toNat_lt
  obtain ⟨k, hk⟩ : ∃ k, k = c.toNat := ⟨_, rfl⟩
  rw [← hk] at HN hc H7
  have HK := Lib.hid hk
  have hkI : (k : Int) < 256 := by omega
  have hkm : (k : Int) % 256 = (k : Int) := by omega
  obtain ⟨i0, hi, hz0, hz1, hz2⟩ := info_parts Tryd.info5
  clear hD hown hT hf hF hU hm9 hz hk
  go_enter Tryd.func96, Tryd.ntmps96
  go_upto_region 1 with fail
  go_region_law (first
    | (go_simp; go_at_call 126; refine HN.out.mono ?_; rintro e w1 ⟨rfl, hd1, ht1⟩; have HD1 := Lib.hid (⟨hd1, (Touch.refl (fun k => k = b) w).drew.trans ht1⟩ : _ ∧ _); clear hd1 ht1))
  go_upto_region 5 with fail
  obtain ⟨v5', g', hD1, ho⟩ := HD1.out.1
  rw [H7.out] at hD1
  have hput := put_calls b 8 c s.all _ w1 (win_at hD1.blk hD1.win hD1.ap.2.2.1) (by have h9 : s.all.length < 1000000000 := hD1.lb.2.2.1; omega)
  rw [← HK.out] at hput
  have HP := Lib.hid hput
  have HDa := Lib.hid (⟨hD1, ho⟩ : _ ∧ _)
  clear hput hD1 ho
  go_wp2_with fail
  refine HP.out.mono ?_
  rintro e w2 ⟨rfl, row', hW2, hS2, hT2⟩
  obtain ⟨v8', hD2, hM2⟩ := HDa.out.1.putw hW2 hS2 hT2 (by have := HZ.out.2; simp; omega)
  have c7 : w2.cell? ⟨b, 7, none⟩ = some v7 := Block.cell hD2.blk 7
  have f7 := Block.free hD2.blk 7
  have hbl := hD2.blk.lt
  have HD2 := Lib.hid (⟨hD2, hM2, hT2⟩ : _ ∧ _ ∧ _)
  clear hW2 hS2 hT2 hD2 hM2 HP
  have HROW : Hid (Row w2 5 v7 (byteVs s.out)) := Lib.hid HD2.out.1.out
  have HNB : Hid (v7.ownBlock ≠ some b) := Lib.hid HD2.out.1.ap.2.1
  have HBL := Lib.hid hbl
  go_wp2_with (at_builtin; refine wpList_append_row _ rfl (.tmp 34) (.tmp 37) 58 58 rfl 5 i0 _ 1 Tryd.underlying58 hi hz0 hz1 hz2 rfl v7 (byteVs s.out) rfl (by exact HROW.out.kept (S := fun _ => False) ((Touch.refl _ _).alloc _) (fun _ _ => id)) (.slice (some ⟨w2.heap.size, 0, none⟩) 1 1) rfl 1 [.int .u8 (k : Nat)] (by exact Src.ofCell Tryd.underlying58 (heap_alloc_new w2 _) rfl) (by rw [byteVs_length]; unfold maxLen; have := HZ.out.1; omega) (by rw [byteVs_length]; have := HZ.out.1; omega) ?_; intro v9 w4 hrow4 hgrow4 hown4; obtain ⟨a9, c9, hv9, hc91, hc92⟩ := hrow4.form; subst hv9; have hB4 : w4.heap[b]? = w2.heap[b]? := (hgrow4.block b (by rw [alloc_size]; have := HBL.out; omega) (fun e => HNB.out e.symm)).trans (Below.heap_alloc w2 _ b HBL.out); have g7 := (World.cell?_of_block (a := ⟨b, 7, none⟩) hB4).trans c7; have e7 := (World.frozen?_of_block (a := ⟨b, 7, none⟩) hB4).trans f7; have HG := Lib.hid (⟨hrow4, hgrow4, hown4⟩ : _ ∧ _ ∧ _); clear hrow4 hgrow4 hown4 hB4)
  go_ret
  obtain ⟨hg1, hg2, hg3⟩ := HG.out
  rw [List.length_append] at hg1 hg3
  have hT24 : Touch (fun q => v7.ownBlock = some q) w2 w4 := ((Touch.refl (fun q => v7.ownBlock = some q) w2).alloc _).grown hg2 (fun q hq => .inl hq)
  have hrow : Row w4 5 (.slice a9 ((byteVs s.out).length + 1) c9) (byteVs (s.out ++ [c])) := by
    rw [byteVs_append]
    rw [HK.out] at hg1
    exact hg1
  obtain ⟨hD5, hM5⟩ := HD2.out.1.told' hrow (fun q hq => by
    rcases hg3 with e | e
    · exact .inl (by rw [← e]; exact hq)
    · right
      have e9 := e.symm.trans hq
      have h8 := Option.some.inj e9
      have h7 := (Touch.alloc (Touch.refl (fun _ => False) w2) (.cells #[.int .u8 (k : Nat)] 5)).size
      rw [← h8]
      first | exact h7 | exact Nat.le_refl _) hT24 (fun q e => .inl e) (by have := HZ.out.1; simp; omega)
  obtain ⟨o1, t1⟩ := own_step (v5' := v5') (v7' := v7) (v8' := v8) HO.out.1 HO.out.2 HD1.out.2 (fun k e => .inl (.inl e)) (fun k e => .inl (mut_same HDa.out.2 e))
  obtain ⟨o2, t2⟩ := own_step (v5' := v5') (v7' := v7) (v8' := v8') o1 t1 HD2.out.2.2 (fun k e => by
    rcases e with e | e
    · exact .inl (.inl e)
    · exact .inl (.inr (.inr (.inr e)))) HD2.out.2.1
  refine ⟨rfl, DecR.step (S := fun q => v7.ownBlock = some q ∨ q = b) o2 t2 ((hT24.mono (fun q e => .inl e)).setCell (p := ⟨b, 7, none⟩) (Or.inl (Or.inr rfl)) _) (fun q e => ?_) hM5 hD5⟩
  rcases e with e | e
  · exact .inl (.inr (.inr (.inl e)))
  · exact .inl (.inl e)
end Go.Proofs.YtoaeffinjpkahaaDoor
/- A decoder: part, run, settle. -/
namespace Go.Proofs.YtoaeffinjpkahaaDoor
set_option linter.unusedSimpArgs false
set_option linter.unusedVariables false
open Go Go.RowKit
set_option maxRecDepth 100000

theorem part_0 {w : World} {b : Nat} (h0 : w.cell? ⟨b, 0, none⟩ = some (.int .i64 0)) {r : Int} {Q : World → Prop}
    (hc : Calls Tryd.prog 89 #[.pointer (some ⟨b, 0, none⟩)] w fun e w' => e = .returned (.int .i64 r) ∧ Q w') :
    Calls Tryd.prog 63 #[.pointer (some ⟨b, 0, none⟩)] w fun e w' => e = .returned (.int .i64 r) ∧ Q w' := by
  have HC := Lib.hid hc
  clear hc
  go_enter Tryd.func63, Tryd.ntmps63
  go_wp2_with fail
  refine HC.out.mono ?_
  rintro e w' ⟨rfl, hq⟩
  have HQ := Lib.hid hq
  clear hq
  go_wp2_with fail
  go_ret
  exact ⟨rfl, HQ.out⟩
theorem part_7 {w : World} {b : Nat} (h0 : w.cell? ⟨b, 0, none⟩ = some (.int .i64 7)) {r : Int} {Q : World → Prop}
    (hc : Calls Tryd.prog 96 #[.pointer (some ⟨b, 0, none⟩)] w fun e w' => e = .returned (.int .i64 r) ∧ Q w') :
    Calls Tryd.prog 63 #[.pointer (some ⟨b, 0, none⟩)] w fun e w' => e = .returned (.int .i64 r) ∧ Q w' := by
  have HC := Lib.hid hc
  clear hc
  go_enter Tryd.func63, Tryd.ntmps63
  go_wp2_with fail
  refine HC.out.mono ?_
  rintro e w' ⟨rfl, hq⟩
  have HQ := Lib.hid hq
  clear hq
  go_wp2_with fail
  go_ret
  exact ⟨rfl, HQ.out⟩
theorem DecR.cell0 {U : Nat → Prop} {w0 w : World} {b : Nat} {s : PS} (h : DecR U w0 w b s) : w.cell? ⟨b, 0, none⟩ = some (.int .i64 (s.st : Nat)) := by
  obtain ⟨v5, g, v7, v8, p17, p18, hD, _⟩ := h
  exact Block.cell hD.blk 0

/-- As many parts as lead to the end. -/
theorem run_steps {U : Nat → Prop} {w0 w : World} {b : Nat} (n : Nat) (S : Nat → PS) (h : DecR U w0 w b (S 0)) (hend : (S n).st = 11) (hne : ∀ i, i < n → (S i).st < 11)
    (hstep : ∀ i, i < n → ∀ W, DecR U w0 W b (S i) → Calls Tryd.prog 63 #[.pointer (some ⟨b, 0, none⟩)] W fun e w' => e = .returned (.int .i64 0) ∧ DecR U w0 w' b (S (i + 1))) :
    Calls Tryd.prog 36 #[.pointer (some ⟨b, 0, none⟩)] w fun e w' => e = .returned (.int .i64 0) ∧ DecR U w0 w' b (S n) := by
  have HS := Lib.hid hstep
  have HE := Lib.hid (⟨hend, hne⟩ : _ ∧ _)
  have H0 := Lib.hid h
  clear hstep hend hne h
  go_enter Tryd.func36, Tryd.ntmps36
  go_wp2_with fail
  go_loopg [] n (fun g wr => g ≤ n ∧ RowKit.Hid (DecR U w0 wr b (S (n - g))))
  case atStart => exact ⟨Nat.le_refl _, by rw [Nat.sub_self]; exact H0⟩
  case round =>
    clear H0
    obtain ⟨hg, HD⟩ := hrel
    have c0 := HD.out.cell0
    rcases Nat.eq_zero_or_pos gk with h0 | h0
    · subst h0
      rw [Nat.sub_zero] at HD c0
      rw [HE.out.1] at c0
      go_wp2_with fail
      go_ret
      exact ⟨rfl, HD.out⟩
    · have hlt := HE.out.2 (n - gk) (by omega)
      have hnI : ¬ (((S (n - gk)).st : Nat) : Int) = 11 := by omega
      have HP := Lib.hid (HS.out (n - gk) (by omega) wr HD.out)
      rw [show n - gk + 1 = n - (gk - 1) by omega] at HP
      generalize (S (n - gk)).st = q at c0 hlt hnI
      clear HD
      go_wp2_with fail
      refine HP.out.mono ?_
      rintro e w' ⟨rfl, hD⟩
      have HD := Lib.hid hD
      clear hD
      go_wp2_with fail
      go_roundg (gk - 1)
      case measure => omega
      case rel => exact ⟨by omega, HD⟩
/-- Too few bits for the first part. -/
theorem run_more {U : Nat → Prop} {w0 w : World} {b : Nat} {s : PS} (h : DecR U w0 w b s) (h0 : s.st = 0) (hl : s.bits.length < 3) :
    Calls Tryd.prog 36 #[.pointer (some ⟨b, 0, none⟩)] w fun e w' => e = .returned (.int .i64 2) ∧ DecR U w0 w' b s := by
  have c0 := h.cell0
  rw [h0] at c0
  have HP := Lib.hid (part_0 c0 (iblock_more h hl))
  clear h hl h0
  go_enter Tryd.func36, Tryd.ntmps36
  go_wp2_with fail
  go_loopg [] 1 (fun g wr => wr = w)
  case atStart => rfl
  case round =>
    subst hrel
    go_wp2_with fail
    refine HP.out.mono ?_
    rintro e w' ⟨rfl, hD⟩
    have HD := Lib.hid hD
    clear hD
    go_wp2_with fail
    go_ret
    exact ⟨rfl, HD.out⟩
theorem settle_more (p : Value) (w : World) : Calls Tryd.prog 37 #[p, .int .i64 2] w fun e w' => e = .returned (.tuple #[]) ∧ w = w' := by
  go_enter Tryd.func37, Tryd.ntmps37
  go_wp2_with fail
  go_end0
  exact ⟨rfl, rfl⟩
end Go.Proofs.YtoaeffinjpkahaaDoor

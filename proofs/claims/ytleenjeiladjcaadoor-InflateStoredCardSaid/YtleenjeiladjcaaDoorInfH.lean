/- A decoder: readSymbol, where a byte or the block's end is told. -/
import Derived.Test.YtleenjeiladjcaaDoorInfG
import Derived.Deep.RegionLaw
namespace Go.Proofs.YtleenjeiladjcaaDoor
open Go Go.RowKit
set_option maxRecDepth 100000

/-- Next of a decoder's code of bytes and lengths, where just one symbol is found. -/
theorem inext_calls {w : World} {b : Nat} {s : PS} {v5 v7 v8 p17 p18 : Value} {g : Nat} (h : DecM w b s v5 g v7 v8 p17 p18) (hf : s.fixed = true) {c : Nat} (hF : FoundAt fixW s.bits c) (hU : ∀ t, FoundAt fixW s.bits t → t = c) :
    Calls Tryd.prog 64 #[p17, .pointer (some ⟨b, 5, none⟩)] w fun e w' => e = .returned (.tuple #[.int .i64 (c : Nat), .int .i64 0]) ∧
      (∃ v5' g', DecM w' b { s with bits := s.bits.drop (fixW.getD c 0) } v5' g' v7 v8 p17 p18 ∧ v5'.ownBlock = v5.ownBlock) ∧ Touch (fun k => k = b) w w' := by
  obtain ⟨⟨cb, n0, n1, rfl, hC, hn, hdis⟩, _⟩ := h.cod hf
  refine (next_calls cb n0 n1 fixW b 5 s.bits _ w hC whole_fixW (rd_at h.blk h.rd h.ap.1) h.l2 (by have := h.lb.1; omega) (fun e => hdis b e.1 e.2 (.inl rfl))).mono ?_
  rintro e w' (⟨t, ht, he, hR, hT⟩ | ⟨hno, _⟩ | ⟨hno, _⟩)
  · obtain rfl := hU t ht
    obtain ⟨v5', g', hD, ho⟩ := h.read hR hT ⟨_, rfl⟩
    exact ⟨he, ⟨v5', g', hD, ho⟩, hT⟩
  · exact absurd hF (hno c)
  · exact absurd hF (hno c)

set_option maxHeartbeats 2000000 in
theorem isym_end {U : Nat → Prop} {w0 w : World} {b : Nat} {s : PS} (h : DecR U w0 w b s) (hf : s.fixed = true) (hF : FoundAt fixW s.bits 256) (hU : ∀ t, FoundAt fixW s.bits t → t = 256) :
    Calls Tryd.prog 47 #[.pointer (some ⟨b, 0, none⟩)] w fun e w' => e = .returned (.int .i64 0) ∧ DecR U w0 w' b { s with bits := s.bits.drop 7, st := if s.last then 11 else 0 } := by
  obtain ⟨v5, g, v7, v8, p17, p18, hD, hown, hT⟩ := h
  have c17 : w.cell? ⟨b, 17, none⟩ = some p17 := Block.cell hD.blk 17
  have hp : ∃ a, p17 = .pointer (some a) := by
    obtain ⟨⟨cb, _, _, rfl, _⟩, _⟩ := hD.cod hf
    exact ⟨_, rfl⟩
  obtain ⟨ca, rfl⟩ := hp
  have HN := Lib.hid (inext_calls (hD.still (Touch.refl (fun _ => False) w).drew) hf hF hU)
  have HO := Lib.hid (⟨hown, hT⟩ : _ ∧ _)
  have h7 : fixW.getD 256 0 = 7 := by decide +kernel
  have H7 := Lib.hid h7
  obtain ⟨N9, hN9⟩ : ∃ N9 : Nat, N9 = (if s.last then 11 else 0) := ⟨_, rfl⟩
  rw [← hN9]
  have HN9 := Lib.hid hN9
  clear hD hown hT hf hF hU h7 hN9
  go_enter Tryd.func47, Tryd.ntmps47
  go_upto_region 1 with fail
  go_region_law (first
    | (go_simp; go_at_call 64; refine HN.out.mono ?_; rintro e w1 ⟨rfl, hd1, ht1⟩; have HD1 := Lib.hid (⟨hd1, (Touch.refl (fun k => k = b) w).drew.trans ht1⟩ : _ ∧ _); clear hd1 ht1))
  go_wp2_with fail
  obtain ⟨v5', g', hD1, ho⟩ := HD1.out.1
  rw [H7.out] at hD1
  have hR1 : DecR U w0 w1 b { s with bits := s.bits.drop 7 } := DecR.step HO.out.1 HO.out.2 HD1.out.2 (fun k e => .inl (.inl e)) (fun k e => .inl (mut_same ho e)) hD1
  refine (iend_calls hR1).mono ?_
  rintro e w2 ⟨rfl, hR2⟩
  dsimp only at hR2
  rw [← HN9.out] at hR2
  have HR2 := Lib.hid hR2
  clear hR2 hR1 hD1 ho
  go_wp2_with fail
  go_ret
  exact ⟨rfl, HR2.out⟩

/-- A byte was put into the window. -/
theorem DecM.putw {w w1 : World} {b : Nat} {s : PS} {v5 v7 v8 p17 p18 : Value} {g : Nat} {all : List UInt8} {row' : Option Nat} (h : DecM w b s v5 g v7 v8 p17 p18) (hW : WinAt (56, fun i => (decL s v5 g v7 v8 p17 p18)[i]?) w1 b 8 all row') (hs : Sep w.heap.size v8.ownBlock row') (ht : Touch (fun k => k = b ∨ v8.ownBlock = some k) w w1) (hl : all.length < 1000000000) :
    ∃ v8', DecM w1 b { s with all := all } v5 g v7 v8' p17 p18 ∧ ∀ k, Mut b v5 v7 v8' k → Mut b v5 v7 v8 k ∨ w.heap.size ≤ k := by
  obtain ⟨v8', hB, hwn, ho, hne⟩ := win_back hW
  have hm := h.mlt
  obtain ⟨k1, k2, k3, k4, k5, k6, k7, k8, k9⟩ := h
  obtain ⟨a1, a2, a3, a4, a5, a6⟩ := k5
  have hM : ∀ k, Mut b v5 v7 v8' k → Mut b v5 v7 v8 k ∨ w.heap.size ≤ k := by
    intro k hk
    rcases hk with e | e | e | e
    · exact .inl (.inl e)
    · exact .inl (.inr (.inl e))
    · exact .inl (.inr (.inr (.inl e)))
    · rw [ho] at e
      rcases hs with hs | ⟨q, hq, hge⟩
      · exact .inl (.inr (.inr (.inr (by rw [← hs]; exact e))))
      · rw [hq] at e
        have := Option.some.inj e
        exact .inr (by omega)
  have hS : ∀ k, (k = b ∨ v8.ownBlock = some k) → Mut b v5 v7 v8 k ∨ w.heap.size ≤ k := fun k e => by
    rcases e with e | e
    · exact .inl (.inl e)
    · exact .inl (.inr (.inr (.inr e)))
  have hx : ∀ k, k < w.heap.size → v8.ownBlock ≠ some k → v8'.ownBlock ≠ some k := by
    intro k hk hn e
    rw [ho] at e
    rcases hs with hs | ⟨q, hq, hge⟩
    · exact hn (by rw [← hs]; exact e)
    · rw [hq] at e
      have := Option.some.inj e
      omega
  refine ⟨v8', ⟨hB, k2.kept ht (fun k e e2 => ?_), k3.kept ht (fun k e e2 => ?_), hwn, ⟨a1, a2, hne, a4, fun k e => hx k (hm k (.inr (.inl e))) (a5 k e), fun k e => hx k (hm k (.inr (.inr (.inl e)))) (a6 k e)⟩, fun hf => ?_, k7, k8, ⟨k9.1, k9.2.1, hl, k9.2.2.2⟩⟩, hM⟩
  · rcases e2 with e2 | e2
    · exact a1 (by rw [e, e2])
    · exact a5 k e e2
  · rcases e2 with e2 | e2
    · exact a2 (by rw [e, e2])
    · exact a6 k e e2
  · obtain ⟨c1, c2⟩ := k6 hf
    exact ⟨c1.step ht hS hM, c2.step ht hS hM⟩
/-- What it tells has grown. -/
theorem DecM.told' {S : Nat → Prop} {w w1 : World} {b : Nat} {s : PS} {v5 v7 v8 p17 p18 v7' : Value} {g : Nat} {out : List UInt8} (h : DecM w b s v5 g v7 v8 p17 p18) (hrow : Row w1 5 v7' (byteVs out)) (hs : ∀ k, v7'.ownBlock = some k → v7.ownBlock = some k ∨ w.heap.size ≤ k) (ht : Touch S w w1) (hSS : ∀ k, S k → v7.ownBlock = some k ∨ w.heap.size ≤ k) (hl : out.length < 1000000000) :
    DecM (w1.setCell ⟨b, 7, none⟩ v7') b { s with out := out } v5 g v7' v8 p17 p18 ∧ (∀ k, Mut b v5 v7' v8 k → Mut b v5 v7 v8 k ∨ w.heap.size ≤ k) := by
  have hm := h.mlt
  obtain ⟨k1, k2, k3, k4, k5, k6, k7, k8, k9⟩ := h
  obtain ⟨a1, a2, a3, a4, a5, a6⟩ := k5
  have hbl := hm b (.inl rfl)
  have hx : ∀ k, k < w.heap.size → v7.ownBlock ≠ some k → v7'.ownBlock ≠ some k := by
    intro k hk hn e
    rcases hs k e with e | e
    · exact hn e
    · omega
  have hM : ∀ k, Mut b v5 v7' v8 k → Mut b v5 v7 v8 k ∨ w.heap.size ≤ k := by
    intro k hk
    rcases hk with e | e | e | e
    · exact .inl (.inl e)
    · exact .inl (.inr (.inl e))
    · rcases hs k e with e | e
      · exact .inl (.inr (.inr (.inl e)))
      · exact .inr e
    · exact .inl (.inr (.inr (.inr e)))
  have hSb : ¬ S b := fun e => by
    rcases hSS b e with e | e
    · exact a2 e
    · omega
  have hB1 := k1.kept ht hSb
  have ht2 : Touch (fun k => S k ∨ k = b) w (w1.setCell ⟨b, 7, none⟩ v7') := (ht.mono (fun k e => .inl e)).setCell (p := ⟨b, 7, none⟩) (Or.inl (Or.inr rfl)) _
  have hS2 : ∀ k, (S k ∨ k = b) → Mut b v5 v7 v8 k ∨ w.heap.size ≤ k := fun k e => by
    rcases e with e | e
    · rcases hSS k e with e | e
      · exact .inl (.inr (.inr (.inl e)))
      · exact .inr e
    · exact .inl (.inl e)
  have hnb : v7'.ownBlock ≠ some b := hx b hbl a2
  refine ⟨⟨Block.set hB1 7 _, k2.kept ht2 (fun k e e2 => ?_), hrow.kept ((Touch.refl (fun k => k = b) w1).setCell (p := ⟨b, 7, none⟩) (Or.inl rfl) _) (fun k e e2 => hnb (by rw [e, e2])), k4.kept ht2 (fun k e e2 => ?_), ⟨a1, hnb, a3, fun k e => hx k (hm k (.inr (.inl e))) (a4 k e), a5, fun k e e2 => ?_⟩, fun hf => ?_, k7, k8, ⟨k9.1, hl, k9.2.2⟩⟩, hM⟩
  · have hlt := hm k (.inr (.inl e))
    rcases e2 with e2 | e2
    · rcases hSS k e2 with e2 | e2
      · exact a4 k e e2
      · omega
    · exact a1 (by rw [e, e2])
  · have hlt := hm k (.inr (.inr (.inr e)))
    rcases e2 with e2 | e2
    · rcases hSS k e2 with e2 | e2
      · exact a6 k e2 e
      · omega
    · exact a3 (by rw [e, e2])
  · have hlt := hm k (.inr (.inr (.inr e2)))
    exact hx k hlt (fun e3 => a6 k e3 e2) e
  · obtain ⟨c1, c2⟩ := k6 hf
    exact ⟨c1.step ht2 hS2 hM, c2.step ht2 hS2 hM⟩
end Go.Proofs.YtleenjeiladjcaaDoor

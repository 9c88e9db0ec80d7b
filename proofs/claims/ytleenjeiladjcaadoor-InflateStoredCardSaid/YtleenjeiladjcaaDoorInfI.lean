/- A decoder: readSymbol, where a byte is told. -/
import Derived.Test.YtleenjeiladjcaaDoorInfH
namespace Go.Proofs.YtleenjeiladjcaaDoor
open Go Go.RowKit
set_option maxRecDepth 100000

theorem own_step {U S : Nat → Prop} {w0 w w' : World} {b : Nat} {v5 v7 v8 v5' v7' v8' : Value} (hown : ∀ k, Mut b v5 v7 v8 k → U k ∨ w0.heap.size ≤ k) (h0 : Touch U w0 w) (ht : Touch S w w')
    (hS : ∀ k, S k → Mut b v5 v7 v8 k ∨ w.heap.size ≤ k) (hM : ∀ k, Mut b v5' v7' v8' k → Mut b v5 v7 v8 k ∨ w.heap.size ≤ k) : (∀ k, Mut b v5' v7' v8' k → U k ∨ w0.heap.size ≤ k) ∧ Touch U w0 w' := by
  have hsz := h0.size
  refine ⟨fun k hk => ?_, h0.trans' ht (fun k hk => ?_)⟩
  · rcases hM k hk with e | e
    · exact hown k e
    · exact .inr (by omega)
  · rcases hS k hk with e | e
    · exact hown k e
    · exact .inr (by omega)

set_option maxHeartbeats 2000000 in
theorem isym_lit {U : Nat → Prop} {w0 w : World} {b : Nat} {s : PS} (h : DecR U w0 w b s) (hf : s.fixed = true) (c : UInt8) (m : Nat) (hm9 : fixW.getD c.toNat 0 = m) (hF : FoundAt fixW s.bits c.toNat) (hU : ∀ t, FoundAt fixW s.bits t → t = c.toNat) (hz : s.out.length < 999999999 ∧ s.all.length < 999999999) :
    Calls Tryd.prog 47 #[.pointer (some ⟨b, 0, none⟩)] w fun e w' => e = .returned (.int .i64 0) ∧ DecR U w0 w' b { s with bits := s.bits.drop m, all := s.all ++ [c], out := s.out ++ [c] } := by
  obtain ⟨v5, g, v7, v8, p17, p18, hD, hown, hT⟩ := h
  have c17 : w.cell? ⟨b, 17, none⟩ = some p17 := Block.cell hD.blk 17
  have hp : ∃ a, p17 = .pointer (some a) := by
    obtain ⟨⟨cb, _, _, rfl, _⟩, _⟩ := hD.cod hf
    exact ⟨_, rfl⟩
  obtain ⟨ca, rfl⟩ := hp
  have HN := Lib.hid (inext_calls (hD.still (Touch.refl (fun _ => False) w).drew) hf hF hU)
  have HO := Lib.hid (⟨hown, hT⟩ : _ ∧ _)
  have H7 := Lib.hid hm9
  have HZ := Lib.hid hz
  have hc := c.toNat_lt
  obtain ⟨k, hk⟩ : ∃ k, k = c.toNat := ⟨_, rfl⟩
  rw [← hk] at HN hc H7
  have HK := Lib.hid hk
  have hkI : (k : Int) < 256 := by omega
  have hkm : (k : Int) % 256 = (k : Int) := by omega
  obtain ⟨i0, hi, hz0, hz1, hz2⟩ := info_parts Tryd.info5
  clear hD hown hT hf hF hU hm9 hz hk
  go_enter Tryd.func47, Tryd.ntmps47
  go_upto_region 1 with fail
  go_region_law (first
    | (go_simp; go_at_call 64; refine HN.out.mono ?_; rintro e w1 ⟨rfl, hd1, ht1⟩; have HD1 := Lib.hid (⟨hd1, (Touch.refl (fun k => k = b) w).drew.trans ht1⟩ : _ ∧ _); clear hd1 ht1))
  go_upto_region 5 with fail
  obtain ⟨v5', g', hD1, ho⟩ := HD1.out.1
  rw [H7.out] at hD1
  have hput := put_calls b 8 c s.all _ w1 (win_at hD1.blk hD1.win hD1.ap.2.2.1) (by have h9 : s.all.length < 1000000000 := hD1.lb.2.2.1; omega)
  rw [← HK.out] at hput
  have HP := Lib.hid hput
  have HDa := Lib.hid (⟨hD1, ho⟩ : _ ∧ _)
  clear hput hD1 ho
  go_wp2_with fail
  refine HP.out.mono ?_
  rintro e w2 ⟨rfl, row', hW2, hS2, hT2⟩
  obtain ⟨v8', hD2, hM2⟩ := HDa.out.1.putw hW2 hS2 hT2 (by have := HZ.out.2; simp; omega)
  have c7 : w2.cell? ⟨b, 7, none⟩ = some v7 := Block.cell hD2.blk 7
  have f7 := Block.free hD2.blk 7
  have hbl := hD2.blk.lt
  have HD2 := Lib.hid (⟨hD2, hM2, hT2⟩ : _ ∧ _ ∧ _)
  clear hW2 hS2 hT2 hD2 hM2 HP
  have HROW : Hid (Row w2 5 v7 (byteVs s.out)) := Lib.hid HD2.out.1.out
  have HNB : Hid (v7.ownBlock ≠ some b) := Lib.hid HD2.out.1.ap.2.1
  have HBL := Lib.hid hbl
  go_wp2_with (at_builtin; refine wpList_append_row _ rfl (.tmp 34) (.tmp 37) 39 39 rfl 5 i0 _ 1 Tryd.underlying39 hi hz0 hz1 hz2 rfl v7 (byteVs s.out) rfl (by exact HROW.out.kept (S := fun _ => False) ((Touch.refl _ _).alloc _) (fun _ _ => id)) (.slice (some ⟨w2.heap.size, 0, none⟩) 1 1) rfl 1 [.int .u8 (k : Nat)] (by exact Src.ofCell Tryd.underlying39 (heap_alloc_new w2 _) rfl) (by rw [byteVs_length]; unfold maxLen; have := HZ.out.1; omega) (by rw [byteVs_length]; have := HZ.out.1; omega) ?_; intro v9 w4 hrow4 hgrow4 hown4; obtain ⟨a9, c9, hv9, hc91, hc92⟩ := hrow4.form; subst hv9; have hB4 : w4.heap[b]? = w2.heap[b]? := (hgrow4.block b (by rw [alloc_size]; have := HBL.out; omega) (fun e => HNB.out e.symm)).trans (Below.heap_alloc w2 _ b HBL.out); have g7 := (World.cell?_of_block (a := ⟨b, 7, none⟩) hB4).trans c7; have e7 := (World.frozen?_of_block (a := ⟨b, 7, none⟩) hB4).trans f7; have HG := Lib.hid (⟨hrow4, hgrow4, hown4⟩ : _ ∧ _ ∧ _); clear hrow4 hgrow4 hown4 hB4)
  go_ret
  obtain ⟨hg1, hg2, hg3⟩ := HG.out
  rw [List.length_append] at hg1 hg3
  have hT24 : Touch (fun q => v7.ownBlock = some q) w2 w4 := ((Touch.refl (fun q => v7.ownBlock = some q) w2).alloc _).grown hg2 (fun q hq => .inl hq)
  have hrow : Row w4 5 (.slice a9 ((byteVs s.out).length + 1) c9) (byteVs (s.out ++ [c])) := by
    rw [byteVs_append]
    rw [HK.out] at hg1
    exact hg1
  obtain ⟨hD5, hM5⟩ := HD2.out.1.told' hrow (fun q hq => by
    rcases hg3 with e | e
    · exact .inl (by rw [← e]; exact hq)
    · right
      have e9 := e.symm.trans hq
      have h8 := Option.some.inj e9
      have h7 := (Touch.alloc (Touch.refl (fun _ => False) w2) (.cells #[.int .u8 (k : Nat)] 5)).size
      rw [← h8]
      first | exact h7 | exact Nat.le_refl _) hT24 (fun q e => .inl e) (by have := HZ.out.1; simp; omega)
  obtain ⟨o1, t1⟩ := own_step (v5' := v5') (v7' := v7) (v8' := v8) HO.out.1 HO.out.2 HD1.out.2 (fun k e => .inl (.inl e)) (fun k e => .inl (mut_same HDa.out.2 e))
  obtain ⟨o2, t2⟩ := own_step (v5' := v5') (v7' := v7) (v8' := v8') o1 t1 HD2.out.2.2 (fun k e => by
    rcases e with e | e
    · exact .inl (.inl e)
    · exact .inl (.inr (.inr (.inr e)))) HD2.out.2.1
  refine ⟨rfl, DecR.step (S := fun q => v7.ownBlock = some q ∨ q = b) o2 t2 ((hT24.mono (fun q e => .inl e)).setCell (p := ⟨b, 7, none⟩) (Or.inl (Or.inr rfl)) _) (fun q e => ?_) hM5 hD5⟩
  rcases e with e | e
  · exact .inl (.inr (.inr (.inl e)))
  · exact .inl (.inl e)
end Go.Proofs.YtleenjeiladjcaaDoor

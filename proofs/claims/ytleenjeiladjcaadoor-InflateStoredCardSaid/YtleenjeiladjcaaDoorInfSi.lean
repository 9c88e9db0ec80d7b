/- A decoder: readBlock of a stored block, readSizes. -/
import Derived.Test.YtleenjeiladjcaaDoorInfM
import Derived.Test.YtleenjeiladjcaaDoorInfN
import Derived.Deep.MidRow
import Derived.OwnWalk
import Derived.Test.YtleenjeiladjcaaDoorInfO
namespace Go.Proofs.YtleenjeiladjcaaDoor
open Go Go.RowKit
set_option maxRecDepth 100000

theorem DecR.set0 {U : Nat → Prop} {w0 w : World} {b : Nat} {s : PS} (h : DecR U w0 w b s) (n : Nat) : DecR U w0 (w.setCell ⟨b, 0, none⟩ (.int .i64 (n : Nat))) b { s with st := n } := by
  obtain ⟨v5, g, v7, v8, p17, p18, hD, hown, hT⟩ := h
  have ht : Touch (fun k => k = b) w (w.setCell ⟨b, 0, none⟩ (.int .i64 (n : Nat))) := (Touch.refl (fun k => k = b) w).setCell (p := ⟨b, 0, none⟩) (Or.inl rfl) _
  exact DecR.step hown hT ht (fun k e => .inl (.inl e)) (fun k e => .inl e) (hD.put ht (Block.set hD.blk 0 _) rfl rfl rfl rfl ⟨hD.lb.2.2.2.1, hD.lb.2.2.2.2⟩)
theorem DecR.set10 {U : Nat → Prop} {w0 w : World} {b : Nat} {s : PS} (h : DecR U w0 w b s) (z : Bool) : DecR U w0 (w.setCell ⟨b, 10, none⟩ (.bool z)) b { s with last := z } := by
  obtain ⟨v5, g, v7, v8, p17, p18, hD, hown, hT⟩ := h
  have ht : Touch (fun k => k = b) w (w.setCell ⟨b, 10, none⟩ (.bool z)) := (Touch.refl (fun k => k = b) w).setCell (p := ⟨b, 10, none⟩) (Or.inl rfl) _
  exact DecR.step hown hT ht (fun k e => .inl (.inl e)) (fun k e => .inl e) (hD.put ht (Block.set hD.blk 10 _) rfl rfl rfl rfl ⟨hD.lb.2.2.2.1, hD.lb.2.2.2.2⟩)
theorem DecR.set11 {U : Nat → Prop} {w0 w : World} {b : Nat} {s : PS} (h : DecR U w0 w b s) (n : Nat) : DecR U w0 (w.setCell ⟨b, 11, none⟩ (.int .i64 (n : Nat))) b { s with left := n } := by
  obtain ⟨v5, g, v7, v8, p17, p18, hD, hown, hT⟩ := h
  have ht : Touch (fun k => k = b) w (w.setCell ⟨b, 11, none⟩ (.int .i64 (n : Nat))) := (Touch.refl (fun k => k = b) w).setCell (p := ⟨b, 11, none⟩) (Or.inl rfl) _
  exact DecR.step hown hT ht (fun k e => .inl (.inl e)) (fun k e => .inl e) (hD.put ht (Block.set hD.blk 11 _) rfl rfl rfl rfl ⟨hD.lb.2.2.2.1, hD.lb.2.2.2.2⟩)
theorem DecR.free {U : Nat → Prop} {w0 w : World} {b : Nat} {s : PS} (h : DecR U w0 w b s) (j : Nat) : w.frozen? ⟨b, j, none⟩ = false := by
  obtain ⟨v5, g, v7, v8, p17, p18, hD, hown, hT⟩ := h
  exact Block.free hD.blk j
theorem DecR.cell10 {U : Nat → Prop} {w0 w : World} {b : Nat} {s : PS} (h : DecR U w0 w b s) : w.cell? ⟨b, 10, none⟩ = some (.bool s.last) := by
  obtain ⟨v5, g, v7, v8, p17, p18, hD, _⟩ := h
  exact Block.cell hD.blk 10
theorem DecR.cell11 {U : Nat → Prop} {w0 w : World} {b : Nat} {s : PS} (h : DecR U w0 w b s) : w.cell? ⟨b, 11, none⟩ = some (.int .i64 (s.left : Nat)) := by
  obtain ⟨v5, g, v7, v8, p17, p18, hD, _⟩ := h
  exact Block.cell hD.blk 11
theorem DecR.bits_lt {U : Nat → Prop} {w0 w : World} {b : Nat} {s : PS} (h : DecR U w0 w b s) : s.bits.length < 1000000000 ∧ ∀ x ∈ s.bits, x < 2 := by
  obtain ⟨v5, g, v7, v8, p17, p18, hD, _⟩ := h
  exact ⟨hD.lb.1, hD.l2⟩
theorem iread_calls {U : Nat → Prop} {w0 w : World} {b : Nat} {s : PS} (h : DecR U w0 w b s) (n : Nat) (hn : n ≤ 32) (hl : n ≤ s.bits.length) :
    Calls Tryd.prog 34 #[.pointer (some ⟨b, 5, none⟩), .int .i64 (n : Nat)] w fun e w' => e = .returned (.tuple #[.int .u64 (numN (s.bits.take n) : Nat), .bool true]) ∧ DecR U w0 w' b { s with bits := s.bits.drop n } := by
  obtain ⟨v5, g, v7, v8, p17, p18, hD, hown, hT⟩ := h
  refine (read_some b 5 n s.bits _ w (rd_at hD.blk hD.rd hD.ap.1) (by have := hD.lb.1; omega) hn hl).mono ?_
  rintro e w1 ⟨he, hR1, hT1⟩
  obtain ⟨v5', g', hD1, ho⟩ := hD.read hR1 hT1 ⟨_, rfl⟩
  exact ⟨he, DecR.step hown hT hT1 (fun k e => .inl (.inl e)) (fun k e => .inl (mut_same ho e)) hD1⟩
theorem iread_less {U : Nat → Prop} {w0 w : World} {b : Nat} {s : PS} (h : DecR U w0 w b s) (n : Nat) (hn : n ≤ 32) (hl : s.bits.length < n) :
    Calls Tryd.prog 34 #[.pointer (some ⟨b, 5, none⟩), .int .i64 (n : Nat)] w fun e w' => e = .returned (.tuple #[.int .u64 0, .bool false]) ∧ w' = w.drew := by
  obtain ⟨v5, g, v7, v8, p17, p18, hD, hown, hT⟩ := h
  exact read_less b 5 n s.bits _ w (rd_at hD.blk hD.rd hD.ap.1) (by have := hD.lb.1; omega) hn hl
theorem ialign_calls {U : Nat → Prop} {w0 w : World} {b : Nat} {s : PS} (h : DecR U w0 w b s) :
    Calls Tryd.prog 51 #[.pointer (some ⟨b, 5, none⟩)] w fun e w' => e = .returned (.tuple #[]) ∧ DecR U w0 w' b { s with bits := s.bits.drop (s.bits.length % 8) } := by
  obtain ⟨v5, g, v7, v8, p17, p18, hD, hown, hT⟩ := h
  refine (ralign_calls b 5 s.bits _ w (rd_at hD.blk hD.rd hD.ap.1) (by have := hD.lb.1; omega)).mono ?_
  rintro e w1 ⟨he, hR1, hT1⟩
  obtain ⟨v5', g', hD1, ho⟩ := hD.read hR1 hT1 ⟨_, rfl⟩
  exact ⟨he, DecR.step hown hT hT1 (fun k e => .inl (.inl e)) (fun k e => .inl (mut_same ho e)) hD1⟩

set_option maxHeartbeats 2000000 in
theorem iblock_stored {U : Nat → Prop} {w0 w : World} {b : Nat} {s : PS} (h : DecR U w0 w b s) {x0 : Nat} {l : List Nat} (hb : s.bits = x0 :: 0 :: 0 :: l) :
    Calls Tryd.prog 40 #[.pointer (some ⟨b, 0, none⟩)] w fun e w' => e = .returned (.int .i64 0) ∧ DecR U w0 w' b { s with bits := l.drop (l.length % 8), last := x0 == 1, st := 1 } := by
  have hx0 : x0 < 2 := h.bits_lt.2 x0 (by rw [hb]; exact List.mem_cons_self)
  have hread := iread_calls h 3 (by decide) (by rw [hb]; simp)
  have hnum : numN (s.bits.take 3) = x0 := by
    rw [hb]
    rcases (show x0 = 0 ∨ x0 = 1 by omega) with rfl | rfl <;> rfl
  have hdrop : s.bits.drop 3 = l := by rw [hb]; rfl
  rw [hnum, hdrop] at hread
  have HR := Lib.hid hread
  have q0 : bits .and .u64 0 1 = 0 := by decide
  have q1 : bits .and .u64 1 1 = 1 := by decide
  clear hread hnum hdrop hb h
  rcases (show x0 = 0 ∨ x0 = 1 by omega) with rfl | rfl
  all_goals
    go_enter Tryd.func40, Tryd.ntmps40
    go_wp2_with fail
    refine HR.out.mono ?_
    rintro e w1 ⟨rfl, hR1⟩
    have m10 := hR1.cell10
    have g10 := hR1.free 10
    have H1 := Lib.hid hR1
    clear hR1 HR
    go_wp2_with fail
  · refine (ialign_calls (H1.out.set10 false)).mono ?_
    rintro e w2 ⟨rfl, hR2⟩
    have m0 := hR2.cell0
    have g0 := hR2.free 0
    have H2 := Lib.hid (hR2.set0 1)
    clear hR2
    go_wp2_with fail
    go_ret
    exact ⟨rfl, H2.out⟩
  · refine (ialign_calls (H1.out.set10 true)).mono ?_
    rintro e w2 ⟨rfl, hR2⟩
    have m0 := hR2.cell0
    have g0 := hR2.free 0
    have H2 := Lib.hid (hR2.set0 1)
    clear hR2
    go_wp2_with fail
    go_ret
    exact ⟨rfl, H2.out⟩

theorem isizes_more {U : Nat → Prop} {w0 w : World} {b : Nat} {s : PS} (h : DecR U w0 w b s) (hl : s.bits.length < 32) : Calls Tryd.prog 41 #[.pointer (some ⟨b, 0, none⟩)] w fun e w' => e = .returned (.int .i64 2) ∧ DecR U w0 w' b s := by
  have HR := Lib.hid (iread_less h 32 (by decide) hl)
  have HD := Lib.hid h
  have c0 := h.cell0
  clear h hl
  go_enter Tryd.func41, Tryd.ntmps41
  go_wp2_with fail
  refine HR.out.mono ?_
  rintro e w' ⟨rfl, rfl⟩
  go_wp2_with fail
  go_ret
  exact ⟨rfl, HD.out.still (Touch.refl _ _).drew⟩
theorem u64_and16 (n : Nat) (h : n < 4294967296) : bits .and .u64 (n : Int) 65535 = ((n % 65536 : Nat) : Int) := by
  have := u64_and_nat n 65535 (by omega) (by decide)
  rw [show ((65535 : Nat) : Int) = 65535 from rfl] at this
  rw [this, show (65535 : Nat) = 2 ^ 16 - 1 from rfl, Nat.and_two_pow_sub_one_eq_mod]
set_option maxHeartbeats 1000000 in
theorem isizes_ok {U : Nat → Prop} {w0 w : World} {b : Nat} {s : PS} (h : DecR U w0 w b s) (n : Nat) (hn : n < 65536) (hl : 32 ≤ s.bits.length) (hN : numN (s.bits.take 32) = n + 65536 * (65535 - n)) :
    Calls Tryd.prog 41 #[.pointer (some ⟨b, 0, none⟩)] w fun e w' => e = .returned (.int .i64 0) ∧ DecR U w0 w' b { s with bits := s.bits.drop 32, left := n, st := 2 } := by
  have hread := iread_calls h 32 (by decide) hl
  obtain ⟨N, hN2⟩ : ∃ N, N = n + 65536 * (65535 - n) := ⟨_, rfl⟩
  rw [hN, ← hN2] at hread
  have HR := Lib.hid hread
  have hand : bits .and .u64 (N : Int) 65535 = (n : Int) := by rw [u64_and16 N (by omega)]; congr 1; omega
  have hshr : (N : Int) / 65536 = ((65535 - n : Nat) : Int) := by omega
  have hsum : (n : Int) + ((65535 - n : Nat) : Int) = 65535 := by omega
  have hNz : (0 : Int) ≤ (N : Int) := by omega
  clear hread hN hl h hN2
  go_enter Tryd.func41, Tryd.ntmps41
  go_wp2_with fail
  refine HR.out.mono ?_
  rintro e w1 ⟨rfl, hR1⟩
  have m11 := hR1.cell11
  have g11 := hR1.free 11
  have hR2 := hR1.set11 n
  have m0 := hR2.cell0
  have g0 := hR2.free 0
  have H3 := Lib.hid (hR2.set0 2)
  clear hR1 hR2 HR
  go_wp2_with fail
  go_ret
  exact ⟨rfl, H3.out⟩
end Go.Proofs.YtleenjeiladjcaaDoor
/- A decoder: readBytes; run till a part waits; Feed of a piece. -/
namespace Go.Proofs.YtleenjeiladjcaaDoor
open Go Go.RowKit
set_option maxRecDepth 100000

theorem DecR.grow {U : Nat → Prop} {w0 w w4 : World} {b : Nat} {s : PS} (h : DecR U w0 w b s) {v7 v9 : Value} {T : ByteArray} (c7 : w.cell? ⟨b, 7, none⟩ = some v7) (hrow : Row w4 5 v9 (byteVs s.out ++ byteCells T)) (hg : w.grownBy w4 v7.ownBlock) (ho : v9.ownBlock = v7.ownBlock ∨ v9.ownBlock = some w.heap.size)
    (hz : s.out.length + T.size < 1000000000) : DecR U w0 (w4.setCell ⟨b, 7, none⟩ v9) b { s with out := s.out ++ T.data.toList } := by
  obtain ⟨v5, g, v7', v8, p17, p18, hD, hown, hT⟩ := h
  have c7' : w.cell? ⟨b, 7, none⟩ = some v7' := Block.cell hD.blk 7
  obtain rfl : v7' = v7 := Option.some.inj (c7'.symm.trans c7)
  have hT24 : Touch (fun q => v7'.ownBlock = some q) w w4 := (Touch.refl (fun q => v7'.ownBlock = some q) w).grown hg (fun q hq => .inl hq)
  have hrow' : Row w4 5 v9 (byteVs (s.out ++ T.data.toList)) := by
    rw [byteVs_append]
    exact hrow
  obtain ⟨hD5, hM5⟩ := hD.told' hrow' (fun q hq => by
    rcases ho with e | e
    · exact .inl (by rw [← e]; exact hq)
    · right
      have h8 := Option.some.inj (e.symm.trans hq)
      rw [← h8]
      exact Nat.le_refl _) hT24 (fun q e => .inl e) (by rw [List.length_append, data_length]; exact hz)
  refine DecR.step (S := fun q => v7'.ownBlock = some q ∨ q = b) hown hT ((hT24.mono (fun q e => .inl e)).setCell (p := ⟨b, 7, none⟩) (Or.inl (Or.inr rfl)) _) (fun q e => ?_) hM5 hD5
  rcases e with e | e
  · exact .inl (.inr (.inr (.inl e)))
  · exact .inl (.inl e)
theorem DecR.nb {U : Nat → Prop} {w0 w : World} {b : Nat} {s : PS} (h : DecR U w0 w b s) {v7 : Value} (c7 : w.cell? ⟨b, 7, none⟩ = some v7) : v7.ownBlock ≠ some b ∧ b < w.heap.size := by
  obtain ⟨v5, g, v7', v8, p17, p18, hD, hown, hT⟩ := h
  have c7' : w.cell? ⟨b, 7, none⟩ = some v7' := Block.cell hD.blk 7
  obtain rfl : v7' = v7 := Option.some.inj (c7'.symm.trans c7)
  exact ⟨hD.ap.2.1, hD.blk.lt⟩
theorem iadd_calls {U : Nat → Prop} {w0 w : World} {b : Nat} {s : PS} (h : DecR U w0 w b s) (t : ByteArray) (hz : s.all.length + t.size < 1000000000) :
    Calls Tryd.prog 61 #[.pointer (some ⟨b, 8, none⟩), .string t] w fun e w' => e = .returned (.tuple #[]) ∧ DecR U w0 w' b { s with all := s.all ++ t.data.toList } := by
  obtain ⟨v5, g, v7, v8, p17, p18, hD, hown, hT⟩ := h
  refine (add_win b 8 t s.all _ w (win_at hD.blk hD.win hD.ap.2.2.1) (by omega)).mono ?_
  rintro e w1 ⟨he, row', hW, hS, hT1⟩
  obtain ⟨v8', hD1, hM⟩ := hD.putw hW hS hT1 (by rw [List.length_append, data_length]; exact hz)
  exact ⟨he, DecR.step hown hT hT1 (fun k e => by
    rcases e with e | e
    · exact .inl (.inl e)
    · exact .inl (.inr (.inr (.inr e)))) hM hD1⟩
theorem itake_calls {U : Nat → Prop} {w0 w : World} {b : Nat} {s : PS} (h : DecR U w0 w b s) (y z : List UInt8) (hb : s.bits = bitsL (y ++ z)) (hy : y.length = s.left ∨ (y.length < s.left ∧ z = [])) (hl : s.left < 1000000000) :
    Calls Tryd.prog 31 #[.pointer (some ⟨b, 5, none⟩), .int .i64 (s.left : Nat)] w fun e w' => e = .returned (.string ⟨y.toArray⟩) ∧ DecR U w0 w' b { s with bits := bitsL z } := by
  obtain ⟨v5, g, v7, v8, p17, p18, hD, hown, hT⟩ := h
  have hlen : s.bits.length = 8 * (y.length + z.length) := by rw [hb, bitsL_length, List.length_append]
  have hm0 : s.bits.length % 8 = 0 := by omega
  have hd8 : s.bits.length / 8 = y.length + z.length := by omega
  have htk := take_calls b 5 (s.left : Nat) s.bits _ w (rd_at hD.blk hD.rd hD.ap.1) (by have := hD.lb.1; omega) (by omega) (by omega) y.length (by
    rw [hd8]
    rcases hy with hy | ⟨hy, rfl⟩
    · omega
    · simp only [List.length_nil]; omega)
  have e1 : (s.bits.drop (s.bits.length % 8)).take (8 * y.length) = bitsL y := by
    rw [hm0, List.drop_zero, hb, bitsL_take, List.take_left']
    rfl
  have e2 : (s.bits.drop (s.bits.length % 8)).drop (8 * y.length) = bitsL z := by
    rw [hm0, List.drop_zero, hb, bitsL_drop, List.drop_left']
    rfl
  have e3 : bytesL (bitsL y) = y := by
    have := bytesL_bits y [] (by decide)
    rw [List.append_nil] at this
    exact this
  rw [e1, e2, e3] at htk
  refine htk.mono ?_
  rintro e w1 ⟨he, hR1, hT1⟩
  obtain ⟨v5', g', hD1, ho⟩ := hD.read hR1 hT1 ⟨8 * y.length, by rw [hb, bitsL_drop, List.drop_left']; rfl⟩
  exact ⟨he, DecR.step hown hT hT1 (fun k e => .inl (.inl e)) (fun k e => .inl (mut_same ho e)) hD1⟩

/-- What readBytes leaves: its bytes that are there are told; it waits for more, or the block has ended. -/
def bytesPS (s : PS) (y z : List UInt8) : PS := { s with bits := bitsL z, all := s.all ++ y, out := s.out ++ y, left := s.left - y.length, st := if s.left - y.length = 0 then (if s.last then 11 else 0) else s.st }
set_option maxHeartbeats 2000000 in
theorem ibytes_calls {U : Nat → Prop} {w0 w : World} {b : Nat} {s : PS} (h : DecR U w0 w b s) (y z : List UInt8) (hb : s.bits = bitsL (y ++ z)) (hy : y.length = s.left ∨ (y.length < s.left ∧ z = [])) (hl : s.left < 100000) (hz : s.out.length < 900000000 ∧ s.all.length < 900000000) (r : Int) (hr : (if s.left - y.length = 0 then (0 : Int) else 2) = r) :
    Calls Tryd.prog 42 #[.pointer (some ⟨b, 0, none⟩)] w fun e w' => e = .returned (.int .i64 r) ∧ DecR U w0 w' b (bytesPS s y z) := by
  have HT := Lib.hid (fun W (hW : Touch (fun _ => False) w W) => itake_calls (h.still hW) y z hb hy (by omega))
  have c11 := h.cell11
  have HZ := Lib.hid hz
  have HRR := Lib.hid hr
  clear hr
  obtain ⟨T, hT⟩ : ∃ T : ByteArray, T = ⟨y.toArray⟩ := ⟨_, rfl⟩
  rw [← hT] at HT
  have hTd : T.data.toList = y := by rw [hT]
  have hTz : T.size = y.length := by rw [← data_length, hTd]
  have HTD := Lib.hid (⟨hTd, hTz⟩ : _ ∧ _)
  have hyl : y.length ≤ s.left := by rcases hy with h1 | ⟨h1, _⟩ <;> omega
  have hTl : T.size ≤ s.left := by omega
  obtain ⟨i0, hi, hz0, hz1, hz2⟩ := info_parts Tryd.info5
  clear h hb hy hz hT hTd hTz
  go_enter Tryd.func42, Tryd.ntmps42
  go_upto_region 1 with fail
  go_region_law (first
    | (go_simp; go_at_call 31; refine (HT.out _ ((Touch.refl _ _).drew)).mono ?_; rintro e w1 ⟨rfl, hR1⟩; have H1 := Lib.hid hR1; clear hR1))
  have HA := Lib.hid (iadd_calls H1.out T (by show s.all.length + T.size < _; have := HZ.out; omega))
  clear H1 HT c11
  go_upto_region 2 with fail
  go_wp2_with fail
  refine HA.out.mono ?_
  rintro e w2 ⟨rfl, hR2⟩
  obtain ⟨_, _, _, hf, v7, c7, hrow7⟩ := hR2.cells
  have f7 := hf 7
  have HROW : Hid (Row w2 5 v7 (byteVs s.out)) := Lib.hid hrow7
  have HNB := Lib.hid (hR2.nb c7)
  have H2 := Lib.hid hR2
  clear hR2 HA hf hrow7
  go_upto_region 4 with (at_builtin; refine wpList_append_row _ rfl (.tmp 21) (.tmp 22) 39 9 rfl 5 i0 _ 1 Tryd.underlying39 hi hz0 hz1 hz2 rfl v7 (byteVs s.out) rfl HROW.out (.string T) rfl T.size (byteCells T) (Src.ofString _ Tryd.underlying9 T) (by rw [byteVs_length]; unfold maxLen; have := HZ.out; omega) (by rw [byteVs_length]; have := HZ.out; omega) ?_; intro v9 w4 hrow4 hgrow4 hown4; obtain ⟨a9, c9, hv9, hc91, hc92⟩ := hrow4.form; subst hv9; have hB4 : w4.heap[b]? = w2.heap[b]? := hgrow4.block b HNB.out.2 (fun e => HNB.out.1 e.symm); have g7 := (World.cell?_of_block (a := ⟨b, 7, none⟩) hB4).trans c7; have e7 := (World.frozen?_of_block (a := ⟨b, 7, none⟩) hB4).trans f7; have H4 := Lib.hid (H2.out.grow c7 hrow4 hgrow4 hown4 (by show s.out.length + T.size < _; have := HZ.out; omega)); clear hrow4 hgrow4 hown4 hB4)
  obtain ⟨q, hq⟩ : ∃ q, q = s.left - y.length := ⟨_, rfl⟩
  have hsub : (s.left : Int) - (T.size : Int) = (q : Int) := by have := HTD.out.2; omega
  rw [List.length_append] at H4
  have m11 := H4.out.cell11
  have g11 := H4.out.free 11
  have H5 := Lib.hid (H4.out.set11 q)
  have HQ := Lib.hid hq
  generalize w4.setCell ⟨b, 7, none⟩ _ = w5 at H4 H5 m11 g11 ⊢
  clear H4 H2 HROW HNB c7 f7 g7 e7 hc91 hc92 hq
  have hps : ∀ st' : Nat, ((if q = 0 then (if s.last then 11 else 0) else s.st) = st') → ({ s with bits := bitsL z, all := s.all ++ T.data.toList, out := s.out ++ T.data.toList, left := q, st := st' } : PS) = bytesPS s y z := by
    intro st' h
    unfold bytesPS
    rw [HTD.out.1, ← HQ.out, ← h]
  have HPS := Lib.hid hps
  clear hps
  by_cases hq0 : q = 0
  · have HPS2 := Lib.hid (HPS.out (if s.last then 11 else 0) (if_pos hq0))
    have E2 : Hid (r = 0) := Lib.hid (HRR.out.symm.trans (if_pos (by rw [← HQ.out]; exact hq0)))
    clear HRR
    subst hq0
    clear HPS
    go_wp2_with fail
    refine (iend_calls H5.out).mono ?_
    rintro e w6 ⟨rfl, hR6⟩
    have H6 : Hid (DecR U w0 w6 b (bytesPS s y z)) := Lib.hid (by rw [← HPS2.out]; exact hR6)
    clear hR6 H5
    go_wp2_with fail
    go_ret
    exact ⟨(congrArg (fun i => Ending.returned (Value.int .i64 i)) E2.out).symm, H6.out⟩
  · have E2 : Hid (r = 2) := Lib.hid (HRR.out.symm.trans (if_neg (by rw [← HQ.out]; exact hq0)))
    clear HRR
    have hqI : (0 : Int) < (q : Int) := by omega
    have H6 : Hid (DecR U w0 (w5.setCell ⟨b, 11, none⟩ (.int .i64 (q : Nat))) b (bytesPS s y z)) := Lib.hid (by rw [← HPS.out s.st (if_neg hq0)]; exact H5.out)
    clear H5 HPS
    go_wp2_with fail
    go_ret
    exact ⟨(congrArg (fun i => Ending.returned (Value.int .i64 i)) E2.out).symm, H6.out⟩
end Go.Proofs.YtleenjeiladjcaaDoor
/- A decoder: run along a path of parts; Feed of a piece behind which it waits. -/
namespace Go.Proofs.YtleenjeiladjcaaDoor
open Go Go.RowKit
set_option maxRecDepth 100000

/-- As many parts as are there, and then one that isn't there as a whole. -/
theorem run_wait {U : Nat → Prop} {w0 w : World} {b : Nat} (n : Nat) (S : Nat → PS) (sE : PS) (h : DecR U w0 w b (S 0)) (hne : ∀ i, i ≤ n → (S i).st < 11)
    (hstep : ∀ i, i < n → ∀ W, DecR U w0 W b (S i) → Calls Tryd.prog 30 #[.pointer (some ⟨b, 0, none⟩)] W fun e w' => e = .returned (.int .i64 0) ∧ DecR U w0 w' b (S (i + 1)))
    (hlast : ∀ W, DecR U w0 W b (S n) → Calls Tryd.prog 30 #[.pointer (some ⟨b, 0, none⟩)] W fun e w' => e = .returned (.int .i64 2) ∧ DecR U w0 w' b sE) :
    Calls Tryd.prog 23 #[.pointer (some ⟨b, 0, none⟩)] w fun e w' => e = .returned (.int .i64 2) ∧ DecR U w0 w' b sE := by
  have HS := Lib.hid hstep
  have HE := Lib.hid (⟨hlast, hne⟩ : _ ∧ _)
  have H0 := Lib.hid h
  clear hstep hlast hne h
  go_enter Tryd.func23, Tryd.ntmps23
  go_wp2_with fail
  go_loopg [] n (fun g wr => g ≤ n ∧ RowKit.Hid (DecR U w0 wr b (S (n - g))))
  case atStart => exact ⟨Nat.le_refl _, by rw [Nat.sub_self]; exact H0⟩
  case round =>
    clear H0
    obtain ⟨hg, HD⟩ := hrel
    have c0 := HD.out.cell0
    have hlt := HE.out.2 (n - gk) (by omega)
    have hnI : ¬ (((S (n - gk)).st : Nat) : Int) = 11 := by omega
    rcases Nat.eq_zero_or_pos gk with h0 | h0
    · subst h0
      rw [Nat.sub_zero] at HD
      have HP := Lib.hid (HE.out.1 wr HD.out)
      generalize (S (n - 0)).st = q at c0 hlt hnI
      clear HD
      go_wp2_with fail
      refine HP.out.mono ?_
      rintro e w' ⟨rfl, hD⟩
      have HD := Lib.hid hD
      clear hD
      go_wp2_with fail
      go_ret
      exact ⟨rfl, HD.out⟩
    · have HP := Lib.hid (HS.out (n - gk) (by omega) wr HD.out)
      rw [show n - gk + 1 = n - (gk - 1) by omega] at HP
      generalize (S (n - gk)).st = q at c0 hlt hnI
      clear HD
      go_wp2_with fail
      refine HP.out.mono ?_
      rintro e w' ⟨rfl, hD⟩
      have HD := Lib.hid hD
      clear hD
      go_wp2_with fail
      go_roundg (gk - 1)
      case measure => omega
      case rel => exact ⟨by omega, HD⟩

def Stp (U : Nat → Prop) (w0 : World) (b : Nat) (s s' : PS) : Prop := s.st < 11 ∧ ∀ W, DecR U w0 W b s → Calls Tryd.prog 30 #[.pointer (some ⟨b, 0, none⟩)] W fun e w' => e = .returned (.int .i64 0) ∧ DecR U w0 w' b s'
inductive Path (U : Nat → Prop) (w0 : World) (b : Nat) : PS → PS → Prop
  | nil (s : PS) : Path U w0 b s s
  | cons (s s1 t : PS) : Stp U w0 b s s1 → Path U w0 b s1 t → Path U w0 b s t
theorem Path.fn {U : Nat → Prop} {w0 : World} {b : Nat} {s t : PS} (h : Path U w0 b s t) : ∃ (n : Nat) (S : Nat → PS), S 0 = s ∧ S n = t ∧ ∀ i, i < n → Stp U w0 b (S i) (S (i + 1)) := by
  induction h with
  | nil s => exact ⟨0, fun _ => s, rfl, rfl, fun i hi => by omega⟩
  | cons s s1 t h1 _ ih =>
    obtain ⟨n, S, e1, e2, e3⟩ := ih
    refine ⟨n + 1, fun i => match i with | 0 => s | i + 1 => S i, rfl, e2, fun i hi => ?_⟩
    cases i with
    | zero => show Stp U w0 b s (S 0); rw [e1]; exact h1
    | succ i => exact e3 i (by omega)
theorem Path.ends {U : Nat → Prop} {w0 w : World} {b : Nat} {s t : PS} (h : Path U w0 b s t) (ht : t.st = 11) (hD : DecR U w0 w b s) :
    Calls Tryd.prog 23 #[.pointer (some ⟨b, 0, none⟩)] w fun e w' => e = .returned (.int .i64 0) ∧ DecR U w0 w' b t := by
  obtain ⟨n, S, e1, e2, e3⟩ := h.fn
  have key := run_steps (U := U) (w0 := w0) (w := w) (b := b) n S (by rw [e1]; exact hD) (by rw [e2]; exact ht) (fun i hi => (e3 i hi).1) (fun i hi => (e3 i hi).2)
  rw [e2] at key
  exact key
theorem Path.waits {U : Nat → Prop} {w0 w : World} {b : Nat} {s t t' : PS} (h : Path U w0 b s t) (ht : t.st < 11) (hw : ∀ W, DecR U w0 W b t → Calls Tryd.prog 30 #[.pointer (some ⟨b, 0, none⟩)] W fun e w' => e = .returned (.int .i64 2) ∧ DecR U w0 w' b t') (hD : DecR U w0 w b s) :
    Calls Tryd.prog 23 #[.pointer (some ⟨b, 0, none⟩)] w fun e w' => e = .returned (.int .i64 2) ∧ DecR U w0 w' b t' := by
  obtain ⟨n, S, e1, e2, e3⟩ := h.fn
  refine run_wait n S t' (by rw [e1]; exact hD) (fun i hi => ?_) (fun i hi => (e3 i hi).2) (by rw [e2]; exact hw)
  rcases Nat.lt_or_ge i n with hlt | hge
  · exact (e3 i hlt).1
  · rw [show i = n by omega, e2]; exact ht
theorem part_1 {w : World} {b : Nat} (h0 : w.cell? ⟨b, 0, none⟩ = some (.int .i64 1)) {r : Int} {Q : World → Prop}
    (hc : Calls Tryd.prog 41 #[.pointer (some ⟨b, 0, none⟩)] w fun e w' => e = .returned (.int .i64 r) ∧ Q w') :
    Calls Tryd.prog 30 #[.pointer (some ⟨b, 0, none⟩)] w fun e w' => e = .returned (.int .i64 r) ∧ Q w' := by
  have HC := Lib.hid hc
  clear hc
  go_enter Tryd.func30, Tryd.ntmps30
  go_wp2_with fail
  refine HC.out.mono ?_
  rintro e w' ⟨rfl, hq⟩
  have HQ := Lib.hid hq
  clear hq
  go_wp2_with fail
  go_ret
  exact ⟨rfl, HQ.out⟩
theorem part_2 {w : World} {b : Nat} (h0 : w.cell? ⟨b, 0, none⟩ = some (.int .i64 2)) {r : Int} {Q : World → Prop}
    (hc : Calls Tryd.prog 42 #[.pointer (some ⟨b, 0, none⟩)] w fun e w' => e = .returned (.int .i64 r) ∧ Q w') :
    Calls Tryd.prog 30 #[.pointer (some ⟨b, 0, none⟩)] w fun e w' => e = .returned (.int .i64 r) ∧ Q w' := by
  have HC := Lib.hid hc
  clear hc
  go_enter Tryd.func30, Tryd.ntmps30
  go_wp2_with fail
  refine HC.out.mono ?_
  rintro e w' ⟨rfl, hq⟩
  have HQ := Lib.hid hq
  clear hq
  go_wp2_with fail
  go_ret
  exact ⟨rfl, HQ.out⟩
set_option maxHeartbeats 2000000 in
theorem ifeed_wait {U : Nat → Prop} {w0 w : World} {b : Nat} {s : PS} (h : DecR U w0 w b s) (hst : s.st < 11) (t : ByteArray) (s2 : PS) (hz : s.bits.length + 8 * t.size < 1000000000) (hz2 : s.came + t.size < 1000000000) (hz3 : s2.told + s2.out.length < 1000000000)
    (hrun : ∀ W, DecR U w0 W b { s with came := s.came + t.size, bits := s.bits ++ bitsL t.data.toList } → Calls Tryd.prog 23 #[.pointer (some ⟨b, 0, none⟩)] W fun e w' => e = .returned (.int .i64 2) ∧ DecR U w0 w' b s2) :
    Calls Tryd.prog 11 #[.pointer (some ⟨b, 0, none⟩), .string t] w fun e w' => e = .returned (.tuple #[.string ⟨s2.out.toArray⟩, .int .i64 0]) ∧ DecR U w0 w' b { s2 with out := [], told := s2.told + s2.out.length } := by
  obtain ⟨c1, c2, _, hf, _⟩ := h.cells
  have f2 := hf 2
  have hadd : (s.came : Int) + (t.size : Int) = ((s.came + t.size : Nat) : Int) := by omega
  obtain ⟨N, hN⟩ : ∃ N, N = s.came + t.size := ⟨_, rfl⟩
  rw [← hN] at hadd hrun hz2
  have HA := Lib.hid (h.set2 N hz2)
  have HR := Lib.hid hrun
  have HZ := Lib.hid (⟨hz, hz3⟩ : _ ∧ _)
  have HST := Lib.hid hst
  obtain ⟨n, hn⟩ : ∃ n, n = s2.out.length := ⟨_, rfl⟩
  obtain ⟨S, hS⟩ : ∃ S : ByteArray, S = ⟨s2.out.toArray⟩ := ⟨_, rfl⟩
  have hSz : S.size = n := by rw [hS, hn]; rfl
  rw [← hS]
  obtain ⟨M, hM⟩ : ∃ M, M = s2.told + n := ⟨_, rfl⟩
  rw [← hn, ← hM]
  have hadd3 : (s2.told : Int) + (n : Int) = (M : Int) := by omega
  have hMz : M < 1000000000 := by omega
  have hnz : n < 1000000000 := by omega
  have HS := Lib.hid (⟨hS, hMz⟩ : _ ∧ _)
  clear h hf hrun hN hz hz3 hst hn hS hM hMz
  go_enter Tryd.func11, Tryd.ntmps11
  go_wp2_with fail
  refine (idone_run HA.out.cell0 HST.out).mono ?_
  rintro e w1 ⟨rfl, rfl⟩
  generalize w.setCell ⟨b, 2, none⟩ (.int .i64 (N : Nat)) = w1 at HA ⊢
  go_wp2_with fail
  refine (feed_dec HA.out t HZ.out.1).mono ?_
  rintro e w2 ⟨rfl, hD2⟩
  have HD2 := Lib.hid hD2
  clear hD2
  go_wp2_with fail
  refine (HR.out w2 HD2.out).mono ?_
  rintro e w3 ⟨rfl, hD3⟩
  obtain ⟨e1, _, e3, hf3, v7, e7, hrow⟩ := hD3.cells
  obtain ⟨hb1, _, hb3⟩ := hD3.bounds
  have f7 := hf3 7
  have f3 := hf3 3
  have hcv := run_bytes_row (P := Tryd.prog) w3 39 5 9 Tryd.underlying39 Tryd.underlying5 Tryd.underlying9 hrow
  rw [← HS.out.1] at hcv
  have HE := Lib.hid (hD3.set7.set3 M HS.out.2)
  clear hD3 hf3 hrow
  go_wp2_with fail
  refine (settle_more _ _).mono ?_
  rintro e w4 ⟨rfl, rfl⟩
  generalize (w3.setCell ⟨b, 7, none⟩ (.slice none 0 0)).setCell ⟨b, 3, none⟩ (.int .i64 (M : Nat)) = w4 at HE ⊢
  have k1 := HE.out.cells.1
  go_wp2_with fail
  go_region
  go_wp2_with fail
  go_ret2
  exact ⟨rfl, HE.out.still (Touch.refl _ _).drew⟩
end Go.Proofs.YtleenjeiladjcaaDoor
/- A stream of stored blocks: the parts that a decoder goes through. -/
namespace Go.Proofs.YtleenjeiladjcaaDoor
open Go Go.RowKit
set_option maxRecDepth 100000

def sz4 (n : Nat) : List UInt8 := leB 2 n ++ leB 2 (65535 - n)
def bytesQ : List (List UInt8) → List UInt8
  | [] => []
  | b :: Q => (if Q.isEmpty then 1 else 0) :: (sz4 b.length ++ (b ++ bytesQ Q))
def SmallQ (Q : List (List UInt8)) : Prop := ∀ b ∈ Q, b.length < 65536
theorem sz4_length (n : Nat) : (sz4 n).length = 4 := by simp [sz4, leB_length]
theorem sz4_num (n : Nat) (hn : n < 65536) : numN (bitsL (sz4 n)) = n + 65536 * (65535 - n) := by
  unfold sz4
  rw [bitsL_append, bitsL_leB, bitsL_leB, numN_append, numN_bitsN, numN_bitsN, bitsN_length]
  have : (2 : Nat) ^ (8 * 2) = 65536 := by decide
  rw [this, Nat.mod_eq_of_lt hn, Nat.mod_eq_of_lt (by omega : 65535 - n < 65536)]
theorem hd_bits (z : Bool) (Y : List UInt8) : bitsL ((if z then 1 else 0) :: Y) = (if z then 1 else 0) :: 0 :: 0 :: ([0, 0, 0, 0, 0] ++ bitsL Y) := by
  cases z <;> rfl
theorem hd_drop (Y : List UInt8) : (([0, 0, 0, 0, 0] : List Nat) ++ bitsL Y).drop ((([0, 0, 0, 0, 0] : List Nat) ++ bitsL Y).length % 8) = bitsL Y := by
  have h : (([0, 0, 0, 0, 0] : List Nat) ++ bitsL Y).length % 8 = 5 := by
    rw [List.length_append, bitsL_length]
    show (5 + 8 * Y.length) % 8 = 5
    omega
  rw [h]
  rfl

/-- Where a decoder stands in a stream of stored blocks: the bytes that are still to come, and what they tell. -/
inductive At : PS → List UInt8 → List UInt8 → Prop
  | hd (c : PS) (b : List UInt8) (Q : List (List UInt8)) : c.st = 0 → SmallQ (b :: Q) → At c (bytesQ (b :: Q)) (b :: Q).flatten
  | sz (c : PS) (b : List UInt8) (Q : List (List UInt8)) : c.st = 1 → c.last = Q.isEmpty → SmallQ (b :: Q) → At c (sz4 b.length ++ (b ++ bytesQ Q)) (b ++ Q.flatten)
  | bt (c : PS) (b : List UInt8) (Q : List (List UInt8)) : c.st = 2 → c.last = Q.isEmpty → c.left = b.length → b.length < 65536 → SmallQ Q → At c (b ++ bytesQ Q) (b ++ Q.flatten)
theorem At.st {c : PS} {V O : List UInt8} (h : At c V O) : c.st < 11 := by
  cases h with
  | hd b Q h0 _ => omega
  | sz b Q h0 _ _ => omega
  | bt b Q h0 _ _ _ _ => omega
/-- It speaks of three numbers alone. -/
theorem At.same {c c' : PS} {V O : List UInt8} (h : At c V O) (h0 : c'.st = c.st) (h1 : c'.last = c.last) (h2 : c'.left = c.left) : At c' V O := by
  cases h with
  | hd b Q k0 k1 => exact .hd c' b Q (by rw [h0]; exact k0) k1
  | sz b Q k0 k1 k2 => exact .sz c' b Q (by rw [h0]; exact k0) (by rw [h1]; exact k1) k2
  | bt b Q k0 k1 k2 k3 k4 => exact .bt c' b Q (by rw [h0]; exact k0) (by rw [h1]; exact k1) (by rw [h2]; exact k2) k3 k4
def msr (c : PS) (V : List UInt8) : Nat := 2 * V.length + (if c.st = 2 then 1 else 0)

/-- What a step leaves, of what was told and of the rest. -/
structure Left (s s' : PS) (Y' Z V' O' R O : List UInt8) : Prop where
  bits : s'.bits = bitsL Y'
  eq : Y' ++ Z = V' ++ R
  out : ∃ o, s'.out = s.out ++ o ∧ s'.all = s.all ++ o ∧ o ++ O' = O
  came : s'.came = s.came
  told : s'.told = s.told
  le : s'.bits.length ≤ s.bits.length

theorem at_step (U : Nat → Prop) (w0 : World) (b : Nat) {s : PS} {Y Z V O R : List UInt8} (hb : s.bits = bitsL Y) (hA : At s V O) (he : Y ++ Z = V ++ R) (hz : s.out.length + O.length < 100000000 ∧ s.all.length + O.length < 100000000) :
    (∃ s' Y' V' O', Stp U w0 b s s' ∧ Left s s' Y' Z V' O' R O ∧ ((At s' V' O' ∧ msr s' V' < msr s V) ∨ (s'.st = 11 ∧ V' = [] ∧ O' = []))) ∨
    (∃ s' Y' V' O', (∀ W, DecR U w0 W b s → Calls Tryd.prog 30 #[.pointer (some ⟨b, 0, none⟩)] W fun e w' => e = .returned (.int .i64 2) ∧ DecR U w0 w' b s') ∧ Left s s' Y' Z V' O' R O ∧ At s' V' O' ∧ Y'.length < V'.length) := by
  have hst := hA.st
  cases hA with
  | hd d Q h0 hs =>
    cases Y with
    | nil =>
      refine .inr ⟨s, [], _, _, fun W hD => ?_, ⟨hb, he, ⟨[], by simp, by simp, rfl⟩, rfl, rfl, Nat.le_refl _⟩, .hd s d Q h0 hs, by simp [bytesQ]⟩
      have c0 := hD.cell0
      rw [h0] at c0
      exact part_0 c0 (iblock_more hD (by rw [hb]; decide))
    | cons y Y1 =>
      have he' : y :: (Y1 ++ Z) = (if Q.isEmpty then 1 else 0) :: ((sz4 d.length ++ (d ++ bytesQ Q)) ++ R) := he
      obtain ⟨rfl, he2⟩ := List.cons.inj he'
      rw [hd_bits] at hb
      refine .inl ⟨{ s with bits := bitsL Y1, last := Q.isEmpty, st := 1 }, Y1, sz4 d.length ++ (d ++ bytesQ Q), d ++ Q.flatten, ⟨hst, fun W hD => ?_⟩, ⟨rfl, he2, ⟨[], by simp, by simp, rfl⟩, rfl, rfl, by rw [hb]; show (bitsL Y1).length ≤ _; simp only [List.length_cons, List.length_append]; omega⟩, .inl ⟨.sz _ d Q rfl rfl hs, ?_⟩⟩
      · have c0 := hD.cell0
        rw [h0] at c0
        have key := iblock_stored hD hb
        rw [hd_drop] at key
        have e : ((if Q.isEmpty then 1 else 0 : Nat) == 1) = Q.isEmpty := by cases Q.isEmpty <;> rfl
        rw [e] at key
        exact part_0 c0 key
      · unfold msr
        rw [h0]
        show 2 * _ + 0 < 2 * (_ + 1) + 0
        omega
  | sz d Q h0 hl hs =>
    by_cases hY : Y.length < 4
    · refine .inr ⟨s, Y, _, _, fun W hD => ?_, ⟨hb, he, ⟨[], by simp, by simp, rfl⟩, rfl, rfl, Nat.le_refl _⟩, .sz s d Q h0 hl hs, by rw [List.length_append, sz4_length]; omega⟩
      have c0 := hD.cell0
      rw [h0] at c0
      exact part_1 c0 (isizes_more hD (by rw [hb, bitsL_length]; omega))
    · have hY1 : Y = sz4 d.length ++ Y.drop 4 := by
        have e1 := congrArg (List.take 4) he
        rw [List.take_append_of_le_length (by omega), List.append_assoc, List.take_left' (sz4_length _)] at e1
        rw [← e1, List.take_append_drop]
      have he2 : Y.drop 4 ++ Z = (d ++ bytesQ Q) ++ R := by
        rw [hY1, List.append_assoc, List.append_assoc] at he
        exact List.append_cancel_left he
      have hd1 : d.length < 65536 := hs d List.mem_cons_self
      refine .inl ⟨{ s with bits := bitsL (Y.drop 4), left := d.length, st := 2 }, Y.drop 4, d ++ bytesQ Q, d ++ Q.flatten, ⟨hst, fun W hD => ?_⟩, ⟨rfl, he2, ⟨[], by simp, by simp, rfl⟩, rfl, rfl, by rw [hb]; show (bitsL (Y.drop 4)).length ≤ _; rw [bitsL_length, bitsL_length, List.length_drop]; omega⟩, .inl ⟨.bt _ d Q rfl hl rfl hd1 (fun x hx => hs x (List.mem_cons_of_mem _ hx)), ?_⟩⟩
      · have c0 := hD.cell0
        rw [h0] at c0
        have key := isizes_ok hD d.length hd1 (by rw [hb, bitsL_length]; omega) (by
          rw [hb, show 32 = 8 * 4 from rfl, bitsL_take, hY1, List.take_left' (sz4_length _)]
          exact sz4_num _ hd1)
        rw [hb, show 32 = 8 * 4 from rfl, bitsL_drop] at key
        exact part_1 c0 key
      · have e1 : (sz4 d.length ++ (d ++ bytesQ Q)).length = 4 + (d ++ bytesQ Q).length := by rw [List.length_append, sz4_length]
        unfold msr
        rw [h0, e1]
        show 2 * _ + 1 < 2 * (4 + _) + 0
        omega
  | bt d Q h0 hl hlf hd1 hs =>
    by_cases hY : d.length ≤ Y.length
    · have hY1 : Y = d ++ Y.drop d.length := by
        have e1 := congrArg (List.take d.length) he
        rw [List.take_append_of_le_length hY, List.append_assoc, List.take_left' rfl] at e1
        conv => lhs; rw [← List.take_append_drop d.length Y, e1]
      have he2 : Y.drop d.length ++ Z = bytesQ Q ++ R := by
        rw [hY1, List.append_assoc, List.append_assoc] at he
        exact List.append_cancel_left he
      have hz0 : s.left - d.length = 0 := by omega
      refine .inl ⟨bytesPS s d (Y.drop d.length), Y.drop d.length, bytesQ Q, Q.flatten, ⟨hst, fun W hD => ?_⟩, ⟨rfl, he2, ⟨d, rfl, rfl, rfl⟩, rfl, rfl, by rw [hb]; show (bitsL (Y.drop d.length)).length ≤ _; rw [bitsL_length, bitsL_length, List.length_drop]; omega⟩, ?_⟩
      · have c0 := hD.cell0
        rw [h0] at c0
        have key := ibytes_calls hD d (Y.drop d.length) (by rw [← hY1]; exact hb) (.inl hlf.symm) (by omega) (by simp only [List.length_append] at hz; omega) 0 (if_pos hz0)
        exact part_2 c0 key
      · cases Q with
        | nil =>
          right
          refine ⟨?_, rfl, rfl⟩
          unfold bytesPS
          show (if s.left - d.length = 0 then (if s.last then 11 else 0) else s.st) = 11
          rw [if_pos hz0, hl]
          rfl
        | cons d2 Q2 =>
          left
          have hs0 : (bytesPS s d (Y.drop d.length)).st = 0 := by
            unfold bytesPS
            show (if s.left - d.length = 0 then (if s.last then 11 else 0) else s.st) = 0
            rw [if_pos hz0, hl]
            rfl
          refine ⟨.hd _ d2 Q2 hs0 hs, ?_⟩
          unfold msr
          rw [hs0, h0, List.length_append]
          show 2 * _ + 0 < 2 * (_ + _) + 1
          omega
    · have hY1 : d = Y ++ d.drop Y.length := by
        have e1 := congrArg (List.take Y.length) he
        rw [List.take_left' rfl, List.append_assoc, List.take_append_of_le_length (by omega)] at e1
        conv => lhs; rw [← List.take_append_drop Y.length d, ← e1]
      obtain ⟨d', hd'⟩ : ∃ d', d' = d.drop Y.length := ⟨_, rfl⟩
      rw [← hd'] at hY1
      have hd'l : d'.length = d.length - Y.length := by rw [hd', List.length_drop]
      have he2 : [] ++ Z = (d' ++ bytesQ Q) ++ R := by
        rw [hY1, List.append_assoc, List.append_assoc] at he
        have := List.append_cancel_left he
        rw [List.nil_append, List.append_assoc]
        exact this
      have hz0 : ¬ s.left - Y.length = 0 := by omega
      refine .inr ⟨bytesPS s Y [], [], d' ++ bytesQ Q, d' ++ Q.flatten, fun W hD => ?_, ⟨rfl, he2, ⟨Y, rfl, rfl, by rw [hY1, List.append_assoc]⟩, rfl, rfl, Nat.zero_le _⟩, .bt _ d' Q ?_ hl ?_ (by omega) hs, by rw [List.length_append]; simp; omega⟩
      · have c0 := hD.cell0
        rw [h0] at c0
        have key := ibytes_calls hD Y [] (by rw [List.append_nil]; exact hb) (.inr ⟨by omega, rfl⟩) (by omega) (by omega) 2 (if_neg hz0)
        exact part_2 c0 key
      · unfold bytesPS
        show (if s.left - Y.length = 0 then (if s.last then 11 else 0) else s.st) = 2
        rw [if_neg hz0, h0]
      · show s.left - Y.length = d'.length
        omega
theorem Left.trans {s s1 s2 : PS} {Y1 Y2 Z V1 V2 O1 O2 R O : List UInt8} (h : Left s s1 Y1 Z V1 O1 R O) (k : Left s1 s2 Y2 Z V2 O2 R O1) : Left s s2 Y2 Z V2 O2 R O := by
  obtain ⟨o, h1, h2, h3⟩ := h.out
  obtain ⟨o', k1, k2, k3⟩ := k.out
  exact ⟨k.bits, k.eq, ⟨o ++ o', by rw [k1, h1, List.append_assoc], by rw [k2, h2, List.append_assoc], by rw [List.append_assoc, k3, h3]⟩, k.came.trans h.came, k.told.trans h.told, Nat.le_trans k.le h.le⟩
theorem at_path (U : Nat → Prop) (w0 : World) (b : Nat) : ∀ (N : Nat) {s : PS} {Y Z V O R : List UInt8}, msr s V ≤ N → s.bits = bitsL Y → At s V O → Y ++ Z = V ++ R → (s.out.length + O.length < 100000000 ∧ s.all.length + O.length < 100000000) →
    (∃ t Y', Path U w0 b s t ∧ t.st = 11 ∧ Left s t Y' Z [] [] R O) ∨
    (∃ t t' Y' V' O', Path U w0 b s t ∧ t.st < 11 ∧ (∀ W, DecR U w0 W b t → Calls Tryd.prog 30 #[.pointer (some ⟨b, 0, none⟩)] W fun e w' => e = .returned (.int .i64 2) ∧ DecR U w0 w' b t') ∧ Left s t' Y' Z V' O' R O ∧ At t' V' O' ∧ Y'.length < V'.length) := by
  intro N
  induction N with
  | zero =>
    intro s Y Z V O R hm hb hA he hz
    exfalso
    unfold msr at hm
    cases hA with
    | hd d Q h0 hs => simp [bytesQ] at hm
    | sz d Q h0 hl hs => rw [List.length_append, sz4_length] at hm; omega
    | bt d Q h0 hl hlf hd1 hs => rw [h0] at hm; simp at hm
  | succ N ih =>
    intro s Y Z V O R hm hb hA he hz
    rcases at_step U w0 b hb hA he hz with ⟨s', Y', V', O', h1, h2, h3⟩ | ⟨s', Y', V', O', h1, h2, h3, h4⟩
    · rcases h3 with ⟨h3, h4⟩ | ⟨h3, rfl, rfl⟩
      · obtain ⟨o, k1, k2, k3⟩ := h2.out
        have hz' : s'.out.length + O'.length < 100000000 ∧ s'.all.length + O'.length < 100000000 := by
          have e3 := congrArg List.length k3
          rw [List.length_append] at e3
          rw [k1, k2, List.length_append, List.length_append]
          omega
        rcases ih (by omega) h2.bits h3 h2.eq hz' with ⟨t, Y2, p1, p2, p3⟩ | ⟨t, t', Y2, V2, O2, p1, p2, p3, p4, p5⟩
        · exact .inl ⟨t, Y2, .cons _ _ _ h1 p1, p2, h2.trans p3⟩
        · exact .inr ⟨t, t', Y2, V2, O2, .cons _ _ _ h1 p1, p2, p3, h2.trans p4, p5⟩
      · exact .inl ⟨s', Y', .cons _ _ _ h1 (.nil _), h3, h2⟩
    · exact .inr ⟨s, s', Y', V', O', .nil _, hA.st, h1, h2, h3, h4⟩
end Go.Proofs.YtleenjeiladjcaaDoor
/- A decoder behind the stream's end: Feed. -/
namespace Go.Proofs.YtleenjeiladjcaaDoor
open Go Go.RowKit
set_option maxRecDepth 100000

theorem Touch.setCells {S : Nat → Prop} {a : World} {g : Nat} (hp : S g ∨ a.heap.size ≤ g) : ∀ (vs : List Value) (o : Nat) (w : World), Touch S a w → Touch S a (w.setCells g o vs)
  | [], _, _, h => h
  | v :: r, o, _, h => Touch.setCells hp r (o + 1) _ (h.setCell (p := ⟨g, o, none⟩) hp v)
theorem add_zero (G j : Nat) : (⟨G, 0, none⟩ : Addr).add j = ⟨G, j, none⟩ := by
  by_cases h0 : j = 0
  · subst h0; simp [Addr.add]
  · simp [Addr.add, h0]
theorem byteCells_get (T : ByteArray) (j : Nat) (hj : j < T.data.toList.length) (h : j < (byteCells T).length) : (byteCells T)[j] = .int .u8 (T.data.toList[j].toNat : Int) := by
  simp [byteCells]

theorem run_append_bytes {P : Program} (w : World) (t ty e u : TypeId) (i : TypeInfo) (ht : P.underlying t = some (.slice e)) (hu : P.underlying u = some .string) (hi : P.info? e = some i) (hz : i.zero = some (.int .u8 0)) (hs1 : i.size = 1) (hby : i.bytes = 1)
    {v : Value} {rest : List UInt8} (h : BytesAt w v rest) (T : ByteArray) (hm : rest.length + T.size ≤ 1000000000) :
    ∃ v' w', (Builtin.append_ #[t, u] ty #[v, .string T]).run P w = .ok v' w' ∧ BytesAt w' v' (rest ++ T.data.toList) ∧ Touch (fun k => v.ownBlock = some k) w w' ∧ (v'.ownBlock = v.ownBlock ∨ v'.ownBlock = some w.heap.size) := by
  obtain ⟨G, cap, rfl, hG, hc, hlc, hcm, hth⟩ := h
  have hs : Src P i.size u (.string T) T.size (byteCells T) w := by rw [hs1]; exact Src.ofString w hu T
  have hbl : (byteCells T).length = T.size := byteCells_length T
  have hln : (rest ++ T.data.toList).length = rest.length + T.size := by rw [List.length_append, data_length]
  by_cases hroom : rest.length + T.size ≤ cap
  · have e1 : 0 + rest.length * i.size = rest.length := by rw [hs1]; omega
    have hth' : ∀ j, j < (byteCells T).length → (w.cell? ⟨G, rest.length + j, none⟩).isSome = true ∧ w.frozen? ⟨G, rest.length + j, none⟩ = false := fun j hj => hth _ (by omega)
    have hr := run_append_room_src (P := P) w t u ty e i ht hi G 0 rest.length cap (.string T) T.size (byteCells T) hs hroom (fun j hj => by rw [e1]; exact (hth' j hj).1) (fun j hj => by rw [e1]; exact (hth' j hj).2)
    rw [e1] at hr
    have hT : Touch (fun k => (Value.slice (some ⟨G, 0, none⟩) rest.length cap).ownBlock = some k) w (w.setCells G rest.length (byteCells T)) := Touch.setCells (S := fun k => (Value.slice (some ⟨G, 0, none⟩) rest.length cap).ownBlock = some k) (g := G) (.inl rfl) _ _ _ (Touch.refl _ w)
    refine ⟨_, _, hr, ⟨G, cap, by rw [hln], Nat.lt_of_lt_of_le hG hT.size, fun j hj => ?_, by rw [hln]; exact hroom, hcm, fun j hj => ?_⟩, hT, .inl rfl⟩
    · rw [add_zero]
      by_cases hjr : j < rest.length
      · rw [World.cell?_setCells_out G (byteCells T) rest.length w ⟨G, j, none⟩ (fun _ _ => .inl hjr), List.getElem_append_left hjr, ← add_zero]
        exact hc j hjr
      · have hj2 : j - rest.length < (byteCells T).length := by rw [hln] at hj; omega
        have key := World.cell?_setCells_in G (byteCells T) rest.length w (fun j hj => (hth' j hj).1) (j - rest.length) hj2
        rw [show rest.length + (j - rest.length) = j by omega] at key
        rw [key, byteCells_get T (j - rest.length) (by rw [data_length]; omega), List.getElem_append_right (by omega)]
    · exact ⟨World.isSome_setCells G _ _ w _ (hth j hj).1, by rw [World.frozen?_setCells]; exact (hth j hj).2⟩
  · have hold : (Builtin.firstCells i.size rest.length (.slice (some ⟨G, 0, none⟩) rest.length cap)).run P w.drew = .ok (byteVs rest).toArray w.drew := by
      rw [hs1]
      refine run_firstCells_some w.drew 1 rest.length ⟨G, 0, none⟩ rest.length cap (byteVs rest) (by rw [byteVs_length]; omega) (fun j x hx => ?_)
      have hj : j < rest.length := by
        have := (List.getElem?_eq_some_iff.1 hx).1
        rw [byteVs_length] at this; exact this
      have h1 := hc j hj
      have hx2 : x = .int .u8 (rest[j].toNat : Int) := by
        have := (List.getElem?_eq_some_iff.1 hx).2
        rw [← this]
        simp [byteVs]
      rw [hx2]
      exact h1
    have hr := run_append_grow_src (P := P) w t u ty e i (.int .u8 0) ht hi hz (some ⟨G, 0, none⟩) rest.length cap (byteVs rest) hold (.string T) T.size (byteCells T) hs (by omega) (by omega) (growslice_fits (by omega) (by rw [hby]; omega))
    have hge := grownCap_ge w (rest.length + T.size) cap e
    have hgm : grownCap w (rest.length + T.size) cap e ≤ maxLen := grownCap_le_maxLen w (rest.length + T.size) cap e (by unfold maxLen; omega)
    obtain ⟨gc, hgc⟩ : ∃ gc, gc = grownCap w (rest.length + T.size) cap e := ⟨_, rfl⟩
    rw [← hgc] at hr hge hgm
    have h9 : (w.drew.alloc (.cells ((byteVs rest ++ byteCells T).toArray ++ Builtin.zeroCells (Value.int .u8 0).cells (gc - (rest.length + T.size))) e)).heap[w.heap.size]? = some (.cells ((byteVs rest ++ byteCells T).toArray ++ Builtin.zeroCells (Value.int .u8 0).cells (gc - (rest.length + T.size))) e) := heap_alloc_new w.drew _
    have hsz : ((byteVs rest ++ byteCells T).toArray ++ Builtin.zeroCells (Value.int .u8 0).cells (gc - (rest.length + T.size))).size = gc := by
      rw [Array.size_append, List.size_toArray, List.length_append, byteVs_length, hbl, size_zeroCells]
      show rest.length + T.size + (gc - (rest.length + T.size)) * 1 = gc
      omega
    refine ⟨_, _, hr, ⟨w.heap.size, gc, by rw [hln], by rw [alloc_size]; show w.heap.size < w.heap.size + 1; omega, fun j hj => ?_, by rw [hln]; exact hge, hgm, fun j hj => ?_⟩, (Touch.refl _ w).drew.alloc _, .inr rfl⟩
    · rw [add_zero, cell_of_row _ _ _ _ _ _ h9]
      have hjn : j < (byteVs rest ++ byteCells T).length := by rw [List.length_append, byteVs_length, hbl, ← hln]; exact hj
      rw [Array.getElem?_append_left (by simpa using hjn), List.getElem?_toArray]
      have e3 : byteVs rest ++ byteCells T = byteVs (rest ++ T.data.toList) := by rw [byteVs_append]; rfl
      rw [e3]
      show (List.map _ (rest ++ T.data.toList))[j]? = _
      rw [List.getElem?_map, List.getElem?_eq_getElem hj]
      rfl
    · refine ⟨?_, box_free h9 j⟩
      rw [cell_of_row _ _ _ _ _ _ h9, Array.getElem?_eq_getElem (by rw [hsz]; exact hj)]
      rfl
section
variable {P : Program} {w : World}
theorem wpList_append_bytes {ops : Array Oper} {rest : List Oper} {o : Oper} {a : Act} {Q : Exit → Act → World → Prop} (hgd : o.guard = none) (s x : Operand) (t u : TypeId)
    (ho : o.op = .call { callee := .builtin .append, args := #[s, x], argTypes := #[t, u] }) (e : TypeId) (i : TypeInfo) (ht : P.underlying t = some (.slice e)) (hu : P.underlying u = some .string) (hi : P.info? e = some i) (hz : i.zero = some (.int .u8 0)) (hs1 : i.size = 1) (hby : i.bytes = 1)
    (v : Value) (l : List UInt8) (hsv : a.eval s = v) (h : BytesAt w v l) (T : ByteArray) (hx : a.eval x = .string T) (hm : l.length + T.size ≤ 1000000000)
    (hK : ∀ v' w', BytesAt w' v' (l ++ T.data.toList) → Touch (fun k => v.ownBlock = some k) w w' → (v'.ownBlock = v.ownBlock ∨ v'.ownBlock = some w.heap.size) → wpList P ops Q rest (a.put o.dst v') w') : wpList P ops Q (o :: rest) a w := by
  refine wpList_plain hgd fun K hK' => ?_
  obtain ⟨v', w', hr, h2, h3, h4⟩ := run_append_bytes (P := P) w t o.type e u i ht hu hi hz hs1 hby h T hm
  unfold Oper.wp execOp
  simp only [ho, resolve, invoke, builtin, Sem.run_bind, Sem.run_pure, Result.andThen_ok, List.map_toArray, List.map_cons, List.map_nil, hsv, hx, hr]
  exact hK' _ _ (hK v' w' h2 h3 h4)
end

theorem DecE.setc {w : World} {b came told : Nat} {rest : List UInt8} (h : DecE w b came told rest) (N : Nat) : DecE (w.setCell ⟨b, 2, none⟩ (.int .i64 (N : Nat))) b N told rest := by
  obtain ⟨c0, c1, c2, c3, v4, c4, hB, hap, hf⟩ := h
  have hT1 : Touch (fun k => k = b) w (w.setCell ⟨b, 2, none⟩ (.int .i64 (N : Nat))) := (Touch.refl (fun k => k = b) w).setCell (p := ⟨b, 2, none⟩) (Or.inl rfl) _
  exact ⟨(World.cell?_setCell_other _ _ _ _ (by simp)).trans (c0), (World.cell?_setCell_other _ _ _ _ (by simp)).trans (c1), World.cell?_setCell_same _ _ _ c2, (World.cell?_setCell_other _ _ _ _ (by simp)).trans (c3), v4, (World.cell?_setCell_other _ _ _ _ (by simp)).trans (c4), hB.kept hT1 (fun k e e2 => by have := hap k e; omega), hap, fun j => by rw [World.frozen?_setCell]; exact hf j⟩
theorem DecE.setr {w w2 : World} {b came told : Nat} {rest r2 : List UInt8} (h : DecE w b came told rest) {v4 v5 : Value} (c4 : w.cell? ⟨b, 4, none⟩ = some v4) (hb : b < w.heap.size) (ht : Touch (fun k => v4.ownBlock = some k) w w2) (ho : v5.ownBlock = v4.ownBlock ∨ v5.ownBlock = some w.heap.size) (hB : BytesAt w2 v5 r2) : DecE (w2.setCell ⟨b, 4, none⟩ v5) b came told r2 := by
  obtain ⟨c0, c1, c2, c3, v4', c4', _, hap, hf⟩ := h
  obtain rfl : v4' = v4 := Option.some.inj (c4'.symm.trans c4)
  have hne : ¬ v4'.ownBlock = some b := fun e => by have := hap b e; omega
  have hap5 : ∀ k, v5.ownBlock = some k → b < k := fun k e => by
    rcases ho with ho | ho
    · exact hap k (by rw [← ho]; exact e)
    · rw [ho] at e
      have := Option.some.inj e
      omega
  have hblk := ht.block b hb hne
  have k : ∀ j x, w.cell? ⟨b, j, none⟩ = some x → w2.cell? ⟨b, j, none⟩ = some x := fun j x hx => (World.cell?_of_block (a := ⟨b, j, none⟩) hblk).trans hx
  have hT1 : Touch (fun k => k = b) w2 (w2.setCell ⟨b, 4, none⟩ v5) := (Touch.refl (fun k => k = b) w2).setCell (p := ⟨b, 4, none⟩) (Or.inl rfl) _
  exact ⟨(World.cell?_setCell_other _ _ _ _ (by simp)).trans (k _ _ c0), (World.cell?_setCell_other _ _ _ _ (by simp)).trans (k _ _ c1), (World.cell?_setCell_other _ _ _ _ (by simp)).trans (k _ _ c2), (World.cell?_setCell_other _ _ _ _ (by simp)).trans (k _ _ c3), v5, World.cell?_setCell_same _ _ _ (k _ _ c4), hB.kept hT1 (fun k e e2 => by have := hap5 k e; omega), hap5, fun j => by rw [World.frozen?_setCell, World.frozen?_of_block (a := ⟨b, j, none⟩) hblk]; exact hf j⟩
set_option maxHeartbeats 2000000 in
/-- Feed behind the stream's end: it tells nothing, and keeps what comes. -/
theorem ifeed_done {w : World} {b came told : Nat} {rest : List UInt8} (h : DecE w b came told rest) (t : ByteArray) (hc : came + t.size < 1000000000) (hr : rest.length + t.size ≤ 1000000000) (hbw : b < w.heap.size) :
    Calls Tryd.prog 11 #[.pointer (some ⟨b, 0, none⟩), .string t] w fun e w' => e = .returned (.tuple #[.string ⟨#[]⟩, .int .i64 0]) ∧ DecE w' b (came + t.size) told (rest ++ t.data.toList) ∧ Touch (fun k => b ≤ k) w w' := by
  have hadd : (came : Int) + (t.size : Int) = ((came + t.size : Nat) : Int) := by omega
  obtain ⟨N, hN⟩ : ∃ N, N = came + t.size := ⟨_, rfl⟩
  rw [← hN] at hadd hc ⊢
  have H1 := Lib.hid (h.setc N)
  have hT1 : Touch (fun k => b ≤ k) w (w.setCell ⟨b, 2, none⟩ (.int .i64 (N : Nat))) := (Touch.refl (fun k => b ≤ k) w).setCell (p := ⟨b, 2, none⟩) (Or.inl (Nat.le_refl b)) _
  have HT1 := Lib.hid hT1
  obtain ⟨c0, c1, c2, c3, v4, c4, hB, hap, hf⟩ := h
  have f2 := hf 2
  obtain ⟨i0, hi, hz0, hz1, hz2⟩ := info_parts Tryd.info5
  have HR := Lib.hid (⟨hr, hbw⟩ : _ ∧ _)
  clear hB hap hf hN hT1 hr hbw c0 c3 c4
  go_enter Tryd.func11, Tryd.ntmps11
  go_wp2_with fail
  refine (idone_end H1.out.1).mono ?_
  rintro e w1 ⟨rfl, rfl⟩
  have hbw : b < (w.setCell ⟨b, 2, none⟩ (.int .i64 (N : Nat))).heap.size := Nat.lt_of_lt_of_le HR.out.2 HT1.out.size
  generalize w.setCell ⟨b, 2, none⟩ (.int .i64 (N : Nat)) = w1 at H1 HT1 hbw ⊢
  clear c1 c2 f2
  obtain ⟨c0, c1, c2, c3, v4, c4, hB, hap, hf⟩ := H1.out
  have f4 := hf 4
  have HB := Lib.hid (⟨hB, hap⟩ : _ ∧ _)
  clear hB hap hf
  go_wp2_with (at_builtin; refine wpList_append_bytes rfl (.tmp 34) (.tmp 35) 39 9 rfl 5 i0 Tryd.underlying39 Tryd.underlying9 hi hz0 hz1 hz2 v4 rest rfl HB.out.1 t rfl HR.out.1 ?_; intro v5 w2 hB5 hT5 ho5; have H5 := Lib.hid (⟨H1.out.setr c4 hbw hT5 ho5 hB5, hT5⟩ : _ ∧ _); have hblk := hT5.block b hbw (fun e => by have := HB.out.2 b e; omega); have g4 := (World.cell?_of_block (a := ⟨b, 4, none⟩) hblk).trans c4; have e4 := (World.frozen?_of_block (a := ⟨b, 4, none⟩) hblk).trans f4; obtain ⟨G5, cap5, hv5, _⟩ := hB5; rw [List.length_append, data_length] at hv5; subst hv5; clear hT5 ho5 hblk)
  go_ret2
  refine ⟨rfl, H5.out.1, HT1.out.trans ?_⟩
  exact (H5.out.2.mono (fun k e => by have := HB.out.2 k e; omega)).setCell (p := ⟨b, 4, none⟩) (Or.inl (Nat.le_refl b)) _
end Go.Proofs.YtleenjeiladjcaaDoor
/- A stream of stored blocks, fed piece by piece, and behind its end. -/
namespace Go.Proofs.YtleenjeiladjcaaDoor
open Go Go.RowKit
set_option maxRecDepth 100000

def psS (c : PS) (came told : Nat) (l : List Nat) : PS := { c with came := came, told := told, out := [], bits := l }
/-- A decoder that was fed so many bytes of a stream of stored blocks and what is behind it. -/
def FedS (S R txt : List UInt8) (w0 w : World) (b k : Nat) (got : List UInt8) : Prop :=
  (k < S.length ∧ ∃ c Y V O, DecR (fun _ => False) w0 w b (psS c k got.length (bitsL Y)) ∧ At c V O ∧ Y ++ S.drop k = V ++ R ∧ Y.length < V.length ∧ Y.length ≤ k ∧ got ++ O = txt ∧ c.all.length + O.length ≤ 100000) ∨
  (got = txt ∧ ∃ X, X ++ S.drop k = R ∧ DecE w b (min k S.length) got.length X ∧ Touch (fun _ => False) w0 w ∧ w0.heap.size ≤ b ∧ b < w.heap.size)
theorem DecR.fresh {w0 w : World} {b : Nat} {s : PS} (h : DecR (fun _ => False) w0 w b s) : w0.heap.size ≤ b := by
  obtain ⟨v5, g, v7, v8, p17, p18, _, hown, _⟩ := h
  exact (hown b (.inl rfl)).resolve_left id
theorem fedS_first {S R : List UInt8} {d : List UInt8} {Q : List (List UInt8)} (hQ : SmallQ (d :: Q)) (hS : S = bytesQ (d :: Q) ++ R) (hl : (d :: Q).flatten.length ≤ 100000) {w0 w : World} {b : Nat} (h : DecR (fun _ => False) w0 w b ps0) : FedS S R (d :: Q).flatten w0 w b 0 [] := by
  refine .inl ⟨?_, ps0, [], bytesQ (d :: Q), (d :: Q).flatten, h, .hd _ d Q rfl hQ, ?_, ?_, ?_, rfl, ?_⟩
  · rw [hS, List.length_append]; simp [bytesQ]; omega
  · rw [hS]; rfl
  · simp [bytesQ]
  · exact Nat.le_refl _
  · show 0 + _ ≤ _; omega
theorem bytes_bits (Y : List UInt8) : bytesL ((bitsL Y).drop ((bitsL Y).length % 8)) = Y := by
  have h : (bitsL Y).length % 8 = 0 := by rw [bitsL_length]; omega
  have := bytesL_bits Y [] (by decide)
  rw [List.append_nil] at this
  rw [h, List.drop_zero, this]
theorem fedS_round {S R txt : List UInt8} (hS : S.length < 1000000) {w0 w : World} {b k m : Nat} {got : List UInt8} (hF : FedS S R txt w0 w b k got) (hg : txt.length ≤ 100000) (hR : R.length ≤ 1000000) (t : ByteArray) (ht : t.data.toList = (S.drop k).take m) :
    Calls Tryd.prog 11 #[.pointer (some ⟨b, 0, none⟩), .string t] w fun e w' => ∃ out, e = .returned (.tuple #[.string ⟨out.toArray⟩, .int .i64 0]) ∧ FedS S R txt w0 w' b (k + m) (got ++ out) := by
  have hts : t.size = min m (S.length - k) := by
    have := congrArg List.length ht
    rw [List.length_take, List.length_drop, data_length] at this
    exact this
  have hsp : S.drop k = t.data.toList ++ S.drop (k + m) := by
    rw [ht, ← List.drop_drop, List.take_append_drop]
  rcases hF with ⟨hk, c, Y, V, O, hD, hA, he, hYV, hYk, hgo, hall⟩ | ⟨hgo, X, hX, hE, hT, hb0, hbw⟩
  · have hgl := congrArg List.length hgo
    rw [List.length_append] at hgl
    obtain ⟨s, hs⟩ : ∃ s, s = psS c k got.length (bitsL Y) := ⟨_, rfl⟩
    obtain ⟨s', hs'⟩ : ∃ s' : PS, s' = { s with came := s.came + t.size, bits := s.bits ++ bitsL t.data.toList } := ⟨_, rfl⟩
    have e1 : s'.bits = bitsL (Y ++ t.data.toList) := by rw [hs', hs, bitsL_append]; rfl
    have e2 : (Y ++ t.data.toList) ++ S.drop (k + m) = V ++ R := by rw [List.append_assoc, ← hsp]; exact he
    have e3 : At s' V O := hA.same (by rw [hs', hs]; rfl) (by rw [hs', hs]; rfl) (by rw [hs', hs]; rfl)
    have e4 : s'.out = [] := by rw [hs', hs]; rfl
    have e5 : s'.all = c.all := by rw [hs', hs]; rfl
    have e6 : s'.came = k + t.size := by rw [hs', hs]; rfl
    have e7 : s'.told = got.length := by rw [hs', hs]; rfl
    rw [← hs] at hD
    have hst : s.st < 11 := by have := hA.st; rw [hs]; exact this
    have hb1 : s.bits.length + 8 * t.size < 1000000000 := by
      rw [hs]
      show (bitsL Y).length + _ < _
      rw [bitsL_length]; omega
    have hc1 : s.came + t.size < 1000000000 := by
      rw [hs]
      show k + t.size < _
      omega
    rcases at_path (fun _ => False) w0 b _ (Nat.le_refl _) e1 e3 e2 (by rw [e4, e5]; show 0 + _ < _ ∧ _; omega) with ⟨u, Y', p1, p2, p3⟩ | ⟨u, u', Y', V', O', p1, p2, p3, p4, p5, p6⟩
    · obtain ⟨o, o1, o2, o3⟩ := p3.out
      rw [List.append_nil] at o3
      rw [e4, List.nil_append] at o1
      have key := ifeed_end hD hst t u hb1 hc1 (by rw [p3.told, e7, o1, o3]; omega) (fun W hW => p1.ends p2 (by rw [hs']; exact hW))
      refine key.mono ?_
      rintro e w' ⟨rfl, hE, hT⟩
      rw [p3.bits, bytes_bits, p3.came, p3.told, e6, e7, o1, o3] at hE
      refine ⟨u.out, rfl, .inr ⟨by rw [o1, o3]; exact hgo, Y', p3.eq, ?_, hT, hD.fresh, World.block_lt_of_cell? _ _ hE.1⟩⟩
      rw [o1, o3, List.length_append, show min (k + m) S.length = k + t.size by omega]
      exact hE
    · obtain ⟨o, o1, o2, o3⟩ := p4.out
      rw [e4, List.nil_append] at o1
      have ol := congrArg List.length o3
      rw [List.length_append] at ol
      have key := ifeed_wait hD hst t u' hb1 hc1 (by rw [p4.told, e7, o1]; omega) (fun W hW => p1.waits p2 p3 (by rw [hs']; exact hW))
      refine key.mono ?_
      rintro e w' ⟨rfl, hD'⟩
      have hkm : k + m < S.length := by
        by_cases hc : k + m < S.length
        · exact hc
        · exfalso
          have h1 := p4.eq
          rw [List.drop_eq_nil_of_le (by omega), List.append_nil] at h1
          have h2 := congrArg List.length h1
          rw [List.length_append] at h2
          omega
      refine ⟨u'.out, rfl, .inl ⟨hkm, u', Y', V', O', ?_, p5, p4.eq, p6, ?_, by rw [o1, List.append_assoc, o3]; exact hgo, by rw [o2, e5, List.length_append]; omega⟩⟩
      case refine_2 =>
        have h1 := p4.le
        rw [p4.bits, e1, bitsL_length, bitsL_length, List.length_append, data_length] at h1
        omega
      have ec : u'.came = k + m := by rw [p4.came, e6]; omega
      have et : u'.told + u'.out.length = (got ++ u'.out).length := by rw [p4.told, e7, List.length_append]
      unfold psS
      rw [← ec, ← p4.bits, ← et]
      exact hD'
  · have hXl := congrArg List.length hX
    rw [List.length_append, List.length_drop] at hXl
    refine (ifeed_done hE t (by omega) (by omega) hbw).mono ?_
    · rintro e w' ⟨rfl, hE', hT'⟩
      refine ⟨[], rfl, .inr ⟨by rw [List.append_nil]; exact hgo, X ++ t.data.toList, by rw [List.append_assoc, ← hsp]; exact hX, ?_, hT.trans' hT' (fun q hq => .inr (Nat.le_trans hb0 hq)), hb0, World.block_lt_of_cell? _ _ hE'.1⟩⟩
      rw [List.append_nil, show min (k + m) S.length = min k S.length + t.size by omega]
      exact hE'
end Go.Proofs.YtleenjeiladjcaaDoor
/- The document's answer of a stream of stored blocks. -/
namespace Go.Proofs.YtleenjeiladjcaaDoor
open Go Go.RowKit
set_option maxRecDepth 100000

theorem Tryd.infoSg : (Tryd.prog.info? 3).map (fun i => (i.zero, i.size, i.bytes)) = some (some (.int .i64 0), 1, 8) := by kernel_rfl

theorem intVs_snoc (l : List Nat) (b : Nat) : intVs l ++ [Value.int .i64 (b : Int)] = intVs (l ++ [b]) := by simp [intVs]

/-- A row of ints behind one number more. -/
theorem own_sep {n m : Nat} {a b : Option Nat} (h : Sep n none a) (k : b = a ∨ b = some m) (hm : n ≤ m) : Sep n none b := by
  rcases k with rfl | rfl
  · exact h
  · exact .inr ⟨m, rfl, hm⟩
theorem sep_grown {w wr w2 : World} {row : Option Nat} (ht : Touch (fun _ => False) w wr) (hs : Sep w.heap.size none row) (hg : wr.grownBy w2 row) : Touch (fun _ => False) w w2 :=
  ht.grown hg (fun k hk => by
    rcases hs with h | ⟨g, h, hg⟩
    · rw [h] at hk; cases hk
    · rw [h] at hk; injection hk with hk; right; omega)

set_option maxHeartbeats 800000 in
theorem bits_calls (s : ByteArray) (w : World) (hs : s.size ≤ 1048576) :
    Calls Tryd.prog 35 #[.string s] w fun e w' => ∃ r, e = .returned r ∧ Row w' 3 r (intVs (bitsL s.data.toList)) ∧ Sep w.heap.size none r.ownBlock ∧ Touch (fun _ => False) w w' := by
  obtain ⟨i0, hi, hz0, hz1, hz2⟩ := info_parts Tryd.infoSg
  have HSZ := Lib.hid (data_length s)
  go_enter Tryd.func35, Tryd.ntmps35
  go_wp2
  go_loopw [3, 4] (fun r i wr => ∃ (j : Nat) (rv : Value), j ≤ s.size ∧ rv = r ∧ i = .int .i64 j ∧ Row wr 3 rv (intVs (bitsL (s.data.toList.take j))) ∧ Sep w.heap.size none rv.ownBlock ∧ Touch (fun _ => False) w wr) (fun _ i _ => s.size - (intOf i).toNat)
  case atStart => exact ⟨0, _, Nat.zero_le _, rfl, rfl, Row.nil _ _, .inl rfl, Touch.refl _ _⟩
  case round =>
    obtain ⟨j, rv, hj, rfl, rfl, hrow, hsep, ht⟩ := hrel
    have HSEP := Lib.hid hsep
    clear hsep
    by_cases hlt : j < s.size
    · have hjd : j < s.data.toList.length := by rw [HSZ.out]; exact hlt
      have HT := Lib.hid (show bitsL (s.data.toList.take (j + 1)) = bitsL (s.data.toList.take j) ++ bitsN 8 s[j].toNat from bitsL_take_succ s.data.toList j hjd)
      have hc := s[j].toNat_lt
      have htl := Lib.hid (show (s.data.toList.take j).length = j by rw [List.length_take]; omega)
      obtain ⟨wo, rfl⟩ : ∃ wo : World, wo = wr := ⟨_, rfl⟩
      go_wp2
      go_loopw [3, 5, 6] (fun r x i wr => ∃ (k m : Nat) (rv2 : Value), k ≤ 8 ∧ m = s[j].toNat / 2 ^ k ∧ rv2 = r ∧ x = .int .i64 m ∧ i = .int .i64 k ∧ Row wr 3 rv2 (intVs (bitsL (s.data.toList.take j) ++ bitsN k s[j].toNat)) ∧ Sep w.heap.size none rv2.ownBlock ∧ Touch (fun _ => False) w wr) (fun _ _ i _ => 8 - (intOf i).toNat)
      case atStart => exact ⟨0, s[j].toNat, _, Nat.zero_le _, by simp, rfl, rfl, rfl, by simpa [bitsN] using hrow, HSEP.out, ht⟩
      case round =>
        clear hrow ht
        obtain ⟨k, m, rv2, hk, hm, rfl, rfl, rfl, hrow, hsep, ht⟩ := hrel
        have HSEP2 := Lib.hid hsep
        have hml : m < 256 := by rw [hm]; exact Nat.lt_of_le_of_lt (Nat.div_le_self _ _) hc
        have HM := Lib.hid hm
        clear hm hsep
        by_cases hlk : k < 8
        · go_wp2_with (at_builtin; refine wpList_append_row _ rfl (.tmp 21) (.tmp 24) 53 53 rfl 3 i0 _ 8 Tryd.underlying53 hi hz0 hz1 hz2 rfl rv2 (intVs (bitsL (s.data.toList.take j) ++ bitsN k s[j].toNat)) rfl (by exact hrow.kept (S := fun _ => False) ((Touch.refl _ _).alloc _) (fun _ _ => id)) (.slice (some ⟨wr.heap.size, 0, none⟩) 1 1) rfl 1 [.int .i64 ((m : Int) % 2)] (by exact Src.ofCell Tryd.underlying53 (heap_alloc_new wr _) rfl) (by rw [intVs_length, List.length_append, bitsL_length, bitsN_length, htl.out]; unfold maxLen; omega) (by rw [intVs_length, List.length_append, bitsL_length, bitsN_length, htl.out]; omega) ?_; intro v2 w2 hrow2 hgrow hown2)
          go_roundw
          case rel =>
            refine ⟨k + 1, m / 2, _, by omega, by rw [HM.out, Nat.div_div_eq_div_mul, Nat.pow_succ], rfl, by go_num, by go_num, ?_, own_sep HSEP2.out hown2 (by have := ht.size; simp; omega), sep_grown (ht.alloc _) HSEP2.out hgrow⟩
            have e : (m : Int) % 2 = ((m % 2 : Nat) : Int) := by omega
            rw [e, intVs_snoc, HM.out, List.append_assoc, ← bitsN_snoc] at hrow2
            exact hrow2
          case measure => simp [intOf]; omega
        · obtain rfl : k = 8 := by omega
          rw [← HT.out] at hrow
          go_wp2
          go_roundw
          case rel => exact ⟨j + 1, _, by omega, rfl, by go_num, hrow, HSEP2.out, ht⟩
          case measure => simp [intOf]; omega
    · obtain rfl : j = s.size := by omega
      rw [← HSZ.out, List.take_length] at hrow
      go_wp2
      go_ret
      exact ⟨_, rfl, hrow, HSEP.out, ht⟩

theorem ex_list2 (s : ByteArray) (i j : Nat) : (s.extract i j).data.toList = (s.data.toList.drop i).take (j - i) := by
  rw [ByteArray.data_extract, Array.toList_extract, List.extract_eq_take_drop]
set_option maxHeartbeats 1000000 in
theorem plain_ok (T : ByteArray) (a q n : Nat) (v : Value) (l : List UInt8) (w : World) (ha : (a + 7) / 8 = q) (hq : q + 4 + n ≤ T.size) (hT : T.size ≤ 1000000) (h1 : getN ((T.data.toList.drop q).take 2) = n) (h2 : getN ((T.data.toList.drop (q + 2)).take 2) = 65535 - n) (hn : n < 65536)
    (hrow : Row w 5 v (byteVs l)) (hl : l.length ≤ 1000000) :
    Calls Tryd.prog 36 #[.string T, .int .i64 (a : Nat), v] w fun e w' => ∃ v', e = .returned (.tuple #[v', .int .i64 ((8 * (q + 4 + n) : Nat) : Int), .int .i64 0]) ∧ Row w' 5 v' (byteVs (l ++ (T.data.toList.drop (q + 4)).take n)) ∧ w.grownBy w' v.ownBlock ∧ (v'.ownBlock = v.ownBlock ∨ v'.ownBlock = some w.heap.size) := by
  obtain ⟨i0, hi, hz0, hz1, hz2⟩ := info_parts Tryd.info5
  have g1 := fun W => refget_small (T.extract q (q + 2)) W (by simp; omega)
  have g2 := fun W => refget_small (T.extract (q + 2) (q + 4)) W (by simp; omega)
  rw [ex_list2, show q + 2 - q = 2 by omega, h1] at g1
  rw [ex_list2, show q + 4 - (q + 2) = 2 by omega, h2] at g2
  have G1 := Lib.hid g1
  have G2 := Lib.hid g2
  have hdiv : ((a : Int) + 7).tdiv 8 = (q : Int) := by rw [Int.tdiv_eq_ediv_of_nonneg (by omega)]; omega
  have haz : a ≤ 8 * q := by omega
  have HR := Lib.hid hrow
  clear g1 g2 h1 h2 ha hrow
  go_enter Tryd.func36, Tryd.ntmps36
  go_wp2_with fail
  refine (G1.out w).mono ?_
  rintro e w1 ⟨rfl, rfl⟩
  have hsum : (n : Int) + ((65535 - n : Nat) : Int) = 65535 := by omega
  have hle : (q : Int) + 4 + (n : Int) ≤ (T.size : Int) := by omega
  go_wp2_with fail
  refine (G2.out w).mono ?_
  rintro e w1 ⟨rfl, rfl⟩
  have hex : (byteCells (T.extract (q + 4) (q + 4 + n))) = byteVs ((T.data.toList.drop (q + 4)).take n) := by
    show List.map _ _ = List.map _ _
    rw [ex_list2, show q + 4 + n - (q + 4) = n by omega]
  have hes : (T.extract (q + 4) (q + 4 + n)).size = n := by simp; omega
  have HX := Lib.hid (⟨hex, hes⟩ : _ ∧ _)
  clear hex hes
  go_wp2_with (at_builtin; refine wpList_append_row _ rfl (.tmp 52) (.tmp 60) 39 9 rfl 5 i0 _ 1 Tryd.underlying39 hi hz0 hz1 hz2 rfl v (byteVs l) rfl HR.out (.string (T.extract (q + 4) (q + 4 + n))) rfl (T.extract (q + 4) (q + 4 + n)).size (byteCells (T.extract (q + 4) (q + 4 + n))) (Src.ofString _ Tryd.underlying9 _) (by rw [byteVs_length, HX.out.2]; unfold maxLen; omega) (by rw [byteVs_length, HX.out.2]; omega) ?_; intro v9 w4 hrow4 hgrow4 hown4; have H4 := Lib.hid (⟨hrow4, hgrow4, hown4⟩ : _ ∧ _ ∧ _); clear hrow4 hgrow4 hown4)
  go_ret3
  have e8 : (8 : Int) * ((q : Int) + 4 + (n : Int)) = ((8 * (q + 4 + n) : Nat) : Int) := by omega
  refine ⟨v9, congrArg (fun i => Ending.returned (Value.tuple #[v9, .int .i64 i, .int .i64 0])) e8, ?_, H4.out.2.1, H4.out.2.2⟩
  rw [byteVs_append, ← HX.out.1]
  exact H4.out.1
theorem bits_at (S : List UInt8) (p : Nat) (h : UInt8) (rest : List UInt8) (hS : S.drop p = h :: rest) (i : Nat) (hi : i < 8) : (bitsL S)[8 * p + i]? = (bitsN 8 h.toNat)[i]? := by
  have hp : p < S.length := by
    have := congrArg List.length hS
    rw [List.length_drop, List.length_cons] at this
    omega
  have e : bitsL S = bitsL (S.take p) ++ (bitsN 8 h.toNat ++ bitsL rest) := by
    conv => lhs; rw [← List.take_append_drop p S, bitsL_append, hS]
    rfl
  have hl : (bitsL (S.take p)).length = 8 * p := by rw [bitsL_length, List.length_take, Nat.min_eq_left (by omega)]
  rw [e, List.getElem?_append_right (by omega), hl, show 8 * p + i - 8 * p = i by omega, List.getElem?_append_left (by rw [bitsN_length]; exact hi)]
theorem hd_parts {S R d : List UInt8} {Q : List (List UInt8)} {p : Nat} (hS : S.drop p = bytesQ (d :: Q) ++ R) (hd : d.length < 65536) :
    S.drop p = (if Q.isEmpty then 1 else 0) :: ((sz4 d.length ++ (d ++ bytesQ Q)) ++ R) ∧ getN ((S.drop (p + 1)).take 2) = d.length ∧ getN ((S.drop (p + 1 + 2)).take 2) = 65535 - d.length ∧ (S.drop (p + 1 + 4)).take d.length = d ∧ S.drop (p + 1 + 4 + d.length) = bytesQ Q ++ R ∧ p + 1 + 4 + d.length ≤ S.length := by
  have h0 : S.drop p = (if Q.isEmpty then 1 else 0) :: ((sz4 d.length ++ (d ++ bytesQ Q)) ++ R) := hS
  have h1 : S.drop (p + 1) = leB 2 d.length ++ (leB 2 (65535 - d.length) ++ (d ++ (bytesQ Q ++ R))) := by
    rw [← List.drop_drop, h0, List.drop_one, List.tail_cons]
    unfold sz4
    simp only [List.append_assoc]
  have h2 : S.drop (p + 1 + 2) = leB 2 (65535 - d.length) ++ (d ++ (bytesQ Q ++ R)) := by
    rw [← List.drop_drop, h1, List.drop_left' (leB_length _ _)]
  have h3 : S.drop (p + 1 + 4) = d ++ (bytesQ Q ++ R) := by
    rw [show p + 1 + 4 = p + 1 + 2 + 2 by omega, ← List.drop_drop, h2, List.drop_left' (leB_length _ _)]
  refine ⟨h0, ?_, ?_, ?_, ?_, ?_⟩
  · rw [h1, List.take_left' (leB_length _ _), getN_leB]
    exact Nat.mod_eq_of_lt (by omega)
  · rw [h2, List.take_left' (leB_length _ _), getN_leB]
    exact Nat.mod_eq_of_lt (by omega)
  · rw [h3, List.take_left' rfl]
  · rw [← List.drop_drop, h3, List.drop_left' rfl]
  · have := congrArg List.length h3
    rw [List.length_drop, List.length_append] at this
    have h4 := congrArg List.length h0
    rw [List.length_drop, List.length_cons, List.length_append, List.length_append, sz4_length, List.length_append] at h4
    omega
theorem flat_le : ∀ Q : List (List UInt8), Q.flatten.length ≤ (bytesQ Q).length
  | [] => Nat.le_refl _
  | b :: Q => by
    have := flat_le Q
    simp only [List.flatten_cons, List.length_append, bytesQ, List.length_cons]
    omega
theorem refread_calls (T : ByteArray) (d : List UInt8) (Q : List (List UInt8)) (R : List UInt8) (hT : T.data.toList = bytesQ (d :: Q) ++ R) (hQ : SmallQ (d :: Q)) (hz : T.size ≤ 100000) (w : World) :
    Calls Tryd.prog 29 #[.string T] w fun e w' => ∃ v, e = .returned (.tuple #[v, .int .i64 ((8 * (bytesQ (d :: Q)).length : Nat) : Int), .int .i64 0]) ∧ Row w' 5 v (byteVs (d :: Q).flatten) ∧ Touch (fun _ => False) w w' := by
  have hlen := data_length T
  have HT := Lib.hid (⟨hT, hQ, hlen⟩ : _ ∧ _ ∧ _)
  obtain ⟨N, hN⟩ : ∃ N, N = (bytesQ (d :: Q)).length := ⟨_, rfl⟩
  obtain ⟨X, hX⟩ : ∃ X, X = (d :: Q).flatten := ⟨_, rfl⟩
  rw [← hN, ← hX]
  have HN := Lib.hid (⟨hN, hX⟩ : _ ∧ _)
  clear hT hQ hlen hN hX
  go_enter Tryd.func29, Tryd.ntmps29
  go_wp2_with fail
  refine (bits_calls T w (by omega)).mono ?_
  rintro e w1 ⟨vb, rfl, hrb, hsb, hT1⟩
  have hnb : (intVs (bitsL T.data.toList)).length = 8 * T.size := by rw [intVs_length, bitsL_length, HT.out.2.2]
  have hpos : 0 < T.size := by
    have h1 := congrArg List.length HT.out.1
    rw [HT.out.2.2, List.length_append] at h1
    simp [bytesQ] at h1
    omega
  obtain ⟨M, hM⟩ : ∃ M, M = 8 * T.size := ⟨_, rfl⟩
  rw [← hM] at hnb
  have hMpos : 0 < M := by omega
  have HM := Lib.hid hM
  obtain ⟨g, off, cap, rfl, hcells⟩ : ∃ g off cap, vb = .slice (some ⟨g, off, none⟩) M cap ∧ ∀ j u, (intVs (bitsL T.data.toList))[j]? = some u → w1.cell? ⟨g, off + j, none⟩ = some u := by
    rcases hrb with ⟨_, h0⟩ | ⟨g, off, cap, cur, rfl, h1, h2, h3, h4, h5⟩
    · rw [h0] at hnb
      simp at hnb
      omega
    · refine ⟨g, off, cap, by rw [hnb], (Row.cells (.inr ⟨g, off, cap, cur, rfl, h1, h2, h3, h4, h5⟩)).2⟩
  have HB1 := Lib.hid (⟨hcells, hT1⟩ : _ ∧ _)
  clear hrb hsb hT1 hcells hnb hM
  go_wp2_with fail
  go_loopw [6, 7] (fun vo at' wr => ∃ (a p : Nat) (d' : List UInt8) (Q' : List (List UInt8)) (l : List UInt8), at' = .int .i64 (a : Nat) ∧ a < M ∧ RowKit.Hid (a = 8 * p ∧ p ≤ T.size) ∧ RowKit.Hid (T.data.toList.drop p = bytesQ (d' :: Q') ++ R ∧ SmallQ (d' :: Q') ∧ l ++ (d' :: Q').flatten = X ∧ p + (bytesQ (d' :: Q')).length = N) ∧ RowKit.Hid (Row wr 5 vo (byteVs l) ∧ Sep w1.heap.size none vo.ownBlock ∧ Touch (fun _ => False) w1 wr)) (fun _ at' _ => M - (intOf at').toNat)
  case atStart => exact ⟨0, 0, d, Q, [], rfl, hMpos, Lib.hid ⟨rfl, Nat.zero_le _⟩, Lib.hid ⟨HT.out.1, HT.out.2.1, by rw [HN.out.2]; rfl, by rw [HN.out.1]; omega⟩, Lib.hid ⟨Row.nil _ _, .inl rfl, Touch.refl _ _⟩⟩
  case round =>
    obtain ⟨a, p, d', Q', l, rfl, haM, HA, HP, HW⟩ := hrel
    have ha := HA.out.1
    have hp := HA.out.2
    obtain ⟨k0, k1, k2, k3, k4, k5⟩ := hd_parts HP.out.1 (HP.out.2.1 d' List.mem_cons_self)
    have hdl : d'.length < 65536 := HP.out.2.1 d' List.mem_cons_self
    rw [HT.out.2.2] at k5
    obtain ⟨a3, ha3⟩ : ∃ a3, a3 = a + 3 := ⟨_, rfl⟩
    have ha3I : (a : Int) + 3 = (a3 : Int) := by omega
    have hll : l.length ≤ 1000000 := by
      have h1 := congrArg List.length HP.out.2.2.1
      have h2 := flat_le (d :: Q)
      have h3 := congrArg List.length HT.out.1
      rw [HT.out.2.2, List.length_append] at h3
      rw [List.length_append, HN.out.2] at h1
      omega
    have HPL := Lib.hid (plain_ok T a3 (p + 1) d'.length u6 l wr.drew (by omega) (by omega) (by omega) k1 k2 hdl (HW.out.1.kept (S := fun _ => False) (Touch.refl _ wr).drew (fun _ _ => id)) hll)
    have hcell : ∀ (i x : Nat), i < 8 → (bitsN 8 (if Q'.isEmpty then 1 else 0 : UInt8).toNat)[i]? = some x → wr.cell? ⟨g, off + (a + i), none⟩ = some (.int .i64 (x : Nat)) := fun i x hi hx => by
      refine HW.out.2.2.cell (HB1.out.1 _ _ ?_) id
      have := bits_at _ p _ _ k0 i hi
      rw [← ha, hx] at this
      simp [intVs, this]
    have hlt : (a3 : Int) ≤ (M : Int) := by have := HM.out; omega
    have hlt1 : a + 1 < M := by have := HM.out; omega
    have hlt2 : a + 2 < M := by have := HM.out; omega
    have HA3 := Lib.hid ha3
    have hbb : a3 ≤ 1000000 := by have := HM.out; omega
    have hbM : M ≤ 1000000 := by have := HM.out; omega
    clear ha ha3 hp
    cases Q' with
    | nil =>
      have c0 := hcell 0 1 (by decide) (by decide)
      rw [Nat.add_zero] at c0
      have c1 := hcell 1 0 (by decide) (by decide)
      have c2 := hcell 2 0 (by decide) (by decide)
      have HK := Lib.hid (⟨k3, k4⟩ : _ ∧ _)
      clear hcell k0 k1 k2 k3 k4
      go_upto_region 6 with fail
      go_region
      go_wp2_with fail
      refine HPL.out.mono ?_
      rintro e w2 ⟨v2, rfl, hr2, hg2, ho2⟩
      have H2 := Lib.hid (⟨hr2, hg2, ho2⟩ : _ ∧ _ ∧ _)
      clear hr2 hg2 ho2 HPL
      go_wp2_with fail
      have HTW : Hid (Touch (fun _ => False) w1 w2) := Lib.hid (HW.out.2.2.drew.grown H2.out.2.1 (fun q hq => by
        rcases HW.out.2.1 with h | ⟨g', h, hg'⟩
        · rw [h] at hq; cases hq
        · rw [h] at hq; injection hq with hq; right; omega))
      have HROW : Hid (Row w2 5 v2 (byteVs (l ++ d'))) := Lib.hid (by have := H2.out.1; rw [HK.out.1] at this; exact this)
      go_ret3
      have hN2 : 8 * ((p : Int) + 1 + 4 + (d'.length : Int)) = ((8 * N : Nat) : Int) := by
        have h1 := HP.out.2.2.2
        simp only [bytesQ, List.length_cons, List.length_append, sz4_length, List.length_nil] at h1
        omega
      refine ⟨v2, congrArg (fun i => Ending.returned (Value.tuple #[v2, .int .i64 i, .int .i64 0])) hN2, ?_, HB1.out.2.trans HTW.out⟩
      have hx := HP.out.2.2.1
      simp only [List.flatten_cons, List.flatten_nil, List.append_nil] at hx
      rw [← hx]
      exact HROW.out
    | cons d2 Q2 =>
      have c0 := hcell 0 0 (by decide) (show (bitsN 8 (0 : UInt8).toNat)[0]? = some 0 by decide)
      rw [Nat.add_zero] at c0
      have c1 := hcell 1 0 (by decide) (show (bitsN 8 (0 : UInt8).toNat)[1]? = some 0 by decide)
      have c2 := hcell 2 0 (by decide) (show (bitsN 8 (0 : UInt8).toNat)[2]? = some 0 by decide)
      have HK := Lib.hid (⟨k3, k4⟩ : _ ∧ _)
      clear hcell k0 k1 k2 k3 k4
      go_upto_region 6 with fail
      go_region
      go_wp2_with fail
      refine HPL.out.mono ?_
      rintro e w2 ⟨v2, rfl, hr2, hg2, ho2⟩
      have H2 := Lib.hid (⟨hr2, hg2, ho2⟩ : _ ∧ _ ∧ _)
      clear hr2 hg2 ho2 HPL
      go_wp2_with fail
      have HTW : Hid (Touch (fun _ => False) w1 w2) := Lib.hid (HW.out.2.2.drew.grown H2.out.2.1 (fun q hq => by
        rcases HW.out.2.1 with h | ⟨g', h, hg'⟩
        · rw [h] at hq; cases hq
        · rw [h] at hq; injection hq with hq; right; omega))
      have HROW : Hid (Row w2 5 v2 (byteVs (l ++ d'))) := Lib.hid (by have := H2.out.1; rw [HK.out.1] at this; exact this)
      have hnx : 8 * (p + 1 + 4 + d'.length) < M := by
        have h1 := congrArg List.length HK.out.2
        rw [List.length_drop, HT.out.2.2, List.length_append] at h1
        simp only [bytesQ, List.length_cons] at h1
        have := HM.out
        omega
      go_roundw
      case rel =>
        refine ⟨8 * (p + 1 + 4 + d'.length), p + 1 + 4 + d'.length, d2, Q2, l ++ d', by go_num, ?_, Lib.hid ⟨rfl, k5⟩, Lib.hid ⟨HK.out.2, fun x hx => HP.out.2.1 x (List.mem_cons_of_mem _ hx), ?_, ?_⟩, Lib.hid ⟨HROW.out, ?_, HTW.out⟩⟩
        · exact hnx
        · have hx := HP.out.2.2.1
          rw [List.flatten_cons] at hx
          rw [List.append_assoc]
          exact hx
        · have h1 := HP.out.2.2.2
          have e : (bytesQ (d' :: d2 :: Q2)).length = 5 + (d'.length + (bytesQ (d2 :: Q2)).length) := by
            show (_ :: (sz4 d'.length ++ (d' ++ bytesQ (d2 :: Q2)))).length = _
            rw [List.length_cons, List.length_append, sz4_length, List.length_append]
            omega
          omega
        · exact own_sep HW.out.2.1 H2.out.2.2 (by have := HW.out.2.2.size; exact this)
      case measure => have := HA.out.1; simp [intOf]; omega
end Go.Proofs.YtleenjeiladjcaaDoor
/- The law's own 'same' over a stream of stored blocks. -/
namespace Go.Proofs.YtleenjeiladjcaaDoor
open Go Go.RowKit
set_option maxRecDepth 100000

theorem piece_list2 (s : ByteArray) (k m j : Nat) (hj : (j : Int) = min ((k : Int) + (m : Int)) (s.size : Int)) : (s.extract k j).data.toList = (s.data.toList.drop k).take m := by
  rw [ex_list2]
  have hl := data_length s
  by_cases h : k + m ≤ s.size
  · rw [show j - k = m by omega]
  · rw [List.take_of_length_le (by rw [List.length_drop]; omega), List.take_of_length_le (by rw [List.length_drop]; omega)]
theorem fedS_len {S R txt : List UInt8} {w0 w : World} {b k : Nat} {got : List UInt8} (h : FedS S R txt w0 w b k got) : got.length ≤ txt.length := by
  rcases h with ⟨_, c, Y, V, O, _, _, _, _, _, h, _⟩ | ⟨h, _⟩
  · rw [← h, List.length_append]; omega
  · rw [h]; exact Nat.le_refl _
theorem refRead_calls (T : ByteArray) (d : List UInt8) (Q : List (List UInt8)) (R : List UInt8) (hT : T.data.toList = bytesQ (d :: Q) ++ R) (hQ : SmallQ (d :: Q)) (hz : T.size ≤ 100000) (w : World) :
    Calls Tryd.prog 17 #[.string T] w fun e w' => e = .returned (.tuple #[.string ⟨(d :: Q).flatten.toArray⟩, .int .i64 ((8 * (bytesQ (d :: Q)).length : Nat) : Int), .int .i64 0]) ∧ Touch (fun _ => False) w w' := by
  have HC := Lib.hid (refread_calls T d Q R hT hQ hz w)
  obtain ⟨N, hN⟩ : ∃ N, N = 8 * (bytesQ (d :: Q)).length := ⟨_, rfl⟩
  obtain ⟨X, hX⟩ : ∃ X, X = (d :: Q).flatten := ⟨_, rfl⟩
  rw [← hN, ← hX] at HC ⊢
  clear hT hQ hz hN hX
  go_enter Tryd.func17, Tryd.ntmps17
  go_wp2_with fail
  refine HC.out.mono ?_
  rintro e w1 ⟨v, rfl, hrow, hT⟩
  have hcv := run_bytes_row (P := Tryd.prog) w1 39 5 9 Tryd.underlying39 Tryd.underlying5 Tryd.underlying9 hrow
  have HT := Lib.hid hT
  clear hrow hT HC
  go_wp2_with fail
  go_ret3
  exact ⟨rfl, HT.out⟩

theorem DecE.still {w w' : World} {b came told : Nat} {rest : List UInt8} (h : DecE w b came told rest) (ht : Touch (fun _ => False) w w') : DecE w' b came told rest := by
  obtain ⟨c0, c1, c2, c3, v4, c4, hB, hap, hf⟩ := h
  have hb : b < w.heap.size := World.block_lt_of_cell? w ⟨b, 0, none⟩ c0
  exact ⟨ht.cell c0 id, ht.cell c1 id, ht.cell c2 id, ht.cell c3 id, v4, ht.cell c4 id, hB.kept ht (fun _ _ => id), hap, fun j => (ht.frozen (p := ⟨b, j, none⟩) hb id).trans (hf j)⟩
theorem iused_q {w : World} {b came told : Nat} {rest : List UInt8} (h : DecE w b came told rest) (hc : came < 1000000000) (hr : rest.length ≤ came) : Calls Tryd.prog 15 #[.pointer (some ⟨b, 0, none⟩)] w fun e w' => e = .returned (.int .i64 ((came : Int) - (rest.length : Int))) ∧ ∃ m, w' = w.drewN m := by
  obtain ⟨c0, _, c2, _, v4, c4, ⟨G, cap, rfl, hG, _⟩, _⟩ := h
  go_enter Tryd.func15, Tryd.ntmps15
  go_wp2_with fail
  refine (idone_end c0).mono ?_
  rintro e w' ⟨rfl, rfl⟩
  go_wp2_with fail
  go_region
  go_wp2_with fail
  go_ret
  exact ⟨rfl, 1, rfl⟩
set_option maxHeartbeats 4000000 in
theorem same_stored (T : ByteArray) (d : List UInt8) (Q : List (List UInt8)) (R : List UInt8) (hT : T.data.toList = bytesQ (d :: Q) ++ R) (hQ : SmallQ (d :: Q)) (hz : T.size ≤ 100000) (hR : R.length ≤ 1000) (P : Nat) (hP1 : 1 ≤ P) (hP : P ≤ 100000) (w : World) :
    Calls Tryd.prog 8 #[.string T, .int .i64 (P : Nat)] w fun e w' => e = .returned (.bool true) ∧ Touch (fun _ => False) w w' := by
  have hlen := data_length T
  have HRD := Lib.hid (refRead_calls T d Q R hT hQ hz w)
  have hfx := flat_le (d :: Q)
  have hln := congrArg List.length hT
  rw [hlen, List.length_append] at hln
  have hFF := fun (w0 w' : World) (b : Nat) (h : DecR (fun _ => False) w0 w' b ps0) => fedS_first (S := T.data.toList) (R := R) hQ hT (by omega) h
  obtain ⟨N, hN⟩ : ∃ N, N = (bytesQ (d :: Q)).length := ⟨_, rfl⟩
  obtain ⟨X, hX⟩ : ∃ X, X = (d :: Q).flatten := ⟨_, rfl⟩
  rw [← hN, ← hX] at HRD
  rw [← hN] at hln
  rw [← hX] at hFF
  have hXl : X.length ≤ N := by rw [hX, hN]; exact hfx
  have hRx : (T.extract N T.size) = ⟨R.toArray⟩ := by
    apply ByteArray.ext
    apply Array.ext'
    rw [ex_list2, hT, hN, List.drop_left, List.take_of_length_le]
    rw [hT] at hlen
    rw [List.length_append] at hlen
    omega
  have HF := Lib.hid (⟨hFF, hXl, hRx, hlen⟩ : _ ∧ _ ∧ _ ∧ _)
  have HRl := Lib.hid hR
  have HLN := Lib.hid hln
  have HNT := Lib.hid (show N ≤ T.size by omega)
  clear hln hT hQ hfx hFF hN hX hXl hRx hlen hR
  go_enter Tryd.func8, Tryd.ntmps8
  go_wp2_with fail
  refine HRD.out.mono ?_
  rintro e w1 ⟨rfl, hT1⟩
  have HT1 := Lib.hid hT1
  clear hT1 HRD
  go_wp2_with fail
  refine (inew_calls w1).mono ?_
  rintro e w2 ⟨b, rfl, hb, hD⟩
  have HF2 := Lib.hid (HF.out.1 w1 w2 b hD)
  clear hD hb
  go_wp2_with fail
  go_loopw [9, 10] (fun vg iv wr => ∃ (j : Nat) (G : ByteArray), iv = .int .i64 (j : Nat) ∧ vg = .string G ∧ j ≤ T.size + P ∧ G.size ≤ 200000 ∧ RowKit.Hid (FedS T.data.toList R X w1 wr b j G.data.toList)) (fun _ iv _ => T.size + P - (intOf iv).toNat)
  case atStart => exact ⟨0, ⟨#[]⟩, rfl, rfl, by omega, by decide, HF2⟩
  case round =>
    clear HF2
    obtain ⟨j, G, rfl, rfl, hj, hG, HG⟩ := hrel
    by_cases hlt : j < T.size
    · have hltI : (j : Int) < (T.size : Int) := by omega
      obtain ⟨q, hq⟩ : ∃ q : Nat, (q : Int) = min ((j : Int) + (P : Int)) (T.size : Int) := ⟨(min ((j : Int) + (P : Int)) (T.size : Int)).toNat, by omega⟩
      have hq1 : j ≤ q ∧ q ≤ T.size := by omega
      have HC := Lib.hid (fedS_round (S := T.data.toList) (by rw [HF.out.2.2.2]; omega) (m := P) HG.out (by have := HF.out.2.1; have := HNT.out; omega) (by have := HRl.out; omega) (T.extract j q) (piece_list2 T j P q hq))
      have hb1 : (j : Int) + (P : Int) ≤ 9223372036854775807 := by omega
      have hb0 : -9223372036854775808 ≤ (j : Int) + (P : Int) := by omega
      by_cases hle : (j : Int) + (P : Int) ≤ (T.size : Int)
      · have hqe : ((j : Int) + (P : Int)).toNat = q := by omega
        clear HG hq
        go_wp2_with fail
        refine HC.out.mono ?_
        rintro e w9 ⟨out, rfl, hF9⟩
        have HF9 : Hid (FedS T.data.toList R X w1 w9 b (j + P) (G ++ ⟨out.toArray⟩ : ByteArray).data.toList) := Lib.hid (by
          have e1 : (G ++ ⟨out.toArray⟩ : ByteArray).data.toList = G.data.toList ++ out := by simp
          rw [e1]
          exact hF9)
        have hz9 := fedS_len HF9.out
        rw [data_length] at hz9
        have hng : ¬ 9223372036854775807 < G.size + out.length := by
          have h1 := fedS_len hF9
          rw [List.length_append, data_length] at h1
          have := HF.out.2.1
          have := HNT.out
          omega
        have hz8 : (G ++ ⟨out.toArray⟩ : ByteArray).size ≤ 200000 := by have := HF.out.2.1; have := HNT.out; omega
        have HZ8 := Lib.hid hz8
        clear HC hF9 hz9 hz8
        go_wp2_with fail
        go_roundw
        case rel => exact ⟨j + P, G ++ ⟨out.toArray⟩, by go_num, rfl, by omega, HZ8.out, HF9⟩
        case measure => simp [intOf]; omega
      · have hqe : T.size = q := by omega
        have HQE := Lib.hid (show T.extract j T.size = T.extract j q by rw [← hqe])
        clear HG hq hqe
        go_wp2_with fail
        rw [HQE.out]
        refine HC.out.mono ?_
        rintro e w9 ⟨out, rfl, hF9⟩
        have HF9 : Hid (FedS T.data.toList R X w1 w9 b (j + P) (G ++ ⟨out.toArray⟩ : ByteArray).data.toList) := Lib.hid (by
          have e1 : (G ++ ⟨out.toArray⟩ : ByteArray).data.toList = G.data.toList ++ out := by simp
          rw [e1]
          exact hF9)
        have hz9 := fedS_len HF9.out
        rw [data_length] at hz9
        have hng : ¬ 9223372036854775807 < G.size + out.length := by
          have h1 := fedS_len hF9
          rw [List.length_append, data_length] at h1
          have := HF.out.2.1
          have := HNT.out
          omega
        have hz8 : (G ++ ⟨out.toArray⟩ : ByteArray).size ≤ 200000 := by have := HF.out.2.1; have := HNT.out; omega
        have HZ8 := Lib.hid hz8
        clear HC hF9 hz9 hz8
        go_wp2_with fail
        go_roundw
        case rel => exact ⟨j + P, G ++ ⟨out.toArray⟩, by go_num, rfl, by omega, HZ8.out, HF9⟩
        case measure => simp [intOf]; omega
    · have hltI : ¬ (j : Int) < (T.size : Int) := by omega
      rcases HG.out with ⟨hx, _⟩ | ⟨hgot, X', hX', hE, hT9, _, _⟩
      · exact absurd hx (by rw [HF.out.2.2.2]; exact hlt)
      rw [List.drop_eq_nil_of_le (by rw [HF.out.2.2.2]; omega), List.append_nil] at hX'
      subst hX'
      rw [HF.out.2.2.2, Nat.min_eq_right (by omega)] at hE
      have hGx : G = ⟨X.toArray⟩ := by
        apply ByteArray.ext
        apply Array.ext'
        rw [hgot]
      subst hGx
      have HE9 := Lib.hid (⟨hE, HT1.out.trans hT9⟩ : _ ∧ _)
      clear hE hT9 hgot HG
      have hdN : (8 * (N : Int) + 7).tdiv 8 = (N : Int) := by rw [Int.tdiv_eq_ediv_of_nonneg (by omega)]; omega
      have hUN : (T.size : Int) - (X'.length : Int) = (N : Int) := by have := HLN.out; omega
      have hEX := HF.out.2.2.1
      have hNT : (N : Int) ≤ (T.size : Int) := by have := HNT.out; omega
      have hNT2 := HNT.out
      go_wp2_with fail
      go_quiet (first
        | (go_at_call 14; exact Calls.quiet_of_same ((idone_end (DecE.still HE9.out.1 ((Touch.refl _ _).drewN _)).1).mono fun _ _ h => ⟨h.1, h.2.symm⟩))
        | (go_at_call 15; exact Calls.quiet_of (iused_q (DecE.still HE9.out.1 ((Touch.refl _ _).drewN _)) (by omega) (by have := HLN.out; omega)))
        | (go_at_call 16; exact Calls.quiet_of_same ((irest_end (DecE.still HE9.out.1 ((Touch.refl _ _).drewN _))).mono fun _ _ h => ⟨h.1, h.2.symm⟩)))
      go_wp2_with fail
      go_ret
      exact ⟨rfl, HE9.out.2.trans ((Touch.refl _ wr).drewN _)⟩
end Go.Proofs.YtleenjeiladjcaaDoor
/- A stream of stored blocks at once: All; the blocks that the law lays. -/
namespace Go.Proofs.YtleenjeiladjcaaDoor
open Go Go.RowKit
set_option maxRecDepth 100000

def blkN (b : List UInt8) : List UInt8 := 0 :: (sz4 b.length ++ b)
def bytesN (Bs : List (List UInt8)) : List UInt8 := (Bs.map blkN).flatten
theorem bytesQ_end : ∀ Bs : List (List UInt8), bytesQ (Bs ++ [[]]) = bytesN Bs ++ [1, 0, 0, 255, 255]
  | [] => by decide
  | b :: Bs => by
    have h : (Bs ++ [[]] : List (List UInt8)).isEmpty = false := by cases Bs <;> rfl
    show bytesQ (b :: (Bs ++ [[]])) = _
    unfold bytesQ
    rw [bytesQ_end Bs, h]
    simp [bytesN, blkN]
theorem bytesN_snoc (Bs : List (List UInt8)) (b : List UInt8) : bytesN (Bs ++ [b]) = bytesN Bs ++ blkN b := by simp [bytesN]
theorem iall_stored (T : ByteArray) (d : List UInt8) (Q : List (List UInt8)) (R : List UInt8) (hT : T.data.toList = bytesQ (d :: Q) ++ R) (hQ : SmallQ (d :: Q)) (hz : T.size ≤ 100000) (w : World) :
    Calls Tryd.prog 7 #[.string T] w fun e w' => e = .returned (.tuple #[.string ⟨(d :: Q).flatten.toArray⟩, .string ⟨R.toArray⟩, .int .i64 0]) ∧ Touch (fun _ => False) w w' := by
  have hlen := data_length T
  have hfx := flat_le (d :: Q)
  have hln := congrArg List.length hT
  rw [hlen, List.length_append] at hln
  have hFF := fun (w0 w' : World) (b : Nat) (h : DecR (fun _ => False) w0 w' b ps0) => fedS_round (S := T.data.toList) (R := R) (by omega) (m := T.size) (fedS_first hQ hT (by omega) h) (by omega) (by omega) T (by rw [List.drop_zero, List.take_of_length_le (by omega)])
  obtain ⟨X, hX⟩ : ∃ X, X = (d :: Q).flatten := ⟨_, rfl⟩
  rw [← hX] at hFF ⊢
  have HF := Lib.hid (⟨hFF, hlen⟩ : _ ∧ _)
  clear hT hQ hfx hFF hX hlen hln
  go_enter Tryd.func7, Tryd.ntmps7
  go_wp2_with fail
  refine (inew_calls w).mono ?_
  rintro e w1 ⟨b, rfl, hb, hD1⟩
  have HF1 := Lib.hid (HF.out.1 w w1 b hD1)
  clear hD1 hb
  go_wp2_with fail
  refine HF1.out.mono ?_
  rintro e w2 ⟨out, rfl, hF2⟩
  rcases hF2 with ⟨hx, _⟩ | ⟨hgot, X', hX', hE, hT9, _, _⟩
  · exact absurd hx (by rw [HF.out.2]; omega)
  rw [List.drop_eq_nil_of_le (by rw [HF.out.2]; omega), List.append_nil] at hX'
  rw [List.nil_append] at hgot
  subst hX'
  subst hgot
  have HE := Lib.hid (⟨hE, hT9⟩ : _ ∧ _)
  clear hE hT9 HF1
  go_wp2_with fail
  refine (idone_end HE.out.1.1).mono ?_
  rintro e w3 ⟨rfl, rfl⟩
  go_wp2_with fail
  refine (irest_end HE.out.1).mono ?_
  rintro e w3 ⟨rfl, rfl⟩
  go_wp2_with fail
  go_ret3
  exact ⟨rfl, HE.out.2⟩
end Go.Proofs.YtleenjeiladjcaaDoor

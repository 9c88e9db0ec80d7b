/- Contracts of package link, third part: New, Len, Turn, putFirst, Twice; the beginning of layer 26's statements; LinkNone. -/
import Derived.Test.YtimiiahhedpfaaaLkB
import Derived.Test.YtimiiahhedpfaaaBase
import Derived.Conc.SmallLaws
import Derived.Conc.LoneSelectN
import Derived.Carry
namespace Go.Proofs.Ytimiiahhedpfaaa
open Go Go.RowKit Go.Conc
set_option maxRecDepth 100000

theorem mk64 (w : World) : (Instr.makeChan 88 (.int .i64 64)).run Try.prog w = .ok (.chan (some w.heap.size)) (w.alloc (.chan 64 #[] false 0 0 false)) := by
  have h : (Try.prog.info? 9).map (·.bytes) = some 16 := by kernel_rfl
  obtain ⟨i, hi, hb⟩ := Option.map_eq_some_iff.1 h
  simpa using run_makeChan (P := Try.prog) (w := w) Try.underlying88 hi .i64 64 (by omega) (by rw [hb]; omega)
theorem lkl_nil (ty : TypeId) (w : World) : (Builtin.len_ #[88] ty #[.chan none]).run Try.prog w = .ok (.int .i64 0) w := by
  simp [Builtin.len_, run_underlying Try.underlying88, goInt]

theorem llen_none {w : World} {v0 : Value} {z : Int} (hway : Calls Try.prog 40 #[v0, .int .i64 z] w fun e w' => e = .returned (.chan none) ∧ w = w') :
    Calls Try.prog 34 #[v0, .int .i64 z] w fun e w' => e = .returned (.int .i64 0) ∧ w = w' := by
  have hl := lkl_nil
  go_enter Try.func34, Try.ntmps34
  go_wp2_with fail
  refine hway.mono ?_
  rintro e w' ⟨rfl, rfl⟩
  go_wp2_with fail
  go_ret
  exact ⟨rfl, rfl⟩
theorem llen_calls {w : World} {p : Nat} {c : Nat → Nat} {L : Nat → List ByteArray} (h : LinkAt w p c L) (y : Nat) (hy : y < 2) :
    Calls Try.prog 34 #[.pointer (some ⟨p, 0, none⟩), .int .i64 (y : Nat)] w fun e w' => e = .returned (.int .i64 ((L y).length : Nat)) ∧ w = w' := by
  obtain ⟨s, r, hc⟩ := h.ch y hy
  have hl := fun ty => run_len_chan (P := Try.prog) 88 ty Try.underlying88 hc
  have hway := Lib.hid (way_calls h y hy)
  obtain ⟨n, hn⟩ : ∃ n, n = (L y).length := ⟨_, rfl⟩
  have hz : (((L y).map Value.string).toArray).size = n := by rw [hn]; simp
  rw [hz] at hl
  rw [← hn]
  unfold goInt at hl
  clear h hc hn hz
  go_enter Try.func34, Try.ntmps34
  go_wp2_with fail
  refine hway.out.mono ?_
  rintro e w' ⟨rfl, rfl⟩
  go_wp2_with fail
  go_ret
  exact ⟨rfl, rfl⟩

theorem turn_none {w : World} {v0 : Value} {z : Int} (hway : Calls Try.prog 40 #[v0, .int .i64 z] w fun e w' => e = .returned (.chan none) ∧ w = w') :
    Calls Try.prog 31 #[v0, .int .i64 z] w fun e w' => e = .returned (.bool false) ∧ w = w' := by
  go_enter Try.func31, Try.ntmps31
  go_wp2_with fail
  refine (take_none hway).mono ?_
  rintro e w' ⟨rfl, rfl⟩
  go_wp2_with fail
  go_ret
  exact ⟨rfl, rfl⟩
theorem turn_empty {w : World} {p : Nat} {c : Nat → Nat} {L : Nat → List ByteArray} (h : LinkAt w p c L) (y : Nat) (hy : y < 2) (hl : L y = []) :
    Calls Try.prog 31 #[.pointer (some ⟨p, 0, none⟩), .int .i64 (y : Nat)] w fun e w' => e = .returned (.bool false) ∧ w = w' := by
  go_enter Try.func31, Try.ntmps31
  go_wp2_with fail
  refine (take_empty h y hy hl).mono ?_
  rintro e w' ⟨rfl, rfl⟩
  go_wp2_with fail
  go_ret
  exact ⟨rfl, rfl⟩
theorem setL_set (L : Nat → List ByteArray) (y : Nat) (a b : List ByteArray) : setL (setL L y a) y b = setL L y b := by
  funext i; unfold setL; split <;> rfl
theorem setL_at (L : Nat → List ByteArray) (y : Nat) (a : List ByteArray) : setL L y a y = a := if_pos rfl
theorem setL_self (L : Nat → List ByteArray) (y : Nat) : setL L y (L y) = L := by
  funext i; unfold setL; split
  · rename_i h; rw [h]
  · rfl
theorem turn_calls {w : World} {p : Nat} {c : Nat → Nat} {L : Nat → List ByteArray} (h : LinkAt w p c L) (y : Nat) (hy : y < 2) {t : ByteArray} {l : List ByteArray} (hl : L y = t :: l) :
    Calls Try.prog 31 #[.pointer (some ⟨p, 0, none⟩), .int .i64 (y : Nat)] w fun e w' => e = .returned (.bool true) ∧ LinkAt w' p c (setL L y (l ++ [t])) ∧ Touch (fun k => k = c y) w w' := by
  have hle := h.le y hy
  rw [hl, List.length_cons] at hle
  go_enter Try.func31, Try.ntmps31
  go_wp2_with fail
  refine (take_some h y hy hl).mono ?_
  rintro e w1 ⟨rfl, h1, ht1⟩
  go_wp2_with fail
  refine (put_room h1 y hy t (by rw [setL_at]; omega)).mono ?_
  rintro e w2 ⟨rfl, h2, ht2⟩
  go_wp2_with fail
  go_ret
  rw [setL_set, setL_at] at h2
  exact ⟨rfl, h2, ht1.trans ht2⟩

set_option maxHeartbeats 1000000 in
theorem first_calls {w : World} {p : Nat} {c : Nat → Nat} {L : Nat → List ByteArray} (h : LinkAt w p c L) (y : Nat) (hy : y < 2) (t : ByteArray) (hl : (L y).length < 64) :
    Calls Try.prog 41 #[.pointer (some ⟨p, 0, none⟩), .int .i64 (y : Nat), .string t] w fun e w' => e = .returned (.tuple #[]) ∧ LinkAt w' p c (setL L y (t :: L y)) ∧ Touch (fun k => k = c y) w w' := by
  obtain ⟨n, hn⟩ : ∃ n, n = (L y).length := ⟨_, rfl⟩
  have hlen := llen_calls h y hy
  rw [← hn] at hlen
  have hn64 : n < 64 := by omega
  have H := Lib.hid h
  have HN := Lib.hid hn
  clear h hn hl
  go_enter Try.func41, Try.ntmps41
  go_wp2_with fail
  refine hlen.mono ?_
  rintro e w' ⟨rfl, rfl⟩
  go_wp2_with fail
  refine (put_room H.out y hy t (by rw [← HN.out]; exact hn64)).mono ?_
  rintro e w1 ⟨rfl, h1, ht1⟩
  have H1 := Lib.hid h1
  have HT1 := Lib.hid ht1
  clear h1 ht1 hlen
  go_wp2_with fail
  go_loopw [15] (fun kv wy => ∃ k : Nat, k ≤ n ∧ kv = .int .i64 (k : Nat) ∧ RowKit.Hid (LinkAt wy p c (setL L y ((L y).drop k ++ [t] ++ (L y).take k))) ∧ RowKit.Hid (Touch (fun j => j = c y) w wy)) (fun kv _ => n - (intOf kv).toNat)
  case atStart => exact ⟨0, Nat.zero_le _, rfl, Lib.hid (by rw [List.drop_zero, List.take_zero, List.append_nil]; exact H1.out), HT1⟩
  case round =>
    obtain ⟨k, hk, rfl, HK, HT⟩ := hrel
    by_cases hlt : k < n
    · have hltI : (k : Int) < (n : Int) := by omega
      have hkl : k < (L y).length := by rw [← HN.out]; exact hlt
      have he : setL L y ((L y).drop k ++ [t] ++ (L y).take k) y = (L y)[k] :: ((L y).drop (k + 1) ++ [t] ++ (L y).take k) := by
        rw [setL_at, List.drop_eq_getElem_cons hkl]; rfl
      have HTC := Lib.hid (turn_calls HK.out y hy he)
      have HE : Hid (setL (setL L y ((L y).drop k ++ [t] ++ (L y).take k)) y (((L y).drop (k + 1) ++ [t] ++ (L y).take k) ++ [(L y)[k]]) = setL L y ((L y).drop (k + 1) ++ [t] ++ (L y).take (k + 1))) := Lib.hid (by
        rw [setL_set, List.take_succ_eq_append_getElem hkl, List.append_assoc ((L y).drop (k + 1) ++ [t])])
      clear he
      go_wp2_with fail
      refine HTC.out.mono ?_
      rintro e w2 ⟨rfl, h2, ht2⟩
      have H2 := Lib.hid h2
      have HT2 := Lib.hid (HT.out.trans ht2)
      clear h2 ht2
      go_wp2_with fail
      go_roundw
      case rel => exact ⟨k + 1, by omega, by go_num, Lib.hid (by rw [← HE.out]; exact H2.out), HT2⟩
      case measure => simp [intOf]; omega
    · obtain rfl : k = n := by omega
      have hltI : ¬ (k : Int) < (k : Int) := by omega
      go_wp2_with fail
      go_end0
      refine ⟨rfl, ?_, HT.out⟩
      have := HK.out
      rw [HN.out, List.drop_length, List.take_length] at this
      exact this

theorem twice_none {w : World} {v0 : Value} {z : Int} (hway : Calls Try.prog 40 #[v0, .int .i64 z] w fun e w' => e = .returned (.chan none) ∧ w = w') :
    Calls Try.prog 32 #[v0, .int .i64 z] w fun e w' => e = .returned (.bool false) ∧ w = w' := by
  go_enter Try.func32, Try.ntmps32
  go_wp2_with fail
  refine (take_none hway).mono ?_
  rintro e w' ⟨rfl, rfl⟩
  go_wp2_with fail
  go_ret
  exact ⟨rfl, rfl⟩
theorem twice_empty {w : World} {p : Nat} {c : Nat → Nat} {L : Nat → List ByteArray} (h : LinkAt w p c L) (y : Nat) (hy : y < 2) (hl : L y = []) :
    Calls Try.prog 32 #[.pointer (some ⟨p, 0, none⟩), .int .i64 (y : Nat)] w fun e w' => e = .returned (.bool false) ∧ w = w' := by
  go_enter Try.func32, Try.ntmps32
  go_wp2_with fail
  refine (take_empty h y hy hl).mono ?_
  rintro e w' ⟨rfl, rfl⟩
  go_wp2_with fail
  go_ret
  exact ⟨rfl, rfl⟩
theorem twice_room {w : World} {p : Nat} {c : Nat → Nat} {L : Nat → List ByteArray} (h : LinkAt w p c L) (y : Nat) (hy : y < 2) {t : ByteArray} {l : List ByteArray} (hl : L y = t :: l) (hr : l.length < 63) :
    Calls Try.prog 32 #[.pointer (some ⟨p, 0, none⟩), .int .i64 (y : Nat)] w fun e w' => e = .returned (.bool true) ∧ LinkAt w' p c (setL L y (L y ++ [t])) ∧ Touch (fun k => k = c y) w w' := by
  go_enter Try.func32, Try.ntmps32
  go_wp2_with fail
  refine (take_some h y hy hl).mono ?_
  rintro e w1 ⟨rfl, h1, ht1⟩
  go_wp2_with fail
  refine (first_calls h1 y hy t (by rw [setL_at]; omega)).mono ?_
  rintro e w2 ⟨rfl, h2, ht2⟩
  rw [setL_set, setL_at, ← hl, setL_self] at h2
  go_wp2_with fail
  refine (put_room h2 y hy t (by rw [hl, List.length_cons]; omega)).mono ?_
  rintro e w3 ⟨rfl, h3, ht3⟩
  go_wp2_with fail
  go_ret
  exact ⟨rfl, h3, (ht1.trans ht2).trans ht3⟩
theorem twice_full {w : World} {p : Nat} {c : Nat → Nat} {L : Nat → List ByteArray} (h : LinkAt w p c L) (y : Nat) (hy : y < 2) {t : ByteArray} {l : List ByteArray} (hl : L y = t :: l) (hr : l.length = 63) :
    Calls Try.prog 32 #[.pointer (some ⟨p, 0, none⟩), .int .i64 (y : Nat)] w fun e w' => e = .returned (.bool false) ∧ LinkAt w' p c L ∧ Touch (fun k => k = c y) w w' := by
  go_enter Try.func32, Try.ntmps32
  go_wp2_with fail
  refine (take_some h y hy hl).mono ?_
  rintro e w1 ⟨rfl, h1, ht1⟩
  go_wp2_with fail
  refine (first_calls h1 y hy t (by rw [setL_at]; omega)).mono ?_
  rintro e w2 ⟨rfl, h2, ht2⟩
  rw [setL_set, setL_at, ← hl, setL_self] at h2
  go_wp2_with fail
  refine (put_full h2 y hy t (by rw [hl, List.length_cons]; omega)).mono ?_
  rintro e w3 ⟨rfl, rfl⟩
  go_wp2_with fail
  go_ret
  exact ⟨rfl, h2, ht1.trans ht2⟩
theorem spoil_none {w : World} {v0 : Value} {z : Int} (hway : Calls Try.prog 40 #[v0, .int .i64 z] w fun e w' => e = .returned (.chan none) ∧ w = w') (a u : Int) :
    Calls Try.prog 33 #[v0, .int .i64 z, .int .i64 a, .int .u32 u] w fun e w' => e = .returned (.bool false) ∧ w = w' := by
  go_enter Try.func33, Try.ntmps33
  go_wp2_with fail
  refine (take_none hway).mono ?_
  rintro e w' ⟨rfl, rfl⟩
  go_wp2_with fail
  go_ret
  exact ⟨rfl, rfl⟩
theorem spoil_empty {w : World} {p : Nat} {c : Nat → Nat} {L : Nat → List ByteArray} (h : LinkAt w p c L) (y : Nat) (hy : y < 2) (hl : L y = []) (a u : Int) :
    Calls Try.prog 33 #[.pointer (some ⟨p, 0, none⟩), .int .i64 (y : Nat), .int .i64 a, .int .u32 u] w fun e w' => e = .returned (.bool false) ∧ w = w' := by
  go_enter Try.func33, Try.ntmps33
  go_wp2_with fail
  refine (take_empty h y hy hl).mono ?_
  rintro e w' ⟨rfl, rfl⟩
  go_wp2_with fail
  go_ret
  exact ⟨rfl, rfl⟩

/-- A link under way: so many of its channels are there. -/
def NewSt (w wy : World) (b i : Nat) : Prop := ∃ x0 x1 : Option Nat, Block wy b 91 [.chan x0, .chan x1] ∧ (1 ≤ i → ∃ c0, x0 = some c0 ∧ wy.heap[c0]? = some (.chan 64 #[] false 0 0 false) ∧ w.heap.size ≤ c0 ∧ c0 ≠ b) ∧
  (2 ≤ i → ∃ c1, x1 = some c1 ∧ wy.heap[c1]? = some (.chan 64 #[] false 0 0 false) ∧ w.heap.size ≤ c1 ∧ c1 ≠ b ∧ x0 ≠ some c1)
theorem newst_step {w wr : World} {b i : Nat} (h : NewSt w wr b i) (hi : i < 2) (hw : w.heap.size ≤ wr.heap.size) :
    NewSt w (((wr.setCell ⟨b, i, none⟩ (.chan (some wr.heap.size))).alloc (.chan 64 #[] false 0 0 false)).drew) b (i + 1) ∧ Touch (fun k => k = b) wr (((wr.setCell ⟨b, i, none⟩ (.chan (some wr.heap.size))).alloc (.chan 64 #[] false 0 0 false)).drew) := by
  obtain ⟨x0, x1, hbl, h0, h1⟩ := h
  have hbl1 := Block.lt hbl
  have hT1 : Touch (fun k => k = b) wr (wr.setCell ⟨b, i, none⟩ (.chan (some wr.heap.size))) := (Touch.refl (fun k => k = b) wr).setCell (p := ⟨b, i, none⟩) (Or.inl rfl) _
  have hsz : (wr.setCell ⟨b, i, none⟩ (.chan (some wr.heap.size))).heap.size = wr.heap.size := by simp [World.setCell]
  have hT2 : Touch (fun _ => False) (wr.setCell ⟨b, i, none⟩ (.chan (some wr.heap.size))) (((wr.setCell ⟨b, i, none⟩ (.chan (some wr.heap.size))).alloc (.chan 64 #[] false 0 0 false)).drew) := ((Touch.refl _ _).alloc _).drew
  have hnew : (((wr.setCell ⟨b, i, none⟩ (.chan (some wr.heap.size))).alloc (.chan 64 #[] false 0 0 false)).drew).heap[wr.heap.size]? = some (.chan 64 #[] false 0 0 false) := by
    have := heap_alloc_new (wr.setCell ⟨b, i, none⟩ (.chan (some wr.heap.size))) (.chan 64 #[] false 0 0 false)
    rw [hsz] at this
    exact this
  have hT : Touch (fun k => k = b) wr (((wr.setCell ⟨b, i, none⟩ (.chan (some wr.heap.size))).alloc (.chan 64 #[] false 0 0 false)).drew) := hT1.trans (hT2.mono (fun _ e => e.elim))
  have hbl2 := Block.kept (Block.set hbl i (.chan (some wr.heap.size))) hT2 id
  rcases (show i = 0 ∨ i = 1 by omega) with rfl | rfl
  · exact ⟨⟨some wr.heap.size, x1, hbl2, fun _ => ⟨_, rfl, hnew, hw, by omega⟩, fun h => by omega⟩, hT⟩
  · obtain ⟨c0, rfl, e1, e2, e3⟩ := h0 (by omega)
    have hc0 : c0 < wr.heap.size := (Array.getElem?_eq_some_iff.1 e1).1
    refine ⟨⟨some c0, some wr.heap.size, hbl2, fun _ => ⟨c0, rfl, by rw [hT.block c0 hc0 e3]; exact e1, e2, e3⟩, fun _ => ⟨_, rfl, hnew, hw, by omega, fun e => by injection e with e; omega⟩⟩, hT⟩
set_option maxHeartbeats 1000000 in
theorem lknew_calls (w : World) : Calls Try.prog 28 #[] w fun e w' => ∃ p c, e = .returned (.pointer (some ⟨p, 0, none⟩)) ∧ LinkAt w' p c (fun _ => []) ∧ (w.heap.size ≤ p ∧ ∀ y, y < 2 → w.heap.size ≤ c y) ∧ Touch (fun _ => False) w w' := by
  have hmk := mk64
  go_enter Try.func28, Try.ntmps28
  go_wp2_with fail
  obtain ⟨b, hb⟩ : ∃ b, b = w.heap.size := ⟨_, rfl⟩
  have hB : Block (w.alloc (.cells #[.chan none, .chan none] 91)) b 91 [.chan none, .chan none] := by rw [hb]; exact Block.new w _ _
  have hT : Touch (fun k => k = b) w (w.alloc (.cells #[.chan none, .chan none] 91)) := (Touch.refl _ _).alloc _
  rw [← hb]
  generalize w.alloc (.cells #[.chan none, .chan none] 91) = w1 at *
  have HB := Lib.hid hb
  have HBL := Lib.hid hB
  have HT := Lib.hid hT
  clear hB hT hb
  go_loopw [5] (fun iv wy => ∃ i : Nat, i ≤ 2 ∧ iv = .int .i64 (i : Nat) ∧ RowKit.Hid (NewSt w wy b i) ∧ RowKit.Hid (Touch (fun k => k = b) w wy)) (fun iv _ => 2 - (intOf iv).toNat)
  case atStart => exact ⟨0, Nat.zero_le _, rfl, Lib.hid ⟨none, none, HBL.out, fun h => by omega, fun h => by omega⟩, HT⟩
  case round =>
    clear HT HBL
    obtain ⟨i, hi, rfl, HS, HT⟩ := hrel
    obtain ⟨x0, x1, hbl, h0, h1⟩ := HS.out
    by_cases hlt : i < 2
    · have hltI : (i : Int) < 2 := by omega
      have hbl1 := Block.lt hbl
      obtain ⟨cc, hcc⟩ : ∃ cc, cc = wr.heap.size := ⟨_, rfl⟩
      have g0 : wr.cell? ⟨b, 0, none⟩ = some (.chan x0) := Block.cell hbl 0
      have g1 : wr.cell? ⟨b, 1, none⟩ = some (.chan x1) := Block.cell hbl 1
      have f0 := Block.free hbl 0
      have f1 := Block.free hbl 1
      rcases (show i = 0 ∨ i = 1 by omega) with rfl | rfl
      all_goals
        have HST := Lib.hid (newst_step HS.out hlt (by have := HT.out.size; omega))
        clear h0 h1
        go_wp2_with fail
        go_region
        go_wp2_with fail
        go_roundw
        case rel => exact ⟨_, by omega, by go_num, Lib.hid HST.out.1, Lib.hid (HT.out.trans HST.out.2)⟩
        case measure => simp [intOf]
    · obtain rfl : i = 2 := by omega
      have hltI : ¬ (2 : Int) < 2 := by omega
      go_wp2_with fail
      go_ret
      obtain ⟨c0, rfl, e1, e2, e3⟩ := h0 (by omega)
      obtain ⟨c1, rfl, e4, e5, e6, e7⟩ := h1 (by omega)
      refine ⟨b, rfl, fun y => if y = 0 then c0 else c1, { box := hbl, ch := fun y hy => ?_, le := fun _ _ => Nat.zero_le _, ne := ?_ }, ⟨by rw [HB.out]; exact Nat.le_refl _, fun y hy => ?_⟩, ⟨HT.out.os, HT.out.tape, HT.out.output, HT.out.size, fun k hk _ => HT.out.block k hk (by have := HB.out; omega)⟩⟩
      · by_cases e : y = 0
        · simp only [if_pos e]; exact ⟨0, 0, e1⟩
        · simp only [if_neg e]; exact ⟨0, 0, e4⟩
      · refine ⟨fun e => e7 (congrArg some e), fun e => e3 e.symm, fun e => e6 e.symm⟩
      · by_cases e : y = 0
        · simp only [if_pos e]; exact e2
        · simp only [if_neg e]; exact e5

set_option maxHeartbeats 1000000 in
theorem speaks26_calls (w : World) : Calls Try.prog 27 #[] w fun e w' => e = .returned (.bool true) ∧ Touch (fun _ => False) w w' := by
  go_enter Try.func27, Try.ntmps27
  go_wp2_with fail
  refine (lknew_calls w).mono ?_
  rintro e w1 ⟨p, c, rfl, h1, hp, ht1⟩
  go_wp2_with fail
  refine (put_room h1 0 (by omega) ⟨#[97]⟩ (by decide)).mono ?_
  rintro e w2 ⟨rfl, h2, ht2⟩
  go_wp2_with fail
  refine (put_room h2 0 (by omega) ⟨#[98]⟩ (by decide)).mono ?_
  rintro e w3 ⟨rfl, h3, ht3⟩
  go_wp2_with fail
  refine (turn_calls h3 0 (by omega) (t := ⟨#[97]⟩) (l := [⟨#[98]⟩]) rfl).mono ?_
  rintro e w4 ⟨rfl, h4, ht4⟩
  go_wp2_with fail
  refine (take_some h4 0 (by omega) (t := ⟨#[98]⟩) (l := [⟨#[97]⟩]) rfl).mono ?_
  rintro e w5 ⟨rfl, h5, ht5⟩
  go_wp2_with fail
  refine (llen_calls h5 0 (by omega)).mono ?_
  rintro e w6 ⟨rfl, rfl⟩
  go_wp2_with fail
  refine (llen_calls h5 1 (by omega)).mono ?_
  rintro e w6 ⟨rfl, rfl⟩
  go_wp2_with fail
  go_ret
  exact ⟨rfl, ht1.trans' (((ht2.trans ht3).trans ht4).trans ht5) (fun i e => Or.inr (by rw [e]; exact hp.2 0 (by omega)))⟩

theorem lnone_calls (z : Int) (s : ByteArray) (w : World) : Calls Try.prog 9 #[.int .i64 z, .string s] w fun e w' => e = .returned (.bool true) ∧ Touch (fun _ => False) w w' := by
  go_enter Try.func9, Try.ntmps9
  go_wp2_with fail
  refine (speaks26_calls w).mono ?_
  rintro e w1 ⟨rfl, ht1⟩
  go_wp2_with fail
  refine (take_none (way_nil z w1)).mono ?_
  rintro e w' ⟨rfl, rfl⟩
  go_wp2_with fail
  refine (put_none (way_nil z w1) s).mono ?_
  rintro e w' ⟨rfl, rfl⟩
  go_wp2_with fail
  refine (turn_none (way_nil z w1)).mono ?_
  rintro e w' ⟨rfl, rfl⟩
  go_wp2_with fail
  refine (twice_none (way_nil z w1)).mono ?_
  rintro e w' ⟨rfl, rfl⟩
  go_wp2_with fail
  refine (spoil_none (way_nil z w1) _ _).mono ?_
  rintro e w' ⟨rfl, rfl⟩
  go_wp2_with fail
  refine (llen_none (way_nil z w1)).mono ?_
  rintro e w' ⟨rfl, rfl⟩
  go_wp2_with fail
  go_ret
  exact ⟨rfl, ht1⟩
end Go.Proofs.Ytimiiahhedpfaaa

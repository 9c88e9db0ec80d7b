/- Contracts of package dos: a time's text, and a text's time. -/
import Derived.Test.YtbhjeolhndpnfaaDosU
namespace Go.Proofs.Ytbhjeolhndpnfaa
open Go Go.RowKit
set_option maxRecDepth 100000

theorem text_bad (t : Tim) (w : World) (hb : goodB t = false) : Calls Try.prog 17 #[t.v] w fun e w' => e = .returned (.string ⟨#[]⟩) ∧ Touch (fun _ => False) w w' := by
  have HG := Lib.hid (fun W => good_b false t W hb)
  clear hb
  unfold Tim.v at *
  go_enter Try.func17, Try.ntmps17
  go_wp2_with (go_at_call 10; refine (HG.out _).mono ?_; rintro e w1 ⟨rfl, ht1⟩)
  go_ret
  exact ⟨rfl, ((Touch.refl _ _).alloc _).trans ht1⟩

set_option maxHeartbeats 2000000 in
theorem text_good (t : Tim) (w : World) (h : Good t) : Calls Try.prog 17 #[t.v] w fun e w' => e = .returned (.string (textB t)) ∧ Touch (fun _ => False) w w' := by
  have HG := Lib.hid (fun W => good_b true t W ((good_iff t).2 h))
  obtain ⟨a1, a2, a3, a4, a5, a6, a7, a8, a9, a10, a11, a12, a13⟩ := h
  have hdm := dim_bd t.y t.mo
  have H1 := Lib.hid (fun W => digits4_calls t.y W (by omega) (by omega))
  have H2 := Lib.hid (fun W => digits2_calls t.mo W (by omega) (by omega))
  have H3 := Lib.hid (fun W => digits2_calls t.d W (by omega) (by omega))
  have H4 := Lib.hid (fun W => digits2_calls t.h W (by omega) (by omega))
  have H5 := Lib.hid (fun W => digits2_calls t.mi W (by omega) (by omega))
  have H6 := Lib.hid (fun W => digits2_calls t.s W (by omega) (by omega))
  have HT : RowKit.Hid (textB t = ((((((((((⟨(dg4 t.y).toArray⟩ : ByteArray) ++ (⟨#[45]⟩ : ByteArray)) ++ (⟨(dg2 t.mo).toArray⟩ : ByteArray)) ++ (⟨#[45]⟩ : ByteArray)) ++ (⟨(dg2 t.d).toArray⟩ : ByteArray)) ++ (⟨#[32]⟩ : ByteArray)) ++ (⟨(dg2 t.h).toArray⟩ : ByteArray)) ++ (⟨#[58]⟩ : ByteArray)) ++ (⟨(dg2 t.mi).toArray⟩ : ByteArray)) ++ (⟨#[58]⟩ : ByteArray)) ++ (⟨(dg2 t.s).toArray⟩ : ByteArray)) := Lib.hid (by
    apply ByteArray.ext
    unfold textB textL
    simp)
  have z1 : (⟨(dg4 t.y).toArray⟩ : ByteArray).size = 4 := rfl
  have z2 : (⟨(dg2 t.mo).toArray⟩ : ByteArray).size = 2 := rfl
  have z3 : (⟨(dg2 t.d).toArray⟩ : ByteArray).size = 2 := rfl
  have z4 : (⟨(dg2 t.h).toArray⟩ : ByteArray).size = 2 := rfl
  have z5 : (⟨(dg2 t.mi).toArray⟩ : ByteArray).size = 2 := rfl
  have z6 : (⟨(dg2 t.s).toArray⟩ : ByteArray).size = 2 := rfl
  clear hdm
  generalize textB t = X at *
  generalize (⟨(dg4 t.y).toArray⟩ : ByteArray) = A1 at *
  generalize (⟨(dg2 t.mo).toArray⟩ : ByteArray) = A2 at *
  generalize (⟨(dg2 t.d).toArray⟩ : ByteArray) = A3 at *
  generalize (⟨(dg2 t.h).toArray⟩ : ByteArray) = A4 at *
  generalize (⟨(dg2 t.mi).toArray⟩ : ByteArray) = A5 at *
  generalize (⟨(dg2 t.s).toArray⟩ : ByteArray) = A6 at *
  obtain ⟨y, mo, d, hh, mi, s⟩ := t
  unfold Tim.v at *
  simp only at *
  go_enter Try.func17, Try.ntmps17
  go_upto_region 3 with (go_at_call 10; refine (HG.out _).mono ?_; rintro e w1 ⟨rfl, ht1⟩; obtain ⟨-, -, -, -, -, -, hr1, -⟩ := box6 ht1)
  refine wp_region_quiet_touch (fun _ => False) (by kernel_rfl) (by kernel_rfl) ?_
  obtain ⟨k0, k1, k2, k3, k4, k5⟩ := row6w hr1
  clear hr1
  have HT1 := Lib.hid ht1
  clear ht1
  repeat (go_big_quiet_step ((go_at_call 26; first | with_reducible exact quiet_touch (H1.out _) | with_reducible exact quiet_touch (H2.out _) | with_reducible exact quiet_touch (H3.out _) | with_reducible exact quiet_touch (H4.out _) | with_reducible exact quiet_touch (H5.out _) | with_reducible exact quiet_touch (H6.out _))))
  refine wpQuiet_nil ?_
  intro _ hw1
  obtain ⟨T, hw2⟩ := hw1
  subst hw2
  clear k0 k1 k2 k3 k4 k5
  go_wp2
  go_ret
  refine ⟨?_, (((Touch.refl _ _).alloc _).trans HT1.out).trans T.ok⟩
  exact congrArg (fun s => Ending.returned (.string s)) HT.out.symm

/-- A time's text; of what is no time none. -/
def txtB (t : Tim) : ByteArray := if goodB t = true then textB t else ⟨#[]⟩
theorem text_calls (t : Tim) (w : World) : Calls Try.prog 17 #[t.v] w fun e w' => e = .returned (.string (txtB t)) ∧ Touch (fun _ => False) w w' := by
  unfold txtB
  cases h : goodB t
  · rw [if_neg (by decide)]
    exact text_bad t w h
  · rw [if_pos rfl]
    exact text_good t w ((good_iff _).1 h)

theorem strEq (a b : ByteArray) : (a.toList == b.toList) = decide (a = b) := by
  rw [ByteArray.toList_eq, ByteArray.toList_eq]
  by_cases e : a = b
  · subst e; simp
  · simp [e]
    intro h2
    exact e (ByteArray.ext h2)

theorem parse_short (s : ByteArray) (w : World) (hs : ¬ s.size = 19) : Calls Try.prog 19 #[.string s] w fun e w' => e = .returned (.tuple #[Tim.zero.v, .bool false]) ∧ Touch (fun _ => False) w w' := by
  have hs' : ((s.size : Int) == 19) = false := by simpa using (by omega : ¬ (s.size : Int) = 19)
  have hs2 : ((s.size : Int) != 19) = true := by simpa using (by omega : ¬ (s.size : Int) = 19)
  unfold Tim.zero Tim.v
  go_enter Try.func19, Try.ntmps19
  go_wp2
  exact bodyPost_ret (results_cell_slot rfl _ _ w.heap.size _ _ _ _ rfl (heap_alloc_new w _) Try.underlying25 rfl Try.sizeT) rfl ⟨rfl, (Touch.refl _ _).alloc _⟩

set_option maxHeartbeats 2000000 in
theorem parse_long (s : ByteArray) (b : Bool) (w : World) (hs : s.size = 19) (hb : decide (txtB (parseT s) = s) = b) : Calls Try.prog 19 #[.string s] w fun e w' => e = .returned (.tuple #[(if b = true then parseT s else Tim.zero).v, .bool b]) ∧ Touch (fun _ => False) w w' := by
  have hs' : ((s.size : Int) == 19) = true := by simpa using (by omega : (s.size : Int) = 19)
  have hs2 : ((s.size : Int) != 19) = false := by simpa using (by omega : (s.size : Int) = 19)
  have hz : (19 : Int) ≤ (s.size : Int) := by omega
  have hz2 : 19 ≤ s.size := by omega
  have q4 : (4 : Int) ≤ (s.size : Int) := by omega
  have p4 : 4 ≤ s.size := by omega
  have q7 : (7 : Int) ≤ (s.size : Int) := by omega
  have p7 : 7 ≤ s.size := by omega
  have q10 : (10 : Int) ≤ (s.size : Int) := by omega
  have p10 : 10 ≤ s.size := by omega
  have q13 : (13 : Int) ≤ (s.size : Int) := by omega
  have p13 : 13 ≤ s.size := by omega
  have q16 : (16 : Int) ≤ (s.size : Int) := by omega
  have p16 : 16 ≤ s.size := by omega
  have e1 : (s.extract 0 4).size ≤ 4 := by simp; omega
  have e2 : (s.extract 5 7).size ≤ 4 := by simp; omega
  have e3 : (s.extract 8 10).size ≤ 4 := by simp; omega
  have e4 : (s.extract 11 13).size ≤ 4 := by simp; omega
  have e5 : (s.extract 14 16).size ≤ 4 := by simp; omega
  have e6 : (s.extract 17 19).size ≤ 4 := by simp; omega
  obtain ⟨n1, hn1⟩ : ∃ n, numL (s.extract 0 4).data.toList 0 = n := ⟨_, rfl⟩
  have g1 := fun W => number_calls (s.extract 0 4) W e1
  rw [hn1] at g1
  have H1 := Lib.hid g1
  clear g1
  obtain ⟨n2, hn2⟩ : ∃ n, numL (s.extract 5 7).data.toList 0 = n := ⟨_, rfl⟩
  have g2 := fun W => number_calls (s.extract 5 7) W e2
  rw [hn2] at g2
  have H2 := Lib.hid g2
  clear g2
  obtain ⟨n3, hn3⟩ : ∃ n, numL (s.extract 8 10).data.toList 0 = n := ⟨_, rfl⟩
  have g3 := fun W => number_calls (s.extract 8 10) W e3
  rw [hn3] at g3
  have H3 := Lib.hid g3
  clear g3
  obtain ⟨n4, hn4⟩ : ∃ n, numL (s.extract 11 13).data.toList 0 = n := ⟨_, rfl⟩
  have g4 := fun W => number_calls (s.extract 11 13) W e4
  rw [hn4] at g4
  have H4 := Lib.hid g4
  clear g4
  obtain ⟨n5, hn5⟩ : ∃ n, numL (s.extract 14 16).data.toList 0 = n := ⟨_, rfl⟩
  have g5 := fun W => number_calls (s.extract 14 16) W e5
  rw [hn5] at g5
  have H5 := Lib.hid g5
  clear g5
  obtain ⟨n6, hn6⟩ : ∃ n, numL (s.extract 17 19).data.toList 0 = n := ⟨_, rfl⟩
  have g6 := fun W => number_calls (s.extract 17 19) W e6
  rw [hn6] at g6
  have H6 := Lib.hid g6
  clear g6
  have ht : parseT s = ⟨n1, n2, n3, n4, n5, n6⟩ := by unfold parseT; rw [hn1, hn2, hn3, hn4, hn5, hn6]
  rw [ht] at hb ⊢
  clear hn1 hn2 hn3 hn4 hn5 hn6 ht
  have HX := Lib.hid (fun W => text_calls ⟨n1, n2, n3, n4, n5, n6⟩ W)
  generalize txtB ⟨n1, n2, n3, n4, n5, n6⟩ = X at *
  have b1 : (X.toList == s.toList) = b := by rw [← hb]; exact strEq X s
  have b2 : (X.toList != s.toList) = !b := by rw [← b1]; rfl
  clear hb
  have HB := Lib.hid (And.intro b1 b2)
  clear b1 b2
  unfold Tim.v at HX
  simp only at HX
  clear e1 e2 e3 e4 e5 e6 hs
  go_enter Try.func19, Try.ntmps19
  go_upto_region 3 with fail
  clear hs' hs2
  go_region_held3 (fun _ => True) (trivial)
    (first | (go_at_call 27; first
      | ((with_reducible refine (H1.out _).mono ?_); rintro e w1 ⟨rfl, rfl⟩)
      | ((with_reducible refine (H2.out _).mono ?_); rintro e w1 ⟨rfl, rfl⟩)
      | ((with_reducible refine (H3.out _).mono ?_); rintro e w1 ⟨rfl, rfl⟩)
      | ((with_reducible refine (H4.out _).mono ?_); rintro e w1 ⟨rfl, rfl⟩)
      | ((with_reducible refine (H5.out _).mono ?_); rintro e w1 ⟨rfl, rfl⟩)
      | ((with_reducible refine (H6.out _).mono ?_); rintro e w1 ⟨rfl, rfl⟩)))
  all_goals
    clear H1 H2 H3 H4 H5 H6 q4 q7 q10 q13 q16 p4 p7 p10 p13 p16 hz hz2
  all_goals cases b
  all_goals
    obtain ⟨b1, b2⟩ := HB.out
    go_wp2_with (go_at_call 17; refine (HX.out _).mono ?_; rintro e w1 ⟨rfl, ht1⟩; obtain ⟨r0, r1, r2, r3, r4, r5, hr, _⟩ := box6 (((Touch.refl (fun _ => False) _).alloc _).drew.trans ht1); have hrf := box_free hr; obtain ⟨c0, c1, c2, c3, c4, c5, hc, _⟩ := box6b ((Touch.refl (fun _ => False) _).drew.trans ht1); have HR := Lib.hid hr; clear hr hc)
    refine bodyPost_ret (results_cell_slot rfl _ _ w.heap.size _ _ _ _ rfl (box_set6 HR.out) Try.underlying25 rfl Try.sizeT) rfl ⟨rfl, ?_⟩
    exact ((((Touch.refl (fun _ => False) w).alloc _).alloc _).drew.trans ht1).set6 (.inr (Nat.le_refl _)) _ _ _ _ _ _
end Go.Proofs.Ytbhjeolhndpnfaa

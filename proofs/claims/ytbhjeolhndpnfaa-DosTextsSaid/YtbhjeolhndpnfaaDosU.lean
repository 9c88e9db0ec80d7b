/- Contracts of package dos: times as texts: digits and numbers. -/
import Derived.Test.YtbhjeolhndpnfaaDosF
import Derived.Test.YtbhjeolhndpnfaaDosT
import Derived.Laws.MakeOwn
namespace Go.Proofs.Ytbhjeolhndpnfaa
open Go Go.RowKit
set_option maxRecDepth 100000

theorem dgt_byte (n : Int) : IntKind.u8.wrap (48 + IntKind.u8.wrap (n % 10)) = ((dgt n).toNat : Int) := by
  rw [dgt_nat, IntKind.wrap_u8, IntKind.wrap_u8]
  omega

theorem Try.info5 : (Try.prog.info? 5).map (fun i => (i.zero, i.size, i.bytes)) = some (some (.int .u8 0), 1, 1) := by kernel_rfl

theorem madeK (k : Nat) (hk : k ≤ 4) (W : World) : (Instr.makeSlice 52 (.int .i64 (k : Int)) (.int .i64 (k : Int))).run Try.prog W = .ok (.slice (some ⟨W.heap.size, 0, none⟩) k k) (W.alloc (.cells (madeCells (Value.int .u8 0).cells (k * 1)) 5)) := by
  obtain ⟨i0, hi, hz0, hz1, hz2⟩ := info_parts Try.info5
  have h := run_makeSlice (P := Try.prog) W 52 5 i0 _ Try.underlying52 hi hz0 .i64 .i64 (k : Int) (k : Int) (by omega) (by omega) (by rw [hz1]; omega) (by rw [hz2]; omega) (by omega)
  rw [Int.toNat_natCast, hz1] at h
  exact h

theorem made2 : madeCells (Value.int .u8 0).cells (2 * 1) = #[.int .u8 0, .int .u8 0] := by
  simp only [madeCells, Value.cells]
  apply Array.ext
  · simp
  · intro i h1 h2
    simp at h1
    simp [Nat.mod_one]
    match i, h1 with
    | 0, _ => rfl | 1, _ => rfl

theorem made4 : madeCells (Value.int .u8 0).cells (4 * 1) = #[.int .u8 0, .int .u8 0, .int .u8 0, .int .u8 0] := by
  simp only [madeCells, Value.cells]
  apply Array.ext
  · simp
  · intro i h1 h2
    simp at h1
    simp [Nat.mod_one]
    match i, h1 with
    | 0, _ => rfl | 1, _ => rfl | 2, _ => rfl | 3, _ => rfl

/-- Digits that lie in a block of their own, as a text. -/
theorem digs_text (w : World) (l : List UInt8) (k : Nat) (cs : Array Value) (h : cs = (byteVs l).toArray) (hk : l.length = k) (hk4 : k ≤ 4) :
    (convert 52 9 (.slice (some ⟨w.heap.size, 0, none⟩) k k)).run Try.prog (w.alloc (.cells cs 5)) = .ok (.string ⟨l.toArray⟩) (w.alloc (.cells cs 5)) := by
  subst h
  have hr : Row (w.alloc (.cells (byteVs l).toArray 5)) 5 (.slice (some ⟨w.heap.size, 0, none⟩) k k) (byteVs l) :=
    .inr ⟨w.heap.size, 0, k, _, by rw [byteVs_length, hk], heap_alloc_new w _, by rw [byteVs_length, hk]; exact Nat.le_refl _, by unfold maxLen; omega, by simp [byteVs_length, hk], by simp⟩
  exact run_bytes_row (P := Try.prog) _ 52 5 9 Try.underlying52 Try.underlying5 Try.underlying9 hr

set_option maxHeartbeats 2000000 in
theorem digits2_calls (n : Int) (w : World) (h0 : 0 ≤ n) (h1 : n < 10000) : Calls Try.prog 26 #[.int .i64 n, .int .i64 2] w fun e w' => e = .returned (.string ⟨(dg2 n).toArray⟩) ∧ Touch (fun _ => False) w w' := by
  have hm : (Instr.makeSlice 52 (.int .i64 2) (.int .i64 2)).run Try.prog w = .ok (.slice (some ⟨w.heap.size, 0, none⟩) 2 2) (w.alloc (.cells #[.int .u8 0, .int .u8 0] 5)) := by
    have h := madeK 2 (by decide) w
    rw [made2] at h
    exact h
  have HC : RowKit.Hid ((convert 52 9 (.slice (some ⟨w.heap.size, 0, none⟩) 2 2)).run Try.prog (w.alloc (.cells #[.int .u8 (48 + n / 10 % 10), .int .u8 (48 + n % 10)] 5)) = .ok (.string ⟨(dg2 n).toArray⟩) (w.alloc (.cells #[.int .u8 (48 + n / 10 % 10), .int .u8 (48 + n % 10)] 5))) :=
    Lib.hid (digs_text w (dg2 n) 2 _ (by simp [byteVs, dg2, dgt_nat]) rfl (by decide))
  go_enter Try.func26, Try.ntmps26
  go_wp2
  clear hm
  go_loopw [0, 10] (fun a i wr => (a = .int .i64 (n) ∧ i = .int .i64 0 ∧ wr = w.alloc (.cells #[.int .u8 0, .int .u8 0] 5)) ∨ (a = .int .i64 (n / 10) ∧ i = .int .i64 1 ∧ wr = w.alloc (.cells #[.int .u8 0, .int .u8 (48 + n % 10)] 5)) ∨ (a = .int .i64 (n / 10 / 10) ∧ i = .int .i64 2 ∧ wr = w.alloc (.cells #[.int .u8 (48 + n / 10 % 10), .int .u8 (48 + n % 10)] 5))) (fun _ i _ => 2 - (intOf i).toNat)
  case atStart => exact .inl ⟨rfl, rfl, rfl⟩
  case round =>
    rcases hrel with ⟨rfl, rfl, rfl⟩ | ⟨rfl, rfl, rfl⟩ | ⟨rfl, rfl, rfl⟩
    · go_wp2
      go_roundw
      case rel => first | exact .inr (.inl ⟨rfl, rfl, rfl⟩) | simp
      case measure => simp [intOf]
    · go_wp2
      go_roundw
      case rel => first | exact .inr (.inr (⟨rfl, rfl, rfl⟩)) | simp
      case measure => simp [intOf]
    · have hc := HC.out
      go_wp2
      go_ret
      exact ⟨rfl, (Touch.refl _ _).alloc _⟩

set_option maxHeartbeats 2000000 in
theorem digits4_calls (n : Int) (w : World) (h0 : 0 ≤ n) (h1 : n < 10000) : Calls Try.prog 26 #[.int .i64 n, .int .i64 4] w fun e w' => e = .returned (.string ⟨(dg4 n).toArray⟩) ∧ Touch (fun _ => False) w w' := by
  have hm : (Instr.makeSlice 52 (.int .i64 4) (.int .i64 4)).run Try.prog w = .ok (.slice (some ⟨w.heap.size, 0, none⟩) 4 4) (w.alloc (.cells #[.int .u8 0, .int .u8 0, .int .u8 0, .int .u8 0] 5)) := by
    have h := madeK 4 (by decide) w
    rw [made4] at h
    exact h
  have HC : RowKit.Hid ((convert 52 9 (.slice (some ⟨w.heap.size, 0, none⟩) 4 4)).run Try.prog (w.alloc (.cells #[.int .u8 (48 + n / 10 / 10 / 10 % 10), .int .u8 (48 + n / 10 / 10 % 10), .int .u8 (48 + n / 10 % 10), .int .u8 (48 + n % 10)] 5)) = .ok (.string ⟨(dg4 n).toArray⟩) (w.alloc (.cells #[.int .u8 (48 + n / 10 / 10 / 10 % 10), .int .u8 (48 + n / 10 / 10 % 10), .int .u8 (48 + n / 10 % 10), .int .u8 (48 + n % 10)] 5))) :=
    Lib.hid (digs_text w (dg4 n) 4 _ (by simp [byteVs, dg4, dgt_nat]) rfl (by decide))
  go_enter Try.func26, Try.ntmps26
  go_wp2
  clear hm
  go_loopw [0, 10] (fun a i wr => (a = .int .i64 (n) ∧ i = .int .i64 0 ∧ wr = w.alloc (.cells #[.int .u8 0, .int .u8 0, .int .u8 0, .int .u8 0] 5)) ∨ (a = .int .i64 (n / 10) ∧ i = .int .i64 1 ∧ wr = w.alloc (.cells #[.int .u8 0, .int .u8 0, .int .u8 0, .int .u8 (48 + n % 10)] 5)) ∨ (a = .int .i64 (n / 10 / 10) ∧ i = .int .i64 2 ∧ wr = w.alloc (.cells #[.int .u8 0, .int .u8 0, .int .u8 (48 + n / 10 % 10), .int .u8 (48 + n % 10)] 5)) ∨ (a = .int .i64 (n / 10 / 10 / 10) ∧ i = .int .i64 3 ∧ wr = w.alloc (.cells #[.int .u8 0, .int .u8 (48 + n / 10 / 10 % 10), .int .u8 (48 + n / 10 % 10), .int .u8 (48 + n % 10)] 5)) ∨ (a = .int .i64 (n / 10 / 10 / 10 / 10) ∧ i = .int .i64 4 ∧ wr = w.alloc (.cells #[.int .u8 (48 + n / 10 / 10 / 10 % 10), .int .u8 (48 + n / 10 / 10 % 10), .int .u8 (48 + n / 10 % 10), .int .u8 (48 + n % 10)] 5))) (fun _ i _ => 4 - (intOf i).toNat)
  case atStart => exact .inl ⟨rfl, rfl, rfl⟩
  case round =>
    rcases hrel with ⟨rfl, rfl, rfl⟩ | ⟨rfl, rfl, rfl⟩ | ⟨rfl, rfl, rfl⟩ | ⟨rfl, rfl, rfl⟩ | ⟨rfl, rfl, rfl⟩
    · go_wp2
      go_roundw
      case rel => first | exact .inr (.inl ⟨rfl, rfl, rfl⟩) | simp
      case measure => simp [intOf]
    · go_wp2
      go_roundw
      case rel => first | exact .inr (.inr (.inl ⟨rfl, rfl, rfl⟩)) | simp
      case measure => simp [intOf]
    · go_wp2
      go_roundw
      case rel => first | exact .inr (.inr (.inr (.inl ⟨rfl, rfl, rfl⟩))) | simp
      case measure => simp [intOf]
    · go_wp2
      go_roundw
      case rel => first | exact .inr (.inr (.inr (.inr (⟨rfl, rfl, rfl⟩)))) | simp
      case measure => simp [intOf]
    · have hc := HC.out
      go_wp2
      go_ret
      exact ⟨rfl, (Touch.refl _ _).alloc _⟩

set_option maxHeartbeats 2000000 in
theorem number_calls (s : ByteArray) (w : World) (hs : s.size ≤ 4) : Calls Try.prog 27 #[.string s] w fun e w' => e = .returned (.int .i64 (numL s.data.toList 0)) ∧ w = w' := by
  have hs' : (s.size : Int) ≤ 4 := by omega
  go_enter Try.func27, Try.ntmps27
  go_wp2
  go_loop [3, 7] (fun n i => ∃ k : Nat, k ≤ s.size ∧ i = .int .i64 (k : Int) ∧ n = .int .i64 (numL (s.data.toList.take k) 0)) (fun _ i => s.size - (intOf i).toNat)
  case atStart => exact ⟨0, Nat.zero_le _, rfl, rfl⟩
  case round =>
    obtain ⟨k, hk, rfl, rfl⟩ := hrel
    have hb := numL_bd (s.data.toList.take k) (by rw [List.length_take]; simp; omega)
    by_cases hlt : k < s.size
    · have hk2 : (k : Int) < (s.size : Int) := by omega
      have hts : s.data.toList.take (k + 1) = s.data.toList.take k ++ [s[k]] := by rw [List.take_succ_eq_append_getElem (by simpa using hlt)]; rfl
      have HS := Lib.hid ((congrArg (fun l => numL l 0) hts).trans (numL_snoc _ _ _))
      clear hts
      generalize numL (s.data.toList.take k) 0 = N at *
      have hu := s[k].toNat_lt
      go_wp2
      go_round
      case rel => exact ⟨k + 1, by omega, by go_num, by rw [HS.out]⟩
      case measure => simp [intOf]; omega
    · obtain rfl : k = s.size := by omega
      go_wp2
      go_ret
      exact ⟨ret_int (by rw [List.take_of_length_le (by simp)]), rfl⟩

set_option maxHeartbeats 1000000 in
theorem weekday_bad (t : Tim) (w : World) (hb : goodB t = false) : Calls Try.prog 18 #[t.v] w fun e w' => e = .returned (.int .i64 (-1)) ∧ Touch (fun _ => False) w w' := by
  have HG := Lib.hid (fun W => good_b false t W hb)
  clear hb
  unfold Tim.v at *
  go_enter Try.func18, Try.ntmps18
  go_wp2_with (go_at_call 10; refine (HG.out _).mono ?_; rintro e w1 ⟨rfl, ht1⟩)
  go_ret
  exact ⟨rfl, ((Touch.refl _ _).alloc _).trans ht1⟩

set_option maxHeartbeats 1000000 in
theorem weekday_good (t : Tim) (w : World) (h : Good t) : Calls Try.prog 18 #[t.v] w fun e w' => e = .returned (.int .i64 ((2 + daysA t) % 7)) ∧ Touch (fun _ => False) w w' := by
  have HG := Lib.hid (fun W => good_b true t W ((good_iff t).2 h))
  have HA := Lib.hid (fun W => ahead_calls t W h)
  obtain ⟨k, m, -, -, -, -, -, -, -, -, e1, e2⟩ := days_of t h
  clear h
  generalize daysA t = D at *
  obtain ⟨y, mo, d, hh, mi, s⟩ := t
  unfold Tim.v at *
  simp only at *
  go_enter Try.func18, Try.ntmps18
  go_wp2_with (first
    | (go_at_call 10; refine (HG.out _).mono ?_; rintro e w1 ⟨rfl, ht1⟩; obtain ⟨c0, c1, c2, c3, c4, c5, -, -⟩ := box6 ht1)
    | (go_at_call 23; refine (HA.out _).mono ?_; rintro e w2 ⟨rfl, ht2⟩))
  go_ret
  exact ⟨rfl, (((Touch.refl _ _).alloc _).trans ht1).trans ht2⟩

set_option maxHeartbeats 2000000 in
theorem ahead_false (t o : Tim) (w : World) (ht : goodB t = false) : Calls Try.prog 20 #[t.v, o.v] w fun e w' => e = .returned (.bool false) ∧ Touch (fun _ => False) w w' := by
  have HG := Lib.hid (fun W => good_b false t W ht)
  clear ht
  obtain ⟨y, mo, d, hh, mi, s⟩ := t
  obtain ⟨y', mo', d', hh', mi', s'⟩ := o
  unfold Tim.v at *
  simp only at *
  go_enter Try.func20, Try.ntmps20
  go_upto_region 1 with fail
  have hA := ((Touch.refl (fun _ => False) w).alloc (.cells #[.int .i64 y, .int .i64 mo, .int .i64 d, .int .i64 hh, .int .i64 mi, .int .i64 s] 25)).alloc (.cells #[.int .i64 y', .int .i64 mo', .int .i64 d', .int .i64 hh', .int .i64 mi', .int .i64 s'] 25)
  obtain ⟨-, -, -, -, -, -, r1, -⟩ := box6 ((Touch.refl (fun _ => False) (w.alloc (.cells #[.int .i64 y, .int .i64 mo, .int .i64 d, .int .i64 hh, .int .i64 mi, .int .i64 s] 25))).alloc (.cells #[.int .i64 y', .int .i64 mo', .int .i64 d', .int .i64 hh', .int .i64 mi', .int .i64 s'] 25))
  refine wp_region_quiet_touch (fun _ => False) (by kernel_rfl) (by kernel_rfl) ?_
  generalize (w.alloc (.cells #[.int .i64 y, .int .i64 mo, .int .i64 d, .int .i64 hh, .int .i64 mi, .int .i64 s] 25)).alloc (.cells #[.int .i64 y', .int .i64 mo', .int .i64 d', .int .i64 hh', .int .i64 mi', .int .i64 s'] 25) = w0 at *
  obtain ⟨k0, k1, k2, k3, k4, k5⟩ := row6w r1
  clear r1
  have HA := Lib.hid hA
  clear hA
  repeat (go_big_quiet_step ((go_at_call 10; exact quiet_touch (HG.out _))))
  refine wpQuiet_nil ?_
  intro _ hw1
  obtain ⟨T, hw2⟩ := hw1
  subst hw2
  clear k0 k1 k2 k3 k4 k5
  go_wp2
  go_ret
  exact ⟨rfl, HA.out.trans T.ok⟩

set_option maxHeartbeats 2000000 in
theorem ahead_both (t o : Tim) (b : Bool) (w : World) (ht : Good t) (ho : Good o) (hb : decide (numI t < numI o) = b) : Calls Try.prog 20 #[t.v, o.v] w fun e w' => e = .returned (.bool b) ∧ Touch (fun _ => False) w w' := by
  have HG := Lib.hid (fun W => good_b true t W ((good_iff t).2 ht))
  have HO := Lib.hid (fun W => good_b true o W ((good_iff o).2 ho))
  have HN := Lib.hid (fun W => number_good t W ht)
  have HM := Lib.hid (fun W => number_good o W ho)
  clear ht ho
  generalize numI t = N at *
  generalize numI o = M at *
  obtain ⟨y, mo, d, hh, mi, s⟩ := t
  obtain ⟨y', mo', d', hh', mi', s'⟩ := o
  unfold Tim.v at *
  simp only at *
  go_enter Try.func20, Try.ntmps20
  go_upto_region 1 with fail
  have hA := ((Touch.refl (fun _ => False) w).alloc (.cells #[.int .i64 y, .int .i64 mo, .int .i64 d, .int .i64 hh, .int .i64 mi, .int .i64 s] 25)).alloc (.cells #[.int .i64 y', .int .i64 mo', .int .i64 d', .int .i64 hh', .int .i64 mi', .int .i64 s'] 25)
  obtain ⟨-, -, -, -, -, -, r1, -⟩ := box6 ((Touch.refl (fun _ => False) (w.alloc (.cells #[.int .i64 y, .int .i64 mo, .int .i64 d, .int .i64 hh, .int .i64 mi, .int .i64 s] 25))).alloc (.cells #[.int .i64 y', .int .i64 mo', .int .i64 d', .int .i64 hh', .int .i64 mi', .int .i64 s'] 25))
  obtain ⟨-, -, -, -, -, -, r2, -⟩ := box6b (Touch.refl (fun _ => False) ((w.alloc (.cells #[.int .i64 y, .int .i64 mo, .int .i64 d, .int .i64 hh, .int .i64 mi, .int .i64 s] 25)).alloc (.cells #[.int .i64 y', .int .i64 mo', .int .i64 d', .int .i64 hh', .int .i64 mi', .int .i64 s'] 25)))
  refine wp_region_quiet_touch (fun _ => False) (by kernel_rfl) (by kernel_rfl) ?_
  generalize (w.alloc (.cells #[.int .i64 y, .int .i64 mo, .int .i64 d, .int .i64 hh, .int .i64 mi, .int .i64 s] 25)).alloc (.cells #[.int .i64 y', .int .i64 mo', .int .i64 d', .int .i64 hh', .int .i64 mi', .int .i64 s'] 25) = w0 at *
  obtain ⟨k0, k1, k2, k3, k4, k5⟩ := row6w r1
  obtain ⟨l0, l1, l2, l3, l4, l5⟩ := row6w r2
  clear r1 r2
  have HA := Lib.hid hA
  clear hA
  repeat (go_big_quiet_step (first
    | (go_at_call 10; first | with_reducible exact quiet_touch (HG.out _) | with_reducible exact quiet_touch (HO.out _))
    | (go_at_call 13; first | with_reducible exact quiet_touch (HN.out _) | with_reducible exact quiet_touch (HM.out _))))
  refine wpQuiet_nil ?_
  intro _ hw1
  obtain ⟨T, hw2⟩ := hw1
  subst hw2
  clear k0 k1 k2 k3 k4 k5 l0 l1 l2 l3 l4 l5
  go_wp2
  go_ret
  exact ⟨rfl, HA.out.trans T.ok⟩
end Go.Proofs.Ytbhjeolhndpnfaa

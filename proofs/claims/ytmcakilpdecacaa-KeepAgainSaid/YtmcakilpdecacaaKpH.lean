/- Contracts of package keep, eighth part: a new disk is opened; that the program speaks. -/
import Derived.Test.YtmcakilpdecacaaKpG
namespace Go.Proofs.Ytmcakilpdecacaa
open Go Go.RowKit Go.Maps
set_option maxRecDepth 100000

theorem kopen_fresh {w : World} {b lb mb c n : Nat} {t : Nat} (h : DkAt w b lb mb c n (List.replicate (n * 64) 0) [] t (-1) true) (hn9 : 9 ≤ n) :
    Calls Try.prog 40 #[.pointer (some ⟨b, 0, none⟩)] w fun e w' => ∃ gb fb kb, e = .returned (.tuple #[.pointer (some ⟨kb, 0, none⟩), .int .i64 0]) ∧ Kp w' b lb mb c n t gb fb kb 0 ⟨#[]⟩ (List.replicate (n * 64) 0) 0 0 [] false ∧ (w.heap.size ≤ gb ∧ w.heap.size ≤ fb ∧ w.heap.size ≤ kb) ∧ Touch (fun _ => False) w w' := by
  have h0 : LogSecs (secsOf (List.replicate (n * 64) 0) 0 8) 0 (⟨#[]⟩ : ByteArray).data.toList := by rw [secsOf_zero (by omega)]; exact LogSecs.start 8
  exact kopen_calls h hn9 (by omega) h0 (holds_nil _ _ _) (by simp) (by omega) (by omega) ⟨fun _ => ⟨rfl, rfl, rfl, rfl⟩, fun h => absurd rfl h⟩ (fun W gb hL => by rw [moreN_nil]; exact lastOf_none hL)

theorem Kp.lt {w : World} {b lb mb c n t gb fb kb N : Nat} {nt : ByteArray} {L : List UInt8} {se ep : Nat} {A : List UInt8} {dn : Bool} (h : Kp w b lb mb c n t gb fb kb N nt L se ep A dn) : b < w.heap.size ∧ lb < w.heap.size ∧ mb < w.heap.size := h.duo.live.disk.lt

theorem fieldK0 (a b s m : Int) (d : Bool) (w : World) : (Instr.field 82 (.agg #[.int .u32 a, .int .u32 b, .int .i64 s, .int .u32 m, .bool d]) 0).run Try.prog w = .ok (.int .u32 a) w := by kernel_rfl
theorem fieldK1 (a b s m : Int) (d : Bool) (w : World) : (Instr.field 82 (.agg #[.int .u32 a, .int .u32 b, .int .i64 s, .int .u32 m, .bool d]) 1).run Try.prog w = .ok (.int .u32 b) w := by kernel_rfl
theorem fieldK2 (a b s m : Int) (d : Bool) (w : World) : (Instr.field 82 (.agg #[.int .u32 a, .int .u32 b, .int .i64 s, .int .u32 m, .bool d]) 2).run Try.prog w = .ok (.int .i64 s) w := by kernel_rfl
theorem fieldK4 (a b s m : Int) (d : Bool) (w : World) : (Instr.field 82 (.agg #[.int .u32 a, .int .u32 b, .int .i64 s, .int .u32 m, .bool d]) 4).run Try.prog w = .ok (.bool d) w := by kernel_rfl

set_option maxHeartbeats 1000000 in
theorem speaks20_calls (w : World) : Calls Try.prog 39 #[] w fun e w' => e = .returned (.bool true) ∧ Touch (fun _ => False) w w' := by
  go_enter Try.func39, Try.ntmps39
  go_wp2_with fail
  refine (new_calls 12 w (by omega) (by omega)).mono ?_
  rintro e w1 ⟨b, lb, mb, rfl, hD1, hN, hT1⟩
  have HD1 := Lib.hid hD1
  have HNB := Lib.hid hN
  clear hD1 hN
  go_wp2_with fail
  refine (kopen_fresh HD1.out (by omega)).mono ?_
  rintro e w2 ⟨gb, fb, kb, rfl, hK2, hgs, hT2⟩
  have HK2 := Lib.hid hK2
  have HS : Hid (∀ k, DkS b lb mb k ∨ k = gb ∨ k = fb ∨ k = kb → w.heap.size ≤ k) := Lib.hid (fun k hk => by
    have := HNB.out; have := hT1.size
    rcases hk with (h | h | h) | h | h | h <;> omega)
  have HT2 := Lib.hid (hT1.trans hT2)
  clear hK2 hgs hT1 hT2
  go_wp2_with fail
  refine (kbegin_calls HK2.out 7 (by omega) (by omega) (by omega)).mono ?_
  rintro e w3 ⟨rfl, ⟨L3, t3, ht3, hK3⟩, hT3⟩
  have HK3 := Lib.hid hK3
  have HT3 := Lib.hid (HT2.out.from hT3 HS.out)
  clear hK3 hT3
  go_wp2_with fail
  refine (kappend_calls HK3.out ⟨#[97, 98, 99]⟩ (by decide) (by omega) (by show t3 + 3 < 999999; omega)).mono ?_
  rintro e w4 ⟨rfl, ⟨L4, t4, ht4, hK4⟩, hT4⟩
  have HK4 : Hid (Kp w4 b lb mb (12 * 64) 12 t4 gb fb kb 2 (ntB 7 0 [97, 98, 99] false) L4 7 0 [97, 98, 99] false) := Lib.hid hK4
  have HT4 := Lib.hid (HT3.out.from hT4 HS.out)
  clear hK4 hT4 ht4 ht3
  go_wp2_with fail
  refine (kread_calls HK4.out 0 3 (by decide)).mono ?_
  rintro e w5 ⟨rfl, hT5⟩
  have HK5 := Lib.hid (HK4.out.still hT5)
  have HT5 := Lib.hid (HT4.out.trans hT5)
  clear hT5
  rw [show (⟨(([97, 98, 99] : List UInt8).drop 0 |>.take 3).toArray⟩ : ByteArray) = ⟨#[97, 98, 99]⟩ from rfl]
  have HST : Hid (∀ W, Touch (fun _ => False) w5 W → Calls Try.prog 48 #[.pointer (some ⟨kb, 0, none⟩)] W fun e w' => e = .returned (.agg #[.int .u32 (7 : Nat), .int .u32 (0 : Nat), .int .i64 (3 : Nat), .int .u32 (moreN 0 [97, 98, 99] : Nat), .bool false]) ∧ Touch (fun _ => False) W w') := Lib.hid (fun W hW => kstate_calls ((HK5.out.still hW).box))
  generalize moreN 0 [97, 98, 99] = mm at HST
  have g0 := fieldK0
  have g2 := fieldK2
  have g4 := fieldK4
  go_wp2_with fail
  refine (HST.out _ (Touch.refl _ _)).mono ?_
  rintro e w6 ⟨rfl, hT6⟩
  go_wp2_with fail
  refine (HST.out _ hT6).mono ?_
  rintro e w7 ⟨rfl, hT7⟩
  have hT67 := hT6.trans hT7
  go_wp2_with fail
  refine (HST.out _ hT67).mono ?_
  rintro e w8 ⟨rfl, hT8⟩
  have hT68 := hT67.trans hT8
  go_wp2_with fail
  refine (kroom_calls (HK5.out.still hT68)).mono ?_
  rintro e w9 ⟨rfl, hT9⟩
  go_wp2_with fail
  go_ret
  exact ⟨rfl, (HT5.out.trans hT68).trans hT9⟩

end Go.Proofs.Ytmcakilpdecacaa

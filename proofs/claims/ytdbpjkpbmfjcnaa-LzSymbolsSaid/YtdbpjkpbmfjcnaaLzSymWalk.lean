/- The walk of layer 5's statement on the symbols of any length and any distance. -/
import Derived.Test.YtdbpjkpbmfjcnaaLzSymA
namespace Go.Proofs.Ytdbpjkpbmfjcnaa
open Go Go.RowKit
set_option maxRecDepth 100000

set_option maxHeartbeats 2000000 in
theorem symbols_Ba (n : Nat) (z : Int) (w : World) (h1 : 1 ≤ n) (h : n < 3) (hz : z < 0) :
    Calls Try.prog 6 #[.int .i64 n, .int .i64 z] w fun e w' => e = .returned (.bool true) ∧ Touch (fun _ => False) w w' := by
  go_enter Try.func6, Try.ntmps6
  go_wp2_with fail
  refine (speaks5_calls _).mono ?_
  rintro e w1 ⟨rfl, ht1⟩
  go_wp2_with fail
  refine (lengths_calls _).mono ?_
  rintro e w2 ⟨va, rfl, hva, ht2⟩
  go_wp2_with fail
  refine (dists_calls _).mono ?_
  rintro e w3 ⟨vb, rfl, hvb, ht3⟩
  replace hva := hva.still ht3
  have HT := Lib.hid ((ht1.trans ht2).trans ht3)
  clear ht1 ht2 ht3
  have HL := Lib.hid (fun W => length_out n W (by omega))
  unfold extraV at HL
  obtain ⟨k1, k2⟩ := find_dist n (by omega) (by omega)
  have HD := Lib.hid (fun W => dist_in n W (by omega) (by omega))
  have HFB := Lib.hid (fun W hW => find_calls distTab n vb W (hvb.still hW) (by decide) (by decide))
  rw [k1] at HFB
  have hvlt : valN 1 (n - 1) ≤ n := k2
  have hsub2 : (n : Int) - ((n - valN 1 (n - 1) : Nat) : Int) = (valN 1 (n - 1) : Nat) := by omega
  have hvb2 : valN 1 (n - 1) ≤ 32768 := by omega
  unfold extraV at HD
  generalize n - valN 1 (n - 1) = L2 at HFB hsub2
  generalize symN 1 (n - 1) = S2 at HD HFB
  generalize bitN 1 (n - 1) = B2 at HD HFB
  generalize valN 1 (n - 1) = V2 at HD hsub2 hvb2 hvlt
  clear k1 k2 hvlt
  have t0 : decide (3 ≤ (n : Int)) = false := decide_eq_false (by omega)
  have t1 : decide ((n : Int) ≤ 258) = true := decide_eq_true (by omega)
  have t2 : decide (1 ≤ (n : Int)) = true := decide_eq_true (by omega)
  have t3 : decide ((n : Int) ≤ 32768) = true := decide_eq_true (by omega)
  have HLO := Lib.hid (fun W (hW : Touch (fun _ => False) w3 W) => carry (lengthof_out z W (by omega)) hW)
  have HDO := Lib.hid (fun W (hW : Touch (fun _ => False) w3 W) => carry (distof_out z W (by omega)) hW)
  obtain ⟨ga, oa, ca, hae, hca, hga, hcellA⟩ := tab_cells w3 va lenTab 29 (by decide) (by decide) hva
  obtain ⟨gb, ob, cb, hbe, hcb, hgb, hcellB⟩ := tab_cells w3 vb distTab 30 (by decide) (by decide) hvb
  subst hae
  subst hbe
  clear hva hvb
  clear hcellA hcellB
  have HSELF := Lib.hid (Touch.refl (fun _ => False) w3)
  go_wp2_with fail
  refine (HL.out _).mono ?_
  rintro e w4 ⟨rfl, ht4⟩
  have HT4 := Lib.hid (HSELF.out.trans ht4)
  clear ht4
  go_wp2_with fail
  refine (HD.out _).mono ?_
  rintro e w5 ⟨rfl, ht5⟩
  have HT5 := Lib.hid (HT4.out.trans ht5)
  clear ht5
  go_wp2_with fail
  refine (HFB.out _ ((((HT5.out.alloc _).alloc _).alloc _).alloc _)).mono ?_
  rintro e w7 ⟨rfl, ht7⟩
  have HT7 := Lib.hid (((((HT5.out.alloc _).alloc _).alloc _).alloc _).trans ht7)
  obtain ⟨hs7, hx7, hy7, hw7, hv7⟩ := four_fresh ht7
  clear ht7
  have hb5 : w3.heap.size ≤ w5.heap.size := HT5.out.size
  generalize w5.heap.size = b at hb5 hs7 hx7 hy7 hw7 hv7 ⊢
  obtain ⟨x0, x1, x2, x3, x4, x5⟩ := box_cells hx7
  obtain ⟨y0, y1, y2, y3, y4, y5⟩ := box_cells hy7
  obtain ⟨v0, v1, v2, v3, v4, v5⟩ := box_cells hw7
  obtain ⟨u0, u1, u2, u3, u4, u5⟩ := box_cells hv7
  have z1 : b < w7.heap.size := by omega
  have z2 : b + 1 < w7.heap.size := by omega
  have z3 : b + 1 + 1 < w7.heap.size := by omega
  have hb9 : w3.heap.size ≤ b + 1 + 1 + 1 := by omega
  have z4 : b ≠ b + 1 + 1 + 1 := by omega
  have z5 : b + 1 ≠ b + 1 + 1 + 1 := by omega
  have z6 : b + 1 + 1 ≠ b + 1 + 1 + 1 := by omega
  have HV7 := Lib.hid (And.intro hs7 hv7)
  clear hx7 hy7 hw7 hv7
  unfold trV
  go_wp2_with fail
  refine (HLO.out _ (((((HT7.out.setCell (.inr hb9) _).setCell (.inr hb9) _).setCell (.inr hb9) _).alloc _))).mono ?_
  rintro e w8 ⟨rfl, h8⟩
  have HT8 := Lib.hid h8
  clear h8
  have e0 : decide ((257 : Int) ≤ z) = false := decide_eq_false (by omega)
  have e1 : decide (z ≤ 285) = true := decide_eq_true (by omega)
  have e2 : decide ((0 : Int) ≤ z) = false := decide_eq_false (by omega)
  have e3 : decide (z ≤ 29) = true := decide_eq_true (by omega)
  clear x0 x1 x2 x3 x4 x5 y0 y1 y2 y3 y4 y5 v0 v1 v2 v3 v4 v5 u0 u1 u2 u3 u4 u5 z1 z2 z3 z4 z5 z6 hsub2 hvb2 hb5 t0 t1 t2 t3
  go_wp2_with fail
  refine (HDO.out _ HT8.out).mono ?_
  rintro e w9 ⟨rfl, h9⟩
  have HT9 := Lib.hid h9
  clear h9
  skip
  go_wp2_with fail
  go_ret
  exact ⟨by first | rfl | simp, HT.out.trans HT9.out⟩

set_option maxHeartbeats 2000000 in
theorem symbols_Bb (n : Nat) (s : Nat) (w : World) (h1 : 1 ≤ n) (h : n < 3) (hz : s < 30) :
    Calls Try.prog 6 #[.int .i64 n, .int .i64 (s : Nat)] w fun e w' => e = .returned (.bool true) ∧ Touch (fun _ => False) w w' := by
  go_enter Try.func6, Try.ntmps6
  go_wp2_with fail
  refine (speaks5_calls _).mono ?_
  rintro e w1 ⟨rfl, ht1⟩
  go_wp2_with fail
  refine (lengths_calls _).mono ?_
  rintro e w2 ⟨va, rfl, hva, ht2⟩
  go_wp2_with fail
  refine (dists_calls _).mono ?_
  rintro e w3 ⟨vb, rfl, hvb, ht3⟩
  replace hva := hva.still ht3
  have HT := Lib.hid ((ht1.trans ht2).trans ht3)
  clear ht1 ht2 ht3
  have HL := Lib.hid (fun W => length_out n W (by omega))
  unfold extraV at HL
  obtain ⟨k1, k2⟩ := find_dist n (by omega) (by omega)
  have HD := Lib.hid (fun W => dist_in n W (by omega) (by omega))
  have HFB := Lib.hid (fun W hW => find_calls distTab n vb W (hvb.still hW) (by decide) (by decide))
  rw [k1] at HFB
  have hvlt : valN 1 (n - 1) ≤ n := k2
  have hsub2 : (n : Int) - ((n - valN 1 (n - 1) : Nat) : Int) = (valN 1 (n - 1) : Nat) := by omega
  have hvb2 : valN 1 (n - 1) ≤ 32768 := by omega
  unfold extraV at HD
  generalize n - valN 1 (n - 1) = L2 at HFB hsub2
  generalize symN 1 (n - 1) = S2 at HD HFB
  generalize bitN 1 (n - 1) = B2 at HD HFB
  generalize valN 1 (n - 1) = V2 at HD hsub2 hvb2 hvlt
  clear k1 k2 hvlt
  have t0 : decide (3 ≤ (n : Int)) = false := decide_eq_false (by omega)
  have t1 : decide ((n : Int) ≤ 258) = true := decide_eq_true (by omega)
  have t2 : decide (1 ≤ (n : Int)) = true := decide_eq_true (by omega)
  have t3 : decide ((n : Int) ≤ 32768) = true := decide_eq_true (by omega)
  have HLO := Lib.hid (fun W (hW : Touch (fun _ => False) w3 W) => carry (lengthof_out (s : Int) W (by omega)) hW)
  have HDO := Lib.hid (fun W (hW : Touch (fun _ => False) w3 W) => carry (distof_in s W hz) hW)
  obtain ⟨ga, oa, ca, hae, hca, hga, hcellA⟩ := tab_cells w3 va lenTab 29 (by decide) (by decide) hva
  obtain ⟨gb, ob, cb, hbe, hcb, hgb, hcellB⟩ := tab_cells w3 vb distTab 30 (by decide) (by decide) hvb
  subst hae
  subst hbe
  clear hva hvb
  have HC := Lib.hid (fun W hW => hcellB s _ (distTab_at s hz) W hW)
  have HLS := Lib.hid (show (distRow s).2.1 = leastN 1 s + 1 from rfl)
  have HES := Lib.hid (show (distRow s).2.2 = extN 1 s from rfl)
  clear hcellA hcellB
  have HSELF := Lib.hid (Touch.refl (fun _ => False) w3)
  go_wp2_with fail
  refine (HL.out _).mono ?_
  rintro e w4 ⟨rfl, ht4⟩
  have HT4 := Lib.hid (HSELF.out.trans ht4)
  clear ht4
  go_wp2_with fail
  refine (HD.out _).mono ?_
  rintro e w5 ⟨rfl, ht5⟩
  have HT5 := Lib.hid (HT4.out.trans ht5)
  clear ht5
  go_wp2_with fail
  refine (HFB.out _ ((((HT5.out.alloc _).alloc _).alloc _).alloc _)).mono ?_
  rintro e w7 ⟨rfl, ht7⟩
  have HT7 := Lib.hid (((((HT5.out.alloc _).alloc _).alloc _).alloc _).trans ht7)
  obtain ⟨hs7, hx7, hy7, hw7, hv7⟩ := four_fresh ht7
  clear ht7
  have hb5 : w3.heap.size ≤ w5.heap.size := HT5.out.size
  generalize w5.heap.size = b at hb5 hs7 hx7 hy7 hw7 hv7 ⊢
  obtain ⟨x0, x1, x2, x3, x4, x5⟩ := box_cells hx7
  obtain ⟨y0, y1, y2, y3, y4, y5⟩ := box_cells hy7
  obtain ⟨v0, v1, v2, v3, v4, v5⟩ := box_cells hw7
  obtain ⟨u0, u1, u2, u3, u4, u5⟩ := box_cells hv7
  have z1 : b < w7.heap.size := by omega
  have z2 : b + 1 < w7.heap.size := by omega
  have z3 : b + 1 + 1 < w7.heap.size := by omega
  have hb9 : w3.heap.size ≤ b + 1 + 1 + 1 := by omega
  have z4 : b ≠ b + 1 + 1 + 1 := by omega
  have z5 : b + 1 ≠ b + 1 + 1 + 1 := by omega
  have z6 : b + 1 + 1 ≠ b + 1 + 1 + 1 := by omega
  have HV7 := Lib.hid (And.intro hs7 hv7)
  clear hx7 hy7 hw7 hv7
  unfold trV
  go_wp2_with fail
  refine (HLO.out _ (((((HT7.out.setCell (.inr hb9) _).setCell (.inr hb9) _).setCell (.inr hb9) _).alloc _))).mono ?_
  rintro e w8 ⟨rfl, h8⟩
  have HT8 := Lib.hid h8
  clear h8
  have e0 : decide ((257 : Int) ≤ (s : Int)) = false := decide_eq_false (by omega)
  have e1 : decide ((s : Int) ≤ 285) = true := decide_eq_true (by omega)
  have e2 : decide ((0 : Int) ≤ (s : Int)) = true := decide_eq_true (by omega)
  have e3 : decide ((s : Int) ≤ 29) = true := decide_eq_true (by omega)
  clear x0 x1 x2 x3 x4 x5 y0 y1 y2 y3 y4 y5 v0 v1 v2 v3 v4 v5 u0 u1 u2 u3 u4 u5 z1 z2 z3 z4 z5 z6 hsub2 hvb2 hb5 t0 t1 t2 t3
  go_wp2_with fail
  refine (HDO.out _ HT8.out).mono ?_
  rintro e w9 ⟨rfl, h9⟩
  have HT9 := Lib.hid h9
  clear h9
  have d1 : w9.cell? ⟨gb, ob + s * 3 + 1, none⟩ = some (.int .i64 (leastN 1 s + 1 : Nat)) := (HC.out _ HT9.out).1
  have d2 : w9.cell? ⟨gb, ob + s * 3 + 2, none⟩ = some (.int .i64 (extN 1 s : Nat)) := (HC.out _ HT9.out).2
  have hs0 : (0 : Int) ≤ (s : Int) := by omega
  have hs1 : (s : Int) < 30 := by omega
  go_wp2_with fail
  go_ret
  exact ⟨by first | rfl | simp, HT.out.trans HT9.out⟩

set_option maxHeartbeats 2000000 in
theorem symbols_Bc (n : Nat) (z : Int) (w : World) (h1 : 1 ≤ n) (h : n < 3) (hz : 29 < z) (hz2 : z < 257) :
    Calls Try.prog 6 #[.int .i64 n, .int .i64 z] w fun e w' => e = .returned (.bool true) ∧ Touch (fun _ => False) w w' := by
  go_enter Try.func6, Try.ntmps6
  go_wp2_with fail
  refine (speaks5_calls _).mono ?_
  rintro e w1 ⟨rfl, ht1⟩
  go_wp2_with fail
  refine (lengths_calls _).mono ?_
  rintro e w2 ⟨va, rfl, hva, ht2⟩
  go_wp2_with fail
  refine (dists_calls _).mono ?_
  rintro e w3 ⟨vb, rfl, hvb, ht3⟩
  replace hva := hva.still ht3
  have HT := Lib.hid ((ht1.trans ht2).trans ht3)
  clear ht1 ht2 ht3
  have HL := Lib.hid (fun W => length_out n W (by omega))
  unfold extraV at HL
  obtain ⟨k1, k2⟩ := find_dist n (by omega) (by omega)
  have HD := Lib.hid (fun W => dist_in n W (by omega) (by omega))
  have HFB := Lib.hid (fun W hW => find_calls distTab n vb W (hvb.still hW) (by decide) (by decide))
  rw [k1] at HFB
  have hvlt : valN 1 (n - 1) ≤ n := k2
  have hsub2 : (n : Int) - ((n - valN 1 (n - 1) : Nat) : Int) = (valN 1 (n - 1) : Nat) := by omega
  have hvb2 : valN 1 (n - 1) ≤ 32768 := by omega
  unfold extraV at HD
  generalize n - valN 1 (n - 1) = L2 at HFB hsub2
  generalize symN 1 (n - 1) = S2 at HD HFB
  generalize bitN 1 (n - 1) = B2 at HD HFB
  generalize valN 1 (n - 1) = V2 at HD hsub2 hvb2 hvlt
  clear k1 k2 hvlt
  have t0 : decide (3 ≤ (n : Int)) = false := decide_eq_false (by omega)
  have t1 : decide ((n : Int) ≤ 258) = true := decide_eq_true (by omega)
  have t2 : decide (1 ≤ (n : Int)) = true := decide_eq_true (by omega)
  have t3 : decide ((n : Int) ≤ 32768) = true := decide_eq_true (by omega)
  have HLO := Lib.hid (fun W (hW : Touch (fun _ => False) w3 W) => carry (lengthof_out z W (by omega)) hW)
  have HDO := Lib.hid (fun W (hW : Touch (fun _ => False) w3 W) => carry (distof_out z W (by omega)) hW)
  obtain ⟨ga, oa, ca, hae, hca, hga, hcellA⟩ := tab_cells w3 va lenTab 29 (by decide) (by decide) hva
  obtain ⟨gb, ob, cb, hbe, hcb, hgb, hcellB⟩ := tab_cells w3 vb distTab 30 (by decide) (by decide) hvb
  subst hae
  subst hbe
  clear hva hvb
  clear hcellA hcellB
  have HSELF := Lib.hid (Touch.refl (fun _ => False) w3)
  go_wp2_with fail
  refine (HL.out _).mono ?_
  rintro e w4 ⟨rfl, ht4⟩
  have HT4 := Lib.hid (HSELF.out.trans ht4)
  clear ht4
  go_wp2_with fail
  refine (HD.out _).mono ?_
  rintro e w5 ⟨rfl, ht5⟩
  have HT5 := Lib.hid (HT4.out.trans ht5)
  clear ht5
  go_wp2_with fail
  refine (HFB.out _ ((((HT5.out.alloc _).alloc _).alloc _).alloc _)).mono ?_
  rintro e w7 ⟨rfl, ht7⟩
  have HT7 := Lib.hid (((((HT5.out.alloc _).alloc _).alloc _).alloc _).trans ht7)
  obtain ⟨hs7, hx7, hy7, hw7, hv7⟩ := four_fresh ht7
  clear ht7
  have hb5 : w3.heap.size ≤ w5.heap.size := HT5.out.size
  generalize w5.heap.size = b at hb5 hs7 hx7 hy7 hw7 hv7 ⊢
  obtain ⟨x0, x1, x2, x3, x4, x5⟩ := box_cells hx7
  obtain ⟨y0, y1, y2, y3, y4, y5⟩ := box_cells hy7
  obtain ⟨v0, v1, v2, v3, v4, v5⟩ := box_cells hw7
  obtain ⟨u0, u1, u2, u3, u4, u5⟩ := box_cells hv7
  have z1 : b < w7.heap.size := by omega
  have z2 : b + 1 < w7.heap.size := by omega
  have z3 : b + 1 + 1 < w7.heap.size := by omega
  have hb9 : w3.heap.size ≤ b + 1 + 1 + 1 := by omega
  have z4 : b ≠ b + 1 + 1 + 1 := by omega
  have z5 : b + 1 ≠ b + 1 + 1 + 1 := by omega
  have z6 : b + 1 + 1 ≠ b + 1 + 1 + 1 := by omega
  have HV7 := Lib.hid (And.intro hs7 hv7)
  clear hx7 hy7 hw7 hv7
  unfold trV
  go_wp2_with fail
  refine (HLO.out _ (((((HT7.out.setCell (.inr hb9) _).setCell (.inr hb9) _).setCell (.inr hb9) _).alloc _))).mono ?_
  rintro e w8 ⟨rfl, h8⟩
  have HT8 := Lib.hid h8
  clear h8
  have e0 : decide ((257 : Int) ≤ z) = false := decide_eq_false (by omega)
  have e1 : decide (z ≤ 285) = true := decide_eq_true (by omega)
  have e2 : decide ((0 : Int) ≤ z) = true := decide_eq_true (by omega)
  have e3 : decide (z ≤ 29) = false := decide_eq_false (by omega)
  clear x0 x1 x2 x3 x4 x5 y0 y1 y2 y3 y4 y5 v0 v1 v2 v3 v4 v5 u0 u1 u2 u3 u4 u5 z1 z2 z3 z4 z5 z6 hsub2 hvb2 hb5 t0 t1 t2 t3
  go_wp2_with fail
  refine (HDO.out _ HT8.out).mono ?_
  rintro e w9 ⟨rfl, h9⟩
  have HT9 := Lib.hid h9
  clear h9
  skip
  go_wp2_with fail
  go_ret
  exact ⟨by first | rfl | simp, HT.out.trans HT9.out⟩

set_option maxHeartbeats 2000000 in
theorem symbols_Bd (n : Nat) (s : Nat) (w : World) (h1 : 1 ≤ n) (h : n < 3) (hz : s < 29) :
    Calls Try.prog 6 #[.int .i64 n, .int .i64 ((s : Int) + 257)] w fun e w' => e = .returned (.bool true) ∧ Touch (fun _ => False) w w' := by
  go_enter Try.func6, Try.ntmps6
  go_wp2_with fail
  refine (speaks5_calls _).mono ?_
  rintro e w1 ⟨rfl, ht1⟩
  go_wp2_with fail
  refine (lengths_calls _).mono ?_
  rintro e w2 ⟨va, rfl, hva, ht2⟩
  go_wp2_with fail
  refine (dists_calls _).mono ?_
  rintro e w3 ⟨vb, rfl, hvb, ht3⟩
  replace hva := hva.still ht3
  have HT := Lib.hid ((ht1.trans ht2).trans ht3)
  clear ht1 ht2 ht3
  have HL := Lib.hid (fun W => length_out n W (by omega))
  unfold extraV at HL
  obtain ⟨k1, k2⟩ := find_dist n (by omega) (by omega)
  have HD := Lib.hid (fun W => dist_in n W (by omega) (by omega))
  have HFB := Lib.hid (fun W hW => find_calls distTab n vb W (hvb.still hW) (by decide) (by decide))
  rw [k1] at HFB
  have hvlt : valN 1 (n - 1) ≤ n := k2
  have hsub2 : (n : Int) - ((n - valN 1 (n - 1) : Nat) : Int) = (valN 1 (n - 1) : Nat) := by omega
  have hvb2 : valN 1 (n - 1) ≤ 32768 := by omega
  unfold extraV at HD
  generalize n - valN 1 (n - 1) = L2 at HFB hsub2
  generalize symN 1 (n - 1) = S2 at HD HFB
  generalize bitN 1 (n - 1) = B2 at HD HFB
  generalize valN 1 (n - 1) = V2 at HD hsub2 hvb2 hvlt
  clear k1 k2 hvlt
  have t0 : decide (3 ≤ (n : Int)) = false := decide_eq_false (by omega)
  have t1 : decide ((n : Int) ≤ 258) = true := decide_eq_true (by omega)
  have t2 : decide (1 ≤ (n : Int)) = true := decide_eq_true (by omega)
  have t3 : decide ((n : Int) ≤ 32768) = true := decide_eq_true (by omega)
  have HLO := Lib.hid (fun W (hW : Touch (fun _ => False) w3 W) => carry (lengthof_in s W hz) hW)
  have HDO := Lib.hid (fun W (hW : Touch (fun _ => False) w3 W) => carry (distof_out ((s : Int) + 257) W (by omega)) hW)
  obtain ⟨ga, oa, ca, hae, hca, hga, hcellA⟩ := tab_cells w3 va lenTab 29 (by decide) (by decide) hva
  obtain ⟨gb, ob, cb, hbe, hcb, hgb, hcellB⟩ := tab_cells w3 vb distTab 30 (by decide) (by decide) hvb
  subst hae
  subst hbe
  clear hva hvb
  have HC := Lib.hid (fun W hW => hcellA s _ (lenTab_at s hz) W hW)
  clear hcellA hcellB
  have HSELF := Lib.hid (Touch.refl (fun _ => False) w3)
  go_wp2_with fail
  refine (HL.out _).mono ?_
  rintro e w4 ⟨rfl, ht4⟩
  have HT4 := Lib.hid (HSELF.out.trans ht4)
  clear ht4
  go_wp2_with fail
  refine (HD.out _).mono ?_
  rintro e w5 ⟨rfl, ht5⟩
  have HT5 := Lib.hid (HT4.out.trans ht5)
  clear ht5
  go_wp2_with fail
  refine (HFB.out _ ((((HT5.out.alloc _).alloc _).alloc _).alloc _)).mono ?_
  rintro e w7 ⟨rfl, ht7⟩
  have HT7 := Lib.hid (((((HT5.out.alloc _).alloc _).alloc _).alloc _).trans ht7)
  obtain ⟨hs7, hx7, hy7, hw7, hv7⟩ := four_fresh ht7
  clear ht7
  have hb5 : w3.heap.size ≤ w5.heap.size := HT5.out.size
  generalize w5.heap.size = b at hb5 hs7 hx7 hy7 hw7 hv7 ⊢
  obtain ⟨x0, x1, x2, x3, x4, x5⟩ := box_cells hx7
  obtain ⟨y0, y1, y2, y3, y4, y5⟩ := box_cells hy7
  obtain ⟨v0, v1, v2, v3, v4, v5⟩ := box_cells hw7
  obtain ⟨u0, u1, u2, u3, u4, u5⟩ := box_cells hv7
  have z1 : b < w7.heap.size := by omega
  have z2 : b + 1 < w7.heap.size := by omega
  have z3 : b + 1 + 1 < w7.heap.size := by omega
  have hb9 : w3.heap.size ≤ b + 1 + 1 + 1 := by omega
  have z4 : b ≠ b + 1 + 1 + 1 := by omega
  have z5 : b + 1 ≠ b + 1 + 1 + 1 := by omega
  have z6 : b + 1 + 1 ≠ b + 1 + 1 + 1 := by omega
  have HV7 := Lib.hid (And.intro hs7 hv7)
  clear hx7 hy7 hw7 hv7
  unfold trV
  go_wp2_with fail
  refine (HLO.out _ (((((HT7.out.setCell (.inr hb9) _).setCell (.inr hb9) _).setCell (.inr hb9) _).alloc _))).mono ?_
  rintro e w8 ⟨rfl, h8⟩
  have HT8 := Lib.hid h8
  clear h8
  have e0 : decide ((257 : Int) ≤ ((s : Int) + 257)) = true := decide_eq_true (by omega)
  have e1 : decide (((s : Int) + 257) ≤ 285) = true := decide_eq_true (by omega)
  have e2 : decide ((0 : Int) ≤ ((s : Int) + 257)) = true := decide_eq_true (by omega)
  have e3 : decide (((s : Int) + 257) ≤ 29) = false := decide_eq_false (by omega)
  have c1 : w8.cell? ⟨ga, oa + s * 3 + 1, none⟩ = some (.int .i64 (lenL s : Nat)) := (HC.out _ HT8.out).1
  have c2 : w8.cell? ⟨ga, oa + s * 3 + 2, none⟩ = some (.int .i64 (lenE s : Nat)) := (HC.out _ HT8.out).2
  have hs0 : (0 : Int) ≤ (s : Int) := by omega
  have hs1 : (s : Int) < 29 := by omega
  clear x0 x1 x2 x3 x4 x5 y0 y1 y2 y3 y4 y5 v0 v1 v2 v3 v4 v5 u0 u1 u2 u3 u4 u5 z1 z2 z3 z4 z5 z6 hsub2 hvb2 hb5 t0 t1 t2 t3
  go_wp2_with fail
  refine (HDO.out _ HT8.out).mono ?_
  rintro e w9 ⟨rfl, h9⟩
  have HT9 := Lib.hid h9
  clear h9
  skip
  go_wp2_with fail
  go_ret
  exact ⟨by first | rfl | simp, HT.out.trans HT9.out⟩

set_option maxHeartbeats 2000000 in
theorem symbols_Be (n : Nat) (z : Int) (w : World) (h1 : 1 ≤ n) (h : n < 3) (hz : 285 < z) :
    Calls Try.prog 6 #[.int .i64 n, .int .i64 z] w fun e w' => e = .returned (.bool true) ∧ Touch (fun _ => False) w w' := by
  go_enter Try.func6, Try.ntmps6
  go_wp2_with fail
  refine (speaks5_calls _).mono ?_
  rintro e w1 ⟨rfl, ht1⟩
  go_wp2_with fail
  refine (lengths_calls _).mono ?_
  rintro e w2 ⟨va, rfl, hva, ht2⟩
  go_wp2_with fail
  refine (dists_calls _).mono ?_
  rintro e w3 ⟨vb, rfl, hvb, ht3⟩
  replace hva := hva.still ht3
  have HT := Lib.hid ((ht1.trans ht2).trans ht3)
  clear ht1 ht2 ht3
  have HL := Lib.hid (fun W => length_out n W (by omega))
  unfold extraV at HL
  obtain ⟨k1, k2⟩ := find_dist n (by omega) (by omega)
  have HD := Lib.hid (fun W => dist_in n W (by omega) (by omega))
  have HFB := Lib.hid (fun W hW => find_calls distTab n vb W (hvb.still hW) (by decide) (by decide))
  rw [k1] at HFB
  have hvlt : valN 1 (n - 1) ≤ n := k2
  have hsub2 : (n : Int) - ((n - valN 1 (n - 1) : Nat) : Int) = (valN 1 (n - 1) : Nat) := by omega
  have hvb2 : valN 1 (n - 1) ≤ 32768 := by omega
  unfold extraV at HD
  generalize n - valN 1 (n - 1) = L2 at HFB hsub2
  generalize symN 1 (n - 1) = S2 at HD HFB
  generalize bitN 1 (n - 1) = B2 at HD HFB
  generalize valN 1 (n - 1) = V2 at HD hsub2 hvb2 hvlt
  clear k1 k2 hvlt
  have t0 : decide (3 ≤ (n : Int)) = false := decide_eq_false (by omega)
  have t1 : decide ((n : Int) ≤ 258) = true := decide_eq_true (by omega)
  have t2 : decide (1 ≤ (n : Int)) = true := decide_eq_true (by omega)
  have t3 : decide ((n : Int) ≤ 32768) = true := decide_eq_true (by omega)
  have HLO := Lib.hid (fun W (hW : Touch (fun _ => False) w3 W) => carry (lengthof_out z W (by omega)) hW)
  have HDO := Lib.hid (fun W (hW : Touch (fun _ => False) w3 W) => carry (distof_out z W (by omega)) hW)
  obtain ⟨ga, oa, ca, hae, hca, hga, hcellA⟩ := tab_cells w3 va lenTab 29 (by decide) (by decide) hva
  obtain ⟨gb, ob, cb, hbe, hcb, hgb, hcellB⟩ := tab_cells w3 vb distTab 30 (by decide) (by decide) hvb
  subst hae
  subst hbe
  clear hva hvb
  clear hcellA hcellB
  have HSELF := Lib.hid (Touch.refl (fun _ => False) w3)
  go_wp2_with fail
  refine (HL.out _).mono ?_
  rintro e w4 ⟨rfl, ht4⟩
  have HT4 := Lib.hid (HSELF.out.trans ht4)
  clear ht4
  go_wp2_with fail
  refine (HD.out _).mono ?_
  rintro e w5 ⟨rfl, ht5⟩
  have HT5 := Lib.hid (HT4.out.trans ht5)
  clear ht5
  go_wp2_with fail
  refine (HFB.out _ ((((HT5.out.alloc _).alloc _).alloc _).alloc _)).mono ?_
  rintro e w7 ⟨rfl, ht7⟩
  have HT7 := Lib.hid (((((HT5.out.alloc _).alloc _).alloc _).alloc _).trans ht7)
  obtain ⟨hs7, hx7, hy7, hw7, hv7⟩ := four_fresh ht7
  clear ht7
  have hb5 : w3.heap.size ≤ w5.heap.size := HT5.out.size
  generalize w5.heap.size = b at hb5 hs7 hx7 hy7 hw7 hv7 ⊢
  obtain ⟨x0, x1, x2, x3, x4, x5⟩ := box_cells hx7
  obtain ⟨y0, y1, y2, y3, y4, y5⟩ := box_cells hy7
  obtain ⟨v0, v1, v2, v3, v4, v5⟩ := box_cells hw7
  obtain ⟨u0, u1, u2, u3, u4, u5⟩ := box_cells hv7
  have z1 : b < w7.heap.size := by omega
  have z2 : b + 1 < w7.heap.size := by omega
  have z3 : b + 1 + 1 < w7.heap.size := by omega
  have hb9 : w3.heap.size ≤ b + 1 + 1 + 1 := by omega
  have z4 : b ≠ b + 1 + 1 + 1 := by omega
  have z5 : b + 1 ≠ b + 1 + 1 + 1 := by omega
  have z6 : b + 1 + 1 ≠ b + 1 + 1 + 1 := by omega
  have HV7 := Lib.hid (And.intro hs7 hv7)
  clear hx7 hy7 hw7 hv7
  unfold trV
  go_wp2_with fail
  refine (HLO.out _ (((((HT7.out.setCell (.inr hb9) _).setCell (.inr hb9) _).setCell (.inr hb9) _).alloc _))).mono ?_
  rintro e w8 ⟨rfl, h8⟩
  have HT8 := Lib.hid h8
  clear h8
  have e0 : decide ((257 : Int) ≤ z) = true := decide_eq_true (by omega)
  have e1 : decide (z ≤ 285) = false := decide_eq_false (by omega)
  have e2 : decide ((0 : Int) ≤ z) = true := decide_eq_true (by omega)
  have e3 : decide (z ≤ 29) = false := decide_eq_false (by omega)
  clear x0 x1 x2 x3 x4 x5 y0 y1 y2 y3 y4 y5 v0 v1 v2 v3 v4 v5 u0 u1 u2 u3 u4 u5 z1 z2 z3 z4 z5 z6 hsub2 hvb2 hb5 t0 t1 t2 t3
  go_wp2_with fail
  refine (HDO.out _ HT8.out).mono ?_
  rintro e w9 ⟨rfl, h9⟩
  have HT9 := Lib.hid h9
  clear h9
  skip
  go_wp2_with fail
  go_ret
  exact ⟨by first | rfl | simp, HT.out.trans HT9.out⟩

set_option maxHeartbeats 2000000 in
theorem symbols_Ca (n : Nat) (z : Int) (w : World) (h1 : 258 < n) (h : n ≤ 32768) (hz : z < 0) :
    Calls Try.prog 6 #[.int .i64 n, .int .i64 z] w fun e w' => e = .returned (.bool true) ∧ Touch (fun _ => False) w w' := by
  go_enter Try.func6, Try.ntmps6
  go_wp2_with fail
  refine (speaks5_calls _).mono ?_
  rintro e w1 ⟨rfl, ht1⟩
  go_wp2_with fail
  refine (lengths_calls _).mono ?_
  rintro e w2 ⟨va, rfl, hva, ht2⟩
  go_wp2_with fail
  refine (dists_calls _).mono ?_
  rintro e w3 ⟨vb, rfl, hvb, ht3⟩
  replace hva := hva.still ht3
  have HT := Lib.hid ((ht1.trans ht2).trans ht3)
  clear ht1 ht2 ht3
  have HL := Lib.hid (fun W => length_out n W (by omega))
  unfold extraV at HL
  obtain ⟨k1, k2⟩ := find_dist n (by omega) (by omega)
  have HD := Lib.hid (fun W => dist_in n W (by omega) (by omega))
  have HFB := Lib.hid (fun W hW => find_calls distTab n vb W (hvb.still hW) (by decide) (by decide))
  rw [k1] at HFB
  have hvlt : valN 1 (n - 1) ≤ n := k2
  have hsub2 : (n : Int) - ((n - valN 1 (n - 1) : Nat) : Int) = (valN 1 (n - 1) : Nat) := by omega
  have hvb2 : valN 1 (n - 1) ≤ 32768 := by omega
  unfold extraV at HD
  generalize n - valN 1 (n - 1) = L2 at HFB hsub2
  generalize symN 1 (n - 1) = S2 at HD HFB
  generalize bitN 1 (n - 1) = B2 at HD HFB
  generalize valN 1 (n - 1) = V2 at HD hsub2 hvb2 hvlt
  clear k1 k2 hvlt
  have t0 : decide (3 ≤ (n : Int)) = true := decide_eq_true (by omega)
  have t1 : decide ((n : Int) ≤ 258) = false := decide_eq_false (by omega)
  have t2 : decide (1 ≤ (n : Int)) = true := decide_eq_true (by omega)
  have t3 : decide ((n : Int) ≤ 32768) = true := decide_eq_true (by omega)
  have HLO := Lib.hid (fun W (hW : Touch (fun _ => False) w3 W) => carry (lengthof_out z W (by omega)) hW)
  have HDO := Lib.hid (fun W (hW : Touch (fun _ => False) w3 W) => carry (distof_out z W (by omega)) hW)
  obtain ⟨ga, oa, ca, hae, hca, hga, hcellA⟩ := tab_cells w3 va lenTab 29 (by decide) (by decide) hva
  obtain ⟨gb, ob, cb, hbe, hcb, hgb, hcellB⟩ := tab_cells w3 vb distTab 30 (by decide) (by decide) hvb
  subst hae
  subst hbe
  clear hva hvb
  clear hcellA hcellB
  have HSELF := Lib.hid (Touch.refl (fun _ => False) w3)
  go_wp2_with fail
  refine (HL.out _).mono ?_
  rintro e w4 ⟨rfl, ht4⟩
  have HT4 := Lib.hid (HSELF.out.trans ht4)
  clear ht4
  go_wp2_with fail
  refine (HD.out _).mono ?_
  rintro e w5 ⟨rfl, ht5⟩
  have HT5 := Lib.hid (HT4.out.trans ht5)
  clear ht5
  go_wp2_with fail
  refine (HFB.out _ ((((HT5.out.alloc _).alloc _).alloc _).alloc _)).mono ?_
  rintro e w7 ⟨rfl, ht7⟩
  have HT7 := Lib.hid (((((HT5.out.alloc _).alloc _).alloc _).alloc _).trans ht7)
  obtain ⟨hs7, hx7, hy7, hw7, hv7⟩ := four_fresh ht7
  clear ht7
  have hb5 : w3.heap.size ≤ w5.heap.size := HT5.out.size
  generalize w5.heap.size = b at hb5 hs7 hx7 hy7 hw7 hv7 ⊢
  obtain ⟨x0, x1, x2, x3, x4, x5⟩ := box_cells hx7
  obtain ⟨y0, y1, y2, y3, y4, y5⟩ := box_cells hy7
  obtain ⟨v0, v1, v2, v3, v4, v5⟩ := box_cells hw7
  obtain ⟨u0, u1, u2, u3, u4, u5⟩ := box_cells hv7
  have z1 : b < w7.heap.size := by omega
  have z2 : b + 1 < w7.heap.size := by omega
  have z3 : b + 1 + 1 < w7.heap.size := by omega
  have hb9 : w3.heap.size ≤ b + 1 + 1 + 1 := by omega
  have z4 : b ≠ b + 1 + 1 + 1 := by omega
  have z5 : b + 1 ≠ b + 1 + 1 + 1 := by omega
  have z6 : b + 1 + 1 ≠ b + 1 + 1 + 1 := by omega
  have HV7 := Lib.hid (And.intro hs7 hv7)
  clear hx7 hy7 hw7 hv7
  unfold trV
  go_wp2_with fail
  refine (HLO.out _ (((((HT7.out.setCell (.inr hb9) _).setCell (.inr hb9) _).setCell (.inr hb9) _).alloc _))).mono ?_
  rintro e w8 ⟨rfl, h8⟩
  have HT8 := Lib.hid h8
  clear h8
  have e0 : decide ((257 : Int) ≤ z) = false := decide_eq_false (by omega)
  have e1 : decide (z ≤ 285) = true := decide_eq_true (by omega)
  have e2 : decide ((0 : Int) ≤ z) = false := decide_eq_false (by omega)
  have e3 : decide (z ≤ 29) = true := decide_eq_true (by omega)
  clear x0 x1 x2 x3 x4 x5 y0 y1 y2 y3 y4 y5 v0 v1 v2 v3 v4 v5 u0 u1 u2 u3 u4 u5 z1 z2 z3 z4 z5 z6 hsub2 hvb2 hb5 t0 t1 t2 t3
  go_wp2_with fail
  refine (HDO.out _ HT8.out).mono ?_
  rintro e w9 ⟨rfl, h9⟩
  have HT9 := Lib.hid h9
  clear h9
  skip
  go_wp2_with fail
  go_ret
  exact ⟨by first | rfl | simp, HT.out.trans HT9.out⟩

set_option maxHeartbeats 2000000 in
theorem symbols_Cb (n : Nat) (s : Nat) (w : World) (h1 : 258 < n) (h : n ≤ 32768) (hz : s < 30) :
    Calls Try.prog 6 #[.int .i64 n, .int .i64 (s : Nat)] w fun e w' => e = .returned (.bool true) ∧ Touch (fun _ => False) w w' := by
  go_enter Try.func6, Try.ntmps6
  go_wp2_with fail
  refine (speaks5_calls _).mono ?_
  rintro e w1 ⟨rfl, ht1⟩
  go_wp2_with fail
  refine (lengths_calls _).mono ?_
  rintro e w2 ⟨va, rfl, hva, ht2⟩
  go_wp2_with fail
  refine (dists_calls _).mono ?_
  rintro e w3 ⟨vb, rfl, hvb, ht3⟩
  replace hva := hva.still ht3
  have HT := Lib.hid ((ht1.trans ht2).trans ht3)
  clear ht1 ht2 ht3
  have HL := Lib.hid (fun W => length_out n W (by omega))
  unfold extraV at HL
  obtain ⟨k1, k2⟩ := find_dist n (by omega) (by omega)
  have HD := Lib.hid (fun W => dist_in n W (by omega) (by omega))
  have HFB := Lib.hid (fun W hW => find_calls distTab n vb W (hvb.still hW) (by decide) (by decide))
  rw [k1] at HFB
  have hvlt : valN 1 (n - 1) ≤ n := k2
  have hsub2 : (n : Int) - ((n - valN 1 (n - 1) : Nat) : Int) = (valN 1 (n - 1) : Nat) := by omega
  have hvb2 : valN 1 (n - 1) ≤ 32768 := by omega
  unfold extraV at HD
  generalize n - valN 1 (n - 1) = L2 at HFB hsub2
  generalize symN 1 (n - 1) = S2 at HD HFB
  generalize bitN 1 (n - 1) = B2 at HD HFB
  generalize valN 1 (n - 1) = V2 at HD hsub2 hvb2 hvlt
  clear k1 k2 hvlt
  have t0 : decide (3 ≤ (n : Int)) = true := decide_eq_true (by omega)
  have t1 : decide ((n : Int) ≤ 258) = false := decide_eq_false (by omega)
  have t2 : decide (1 ≤ (n : Int)) = true := decide_eq_true (by omega)
  have t3 : decide ((n : Int) ≤ 32768) = true := decide_eq_true (by omega)
  have HLO := Lib.hid (fun W (hW : Touch (fun _ => False) w3 W) => carry (lengthof_out (s : Int) W (by omega)) hW)
  have HDO := Lib.hid (fun W (hW : Touch (fun _ => False) w3 W) => carry (distof_in s W hz) hW)
  obtain ⟨ga, oa, ca, hae, hca, hga, hcellA⟩ := tab_cells w3 va lenTab 29 (by decide) (by decide) hva
  obtain ⟨gb, ob, cb, hbe, hcb, hgb, hcellB⟩ := tab_cells w3 vb distTab 30 (by decide) (by decide) hvb
  subst hae
  subst hbe
  clear hva hvb
  have HC := Lib.hid (fun W hW => hcellB s _ (distTab_at s hz) W hW)
  have HLS := Lib.hid (show (distRow s).2.1 = leastN 1 s + 1 from rfl)
  have HES := Lib.hid (show (distRow s).2.2 = extN 1 s from rfl)
  clear hcellA hcellB
  have HSELF := Lib.hid (Touch.refl (fun _ => False) w3)
  go_wp2_with fail
  refine (HL.out _).mono ?_
  rintro e w4 ⟨rfl, ht4⟩
  have HT4 := Lib.hid (HSELF.out.trans ht4)
  clear ht4
  go_wp2_with fail
  refine (HD.out _).mono ?_
  rintro e w5 ⟨rfl, ht5⟩
  have HT5 := Lib.hid (HT4.out.trans ht5)
  clear ht5
  go_wp2_with fail
  refine (HFB.out _ ((((HT5.out.alloc _).alloc _).alloc _).alloc _)).mono ?_
  rintro e w7 ⟨rfl, ht7⟩
  have HT7 := Lib.hid (((((HT5.out.alloc _).alloc _).alloc _).alloc _).trans ht7)
  obtain ⟨hs7, hx7, hy7, hw7, hv7⟩ := four_fresh ht7
  clear ht7
  have hb5 : w3.heap.size ≤ w5.heap.size := HT5.out.size
  generalize w5.heap.size = b at hb5 hs7 hx7 hy7 hw7 hv7 ⊢
  obtain ⟨x0, x1, x2, x3, x4, x5⟩ := box_cells hx7
  obtain ⟨y0, y1, y2, y3, y4, y5⟩ := box_cells hy7
  obtain ⟨v0, v1, v2, v3, v4, v5⟩ := box_cells hw7
  obtain ⟨u0, u1, u2, u3, u4, u5⟩ := box_cells hv7
  have z1 : b < w7.heap.size := by omega
  have z2 : b + 1 < w7.heap.size := by omega
  have z3 : b + 1 + 1 < w7.heap.size := by omega
  have hb9 : w3.heap.size ≤ b + 1 + 1 + 1 := by omega
  have z4 : b ≠ b + 1 + 1 + 1 := by omega
  have z5 : b + 1 ≠ b + 1 + 1 + 1 := by omega
  have z6 : b + 1 + 1 ≠ b + 1 + 1 + 1 := by omega
  have HV7 := Lib.hid (And.intro hs7 hv7)
  clear hx7 hy7 hw7 hv7
  unfold trV
  go_wp2_with fail
  refine (HLO.out _ (((((HT7.out.setCell (.inr hb9) _).setCell (.inr hb9) _).setCell (.inr hb9) _).alloc _))).mono ?_
  rintro e w8 ⟨rfl, h8⟩
  have HT8 := Lib.hid h8
  clear h8
  have e0 : decide ((257 : Int) ≤ (s : Int)) = false := decide_eq_false (by omega)
  have e1 : decide ((s : Int) ≤ 285) = true := decide_eq_true (by omega)
  have e2 : decide ((0 : Int) ≤ (s : Int)) = true := decide_eq_true (by omega)
  have e3 : decide ((s : Int) ≤ 29) = true := decide_eq_true (by omega)
  clear x0 x1 x2 x3 x4 x5 y0 y1 y2 y3 y4 y5 v0 v1 v2 v3 v4 v5 u0 u1 u2 u3 u4 u5 z1 z2 z3 z4 z5 z6 hsub2 hvb2 hb5 t0 t1 t2 t3
  go_wp2_with fail
  refine (HDO.out _ HT8.out).mono ?_
  rintro e w9 ⟨rfl, h9⟩
  have HT9 := Lib.hid h9
  clear h9
  have d1 : w9.cell? ⟨gb, ob + s * 3 + 1, none⟩ = some (.int .i64 (leastN 1 s + 1 : Nat)) := (HC.out _ HT9.out).1
  have d2 : w9.cell? ⟨gb, ob + s * 3 + 2, none⟩ = some (.int .i64 (extN 1 s : Nat)) := (HC.out _ HT9.out).2
  have hs0 : (0 : Int) ≤ (s : Int) := by omega
  have hs1 : (s : Int) < 30 := by omega
  go_wp2_with fail
  go_ret
  exact ⟨by first | rfl | simp, HT.out.trans HT9.out⟩

set_option maxHeartbeats 2000000 in
theorem symbols_Cc (n : Nat) (z : Int) (w : World) (h1 : 258 < n) (h : n ≤ 32768) (hz : 29 < z) (hz2 : z < 257) :
    Calls Try.prog 6 #[.int .i64 n, .int .i64 z] w fun e w' => e = .returned (.bool true) ∧ Touch (fun _ => False) w w' := by
  go_enter Try.func6, Try.ntmps6
  go_wp2_with fail
  refine (speaks5_calls _).mono ?_
  rintro e w1 ⟨rfl, ht1⟩
  go_wp2_with fail
  refine (lengths_calls _).mono ?_
  rintro e w2 ⟨va, rfl, hva, ht2⟩
  go_wp2_with fail
  refine (dists_calls _).mono ?_
  rintro e w3 ⟨vb, rfl, hvb, ht3⟩
  replace hva := hva.still ht3
  have HT := Lib.hid ((ht1.trans ht2).trans ht3)
  clear ht1 ht2 ht3
  have HL := Lib.hid (fun W => length_out n W (by omega))
  unfold extraV at HL
  obtain ⟨k1, k2⟩ := find_dist n (by omega) (by omega)
  have HD := Lib.hid (fun W => dist_in n W (by omega) (by omega))
  have HFB := Lib.hid (fun W hW => find_calls distTab n vb W (hvb.still hW) (by decide) (by decide))
  rw [k1] at HFB
  have hvlt : valN 1 (n - 1) ≤ n := k2
  have hsub2 : (n : Int) - ((n - valN 1 (n - 1) : Nat) : Int) = (valN 1 (n - 1) : Nat) := by omega
  have hvb2 : valN 1 (n - 1) ≤ 32768 := by omega
  unfold extraV at HD
  generalize n - valN 1 (n - 1) = L2 at HFB hsub2
  generalize symN 1 (n - 1) = S2 at HD HFB
  generalize bitN 1 (n - 1) = B2 at HD HFB
  generalize valN 1 (n - 1) = V2 at HD hsub2 hvb2 hvlt
  clear k1 k2 hvlt
  have t0 : decide (3 ≤ (n : Int)) = true := decide_eq_true (by omega)
  have t1 : decide ((n : Int) ≤ 258) = false := decide_eq_false (by omega)
  have t2 : decide (1 ≤ (n : Int)) = true := decide_eq_true (by omega)
  have t3 : decide ((n : Int) ≤ 32768) = true := decide_eq_true (by omega)
  have HLO := Lib.hid (fun W (hW : Touch (fun _ => False) w3 W) => carry (lengthof_out z W (by omega)) hW)
  have HDO := Lib.hid (fun W (hW : Touch (fun _ => False) w3 W) => carry (distof_out z W (by omega)) hW)
  obtain ⟨ga, oa, ca, hae, hca, hga, hcellA⟩ := tab_cells w3 va lenTab 29 (by decide) (by decide) hva
  obtain ⟨gb, ob, cb, hbe, hcb, hgb, hcellB⟩ := tab_cells w3 vb distTab 30 (by decide) (by decide) hvb
  subst hae
  subst hbe
  clear hva hvb
  clear hcellA hcellB
  have HSELF := Lib.hid (Touch.refl (fun _ => False) w3)
  go_wp2_with fail
  refine (HL.out _).mono ?_
  rintro e w4 ⟨rfl, ht4⟩
  have HT4 := Lib.hid (HSELF.out.trans ht4)
  clear ht4
  go_wp2_with fail
  refine (HD.out _).mono ?_
  rintro e w5 ⟨rfl, ht5⟩
  have HT5 := Lib.hid (HT4.out.trans ht5)
  clear ht5
  go_wp2_with fail
  refine (HFB.out _ ((((HT5.out.alloc _).alloc _).alloc _).alloc _)).mono ?_
  rintro e w7 ⟨rfl, ht7⟩
  have HT7 := Lib.hid (((((HT5.out.alloc _).alloc _).alloc _).alloc _).trans ht7)
  obtain ⟨hs7, hx7, hy7, hw7, hv7⟩ := four_fresh ht7
  clear ht7
  have hb5 : w3.heap.size ≤ w5.heap.size := HT5.out.size
  generalize w5.heap.size = b at hb5 hs7 hx7 hy7 hw7 hv7 ⊢
  obtain ⟨x0, x1, x2, x3, x4, x5⟩ := box_cells hx7
  obtain ⟨y0, y1, y2, y3, y4, y5⟩ := box_cells hy7
  obtain ⟨v0, v1, v2, v3, v4, v5⟩ := box_cells hw7
  obtain ⟨u0, u1, u2, u3, u4, u5⟩ := box_cells hv7
  have z1 : b < w7.heap.size := by omega
  have z2 : b + 1 < w7.heap.size := by omega
  have z3 : b + 1 + 1 < w7.heap.size := by omega
  have hb9 : w3.heap.size ≤ b + 1 + 1 + 1 := by omega
  have z4 : b ≠ b + 1 + 1 + 1 := by omega
  have z5 : b + 1 ≠ b + 1 + 1 + 1 := by omega
  have z6 : b + 1 + 1 ≠ b + 1 + 1 + 1 := by omega
  have HV7 := Lib.hid (And.intro hs7 hv7)
  clear hx7 hy7 hw7 hv7
  unfold trV
  go_wp2_with fail
  refine (HLO.out _ (((((HT7.out.setCell (.inr hb9) _).setCell (.inr hb9) _).setCell (.inr hb9) _).alloc _))).mono ?_
  rintro e w8 ⟨rfl, h8⟩
  have HT8 := Lib.hid h8
  clear h8
  have e0 : decide ((257 : Int) ≤ z) = false := decide_eq_false (by omega)
  have e1 : decide (z ≤ 285) = true := decide_eq_true (by omega)
  have e2 : decide ((0 : Int) ≤ z) = true := decide_eq_true (by omega)
  have e3 : decide (z ≤ 29) = false := decide_eq_false (by omega)
  clear x0 x1 x2 x3 x4 x5 y0 y1 y2 y3 y4 y5 v0 v1 v2 v3 v4 v5 u0 u1 u2 u3 u4 u5 z1 z2 z3 z4 z5 z6 hsub2 hvb2 hb5 t0 t1 t2 t3
  go_wp2_with fail
  refine (HDO.out _ HT8.out).mono ?_
  rintro e w9 ⟨rfl, h9⟩
  have HT9 := Lib.hid h9
  clear h9
  skip
  go_wp2_with fail
  go_ret
  exact ⟨by first | rfl | simp, HT.out.trans HT9.out⟩

set_option maxHeartbeats 2000000 in
theorem symbols_Cd (n : Nat) (s : Nat) (w : World) (h1 : 258 < n) (h : n ≤ 32768) (hz : s < 29) :
    Calls Try.prog 6 #[.int .i64 n, .int .i64 ((s : Int) + 257)] w fun e w' => e = .returned (.bool true) ∧ Touch (fun _ => False) w w' := by
  go_enter Try.func6, Try.ntmps6
  go_wp2_with fail
  refine (speaks5_calls _).mono ?_
  rintro e w1 ⟨rfl, ht1⟩
  go_wp2_with fail
  refine (lengths_calls _).mono ?_
  rintro e w2 ⟨va, rfl, hva, ht2⟩
  go_wp2_with fail
  refine (dists_calls _).mono ?_
  rintro e w3 ⟨vb, rfl, hvb, ht3⟩
  replace hva := hva.still ht3
  have HT := Lib.hid ((ht1.trans ht2).trans ht3)
  clear ht1 ht2 ht3
  have HL := Lib.hid (fun W => length_out n W (by omega))
  unfold extraV at HL
  obtain ⟨k1, k2⟩ := find_dist n (by omega) (by omega)
  have HD := Lib.hid (fun W => dist_in n W (by omega) (by omega))
  have HFB := Lib.hid (fun W hW => find_calls distTab n vb W (hvb.still hW) (by decide) (by decide))
  rw [k1] at HFB
  have hvlt : valN 1 (n - 1) ≤ n := k2
  have hsub2 : (n : Int) - ((n - valN 1 (n - 1) : Nat) : Int) = (valN 1 (n - 1) : Nat) := by omega
  have hvb2 : valN 1 (n - 1) ≤ 32768 := by omega
  unfold extraV at HD
  generalize n - valN 1 (n - 1) = L2 at HFB hsub2
  generalize symN 1 (n - 1) = S2 at HD HFB
  generalize bitN 1 (n - 1) = B2 at HD HFB
  generalize valN 1 (n - 1) = V2 at HD hsub2 hvb2 hvlt
  clear k1 k2 hvlt
  have t0 : decide (3 ≤ (n : Int)) = true := decide_eq_true (by omega)
  have t1 : decide ((n : Int) ≤ 258) = false := decide_eq_false (by omega)
  have t2 : decide (1 ≤ (n : Int)) = true := decide_eq_true (by omega)
  have t3 : decide ((n : Int) ≤ 32768) = true := decide_eq_true (by omega)
  have HLO := Lib.hid (fun W (hW : Touch (fun _ => False) w3 W) => carry (lengthof_in s W hz) hW)
  have HDO := Lib.hid (fun W (hW : Touch (fun _ => False) w3 W) => carry (distof_out ((s : Int) + 257) W (by omega)) hW)
  obtain ⟨ga, oa, ca, hae, hca, hga, hcellA⟩ := tab_cells w3 va lenTab 29 (by decide) (by decide) hva
  obtain ⟨gb, ob, cb, hbe, hcb, hgb, hcellB⟩ := tab_cells w3 vb distTab 30 (by decide) (by decide) hvb
  subst hae
  subst hbe
  clear hva hvb
  have HC := Lib.hid (fun W hW => hcellA s _ (lenTab_at s hz) W hW)
  clear hcellA hcellB
  have HSELF := Lib.hid (Touch.refl (fun _ => False) w3)
  go_wp2_with fail
  refine (HL.out _).mono ?_
  rintro e w4 ⟨rfl, ht4⟩
  have HT4 := Lib.hid (HSELF.out.trans ht4)
  clear ht4
  go_wp2_with fail
  refine (HD.out _).mono ?_
  rintro e w5 ⟨rfl, ht5⟩
  have HT5 := Lib.hid (HT4.out.trans ht5)
  clear ht5
  go_wp2_with fail
  refine (HFB.out _ ((((HT5.out.alloc _).alloc _).alloc _).alloc _)).mono ?_
  rintro e w7 ⟨rfl, ht7⟩
  have HT7 := Lib.hid (((((HT5.out.alloc _).alloc _).alloc _).alloc _).trans ht7)
  obtain ⟨hs7, hx7, hy7, hw7, hv7⟩ := four_fresh ht7
  clear ht7
  have hb5 : w3.heap.size ≤ w5.heap.size := HT5.out.size
  generalize w5.heap.size = b at hb5 hs7 hx7 hy7 hw7 hv7 ⊢
  obtain ⟨x0, x1, x2, x3, x4, x5⟩ := box_cells hx7
  obtain ⟨y0, y1, y2, y3, y4, y5⟩ := box_cells hy7
  obtain ⟨v0, v1, v2, v3, v4, v5⟩ := box_cells hw7
  obtain ⟨u0, u1, u2, u3, u4, u5⟩ := box_cells hv7
  have z1 : b < w7.heap.size := by omega
  have z2 : b + 1 < w7.heap.size := by omega
  have z3 : b + 1 + 1 < w7.heap.size := by omega
  have hb9 : w3.heap.size ≤ b + 1 + 1 + 1 := by omega
  have z4 : b ≠ b + 1 + 1 + 1 := by omega
  have z5 : b + 1 ≠ b + 1 + 1 + 1 := by omega
  have z6 : b + 1 + 1 ≠ b + 1 + 1 + 1 := by omega
  have HV7 := Lib.hid (And.intro hs7 hv7)
  clear hx7 hy7 hw7 hv7
  unfold trV
  go_wp2_with fail
  refine (HLO.out _ (((((HT7.out.setCell (.inr hb9) _).setCell (.inr hb9) _).setCell (.inr hb9) _).alloc _))).mono ?_
  rintro e w8 ⟨rfl, h8⟩
  have HT8 := Lib.hid h8
  clear h8
  have e0 : decide ((257 : Int) ≤ ((s : Int) + 257)) = true := decide_eq_true (by omega)
  have e1 : decide (((s : Int) + 257) ≤ 285) = true := decide_eq_true (by omega)
  have e2 : decide ((0 : Int) ≤ ((s : Int) + 257)) = true := decide_eq_true (by omega)
  have e3 : decide (((s : Int) + 257) ≤ 29) = false := decide_eq_false (by omega)
  have c1 : w8.cell? ⟨ga, oa + s * 3 + 1, none⟩ = some (.int .i64 (lenL s : Nat)) := (HC.out _ HT8.out).1
  have c2 : w8.cell? ⟨ga, oa + s * 3 + 2, none⟩ = some (.int .i64 (lenE s : Nat)) := (HC.out _ HT8.out).2
  have hs0 : (0 : Int) ≤ (s : Int) := by omega
  have hs1 : (s : Int) < 29 := by omega
  clear x0 x1 x2 x3 x4 x5 y0 y1 y2 y3 y4 y5 v0 v1 v2 v3 v4 v5 u0 u1 u2 u3 u4 u5 z1 z2 z3 z4 z5 z6 hsub2 hvb2 hb5 t0 t1 t2 t3
  go_wp2_with fail
  refine (HDO.out _ HT8.out).mono ?_
  rintro e w9 ⟨rfl, h9⟩
  have HT9 := Lib.hid h9
  clear h9
  skip
  go_wp2_with fail
  go_ret
  exact ⟨by first | rfl | simp, HT.out.trans HT9.out⟩

set_option maxHeartbeats 2000000 in
theorem symbols_Ce (n : Nat) (z : Int) (w : World) (h1 : 258 < n) (h : n ≤ 32768) (hz : 285 < z) :
    Calls Try.prog 6 #[.int .i64 n, .int .i64 z] w fun e w' => e = .returned (.bool true) ∧ Touch (fun _ => False) w w' := by
  go_enter Try.func6, Try.ntmps6
  go_wp2_with fail
  refine (speaks5_calls _).mono ?_
  rintro e w1 ⟨rfl, ht1⟩
  go_wp2_with fail
  refine (lengths_calls _).mono ?_
  rintro e w2 ⟨va, rfl, hva, ht2⟩
  go_wp2_with fail
  refine (dists_calls _).mono ?_
  rintro e w3 ⟨vb, rfl, hvb, ht3⟩
  replace hva := hva.still ht3
  have HT := Lib.hid ((ht1.trans ht2).trans ht3)
  clear ht1 ht2 ht3
  have HL := Lib.hid (fun W => length_out n W (by omega))
  unfold extraV at HL
  obtain ⟨k1, k2⟩ := find_dist n (by omega) (by omega)
  have HD := Lib.hid (fun W => dist_in n W (by omega) (by omega))
  have HFB := Lib.hid (fun W hW => find_calls distTab n vb W (hvb.still hW) (by decide) (by decide))
  rw [k1] at HFB
  have hvlt : valN 1 (n - 1) ≤ n := k2
  have hsub2 : (n : Int) - ((n - valN 1 (n - 1) : Nat) : Int) = (valN 1 (n - 1) : Nat) := by omega
  have hvb2 : valN 1 (n - 1) ≤ 32768 := by omega
  unfold extraV at HD
  generalize n - valN 1 (n - 1) = L2 at HFB hsub2
  generalize symN 1 (n - 1) = S2 at HD HFB
  generalize bitN 1 (n - 1) = B2 at HD HFB
  generalize valN 1 (n - 1) = V2 at HD hsub2 hvb2 hvlt
  clear k1 k2 hvlt
  have t0 : decide (3 ≤ (n : Int)) = true := decide_eq_true (by omega)
  have t1 : decide ((n : Int) ≤ 258) = false := decide_eq_false (by omega)
  have t2 : decide (1 ≤ (n : Int)) = true := decide_eq_true (by omega)
  have t3 : decide ((n : Int) ≤ 32768) = true := decide_eq_true (by omega)
  have HLO := Lib.hid (fun W (hW : Touch (fun _ => False) w3 W) => carry (lengthof_out z W (by omega)) hW)
  have HDO := Lib.hid (fun W (hW : Touch (fun _ => False) w3 W) => carry (distof_out z W (by omega)) hW)
  obtain ⟨ga, oa, ca, hae, hca, hga, hcellA⟩ := tab_cells w3 va lenTab 29 (by decide) (by decide) hva
  obtain ⟨gb, ob, cb, hbe, hcb, hgb, hcellB⟩ := tab_cells w3 vb distTab 30 (by decide) (by decide) hvb
  subst hae
  subst hbe
  clear hva hvb
  clear hcellA hcellB
  have HSELF := Lib.hid (Touch.refl (fun _ => False) w3)
  go_wp2_with fail
  refine (HL.out _).mono ?_
  rintro e w4 ⟨rfl, ht4⟩
  have HT4 := Lib.hid (HSELF.out.trans ht4)
  clear ht4
  go_wp2_with fail
  refine (HD.out _).mono ?_
  rintro e w5 ⟨rfl, ht5⟩
  have HT5 := Lib.hid (HT4.out.trans ht5)
  clear ht5
  go_wp2_with fail
  refine (HFB.out _ ((((HT5.out.alloc _).alloc _).alloc _).alloc _)).mono ?_
  rintro e w7 ⟨rfl, ht7⟩
  have HT7 := Lib.hid (((((HT5.out.alloc _).alloc _).alloc _).alloc _).trans ht7)
  obtain ⟨hs7, hx7, hy7, hw7, hv7⟩ := four_fresh ht7
  clear ht7
  have hb5 : w3.heap.size ≤ w5.heap.size := HT5.out.size
  generalize w5.heap.size = b at hb5 hs7 hx7 hy7 hw7 hv7 ⊢
  obtain ⟨x0, x1, x2, x3, x4, x5⟩ := box_cells hx7
  obtain ⟨y0, y1, y2, y3, y4, y5⟩ := box_cells hy7
  obtain ⟨v0, v1, v2, v3, v4, v5⟩ := box_cells hw7
  obtain ⟨u0, u1, u2, u3, u4, u5⟩ := box_cells hv7
  have z1 : b < w7.heap.size := by omega
  have z2 : b + 1 < w7.heap.size := by omega
  have z3 : b + 1 + 1 < w7.heap.size := by omega
  have hb9 : w3.heap.size ≤ b + 1 + 1 + 1 := by omega
  have z4 : b ≠ b + 1 + 1 + 1 := by omega
  have z5 : b + 1 ≠ b + 1 + 1 + 1 := by omega
  have z6 : b + 1 + 1 ≠ b + 1 + 1 + 1 := by omega
  have HV7 := Lib.hid (And.intro hs7 hv7)
  clear hx7 hy7 hw7 hv7
  unfold trV
  go_wp2_with fail
  refine (HLO.out _ (((((HT7.out.setCell (.inr hb9) _).setCell (.inr hb9) _).setCell (.inr hb9) _).alloc _))).mono ?_
  rintro e w8 ⟨rfl, h8⟩
  have HT8 := Lib.hid h8
  clear h8
  have e0 : decide ((257 : Int) ≤ z) = true := decide_eq_true (by omega)
  have e1 : decide (z ≤ 285) = false := decide_eq_false (by omega)
  have e2 : decide ((0 : Int) ≤ z) = true := decide_eq_true (by omega)
  have e3 : decide (z ≤ 29) = false := decide_eq_false (by omega)
  clear x0 x1 x2 x3 x4 x5 y0 y1 y2 y3 y4 y5 v0 v1 v2 v3 v4 v5 u0 u1 u2 u3 u4 u5 z1 z2 z3 z4 z5 z6 hsub2 hvb2 hb5 t0 t1 t2 t3
  go_wp2_with fail
  refine (HDO.out _ HT8.out).mono ?_
  rintro e w9 ⟨rfl, h9⟩
  have HT9 := Lib.hid h9
  clear h9
  skip
  go_wp2_with fail
  go_ret
  exact ⟨by first | rfl | simp, HT.out.trans HT9.out⟩

set_option maxHeartbeats 2000000 in
theorem symbols_Da (n : Int) (z : Int) (w : World) (h : n < 1) (hz : z < 0) :
    Calls Try.prog 6 #[.int .i64 n, .int .i64 z] w fun e w' => e = .returned (.bool true) ∧ Touch (fun _ => False) w w' := by
  go_enter Try.func6, Try.ntmps6
  go_wp2_with fail
  refine (speaks5_calls _).mono ?_
  rintro e w1 ⟨rfl, ht1⟩
  go_wp2_with fail
  refine (lengths_calls _).mono ?_
  rintro e w2 ⟨va, rfl, hva, ht2⟩
  go_wp2_with fail
  refine (dists_calls _).mono ?_
  rintro e w3 ⟨vb, rfl, hvb, ht3⟩
  replace hva := hva.still ht3
  have HT := Lib.hid ((ht1.trans ht2).trans ht3)
  clear ht1 ht2 ht3
  have HL := Lib.hid (fun W => length_out n W (by omega))
  unfold extraV at HL
  have HD := Lib.hid (fun W => dist_out n W (by omega))
  unfold extraV at HD
  have t0 : decide (3 ≤ (n : Int)) = false := decide_eq_false (by omega)
  have t1 : decide ((n : Int) ≤ 258) = true := decide_eq_true (by omega)
  have t2 : decide (1 ≤ (n : Int)) = false := decide_eq_false (by omega)
  have t3 : decide ((n : Int) ≤ 32768) = true := decide_eq_true (by omega)
  have HLO := Lib.hid (fun W (hW : Touch (fun _ => False) w3 W) => carry (lengthof_out z W (by omega)) hW)
  have HDO := Lib.hid (fun W (hW : Touch (fun _ => False) w3 W) => carry (distof_out z W (by omega)) hW)
  obtain ⟨ga, oa, ca, hae, hca, hga, hcellA⟩ := tab_cells w3 va lenTab 29 (by decide) (by decide) hva
  obtain ⟨gb, ob, cb, hbe, hcb, hgb, hcellB⟩ := tab_cells w3 vb distTab 30 (by decide) (by decide) hvb
  subst hae
  subst hbe
  clear hva hvb
  clear hcellA hcellB
  have HSELF := Lib.hid (Touch.refl (fun _ => False) w3)
  go_wp2_with fail
  refine (HL.out _).mono ?_
  rintro e w4 ⟨rfl, ht4⟩
  have HT4 := Lib.hid (HSELF.out.trans ht4)
  clear ht4
  go_wp2_with fail
  refine (HD.out _).mono ?_
  rintro e w5 ⟨rfl, ht5⟩
  have HT5 := Lib.hid (HT4.out.trans ht5)
  clear ht5
  go_wp2_with fail
  refine (HLO.out _ (((((HT5.out.alloc _).alloc _).alloc _).alloc _))).mono ?_
  rintro e w8 ⟨rfl, h8⟩
  have HT8 := Lib.hid h8
  clear h8
  have e0 : decide ((257 : Int) ≤ z) = false := decide_eq_false (by omega)
  have e1 : decide (z ≤ 285) = true := decide_eq_true (by omega)
  have e2 : decide ((0 : Int) ≤ z) = false := decide_eq_false (by omega)
  have e3 : decide (z ≤ 29) = true := decide_eq_true (by omega)
  clear t0 t1 t2 t3
  go_wp2_with fail
  refine (HDO.out _ HT8.out).mono ?_
  rintro e w9 ⟨rfl, h9⟩
  have HT9 := Lib.hid h9
  clear h9
  skip
  go_wp2_with fail
  go_ret
  exact ⟨by first | rfl | simp, HT.out.trans HT9.out⟩

set_option maxHeartbeats 2000000 in
theorem symbols_Db (n : Int) (s : Nat) (w : World) (h : n < 1) (hz : s < 30) :
    Calls Try.prog 6 #[.int .i64 n, .int .i64 (s : Nat)] w fun e w' => e = .returned (.bool true) ∧ Touch (fun _ => False) w w' := by
  go_enter Try.func6, Try.ntmps6
  go_wp2_with fail
  refine (speaks5_calls _).mono ?_
  rintro e w1 ⟨rfl, ht1⟩
  go_wp2_with fail
  refine (lengths_calls _).mono ?_
  rintro e w2 ⟨va, rfl, hva, ht2⟩
  go_wp2_with fail
  refine (dists_calls _).mono ?_
  rintro e w3 ⟨vb, rfl, hvb, ht3⟩
  replace hva := hva.still ht3
  have HT := Lib.hid ((ht1.trans ht2).trans ht3)
  clear ht1 ht2 ht3
  have HL := Lib.hid (fun W => length_out n W (by omega))
  unfold extraV at HL
  have HD := Lib.hid (fun W => dist_out n W (by omega))
  unfold extraV at HD
  have t0 : decide (3 ≤ (n : Int)) = false := decide_eq_false (by omega)
  have t1 : decide ((n : Int) ≤ 258) = true := decide_eq_true (by omega)
  have t2 : decide (1 ≤ (n : Int)) = false := decide_eq_false (by omega)
  have t3 : decide ((n : Int) ≤ 32768) = true := decide_eq_true (by omega)
  have HLO := Lib.hid (fun W (hW : Touch (fun _ => False) w3 W) => carry (lengthof_out (s : Int) W (by omega)) hW)
  have HDO := Lib.hid (fun W (hW : Touch (fun _ => False) w3 W) => carry (distof_in s W hz) hW)
  obtain ⟨ga, oa, ca, hae, hca, hga, hcellA⟩ := tab_cells w3 va lenTab 29 (by decide) (by decide) hva
  obtain ⟨gb, ob, cb, hbe, hcb, hgb, hcellB⟩ := tab_cells w3 vb distTab 30 (by decide) (by decide) hvb
  subst hae
  subst hbe
  clear hva hvb
  have HC := Lib.hid (fun W hW => hcellB s _ (distTab_at s hz) W hW)
  have HLS := Lib.hid (show (distRow s).2.1 = leastN 1 s + 1 from rfl)
  have HES := Lib.hid (show (distRow s).2.2 = extN 1 s from rfl)
  clear hcellA hcellB
  have HSELF := Lib.hid (Touch.refl (fun _ => False) w3)
  go_wp2_with fail
  refine (HL.out _).mono ?_
  rintro e w4 ⟨rfl, ht4⟩
  have HT4 := Lib.hid (HSELF.out.trans ht4)
  clear ht4
  go_wp2_with fail
  refine (HD.out _).mono ?_
  rintro e w5 ⟨rfl, ht5⟩
  have HT5 := Lib.hid (HT4.out.trans ht5)
  clear ht5
  go_wp2_with fail
  refine (HLO.out _ (((((HT5.out.alloc _).alloc _).alloc _).alloc _))).mono ?_
  rintro e w8 ⟨rfl, h8⟩
  have HT8 := Lib.hid h8
  clear h8
  have e0 : decide ((257 : Int) ≤ (s : Int)) = false := decide_eq_false (by omega)
  have e1 : decide ((s : Int) ≤ 285) = true := decide_eq_true (by omega)
  have e2 : decide ((0 : Int) ≤ (s : Int)) = true := decide_eq_true (by omega)
  have e3 : decide ((s : Int) ≤ 29) = true := decide_eq_true (by omega)
  clear t0 t1 t2 t3
  go_wp2_with fail
  refine (HDO.out _ HT8.out).mono ?_
  rintro e w9 ⟨rfl, h9⟩
  have HT9 := Lib.hid h9
  clear h9
  have d1 : w9.cell? ⟨gb, ob + s * 3 + 1, none⟩ = some (.int .i64 (leastN 1 s + 1 : Nat)) := (HC.out _ HT9.out).1
  have d2 : w9.cell? ⟨gb, ob + s * 3 + 2, none⟩ = some (.int .i64 (extN 1 s : Nat)) := (HC.out _ HT9.out).2
  have hs0 : (0 : Int) ≤ (s : Int) := by omega
  have hs1 : (s : Int) < 30 := by omega
  go_wp2_with fail
  go_ret
  exact ⟨by first | rfl | simp, HT.out.trans HT9.out⟩

set_option maxHeartbeats 2000000 in
theorem symbols_Dc (n : Int) (z : Int) (w : World) (h : n < 1) (hz : 29 < z) (hz2 : z < 257) :
    Calls Try.prog 6 #[.int .i64 n, .int .i64 z] w fun e w' => e = .returned (.bool true) ∧ Touch (fun _ => False) w w' := by
  go_enter Try.func6, Try.ntmps6
  go_wp2_with fail
  refine (speaks5_calls _).mono ?_
  rintro e w1 ⟨rfl, ht1⟩
  go_wp2_with fail
  refine (lengths_calls _).mono ?_
  rintro e w2 ⟨va, rfl, hva, ht2⟩
  go_wp2_with fail
  refine (dists_calls _).mono ?_
  rintro e w3 ⟨vb, rfl, hvb, ht3⟩
  replace hva := hva.still ht3
  have HT := Lib.hid ((ht1.trans ht2).trans ht3)
  clear ht1 ht2 ht3
  have HL := Lib.hid (fun W => length_out n W (by omega))
  unfold extraV at HL
  have HD := Lib.hid (fun W => dist_out n W (by omega))
  unfold extraV at HD
  have t0 : decide (3 ≤ (n : Int)) = false := decide_eq_false (by omega)
  have t1 : decide ((n : Int) ≤ 258) = true := decide_eq_true (by omega)
  have t2 : decide (1 ≤ (n : Int)) = false := decide_eq_false (by omega)
  have t3 : decide ((n : Int) ≤ 32768) = true := decide_eq_true (by omega)
  have HLO := Lib.hid (fun W (hW : Touch (fun _ => False) w3 W) => carry (lengthof_out z W (by omega)) hW)
  have HDO := Lib.hid (fun W (hW : Touch (fun _ => False) w3 W) => carry (distof_out z W (by omega)) hW)
  obtain ⟨ga, oa, ca, hae, hca, hga, hcellA⟩ := tab_cells w3 va lenTab 29 (by decide) (by decide) hva
  obtain ⟨gb, ob, cb, hbe, hcb, hgb, hcellB⟩ := tab_cells w3 vb distTab 30 (by decide) (by decide) hvb
  subst hae
  subst hbe
  clear hva hvb
  clear hcellA hcellB
  have HSELF := Lib.hid (Touch.refl (fun _ => False) w3)
  go_wp2_with fail
  refine (HL.out _).mono ?_
  rintro e w4 ⟨rfl, ht4⟩
  have HT4 := Lib.hid (HSELF.out.trans ht4)
  clear ht4
  go_wp2_with fail
  refine (HD.out _).mono ?_
  rintro e w5 ⟨rfl, ht5⟩
  have HT5 := Lib.hid (HT4.out.trans ht5)
  clear ht5
  go_wp2_with fail
  refine (HLO.out _ (((((HT5.out.alloc _).alloc _).alloc _).alloc _))).mono ?_
  rintro e w8 ⟨rfl, h8⟩
  have HT8 := Lib.hid h8
  clear h8
  have e0 : decide ((257 : Int) ≤ z) = false := decide_eq_false (by omega)
  have e1 : decide (z ≤ 285) = true := decide_eq_true (by omega)
  have e2 : decide ((0 : Int) ≤ z) = true := decide_eq_true (by omega)
  have e3 : decide (z ≤ 29) = false := decide_eq_false (by omega)
  clear t0 t1 t2 t3
  go_wp2_with fail
  refine (HDO.out _ HT8.out).mono ?_
  rintro e w9 ⟨rfl, h9⟩
  have HT9 := Lib.hid h9
  clear h9
  skip
  go_wp2_with fail
  go_ret
  exact ⟨by first | rfl | simp, HT.out.trans HT9.out⟩

set_option maxHeartbeats 2000000 in
theorem symbols_Dd (n : Int) (s : Nat) (w : World) (h : n < 1) (hz : s < 29) :
    Calls Try.prog 6 #[.int .i64 n, .int .i64 ((s : Int) + 257)] w fun e w' => e = .returned (.bool true) ∧ Touch (fun _ => False) w w' := by
  go_enter Try.func6, Try.ntmps6
  go_wp2_with fail
  refine (speaks5_calls _).mono ?_
  rintro e w1 ⟨rfl, ht1⟩
  go_wp2_with fail
  refine (lengths_calls _).mono ?_
  rintro e w2 ⟨va, rfl, hva, ht2⟩
  go_wp2_with fail
  refine (dists_calls _).mono ?_
  rintro e w3 ⟨vb, rfl, hvb, ht3⟩
  replace hva := hva.still ht3
  have HT := Lib.hid ((ht1.trans ht2).trans ht3)
  clear ht1 ht2 ht3
  have HL := Lib.hid (fun W => length_out n W (by omega))
  unfold extraV at HL
  have HD := Lib.hid (fun W => dist_out n W (by omega))
  unfold extraV at HD
  have t0 : decide (3 ≤ (n : Int)) = false := decide_eq_false (by omega)
  have t1 : decide ((n : Int) ≤ 258) = true := decide_eq_true (by omega)
  have t2 : decide (1 ≤ (n : Int)) = false := decide_eq_false (by omega)
  have t3 : decide ((n : Int) ≤ 32768) = true := decide_eq_true (by omega)
  have HLO := Lib.hid (fun W (hW : Touch (fun _ => False) w3 W) => carry (lengthof_in s W hz) hW)
  have HDO := Lib.hid (fun W (hW : Touch (fun _ => False) w3 W) => carry (distof_out ((s : Int) + 257) W (by omega)) hW)
  obtain ⟨ga, oa, ca, hae, hca, hga, hcellA⟩ := tab_cells w3 va lenTab 29 (by decide) (by decide) hva
  obtain ⟨gb, ob, cb, hbe, hcb, hgb, hcellB⟩ := tab_cells w3 vb distTab 30 (by decide) (by decide) hvb
  subst hae
  subst hbe
  clear hva hvb
  have HC := Lib.hid (fun W hW => hcellA s _ (lenTab_at s hz) W hW)
  clear hcellA hcellB
  have HSELF := Lib.hid (Touch.refl (fun _ => False) w3)
  go_wp2_with fail
  refine (HL.out _).mono ?_
  rintro e w4 ⟨rfl, ht4⟩
  have HT4 := Lib.hid (HSELF.out.trans ht4)
  clear ht4
  go_wp2_with fail
  refine (HD.out _).mono ?_
  rintro e w5 ⟨rfl, ht5⟩
  have HT5 := Lib.hid (HT4.out.trans ht5)
  clear ht5
  go_wp2_with fail
  refine (HLO.out _ (((((HT5.out.alloc _).alloc _).alloc _).alloc _))).mono ?_
  rintro e w8 ⟨rfl, h8⟩
  have HT8 := Lib.hid h8
  clear h8
  have e0 : decide ((257 : Int) ≤ ((s : Int) + 257)) = true := decide_eq_true (by omega)
  have e1 : decide (((s : Int) + 257) ≤ 285) = true := decide_eq_true (by omega)
  have e2 : decide ((0 : Int) ≤ ((s : Int) + 257)) = true := decide_eq_true (by omega)
  have e3 : decide (((s : Int) + 257) ≤ 29) = false := decide_eq_false (by omega)
  have c1 : w8.cell? ⟨ga, oa + s * 3 + 1, none⟩ = some (.int .i64 (lenL s : Nat)) := (HC.out _ HT8.out).1
  have c2 : w8.cell? ⟨ga, oa + s * 3 + 2, none⟩ = some (.int .i64 (lenE s : Nat)) := (HC.out _ HT8.out).2
  have hs0 : (0 : Int) ≤ (s : Int) := by omega
  have hs1 : (s : Int) < 29 := by omega
  clear t0 t1 t2 t3
  go_wp2_with fail
  refine (HDO.out _ HT8.out).mono ?_
  rintro e w9 ⟨rfl, h9⟩
  have HT9 := Lib.hid h9
  clear h9
  skip
  go_wp2_with fail
  go_ret
  exact ⟨by first | rfl | simp, HT.out.trans HT9.out⟩

set_option maxHeartbeats 2000000 in
theorem symbols_De (n : Int) (z : Int) (w : World) (h : n < 1) (hz : 285 < z) :
    Calls Try.prog 6 #[.int .i64 n, .int .i64 z] w fun e w' => e = .returned (.bool true) ∧ Touch (fun _ => False) w w' := by
  go_enter Try.func6, Try.ntmps6
  go_wp2_with fail
  refine (speaks5_calls _).mono ?_
  rintro e w1 ⟨rfl, ht1⟩
  go_wp2_with fail
  refine (lengths_calls _).mono ?_
  rintro e w2 ⟨va, rfl, hva, ht2⟩
  go_wp2_with fail
  refine (dists_calls _).mono ?_
  rintro e w3 ⟨vb, rfl, hvb, ht3⟩
  replace hva := hva.still ht3
  have HT := Lib.hid ((ht1.trans ht2).trans ht3)
  clear ht1 ht2 ht3
  have HL := Lib.hid (fun W => length_out n W (by omega))
  unfold extraV at HL
  have HD := Lib.hid (fun W => dist_out n W (by omega))
  unfold extraV at HD
  have t0 : decide (3 ≤ (n : Int)) = false := decide_eq_false (by omega)
  have t1 : decide ((n : Int) ≤ 258) = true := decide_eq_true (by omega)
  have t2 : decide (1 ≤ (n : Int)) = false := decide_eq_false (by omega)
  have t3 : decide ((n : Int) ≤ 32768) = true := decide_eq_true (by omega)
  have HLO := Lib.hid (fun W (hW : Touch (fun _ => False) w3 W) => carry (lengthof_out z W (by omega)) hW)
  have HDO := Lib.hid (fun W (hW : Touch (fun _ => False) w3 W) => carry (distof_out z W (by omega)) hW)
  obtain ⟨ga, oa, ca, hae, hca, hga, hcellA⟩ := tab_cells w3 va lenTab 29 (by decide) (by decide) hva
  obtain ⟨gb, ob, cb, hbe, hcb, hgb, hcellB⟩ := tab_cells w3 vb distTab 30 (by decide) (by decide) hvb
  subst hae
  subst hbe
  clear hva hvb
  clear hcellA hcellB
  have HSELF := Lib.hid (Touch.refl (fun _ => False) w3)
  go_wp2_with fail
  refine (HL.out _).mono ?_
  rintro e w4 ⟨rfl, ht4⟩
  have HT4 := Lib.hid (HSELF.out.trans ht4)
  clear ht4
  go_wp2_with fail
  refine (HD.out _).mono ?_
  rintro e w5 ⟨rfl, ht5⟩
  have HT5 := Lib.hid (HT4.out.trans ht5)
  clear ht5
  go_wp2_with fail
  refine (HLO.out _ (((((HT5.out.alloc _).alloc _).alloc _).alloc _))).mono ?_
  rintro e w8 ⟨rfl, h8⟩
  have HT8 := Lib.hid h8
  clear h8
  have e0 : decide ((257 : Int) ≤ z) = true := decide_eq_true (by omega)
  have e1 : decide (z ≤ 285) = false := decide_eq_false (by omega)
  have e2 : decide ((0 : Int) ≤ z) = true := decide_eq_true (by omega)
  have e3 : decide (z ≤ 29) = false := decide_eq_false (by omega)
  clear t0 t1 t2 t3
  go_wp2_with fail
  refine (HDO.out _ HT8.out).mono ?_
  rintro e w9 ⟨rfl, h9⟩
  have HT9 := Lib.hid h9
  clear h9
  skip
  go_wp2_with fail
  go_ret
  exact ⟨by first | rfl | simp, HT.out.trans HT9.out⟩

set_option maxHeartbeats 2000000 in
theorem symbols_Ea (n : Int) (z : Int) (w : World) (h : 32768 < n) (hz : z < 0) :
    Calls Try.prog 6 #[.int .i64 n, .int .i64 z] w fun e w' => e = .returned (.bool true) ∧ Touch (fun _ => False) w w' := by
  go_enter Try.func6, Try.ntmps6
  go_wp2_with fail
  refine (speaks5_calls _).mono ?_
  rintro e w1 ⟨rfl, ht1⟩
  go_wp2_with fail
  refine (lengths_calls _).mono ?_
  rintro e w2 ⟨va, rfl, hva, ht2⟩
  go_wp2_with fail
  refine (dists_calls _).mono ?_
  rintro e w3 ⟨vb, rfl, hvb, ht3⟩
  replace hva := hva.still ht3
  have HT := Lib.hid ((ht1.trans ht2).trans ht3)
  clear ht1 ht2 ht3
  have HL := Lib.hid (fun W => length_out n W (by omega))
  unfold extraV at HL
  have HD := Lib.hid (fun W => dist_out n W (by omega))
  unfold extraV at HD
  have t0 : decide (3 ≤ (n : Int)) = true := decide_eq_true (by omega)
  have t1 : decide ((n : Int) ≤ 258) = false := decide_eq_false (by omega)
  have t2 : decide (1 ≤ (n : Int)) = true := decide_eq_true (by omega)
  have t3 : decide ((n : Int) ≤ 32768) = false := decide_eq_false (by omega)
  have HLO := Lib.hid (fun W (hW : Touch (fun _ => False) w3 W) => carry (lengthof_out z W (by omega)) hW)
  have HDO := Lib.hid (fun W (hW : Touch (fun _ => False) w3 W) => carry (distof_out z W (by omega)) hW)
  obtain ⟨ga, oa, ca, hae, hca, hga, hcellA⟩ := tab_cells w3 va lenTab 29 (by decide) (by decide) hva
  obtain ⟨gb, ob, cb, hbe, hcb, hgb, hcellB⟩ := tab_cells w3 vb distTab 30 (by decide) (by decide) hvb
  subst hae
  subst hbe
  clear hva hvb
  clear hcellA hcellB
  have HSELF := Lib.hid (Touch.refl (fun _ => False) w3)
  go_wp2_with fail
  refine (HL.out _).mono ?_
  rintro e w4 ⟨rfl, ht4⟩
  have HT4 := Lib.hid (HSELF.out.trans ht4)
  clear ht4
  go_wp2_with fail
  refine (HD.out _).mono ?_
  rintro e w5 ⟨rfl, ht5⟩
  have HT5 := Lib.hid (HT4.out.trans ht5)
  clear ht5
  go_wp2_with fail
  refine (HLO.out _ (((((HT5.out.alloc _).alloc _).alloc _).alloc _))).mono ?_
  rintro e w8 ⟨rfl, h8⟩
  have HT8 := Lib.hid h8
  clear h8
  have e0 : decide ((257 : Int) ≤ z) = false := decide_eq_false (by omega)
  have e1 : decide (z ≤ 285) = true := decide_eq_true (by omega)
  have e2 : decide ((0 : Int) ≤ z) = false := decide_eq_false (by omega)
  have e3 : decide (z ≤ 29) = true := decide_eq_true (by omega)
  clear t0 t1 t2 t3
  go_wp2_with fail
  refine (HDO.out _ HT8.out).mono ?_
  rintro e w9 ⟨rfl, h9⟩
  have HT9 := Lib.hid h9
  clear h9
  skip
  go_wp2_with fail
  go_ret
  exact ⟨by first | rfl | simp, HT.out.trans HT9.out⟩

set_option maxHeartbeats 2000000 in
theorem symbols_Eb (n : Int) (s : Nat) (w : World) (h : 32768 < n) (hz : s < 30) :
    Calls Try.prog 6 #[.int .i64 n, .int .i64 (s : Nat)] w fun e w' => e = .returned (.bool true) ∧ Touch (fun _ => False) w w' := by
  go_enter Try.func6, Try.ntmps6
  go_wp2_with fail
  refine (speaks5_calls _).mono ?_
  rintro e w1 ⟨rfl, ht1⟩
  go_wp2_with fail
  refine (lengths_calls _).mono ?_
  rintro e w2 ⟨va, rfl, hva, ht2⟩
  go_wp2_with fail
  refine (dists_calls _).mono ?_
  rintro e w3 ⟨vb, rfl, hvb, ht3⟩
  replace hva := hva.still ht3
  have HT := Lib.hid ((ht1.trans ht2).trans ht3)
  clear ht1 ht2 ht3
  have HL := Lib.hid (fun W => length_out n W (by omega))
  unfold extraV at HL
  have HD := Lib.hid (fun W => dist_out n W (by omega))
  unfold extraV at HD
  have t0 : decide (3 ≤ (n : Int)) = true := decide_eq_true (by omega)
  have t1 : decide ((n : Int) ≤ 258) = false := decide_eq_false (by omega)
  have t2 : decide (1 ≤ (n : Int)) = true := decide_eq_true (by omega)
  have t3 : decide ((n : Int) ≤ 32768) = false := decide_eq_false (by omega)
  have HLO := Lib.hid (fun W (hW : Touch (fun _ => False) w3 W) => carry (lengthof_out (s : Int) W (by omega)) hW)
  have HDO := Lib.hid (fun W (hW : Touch (fun _ => False) w3 W) => carry (distof_in s W hz) hW)
  obtain ⟨ga, oa, ca, hae, hca, hga, hcellA⟩ := tab_cells w3 va lenTab 29 (by decide) (by decide) hva
  obtain ⟨gb, ob, cb, hbe, hcb, hgb, hcellB⟩ := tab_cells w3 vb distTab 30 (by decide) (by decide) hvb
  subst hae
  subst hbe
  clear hva hvb
  have HC := Lib.hid (fun W hW => hcellB s _ (distTab_at s hz) W hW)
  have HLS := Lib.hid (show (distRow s).2.1 = leastN 1 s + 1 from rfl)
  have HES := Lib.hid (show (distRow s).2.2 = extN 1 s from rfl)
  clear hcellA hcellB
  have HSELF := Lib.hid (Touch.refl (fun _ => False) w3)
  go_wp2_with fail
  refine (HL.out _).mono ?_
  rintro e w4 ⟨rfl, ht4⟩
  have HT4 := Lib.hid (HSELF.out.trans ht4)
  clear ht4
  go_wp2_with fail
  refine (HD.out _).mono ?_
  rintro e w5 ⟨rfl, ht5⟩
  have HT5 := Lib.hid (HT4.out.trans ht5)
  clear ht5
  go_wp2_with fail
  refine (HLO.out _ (((((HT5.out.alloc _).alloc _).alloc _).alloc _))).mono ?_
  rintro e w8 ⟨rfl, h8⟩
  have HT8 := Lib.hid h8
  clear h8
  have e0 : decide ((257 : Int) ≤ (s : Int)) = false := decide_eq_false (by omega)
  have e1 : decide ((s : Int) ≤ 285) = true := decide_eq_true (by omega)
  have e2 : decide ((0 : Int) ≤ (s : Int)) = true := decide_eq_true (by omega)
  have e3 : decide ((s : Int) ≤ 29) = true := decide_eq_true (by omega)
  clear t0 t1 t2 t3
  go_wp2_with fail
  refine (HDO.out _ HT8.out).mono ?_
  rintro e w9 ⟨rfl, h9⟩
  have HT9 := Lib.hid h9
  clear h9
  have d1 : w9.cell? ⟨gb, ob + s * 3 + 1, none⟩ = some (.int .i64 (leastN 1 s + 1 : Nat)) := (HC.out _ HT9.out).1
  have d2 : w9.cell? ⟨gb, ob + s * 3 + 2, none⟩ = some (.int .i64 (extN 1 s : Nat)) := (HC.out _ HT9.out).2
  have hs0 : (0 : Int) ≤ (s : Int) := by omega
  have hs1 : (s : Int) < 30 := by omega
  go_wp2_with fail
  go_ret
  exact ⟨by first | rfl | simp, HT.out.trans HT9.out⟩

set_option maxHeartbeats 2000000 in
theorem symbols_Ec (n : Int) (z : Int) (w : World) (h : 32768 < n) (hz : 29 < z) (hz2 : z < 257) :
    Calls Try.prog 6 #[.int .i64 n, .int .i64 z] w fun e w' => e = .returned (.bool true) ∧ Touch (fun _ => False) w w' := by
  go_enter Try.func6, Try.ntmps6
  go_wp2_with fail
  refine (speaks5_calls _).mono ?_
  rintro e w1 ⟨rfl, ht1⟩
  go_wp2_with fail
  refine (lengths_calls _).mono ?_
  rintro e w2 ⟨va, rfl, hva, ht2⟩
  go_wp2_with fail
  refine (dists_calls _).mono ?_
  rintro e w3 ⟨vb, rfl, hvb, ht3⟩
  replace hva := hva.still ht3
  have HT := Lib.hid ((ht1.trans ht2).trans ht3)
  clear ht1 ht2 ht3
  have HL := Lib.hid (fun W => length_out n W (by omega))
  unfold extraV at HL
  have HD := Lib.hid (fun W => dist_out n W (by omega))
  unfold extraV at HD
  have t0 : decide (3 ≤ (n : Int)) = true := decide_eq_true (by omega)
  have t1 : decide ((n : Int) ≤ 258) = false := decide_eq_false (by omega)
  have t2 : decide (1 ≤ (n : Int)) = true := decide_eq_true (by omega)
  have t3 : decide ((n : Int) ≤ 32768) = false := decide_eq_false (by omega)
  have HLO := Lib.hid (fun W (hW : Touch (fun _ => False) w3 W) => carry (lengthof_out z W (by omega)) hW)
  have HDO := Lib.hid (fun W (hW : Touch (fun _ => False) w3 W) => carry (distof_out z W (by omega)) hW)
  obtain ⟨ga, oa, ca, hae, hca, hga, hcellA⟩ := tab_cells w3 va lenTab 29 (by decide) (by decide) hva
  obtain ⟨gb, ob, cb, hbe, hcb, hgb, hcellB⟩ := tab_cells w3 vb distTab 30 (by decide) (by decide) hvb
  subst hae
  subst hbe
  clear hva hvb
  clear hcellA hcellB
  have HSELF := Lib.hid (Touch.refl (fun _ => False) w3)
  go_wp2_with fail
  refine (HL.out _).mono ?_
  rintro e w4 ⟨rfl, ht4⟩
  have HT4 := Lib.hid (HSELF.out.trans ht4)
  clear ht4
  go_wp2_with fail
  refine (HD.out _).mono ?_
  rintro e w5 ⟨rfl, ht5⟩
  have HT5 := Lib.hid (HT4.out.trans ht5)
  clear ht5
  go_wp2_with fail
  refine (HLO.out _ (((((HT5.out.alloc _).alloc _).alloc _).alloc _))).mono ?_
  rintro e w8 ⟨rfl, h8⟩
  have HT8 := Lib.hid h8
  clear h8
  have e0 : decide ((257 : Int) ≤ z) = false := decide_eq_false (by omega)
  have e1 : decide (z ≤ 285) = true := decide_eq_true (by omega)
  have e2 : decide ((0 : Int) ≤ z) = true := decide_eq_true (by omega)
  have e3 : decide (z ≤ 29) = false := decide_eq_false (by omega)
  clear t0 t1 t2 t3
  go_wp2_with fail
  refine (HDO.out _ HT8.out).mono ?_
  rintro e w9 ⟨rfl, h9⟩
  have HT9 := Lib.hid h9
  clear h9
  skip
  go_wp2_with fail
  go_ret
  exact ⟨by first | rfl | simp, HT.out.trans HT9.out⟩

set_option maxHeartbeats 2000000 in
theorem symbols_Ed (n : Int) (s : Nat) (w : World) (h : 32768 < n) (hz : s < 29) :
    Calls Try.prog 6 #[.int .i64 n, .int .i64 ((s : Int) + 257)] w fun e w' => e = .returned (.bool true) ∧ Touch (fun _ => False) w w' := by
  go_enter Try.func6, Try.ntmps6
  go_wp2_with fail
  refine (speaks5_calls _).mono ?_
  rintro e w1 ⟨rfl, ht1⟩
  go_wp2_with fail
  refine (lengths_calls _).mono ?_
  rintro e w2 ⟨va, rfl, hva, ht2⟩
  go_wp2_with fail
  refine (dists_calls _).mono ?_
  rintro e w3 ⟨vb, rfl, hvb, ht3⟩
  replace hva := hva.still ht3
  have HT := Lib.hid ((ht1.trans ht2).trans ht3)
  clear ht1 ht2 ht3
  have HL := Lib.hid (fun W => length_out n W (by omega))
  unfold extraV at HL
  have HD := Lib.hid (fun W => dist_out n W (by omega))
  unfold extraV at HD
  have t0 : decide (3 ≤ (n : Int)) = true := decide_eq_true (by omega)
  have t1 : decide ((n : Int) ≤ 258) = false := decide_eq_false (by omega)
  have t2 : decide (1 ≤ (n : Int)) = true := decide_eq_true (by omega)
  have t3 : decide ((n : Int) ≤ 32768) = false := decide_eq_false (by omega)
  have HLO := Lib.hid (fun W (hW : Touch (fun _ => False) w3 W) => carry (lengthof_in s W hz) hW)
  have HDO := Lib.hid (fun W (hW : Touch (fun _ => False) w3 W) => carry (distof_out ((s : Int) + 257) W (by omega)) hW)
  obtain ⟨ga, oa, ca, hae, hca, hga, hcellA⟩ := tab_cells w3 va lenTab 29 (by decide) (by decide) hva
  obtain ⟨gb, ob, cb, hbe, hcb, hgb, hcellB⟩ := tab_cells w3 vb distTab 30 (by decide) (by decide) hvb
  subst hae
  subst hbe
  clear hva hvb
  have HC := Lib.hid (fun W hW => hcellA s _ (lenTab_at s hz) W hW)
  clear hcellA hcellB
  have HSELF := Lib.hid (Touch.refl (fun _ => False) w3)
  go_wp2_with fail
  refine (HL.out _).mono ?_
  rintro e w4 ⟨rfl, ht4⟩
  have HT4 := Lib.hid (HSELF.out.trans ht4)
  clear ht4
  go_wp2_with fail
  refine (HD.out _).mono ?_
  rintro e w5 ⟨rfl, ht5⟩
  have HT5 := Lib.hid (HT4.out.trans ht5)
  clear ht5
  go_wp2_with fail
  refine (HLO.out _ (((((HT5.out.alloc _).alloc _).alloc _).alloc _))).mono ?_
  rintro e w8 ⟨rfl, h8⟩
  have HT8 := Lib.hid h8
  clear h8
  have e0 : decide ((257 : Int) ≤ ((s : Int) + 257)) = true := decide_eq_true (by omega)
  have e1 : decide (((s : Int) + 257) ≤ 285) = true := decide_eq_true (by omega)
  have e2 : decide ((0 : Int) ≤ ((s : Int) + 257)) = true := decide_eq_true (by omega)
  have e3 : decide (((s : Int) + 257) ≤ 29) = false := decide_eq_false (by omega)
  have c1 : w8.cell? ⟨ga, oa + s * 3 + 1, none⟩ = some (.int .i64 (lenL s : Nat)) := (HC.out _ HT8.out).1
  have c2 : w8.cell? ⟨ga, oa + s * 3 + 2, none⟩ = some (.int .i64 (lenE s : Nat)) := (HC.out _ HT8.out).2
  have hs0 : (0 : Int) ≤ (s : Int) := by omega
  have hs1 : (s : Int) < 29 := by omega
  clear t0 t1 t2 t3
  go_wp2_with fail
  refine (HDO.out _ HT8.out).mono ?_
  rintro e w9 ⟨rfl, h9⟩
  have HT9 := Lib.hid h9
  clear h9
  skip
  go_wp2_with fail
  go_ret
  exact ⟨by first | rfl | simp, HT.out.trans HT9.out⟩

set_option maxHeartbeats 2000000 in
theorem symbols_Ee (n : Int) (z : Int) (w : World) (h : 32768 < n) (hz : 285 < z) :
    Calls Try.prog 6 #[.int .i64 n, .int .i64 z] w fun e w' => e = .returned (.bool true) ∧ Touch (fun _ => False) w w' := by
  go_enter Try.func6, Try.ntmps6
  go_wp2_with fail
  refine (speaks5_calls _).mono ?_
  rintro e w1 ⟨rfl, ht1⟩
  go_wp2_with fail
  refine (lengths_calls _).mono ?_
  rintro e w2 ⟨va, rfl, hva, ht2⟩
  go_wp2_with fail
  refine (dists_calls _).mono ?_
  rintro e w3 ⟨vb, rfl, hvb, ht3⟩
  replace hva := hva.still ht3
  have HT := Lib.hid ((ht1.trans ht2).trans ht3)
  clear ht1 ht2 ht3
  have HL := Lib.hid (fun W => length_out n W (by omega))
  unfold extraV at HL
  have HD := Lib.hid (fun W => dist_out n W (by omega))
  unfold extraV at HD
  have t0 : decide (3 ≤ (n : Int)) = true := decide_eq_true (by omega)
  have t1 : decide ((n : Int) ≤ 258) = false := decide_eq_false (by omega)
  have t2 : decide (1 ≤ (n : Int)) = true := decide_eq_true (by omega)
  have t3 : decide ((n : Int) ≤ 32768) = false := decide_eq_false (by omega)
  have HLO := Lib.hid (fun W (hW : Touch (fun _ => False) w3 W) => carry (lengthof_out z W (by omega)) hW)
  have HDO := Lib.hid (fun W (hW : Touch (fun _ => False) w3 W) => carry (distof_out z W (by omega)) hW)
  obtain ⟨ga, oa, ca, hae, hca, hga, hcellA⟩ := tab_cells w3 va lenTab 29 (by decide) (by decide) hva
  obtain ⟨gb, ob, cb, hbe, hcb, hgb, hcellB⟩ := tab_cells w3 vb distTab 30 (by decide) (by decide) hvb
  subst hae
  subst hbe
  clear hva hvb
  clear hcellA hcellB
  have HSELF := Lib.hid (Touch.refl (fun _ => False) w3)
  go_wp2_with fail
  refine (HL.out _).mono ?_
  rintro e w4 ⟨rfl, ht4⟩
  have HT4 := Lib.hid (HSELF.out.trans ht4)
  clear ht4
  go_wp2_with fail
  refine (HD.out _).mono ?_
  rintro e w5 ⟨rfl, ht5⟩
  have HT5 := Lib.hid (HT4.out.trans ht5)
  clear ht5
  go_wp2_with fail
  refine (HLO.out _ (((((HT5.out.alloc _).alloc _).alloc _).alloc _))).mono ?_
  rintro e w8 ⟨rfl, h8⟩
  have HT8 := Lib.hid h8
  clear h8
  have e0 : decide ((257 : Int) ≤ z) = true := decide_eq_true (by omega)
  have e1 : decide (z ≤ 285) = false := decide_eq_false (by omega)
  have e2 : decide ((0 : Int) ≤ z) = true := decide_eq_true (by omega)
  have e3 : decide (z ≤ 29) = false := decide_eq_false (by omega)
  clear t0 t1 t2 t3
  go_wp2_with fail
  refine (HDO.out _ HT8.out).mono ?_
  rintro e w9 ⟨rfl, h9⟩
  have HT9 := Lib.hid h9
  clear h9
  skip
  go_wp2_with fail
  go_ret
  exact ⟨by first | rfl | simp, HT.out.trans HT9.out⟩

theorem symbols_calls (n z : Int) (w : World) :
    Calls Try.prog 6 #[.int .i64 n, .int .i64 z] w fun e w' => e = .returned (.bool true) ∧ Touch (fun _ => False) w w' := by
  by_cases n1 : n < 1
  · by_cases z1 : z < 0
    · exact symbols_Da _ z w (by omega) z1
    · by_cases z2 : z < 30
      · obtain ⟨s, rfl⟩ : ∃ s : Nat, z = s := ⟨z.toNat, by omega⟩
        exact symbols_Db _ s w (by omega) (by omega)
      · by_cases z3 : z < 257
        · exact symbols_Dc _ z w (by omega) (by omega) z3
        · by_cases z4 : z ≤ 285
          · obtain ⟨s, rfl⟩ : ∃ s : Nat, z = (s : Int) + 257 := ⟨(z - 257).toNat, by omega⟩
            exact symbols_Dd _ s w (by omega) (by omega)
          · exact symbols_De _ z w (by omega) (by omega)
  · by_cases n2 : n < 3
    · obtain ⟨n, rfl⟩ : ∃ m : Nat, n = m := ⟨n.toNat, by omega⟩
      by_cases z1 : z < 0
      · exact symbols_Ba _ z w (by omega) (by omega) z1
      · by_cases z2 : z < 30
        · obtain ⟨s, rfl⟩ : ∃ s : Nat, z = s := ⟨z.toNat, by omega⟩
          exact symbols_Bb _ s w (by omega) (by omega) (by omega)
        · by_cases z3 : z < 257
          · exact symbols_Bc _ z w (by omega) (by omega) (by omega) z3
          · by_cases z4 : z ≤ 285
            · obtain ⟨s, rfl⟩ : ∃ s : Nat, z = (s : Int) + 257 := ⟨(z - 257).toNat, by omega⟩
              exact symbols_Bd _ s w (by omega) (by omega) (by omega)
            · exact symbols_Be _ z w (by omega) (by omega) (by omega)
    · by_cases n3 : n ≤ 258
      · obtain ⟨n, rfl⟩ : ∃ m : Nat, n = m := ⟨n.toNat, by omega⟩
        by_cases z1 : z < 0
        · exact symbols_Aa _ z w (by omega) (by omega) z1
        · by_cases z2 : z < 30
          · obtain ⟨s, rfl⟩ : ∃ s : Nat, z = s := ⟨z.toNat, by omega⟩
            exact symbols_Ab _ s w (by omega) (by omega) (by omega)
          · by_cases z3 : z < 257
            · exact symbols_Ac _ z w (by omega) (by omega) (by omega) z3
            · by_cases z4 : z ≤ 285
              · obtain ⟨s, rfl⟩ : ∃ s : Nat, z = (s : Int) + 257 := ⟨(z - 257).toNat, by omega⟩
                exact symbols_Ad _ s w (by omega) (by omega) (by omega)
              · exact symbols_Ae _ z w (by omega) (by omega) (by omega)
      · by_cases n4 : n ≤ 32768
        · obtain ⟨n, rfl⟩ : ∃ m : Nat, n = m := ⟨n.toNat, by omega⟩
          by_cases z1 : z < 0
          · exact symbols_Ca _ z w (by omega) (by omega) z1
          · by_cases z2 : z < 30
            · obtain ⟨s, rfl⟩ : ∃ s : Nat, z = s := ⟨z.toNat, by omega⟩
              exact symbols_Cb _ s w (by omega) (by omega) (by omega)
            · by_cases z3 : z < 257
              · exact symbols_Cc _ z w (by omega) (by omega) (by omega) z3
              · by_cases z4 : z ≤ 285
                · obtain ⟨s, rfl⟩ : ∃ s : Nat, z = (s : Int) + 257 := ⟨(z - 257).toNat, by omega⟩
                  exact symbols_Cd _ s w (by omega) (by omega) (by omega)
                · exact symbols_Ce _ z w (by omega) (by omega) (by omega)
        · by_cases z1 : z < 0
          · exact symbols_Ea _ z w (by omega) z1
          · by_cases z2 : z < 30
            · obtain ⟨s, rfl⟩ : ∃ s : Nat, z = s := ⟨z.toNat, by omega⟩
              exact symbols_Eb _ s w (by omega) (by omega)
            · by_cases z3 : z < 257
              · exact symbols_Ec _ z w (by omega) (by omega) z3
              · by_cases z4 : z ≤ 285
                · obtain ⟨s, rfl⟩ : ∃ s : Nat, z = (s : Int) + 257 := ⟨(z - 257).toNat, by omega⟩
                  exact symbols_Ed _ s w (by omega) (by omega)
                · exact symbols_Ee _ z w (by omega) (by omega)
end Go.Proofs.Ytdbpjkpbmfjcnaa

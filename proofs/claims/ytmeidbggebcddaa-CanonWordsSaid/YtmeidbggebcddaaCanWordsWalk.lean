/- The walk of layer 3's statement on which lengths may be, and the words. -/
import Derived.Test.YtmeidbggebcddaaCanT
import Derived.Deep.RegionHeld3
namespace Go.Proofs.Ytmeidbggebcddaa
open Go Go.RowKit
set_option maxRecDepth 100000

theorem text_word (ls : List Nat) (s : Nat) (w : World) (h15 : ∀ x ∈ ls, x ≤ 15) (hs : s < ls.length) :
    Calls Try.prog 17 #[.int .u64 (wordN ls s), .int .i64 (ls.getD s 0 : Nat)] w fun e w' => e = .returned (.string (wordS ls s)) ∧ Touch (fun _ => False) w w' := by
  have h := text_calls (wordN ls s) (ls.getD s 0) w (wordN_lt ls h15 s hs) (mem_15 ls h15 s hs)
  have e : bitsN (ls.getD s 0) (wordN ls s) = wordH (ls.getD s 0) (codeN ls s) := by
    have h2 := bitsN_numN (wordH (ls.getD s 0) (codeN ls s)) (wordH_lt _ _)
    rw [wordH_length] at h2
    exact h2
  rw [e] at h
  exact h

theorem word_any (b n0 n1 : Nat) (ls : List Nat) (z : Int) (w : World) (h : CodeAt w b ls n0 n1) :
    Calls Try.prog 14 #[.pointer (some ⟨b, 0, none⟩), .int .i64 z] w fun e w' => ∃ (V N : Nat), e = .returned (.tuple #[.int .u64 (V : Nat), .int .i64 (N : Nat)]) ∧ (z < 0 ∨ (ls.length : Int) ≤ z → V = 0 ∧ N = 0) ∧ Touch (fun _ => False) w w' := by
  by_cases hz : z < 0 ∨ (ls.length : Int) ≤ z
  · exact (word_out b n0 n1 ls z w h hz).mono fun e w' ⟨he, hw⟩ => ⟨0, 0, he, fun _ => ⟨rfl, rfl⟩, by rw [hw]; exact Touch.refl _ _⟩
  · obtain ⟨s, rfl⟩ : ∃ s : Nat, z = s := ⟨z.toNat, by omega⟩
    exact (word_in b n0 n1 ls s w h (by omega)).mono fun e w' ⟨he, q, hw⟩ => ⟨_, _, he, fun h' => absurd h' hz, by rw [hw]; exact (Touch.refl _ _).drewN q⟩

set_option maxHeartbeats 1000000 in
theorem cwords_calls (xs : List Int) (loose : Bool) (z : Int) (v : Value) (w : World) (hv : Reads w v (intsV xs)) (hz : -9223372036854775808 ≤ z ∧ z ≤ 9223372036854775807) :
    Calls Try.prog 3 #[v, .bool loose, .int .i64 z] w fun e w' => e = .returned (.bool true) ∧ Touch (fun _ => False) w w' := by
  obtain ⟨a, cap, hvf, hxl⟩ := ints_form hv
  subst hvf
  go_enter Try.func3, Try.ntmps3
  go_wp2_with fail
  refine (speaks3_calls w).mono ?_
  rintro e w1 ⟨rfl, ht1⟩
  go_wp2_with fail
  refine (new_calls xs loose _ w1 (hv.still ht1)).mono ?_
  rintro e w2 ⟨ht2, ⟨hne, rfl⟩ | ⟨hw0, hxs, b, rfl, hC⟩⟩
  · have hT := ht1.trans ht2
    have hwhy := Lib.hid (why_calls xs loose _ w2 (hv.still hT))
    have hln := Lib.hid (lengths_nil w2)
    have hwn := Lib.hid (word_nil z w2)
    have hne' : ((whyN xs loose : Nat) : Int) ≠ 0 := by omega
    have HT := Lib.hid hT
    clear ht1 ht2 hne hv hT
    generalize ((whyN xs loose : Nat) : Int) = q at hne' hwhy
    go_wp2_with (first
      | (go_at_call 13; refine hwhy.out.mono ?_; rintro e w3 ⟨rfl, rfl⟩)
      | (go_at_call 14; refine hwn.out.mono ?_; rintro e w3 ⟨rfl, rfl⟩)
      | (go_at_call 15; refine hln.out.mono ?_; rintro e w3 ⟨rfl, rfl⟩))
    go_ret
    exact ⟨rfl, HT.out⟩
  · have hT := ht1.trans ht2
    have hwhy := Lib.hid (why_calls xs loose _ w2 (hv.still hT))
    rw [hw0] at hwhy
    have hlen : (xs.map Int.toNat).length = xs.length := List.length_map ..
    have hv2 : Reads w2 (.slice a xs.length cap) (intVs (xs.map Int.toNat)) := by
      have h := hv.still hT
      rw [hxs, intsV_nat] at h
      rw [List.length_map, hlen] at h
      exact h
    clear hw0 hxs hv ht1 ht2
    generalize xs.map Int.toNat = ls at hC hlen hv2
    have HLEN := Lib.hid hlen
    have H15 := Lib.hid hC.h15
    have hrw := Lib.hid (refwords_calls ls _ w2 hv2 hC.h15 hC.hn hC.hk)
    have hln := hC.hn
    generalize w1.heap.size = n0 at hC
    generalize w2.heap.size = n1 at hC
    have HT := Lib.hid hT
    clear hlen hT
    go_wp2_with (go_at_call 13; refine hwhy.out.mono ?_; rintro e w3 ⟨rfl, rfl⟩)
    clear hwhy
    refine (word_any b n0 n1 ls z _ hC).mono ?_
    rintro e w4 ⟨V, N, rfl, hVN, ht4⟩
    have hT4 := Lib.hid (HT.out.trans ht4)
    have hC4 := Lib.hid (hC.still ht4)
    have hrw4 := Lib.hid (refwords_calls ls _ w4 (hv2.still ht4) hC.h15 hC.hn hC.hk)
    have hv4 := Lib.hid (hv2.still ht4)
    have HVN := Lib.hid hVN
    clear hrw hC ht4 hVN hv2 HT
    go_wp2_with fail
    refine hrw4.out.mono ?_
    rintro e w5 ⟨rw5, rfl, hw5, hs5, ht5⟩
    obtain ⟨aw, cw, hrf, _, _⟩ := hw5.form
    rw [strTab_length] at hrf
    subst hrf
    have hln5 := Lib.hid (lengths_calls b n0 n1 ls w5 (hC4.out.still ht5))
    have HW5 := Lib.hid hw5
    clear hw5 hs5 hrw4
    go_wp2_with fail
    refine hln5.out.mono ?_
    rintro e w6 ⟨rg, rfl, hg6, hs6, ht6⟩
    obtain ⟨ag, cg, hgf, _, _⟩ := hg6.form
    rw [intVs_length] at hgf
    subst hgf
    have hC6 := Lib.hid ((hC4.out.still ht5).still ht6)
    have hT6 := (hT4.out.trans ht5).trans ht6
    have hwr := (HW5.out.kept ht6 (fun _ _ => id)).reads
    have hgr := hg6.reads
    have hvr := ((hv4.out.still ht5).still ht6)
    have hww : ∀ k, k < ls.length → ∃ g off, aw = some ⟨g, off, none⟩ ∧ ∀ W, Touch (fun _ => False) w6 W → W.cell? ⟨g, off + k, none⟩ = some (.string (wordS ls k)) := fun k hk => reads_at hwr k _ (strTab_get _ _ k hk)
    have hgg : ∀ k, k < ls.length → ∃ g off, ag = some ⟨g, off, none⟩ ∧ ∀ W, Touch (fun _ => False) w6 W → W.cell? ⟨g, off + k, none⟩ = some (.int .i64 (ls.getD k 0 : Nat)) := fun k hk => reads_at hgr k _ (by simp [intVs, hk])
    have hvv : ∀ k, k < ls.length → ∃ g off, a = some ⟨g, off, none⟩ ∧ ∀ W, Touch (fun _ => False) w6 W → W.cell? ⟨g, off + k, none⟩ = some (.int .i64 (ls.getD k 0 : Nat)) := fun k hk => reads_at hvr k _ (by simp [intVs, hk])
    clear hwr hgr hvr
    have HT6 := Lib.hid hT6
    have hself := Lib.hid (Touch.refl (fun _ => False) w6)
    clear hg6 hs6 hln5 ht5 ht6 HW5 hC4 hT4 hv4 hT6
    have hLI : (ls.length : Int) = (xs.length : Int) := by rw [HLEN.out]
    have hLN := HLEN.out
    go_wp2_with fail
    go_loopw [6, 13, 14, 15] (fun r i _ _ wr => r = .bool false ∧ ∃ k : Nat, k ≤ xs.length ∧ i = .int .i64 k ∧ RowKit.Hid (Touch (fun _ => False) w6 wr)) (fun _ i _ _ _ => xs.length - (intOf i).toNat)
    case atStart => exact ⟨by first | rfl | trivial, 0, Nat.zero_le _, rfl, hself⟩
    case round =>
      obtain ⟨rfl, k, hk, rfl, HS⟩ := hrel
      by_cases hlt : k < xs.length
      · have hkl : k < ls.length := by rw [HLEN.out]; exact hlt
        obtain ⟨gw, ow, ew, hcw⟩ := hww k hkl
        obtain ⟨gg, og, eg, hcg⟩ := hgg k hkl
        obtain ⟨gv, ov, ev, hcv⟩ := hvv k hkl
        subst ew
        subst eg
        subst ev
        have HCW := Lib.hid hcw
        have HCG := Lib.hid hcg
        have HCV := Lib.hid hcv
        have HW := Lib.hid (word_in b n0 n1 ls k wr (hC6.out.still HS.out) hkl)
        have HTX := Lib.hid (fun W => text_word ls k W H15.out hkl)
        clear hww hgg hvv hcw hcg hcv
        generalize wordN ls k = A at HW HTX
        generalize ls.getD k 0 = L at HW HTX HCG HCV
        generalize wordS ls k = S at HTX HCW
        go_wp2_with fail
        refine HW.out.mono ?_
        rintro e w7 ⟨rfl, q, rfl⟩
        have hT7 := HS.out.drewN q
        have HS7 := Lib.hid hT7
        generalize wr.drewN q = w8 at hT7 HS7 ⊢
        have c1 := HCW.out w8 hT7
        have c2 := HCG.out w8 hT7
        have c3 := HCV.out w8 hT7
        clear hT7 HW
        go_wp2_with fail
        have hk0 : (0 : Int) ≤ (k : Int) := by omega
        have hk1 : (k : Int) < (xs.length : Int) := by omega
        have hk2 : (k : Int) < (ls.length : Int) := by omega
        clear HVN
        go_region_held3 (fun W => W.cell? ⟨gw, ow + k, none⟩ = some (.string S) ∧ W.cell? ⟨gg, og + k, none⟩ = some (.int .i64 (L : Nat)) ∧ W.cell? ⟨gv, ov + k, none⟩ = some (.int .i64 (L : Nat)))
          (first | exact ⟨HCW.out _ hT9, HCG.out _ hT9, HCV.out _ hT9⟩ | go_keep)
          (first | (go_at_call 17; refine (HTX.out _).mono ?_; rintro e w9 ⟨rfl, ht9⟩; have hT9 : Touch (fun _ => False) w6 w9 := (by first | exact HS7.out.trans ht9 | exact (HS7.out.drew).trans ht9 | exact (HS7.out.drew.drew).trans ht9)))
        go_wp2_with fail
        go_roundw
        case rel => exact ⟨by first | rfl | trivial, k + 1, by omega, by go_num, Lib.hid hT9⟩
        case measure => simp [intOf]; omega
      · obtain rfl : k = xs.length := by omega
        clear hww hgg hvv
        by_cases hr : z < 0 ∨ (ls.length : Int) ≤ z
        · obtain ⟨rfl, rfl⟩ := HVN.out hr
          rw [HLEN.out] at hr
          by_cases hz0 : z < 0
          · clear hr
            go_wp2_with fail
            go_ret
            exact ⟨rfl, HT6.out.trans HS.out⟩
          · have hz1 : (xs.length : Int) ≤ z := by omega
            clear hr
            go_wp2_with fail
            go_ret
            exact ⟨rfl, HT6.out.trans HS.out⟩
        · rw [HLEN.out] at hr
          have hz0 : ¬ z < 0 := by omega
          have hz1 : ¬ (xs.length : Int) ≤ z := by omega
          clear hr
          go_wp2_with fail
          go_ret
          exact ⟨by first | rfl | simp, HT6.out.trans HS.out⟩
end Go.Proofs.Ytmeidbggebcddaa

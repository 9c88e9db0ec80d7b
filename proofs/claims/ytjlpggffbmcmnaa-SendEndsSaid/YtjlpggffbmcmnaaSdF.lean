/- The statement SendRefuses, and the beginning of all of layer 24's. -/
import Derived.Test.YtjlpggffbmcmnaaSdC
import Derived.Test.YtjlpggffbmcmnaaSdE
import Derived.Test.YtjlpggffbmcmnaaBase
import Derived.Carry
namespace Go.Proofs.Ytjlpggffbmcmnaa
open Go Go.RowKit Go.Maps Go.MapKept Go.ChangeMaps
set_option maxRecDepth 100000

theorem row_u32 {w : World} {r : Value} {l : List Nat} (h : Row w 35 r (u32V l)) : ∃ a cap, r = .slice a l.length cap ∧ l.length ≤ cap ∧ cap ≤ maxLen := by
  obtain ⟨a, cap, h1, h2, h3⟩ := h.form
  rw [u32V_length] at h1 h2
  exact ⟨a, cap, h1, h2, h3⟩
theorem row_u32_at {w : World} {r : Value} {l : List Nat} (h : Row w 35 r (u32V l)) (h0 : 0 < l.length) :
    ∃ g off cap, r = .slice (some ⟨g, off, none⟩) l.length cap ∧ l.length ≤ cap ∧ g < w.heap.size ∧ ∀ j x, l[j]? = some x → w.cell? ⟨g, off + j, none⟩ = some (.int .u32 (x : Nat)) := by
  obtain ⟨g, off, cap, h1, h2, h3, h4⟩ := h.addr (by rw [u32V_length]; exact h0)
  rw [u32V_length] at h1 h2
  exact ⟨g, off, cap, h1, h2, h3, fun j x hj => h4 j _ (by simp [u32V, hj])⟩
theorem numU_zero {f : Nat} (hf : f < 4294967296) : numU f 0 = f := by unfold numU; omega

set_option maxHeartbeats 2000000 in
theorem speaks24_calls (w : World) : Calls Try.prog 20 #[] w fun e w' => e = .returned (.bool true) ∧ Touch (fun _ => False) w w' := by
  go_enter Try.func20, Try.ntmps20
  go_wp2_with fail
  refine (wnew_calls 5 3 2 (by omega) (by omega) (by omega) (by omega) w).mono ?_
  rintro e w1 ⟨p, mb, rfl, h1, hpm, ht1⟩
  have HT1 := Lib.hid ht1
  have HP := Lib.hid hpm
  have H1 := Lib.hid h1
  clear ht1 hpm h1
  go_wp2_with fail
  refine (wfresh_calls H1.out).mono ?_
  rintro e w2 ⟨r, rfl, hr, hn, h2, ht2⟩
  obtain ⟨g, off, cap, rfl, _, hg, hcell⟩ := row_u32_at hr (by decide)
  have hnew : w1.heap.size ≤ g := hn g rfl
  have x1 : w2.cell? ⟨g, off + 1, none⟩ = some (.int .u32 (6 : Nat)) := hcell 1 6 (by decide)
  have H2 : Hid (WinAt w2 p mb 0 5 3 2 0 2 (fun _ => false)) := Lib.hid h2
  have HT2 := Lib.hid ht2
  have hgp : ¬ WnS p mb g := fun e => by
    have := H1.out.lt
    rcases e with e | e <;> omega
  clear hcell hr hn h2 ht2
  go_wp2_with fail
  have hack := wack_calls H2.out 1 (by omega) 0 (by omega) (by omega)
  have e6 : numU 5 (0 + 1) = 6 := by decide
  rw [e6] at hack
  refine hack.mono ?_
  rintro e w3 ⟨rfl, h3, ht3⟩
  have x1 := ht3.cell (p := ⟨g, off + 1, none⟩) x1 hgp
  have H3 := Lib.hid h3
  have HT3 := Lib.hid ht3
  clear hack h3 ht3 e6
  go_wp2_with fail
  refine (wfresh_calls H3.out).mono ?_
  rintro e w4 ⟨r, rfl, hr, hn, h4, ht4⟩
  obtain ⟨g2, off2, cap2, rfl, _, hg2, hcell⟩ := row_u32_at hr (by decide)
  have x2 : w4.cell? ⟨g2, off2, none⟩ = some (.int .u32 (7 : Nat)) := hcell 0 7 (by decide)
  have x1 := ht4.cell (p := ⟨g, off + 1, none⟩) x1 (fun e => hgp (Or.inl e))
  have H4 := Lib.hid h4
  have HT4 := Lib.hid ht4
  clear hcell hr hn h4 ht4
  have l1 : (numsL 5 0 (min (0 + 2) 3 - 0)).length = 2 := by decide
  have l2 : (numsL 5 2 (min (0 + 1 + 2) 3 - 2)).length = 1 := by decide
  rw [l2]
  go_wp2_with fail
  refine (wbase_calls H4.out).mono ?_
  rintro e w' ⟨rfl, rfl⟩
  have eb : numU 5 (0 + 1) = 6 := by decide
  rw [eb]
  go_wp2_with fail
  refine (wdone_calls H4.out).mono ?_
  rintro e w' ⟨rfl, rfl⟩
  go_wp2_with fail
  go_ret
  refine ⟨rfl, HT1.out.trans' (((HT2.out.mono (S' := WnS p mb) (fun _ e => Or.inl e)).trans HT3.out).trans (HT4.out.mono (fun _ e => Or.inl e))) (fun i e => Or.inr ?_)⟩
  have := HP.out
  rcases e with e | e <;> omega

set_option maxHeartbeats 2000000 in
theorem sref_good (f cnt sz : Nat) (hf : f < 4294967296) (hc : cnt ≤ 1048576) (hz1 : 1 ≤ sz) (hz2 : sz ≤ 32) (w : World) : Calls Try.prog 8 #[.int .u32 (f : Nat), .int .i64 (cnt : Nat), .int .i64 (sz : Nat)] w fun e w' => e = .returned (.bool true) ∧ Touch (fun _ => False) w w' := by
  have d1 : decide ((0 : Int) ≤ (cnt : Int)) = true := decide_eq_true (by omega)
  have d2 : decide ((cnt : Int) ≤ 1048576) = true := decide_eq_true (by omega)
  have d3 : decide ((1 : Int) ≤ (sz : Int)) = true := decide_eq_true (by omega)
  have d4 : decide ((sz : Int) ≤ 32) = true := decide_eq_true (by omega)
  have d2' : decide (cnt ≤ 1048576) = true := decide_eq_true (by omega)
  have d3' : decide (1 ≤ sz) = true := decide_eq_true (by omega)
  have d4' : decide (sz ≤ 32) = true := decide_eq_true (by omega)
  go_enter Try.func8, Try.ntmps8
  go_wp2_with fail
  refine (speaks24_calls w).mono ?_
  rintro e w0 ⟨rfl, ht0⟩
  have HT0 := Lib.hid ht0
  clear ht0
  go_wp2_with fail
  refine (wnew_calls f cnt sz hf hc hz1 hz2 w0).mono ?_
  rintro e w1 ⟨p, mb, rfl, h1, hpm, ht1⟩
  have HT1 := Lib.hid (HT0.out.trans ht1)
  clear ht1 hpm h1
  go_wp2_with fail
  refine (wforget_nil _).mono ?_
  rintro e w' ⟨rfl, rfl⟩
  go_wp2_with fail
  refine (wfresh_nil _).mono ?_
  rintro e w' ⟨rfl, rfl⟩
  go_wp2_with fail
  refine (wopen_nil _).mono ?_
  rintro e w' ⟨rfl, rfl⟩
  go_wp2_with fail
  refine (wack_nil _ _ _).mono ?_
  rintro e w2 ⟨rfl, ht2⟩
  have HT2 := Lib.hid (HT1.out.trans ht2)
  clear ht2
  go_wp2_with fail
  refine (wbase_nil _).mono ?_
  rintro e w' ⟨rfl, rfl⟩
  go_wp2_with fail
  refine (wdone_nil _).mono ?_
  rintro e w' ⟨rfl, rfl⟩
  go_wp2_with fail
  go_ret
  exact ⟨rfl, HT2.out⟩
set_option maxHeartbeats 2000000 in
theorem sref_bad (f : Nat) (cnt sz : Int) (h : cnt < 0 ∨ 1048576 < cnt ∨ sz < 1 ∨ 32 < sz) (w : World) : Calls Try.prog 8 #[.int .u32 (f : Nat), .int .i64 cnt, .int .i64 sz] w fun e w' => e = .returned (.bool true) ∧ Touch (fun _ => False) w w' := by
  have hb := Lib.hid (fun W => wnew_bad f cnt sz h W)
  have dd : decide (0 ≤ cnt) = false ∨ (decide (0 ≤ cnt) = true ∧ decide (cnt ≤ 1048576) = false) ∨ (decide (0 ≤ cnt) = true ∧ decide (cnt ≤ 1048576) = true ∧ decide (1 ≤ sz) = false) ∨ (decide (0 ≤ cnt) = true ∧ decide (cnt ≤ 1048576) = true ∧ decide (1 ≤ sz) = true ∧ decide (sz ≤ 32) = false) := by
    simp only [decide_eq_true_iff, decide_eq_false_iff_not]
    omega
  clear h
  rcases dd with d1 | ⟨d1, d2⟩ | ⟨d1, d2, d3⟩ | ⟨d1, d2, d3, d4⟩
  all_goals
    go_enter Try.func8, Try.ntmps8
    go_wp2_with fail
    refine (speaks24_calls w).mono ?_
    rintro e w0 ⟨rfl, ht0⟩
    have HT0 := Lib.hid ht0
    clear ht0
    go_wp2_with fail
    refine (hb.out w0).mono ?_
    rintro e w' ⟨rfl, rfl⟩
    go_wp2_with fail
    refine (wforget_nil _).mono ?_
    rintro e w' ⟨rfl, rfl⟩
    go_wp2_with fail
    refine (wfresh_nil _).mono ?_
    rintro e w' ⟨rfl, rfl⟩
    go_wp2_with fail
    refine (wopen_nil _).mono ?_
    rintro e w' ⟨rfl, rfl⟩
    go_wp2_with fail
    refine (wack_nil _ _ _).mono ?_
    rintro e w2 ⟨rfl, ht2⟩
    have HT2 := Lib.hid (HT0.out.trans ht2)
    clear ht2
    go_wp2_with fail
    refine (wbase_nil _).mono ?_
    rintro e w' ⟨rfl, rfl⟩
    go_wp2_with fail
    refine (wdone_nil _).mono ?_
    rintro e w' ⟨rfl, rfl⟩
    go_wp2_with fail
    go_ret
    exact ⟨rfl, HT2.out⟩
theorem srefuses_calls (f : Nat) (cnt sz : Int) (hf : f < 4294967296) (w : World) : Calls Try.prog 8 #[.int .u32 (f : Nat), .int .i64 cnt, .int .i64 sz] w fun e w' => e = .returned (.bool true) ∧ Touch (fun _ => False) w w' := by
  by_cases h : cnt < 0 ∨ 1048576 < cnt ∨ sz < 1 ∨ 32 < sz
  · exact sref_bad f cnt sz h w
  · obtain ⟨c, rfl⟩ : ∃ c : Nat, cnt = c := ⟨cnt.toNat, by omega⟩
    obtain ⟨s, rfl⟩ : ∃ s : Nat, sz = s := ⟨sz.toNat, by omega⟩
    exact sref_good f c s hf (by omega) (by omega) (by omega) w
end Go.Proofs.Ytjlpggffbmcmnaa

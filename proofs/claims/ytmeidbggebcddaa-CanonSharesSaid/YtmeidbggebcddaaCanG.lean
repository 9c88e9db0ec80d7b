/- Contracts of package canon over the translated program: words and lengths of a code. -/
import Derived.Test.YtmeidbggebcddaaCanF
namespace Go.Proofs.Ytmeidbggebcddaa
open Go Go.RowKit
set_option maxRecDepth 100000

theorem wordsL_length (ls : List Nat) : (wordsL ls).length = ls.length := by simp [wordsL]
theorem wordsL_get (ls : List Nat) (s : Nat) (hs : s < ls.length) : (wordsL ls)[s]? = some (wordN ls s) := by
  unfold wordsL
  rw [List.getElem?_map, List.getElem?_range hs]
  rfl

theorem word_nil (n : Int) (w : World) : Calls Try.prog 14 #[.pointer none, .int .i64 n] w fun e w' => e = .returned (.tuple #[.int .u64 0, .int .i64 0]) ∧ w' = w := by
  go_enter Try.func14, Try.ntmps14
  go_wp2_with fail
  go_ret2
  exact ⟨rfl, rfl⟩

set_option maxHeartbeats 400000 in
theorem word_out (b n0 n1 : Nat) (ls : List Nat) (n : Int) (w : World) (h : CodeAt w b ls n0 n1) (hn : n < 0 ∨ (ls.length : Int) ≤ n) :
    Calls Try.prog 14 #[.pointer (some ⟨b, 0, none⟩), .int .i64 n] w fun e w' => e = .returned (.tuple #[.int .u64 0, .int .i64 0]) ∧ w' = w := by
  obtain ⟨⟨vl, g, q, os, h1, h2, h3, h4, h5, h6⟩, h15, hl, hk, b0, b1⟩ := h
  have e1 := h1.c1
  clear h1 h2 h3 h4 h5 h6 h15 hk b0 b1
  by_cases h0 : n < 0
  · clear hn
    go_enter Try.func14, Try.ntmps14
    go_wp2_with fail
    go_ret2
    exact ⟨rfl, rfl⟩
  · have hn' : (ls.length : Int) ≤ n := by omega
    clear hn
    go_enter Try.func14, Try.ntmps14
    go_wp2_with fail
    go_ret2
    exact ⟨rfl, rfl⟩

set_option maxHeartbeats 400000 in
theorem word_in (b n0 n1 : Nat) (ls : List Nat) (s : Nat) (w : World) (h : CodeAt w b ls n0 n1) (hs : s < ls.length) :
    Calls Try.prog 14 #[.pointer (some ⟨b, 0, none⟩), .int .i64 s] w fun e w' => e = .returned (.tuple #[.int .u64 (wordN ls s), .int .i64 (ls.getD s 0 : Nat)]) ∧ ∃ q, w' = w.drewN q := by
  obtain ⟨⟨vl, g, q, os, h1, h2, h3, h4, h5, h6⟩, h15, hl, hk, b0, b1⟩ := h
  have e0 := h1.c0
  have e1 := h1.c1
  have k1 := (Row.cells h3).2 s (.int .u64 (wordN ls s)) (by rw [u64Vs, List.getElem?_map, wordsL_get ls s hs]; rfl)
  rw [Nat.zero_add] at k1
  obtain ⟨ga, offa, cap, hvl, hc1, hc2, hc⟩ := h2.addr (by rw [intVs_length]; omega)
  rw [intVs_length] at hvl hc1
  subst hvl
  have k2 := hc s (.int .i64 (ls.getD s 0 : Nat)) (by simp [intVs, hs])
  clear h1 h2 h3 h4 h5 h6 h15 hk b0 b1 hc
  generalize wordN ls s = W at k1 ⊢
  generalize ls.getD s 0 = L at k2 ⊢
  go_enter Try.func14, Try.ntmps14
  go_wp2_with fail
  go_region
  all_goals go_wp2_with fail
  all_goals go_ret2
  all_goals exact ⟨rfl, 1, rfl⟩

theorem lengths_nil (w : World) : Calls Try.prog 15 #[.pointer none] w fun e w' => e = .returned (.slice none 0 0) ∧ w' = w := by
  go_enter Try.func15, Try.ntmps15
  go_wp2_with fail
  go_ret
  exact ⟨rfl, rfl⟩

theorem lengths_calls (b n0 n1 : Nat) (ls : List Nat) (w : World) (h : CodeAt w b ls n0 n1) :
    Calls Try.prog 15 #[.pointer (some ⟨b, 0, none⟩)] w fun e w' => ∃ r, e = .returned r ∧ Row w' 3 r (intVs ls) ∧ Sep w.heap.size none r.ownBlock ∧ Touch (fun _ => False) w w' := by
  obtain ⟨⟨vl, g, q, os, h1, h2, h3, h4, h5, h6⟩, h15, hl, hk, b0, b1⟩ := h
  have e0 := h1.c0
  have hcl := Lib.hid (clone_calls (intVs ls) vl w h2.reads (oneCell_intVs ls) (by rw [intVs_length]; omega))
  clear h1 h2 h3 h4 h5 h6 h15 hk b0 b1
  go_enter Try.func15, Try.ntmps15
  go_wp2_with fail
  refine hcl.out.mono ?_
  rintro e w1 ⟨r, rfl, hrest⟩
  have HR := Lib.hid hrest
  clear hrest
  go_wp2_with fail
  go_ret
  exact ⟨r, rfl, HR.out⟩
end Go.Proofs.Ytmeidbggebcddaa

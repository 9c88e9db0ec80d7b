/- Contracts of package stage, first part: a file's cells; New, Len, Room, left, Cut. -/
import Derived.Test.YtmcakilpdecacaaStA
namespace Go.Proofs.Ytmcakilpdecacaa
open Go Go.RowKit Go.Maps
set_option maxRecDepth 100000

/-- A file's cells. -/
def FlAt (w : World) (fb b fi mo sz : Nat) : Prop := Block w fb 103 [.pointer (some ⟨b, 0, none⟩), .int .i64 fi, .int .i64 mo, .int .i64 sz]

theorem FlAt.kept {S : Nat → Prop} {w w' : World} {fb b fi mo sz : Nat} (h : FlAt w fb b fi mo sz) (ht : Touch S w w') (hn : ¬ S fb) : FlAt w' fb b fi mo sz := Block.kept h ht hn
theorem FlAt.cells {w : World} {fb b fi mo sz : Nat} (h : FlAt w fb b fi mo sz) :
    w.cell? ⟨fb, 0, none⟩ = some (.pointer (some ⟨b, 0, none⟩)) ∧ w.cell? ⟨fb, 1, none⟩ = some (.int .i64 fi) ∧ w.cell? ⟨fb, 2, none⟩ = some (.int .i64 mo) ∧ w.cell? ⟨fb, 3, none⟩ = some (.int .i64 sz) :=
  ⟨Block.cell h 0, Block.cell h 1, Block.cell h 2, Block.cell h 3⟩

theorem stnew_nil (a s z : Int) (w : World) : Calls Try.prog 27 #[.pointer none, .int .i64 a, .int .i64 s, .int .i64 z] w fun e w' => e = .returned (.tuple #[.pointer none, .int .i64 1]) ∧ w = w' := by
  go_enter Try.func27, Try.ntmps27
  go_wp2
  all_goals
    go_ret2
    exact ⟨rfl, rfl⟩
theorem stnew_arg (b : Nat) (a s z : Int) (hs : s < 1) (w : World) : Calls Try.prog 27 #[.pointer (some ⟨b, 0, none⟩), .int .i64 a, .int .i64 s, .int .i64 z] w fun e w' => e = .returned (.tuple #[.pointer none, .int .i64 1]) ∧ w = w' := by
  have d1 : decide (s < 1) = true := decide_eq_true hs
  go_enter Try.func27, Try.ntmps27
  go_wp2
  go_ret2
  exact ⟨rfl, rfl⟩
theorem stnew_neg {w : World} {b lb mb c n : Nat} {L : List UInt8} {C : List Ent} {t : Nat} {f : Int} {on : Bool} (_h : DkAt w b lb mb c n L C t f on) (a s z : Int) (hs : ¬ s < 1) (ha : a < 0) :
    Calls Try.prog 27 #[.pointer (some ⟨b, 0, none⟩), .int .i64 a, .int .i64 s, .int .i64 z] w fun e w' => e = .returned (.tuple #[.pointer none, .int .i64 20]) ∧ w = w' := by
  have d1 : decide (s < 1) = false := decide_eq_false hs
  have d2 : decide (a < 0) = true := decide_eq_true ha
  go_enter Try.func27, Try.ntmps27
  go_wp2
  go_ret2
  exact ⟨rfl, rfl⟩
theorem stnew_far {w : World} {b lb mb c n : Nat} {L : List UInt8} {C : List Ent} {t : Nat} {f : Int} {on : Bool} (h : DkAt w b lb mb c n L C t f on) (a s z : Int) (hs : ¬ s < 1) (hs2 : s ≤ 9223372036854775807) (ha : ¬ a < 0) (ha2 : n - s < a) :
    Calls Try.prog 27 #[.pointer (some ⟨b, 0, none⟩), .int .i64 a, .int .i64 s, .int .i64 z] w fun e w' => e = .returned (.tuple #[.pointer none, .int .i64 20]) ∧ w = w' := by
  have hn := h.n2
  have d1 : decide (s < 1) = false := decide_eq_false hs
  have d2 : decide (a < 0) = false := decide_eq_false ha
  have d3 : decide ((n : Int) - s < a) = true := decide_eq_true ha2
  have hw : IntKind.i64.wrap ((n : Int) - s) = (n : Int) - s := IntWalk.i64_in _ (by omega)
  have H := Lib.hid h
  clear h
  go_enter Try.func27, Try.ntmps27
  go_wp2_with (go_at_call 49; refine (sectors_calls H.out).mono ?_; rintro e w' ⟨rfl, rfl⟩)
  go_ret2
  exact ⟨rfl, rfl⟩
theorem stnew_size {w : World} {b lb mb c n : Nat} {L : List UInt8} {C : List Ent} {t : Nat} {f : Int} {on : Bool} (h : DkAt w b lb mb c n L C t f on) (a s : Nat) (z : Int) (hs : 1 ≤ s) (ha : a + s ≤ n) (hz : z < 0 ∨ ((s * 64 : Nat) : Int) < z) :
    Calls Try.prog 27 #[.pointer (some ⟨b, 0, none⟩), .int .i64 a, .int .i64 s, .int .i64 z] w fun e w' => e = .returned (.tuple #[.pointer none, .int .i64 20]) ∧ w = w' := by
  have hn := h.n2
  have d1 : decide ((s : Int) < 1) = false := decide_eq_false (by omega)
  have d2 : decide ((a : Int) < 0) = false := decide_eq_false (by omega)
  have d3 : decide ((n : Int) - (s : Int) < (a : Int)) = false := decide_eq_false (by omega)
  have hw : IntKind.i64.wrap ((n : Int) - (s : Int)) = (n : Int) - (s : Int) := IntWalk.i64_in _ (by omega)
  obtain ⟨q, hq⟩ : ∃ q : Nat, q = s * 64 := ⟨_, rfl⟩
  have e1 : (s : Int) * 64 = (q : Int) := by omega
  have hq2 : q ≤ 4194304 := by omega
  rw [← hq] at hz
  have H := Lib.hid h
  clear h hq
  by_cases hz0 : z < 0
  · have d4 : decide (z < 0) = true := decide_eq_true hz0
    clear hz
    go_enter Try.func27, Try.ntmps27
    go_wp2_with (go_at_call 49; refine (sectors_calls H.out).mono ?_; rintro e w' ⟨rfl, rfl⟩)
    go_ret2
    exact ⟨rfl, rfl⟩
  · have d4 : decide (z < 0) = false := decide_eq_false hz0
    have d5 : decide ((q : Int) < z) = true := decide_eq_true (by omega)
    clear hz
    go_enter Try.func27, Try.ntmps27
    go_wp2_with (go_at_call 49; refine (sectors_calls H.out).mono ?_; rintro e w' ⟨rfl, rfl⟩)
    go_ret2
    exact ⟨rfl, rfl⟩
theorem stnew_calls {w : World} {b lb mb c n : Nat} {L : List UInt8} {C : List Ent} {t : Nat} {f : Int} {on : Bool} (h : DkAt w b lb mb c n L C t f on) (a s z : Nat) (hs : 1 ≤ s) (ha : a + s ≤ n) (hz : z ≤ s * 64) :
    Calls Try.prog 27 #[.pointer (some ⟨b, 0, none⟩), .int .i64 a, .int .i64 s, .int .i64 z] w fun e w' => ∃ fb, e = .returned (.tuple #[.pointer (some ⟨fb, 0, none⟩), .int .i64 0]) ∧ FlAt w' fb b a (s * 64) z ∧ w.heap.size ≤ fb ∧ Touch (fun _ => False) w w' := by
  have hn := h.n2
  have d1 : decide ((s : Int) < 1) = false := decide_eq_false (by omega)
  have d2 : decide ((a : Int) < 0) = false := decide_eq_false (by omega)
  have d3 : decide ((n : Int) - (s : Int) < (a : Int)) = false := decide_eq_false (by omega)
  have hw : IntKind.i64.wrap ((n : Int) - (s : Int)) = (n : Int) - (s : Int) := IntWalk.i64_in _ (by omega)
  obtain ⟨q, hq⟩ : ∃ q : Nat, q = s * 64 := ⟨_, rfl⟩
  have e1 : (s : Int) * 64 = (q : Int) := by omega
  have hq2 : q ≤ 4194304 := by omega
  rw [← hq] at hz ⊢
  have d4 : decide ((z : Int) < 0) = false := decide_eq_false (by omega)
  have d5 : decide ((q : Int) < (z : Int)) = false := decide_eq_false (by omega)
  have d6 : decide (q < z) = false := decide_eq_false (by omega)
  have H := Lib.hid h
  clear h hq
  go_enter Try.func27, Try.ntmps27
  go_wp2_with (go_at_call 49; refine (sectors_calls H.out).mono ?_; rintro e w' ⟨rfl, rfl⟩)
  go_ret2
  exact ⟨w.heap.size, rfl, Block.new w _ _, Nat.le_refl _, (Touch.refl (fun _ => False) w).alloc _⟩

theorem stlen_nil (w : World) : Calls Try.prog 33 #[.pointer none] w fun e w' => e = .returned (.int .i64 0) ∧ w = w' := by
  go_enter Try.func33, Try.ntmps33
  go_wp2
  go_ret
  exact ⟨rfl, rfl⟩
theorem stlen_calls {w : World} {fb b fi mo sz : Nat} (h : FlAt w fb b fi mo sz) : Calls Try.prog 33 #[.pointer (some ⟨fb, 0, none⟩)] w fun e w' => e = .returned (.int .i64 sz) ∧ w = w' := by
  obtain ⟨c0, c1, c2, c3⟩ := h.cells
  clear h
  go_enter Try.func33, Try.ntmps33
  go_wp2
  go_ret
  exact ⟨rfl, rfl⟩
theorem stroom_nil (w : World) : Calls Try.prog 34 #[.pointer none] w fun e w' => e = .returned (.int .i64 0) ∧ w = w' := by
  go_enter Try.func34, Try.ntmps34
  go_wp2
  go_ret
  exact ⟨rfl, rfl⟩
theorem stroom_calls {w : World} {fb b fi mo sz : Nat} (h : FlAt w fb b fi mo sz) (hs : sz ≤ mo) (hm : mo ≤ 4194304) : Calls Try.prog 34 #[.pointer (some ⟨fb, 0, none⟩)] w fun e w' => e = .returned (.int .i64 ((mo - sz : Nat) : Int)) ∧ Touch (fun _ => False) w w' := by
  obtain ⟨c0, c1, c2, c3⟩ := h.cells
  obtain ⟨q, hq⟩ : ∃ q : Nat, mo - sz = q := ⟨_, rfl⟩
  have e1 : (mo : Int) - (sz : Int) = (q : Int) := by omega
  have e2 : IntKind.i64.wrap ((mo : Int) - (sz : Int)) = (q : Int) := by rw [e1]; exact IntWalk.i64_in _ (by omega)
  rw [hq]
  clear h hq hs
  go_enter Try.func34, Try.ntmps34
  go_upto_region 3 with fail
  go_quiet (fail)
  go_wp2_with fail
  go_ret
  exact ⟨rfl, (Touch.refl (fun _ => False) w).drewN _⟩
theorem left_calls (p : Nat) (_hp : p ≤ 4194304) (w : World) : Calls Try.prog 61 #[.int .i64 p] w fun e w' => e = .returned (.int .i64 ((64 - p % 64 : Nat) : Int)) ∧ w = w' := by
  obtain ⟨r, hr⟩ : ∃ r : Nat, p % 64 = r := ⟨_, rfl⟩
  have hr2 : r < 64 := by omega
  have e1 : (p : Int).tmod 64 = (r : Int) := by rw [← hr]; exact Int.ofNat_tmod p 64
  have e2 : (64 : Int) - (r : Int) = ((64 - r : Nat) : Int) := by omega
  have e3 : IntKind.i64.wrap (64 - (r : Int)) = ((64 - r : Nat) : Int) := by rw [e2]; exact IntWalk.i64_in _ (by omega)
  have e4 : (p : Int) % 64 = (r : Int) := by omega
  rw [hr]
  go_enter Try.func61, Try.ntmps61
  go_wp2
  go_ret
  exact ⟨rfl, rfl⟩
theorem stcut_nil (n : Int) (w : World) : Calls Try.prog 30 #[.pointer none, .int .i64 n] w fun e w' => e = .returned (.int .i64 1) ∧ w = w' := by
  go_enter Try.func30, Try.ntmps30
  go_wp2
  go_ret
  exact ⟨rfl, rfl⟩
theorem stcut_bad {w : World} {fb b fi mo sz : Nat} (h : FlAt w fb b fi mo sz) (n : Int) (hn : n < 0 ∨ sz < n) : Calls Try.prog 30 #[.pointer (some ⟨fb, 0, none⟩), .int .i64 n] w fun e w' => e = .returned (.int .i64 20) ∧ w = w' := by
  obtain ⟨c0, c1, c2, c3⟩ := h.cells
  clear h
  by_cases h0 : n < 0
  · have d1 : decide (n < 0) = true := decide_eq_true h0
    go_enter Try.func30, Try.ntmps30
    go_wp2
    go_ret
    exact ⟨rfl, rfl⟩
  · have d1 : decide (n < 0) = false := decide_eq_false h0
    have d2 : decide ((sz : Int) < n) = true := decide_eq_true (by omega)
    go_enter Try.func30, Try.ntmps30
    go_wp2
    go_ret
    exact ⟨rfl, rfl⟩
theorem stcut_calls {w : World} {fb b fi mo sz : Nat} (h : FlAt w fb b fi mo sz) (n : Nat) (hn : n ≤ sz) : Calls Try.prog 30 #[.pointer (some ⟨fb, 0, none⟩), .int .i64 n] w fun e w' => e = .returned (.int .i64 0) ∧ FlAt w' fb b fi mo n ∧ Touch (fun k => k = fb) w w' := by
  obtain ⟨c0, c1, c2, c3⟩ := h.cells
  have f3 := Block.free h 3
  have H := Lib.hid h
  clear h
  have d1 : decide ((n : Int) < 0) = false := decide_eq_false (by omega)
  have d2 : decide ((sz : Int) < (n : Int)) = false := decide_eq_false (by omega)
  have d3 : decide (sz < n) = false := decide_eq_false (by omega)
  go_enter Try.func30, Try.ntmps30
  go_wp2
  go_ret
  exact ⟨rfl, Block.set H.out 3 _, (Touch.refl (fun k => k = fb) w).setCell (p := ⟨fb, 3, none⟩) (Or.inl rfl) _⟩

end Go.Proofs.Ytmcakilpdecacaa

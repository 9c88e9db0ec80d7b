
/- A decoder: Done, Rest, Used, Feed. -/
import Derived.Test.YtoaeffinjpkahaaDoorInfK
namespace Go.Proofs.YtoaeffinjpkahaaDoor
set_option linter.unusedSimpArgs false
set_option linter.unusedVariables false
open Go Go.RowKit
set_option maxRecDepth 100000

theorem idone_nil (w : World) : Calls Tryd.prog 13 #[.pointer none] w fun e w' => e = .returned (.bool false) ∧ w = w' := by
  go_enter Tryd.func13, Tryd.ntmps13
  go_wp2_with fail
  go_ret
  exact ⟨rfl, rfl⟩
theorem idone_run {w : World} {b st : Nat} (h : w.cell? ⟨b, 0, none⟩ = some (.int .i64 (st : Nat))) (hst : st < 11) : Calls Tryd.prog 13 #[.pointer (some ⟨b, 0, none⟩)] w fun e w' => e = .returned (.bool false) ∧ w = w' := by
  have hb : ((st : Int) == 11) = false := by rw [beq_eq_false_iff_ne]; omega
  go_enter Tryd.func13, Tryd.ntmps13
  go_wp2_with fail
  go_ret
  exact ⟨by simp [hb], rfl⟩
theorem idone_end {w : World} {b : Nat} (h : w.cell? ⟨b, 0, none⟩ = some (.int .i64 11)) : Calls Tryd.prog 13 #[.pointer (some ⟨b, 0, none⟩)] w fun e w' => e = .returned (.bool true) ∧ w = w' := by
  go_enter Tryd.func13, Tryd.ntmps13
  go_wp2_with fail
  go_ret
  exact ⟨rfl, rfl⟩
theorem irest_nil (w : World) : Calls Tryd.prog 15 #[.pointer none] w fun e w' => e = .returned (.string ⟨#[]⟩) ∧ w = w' := by
  go_enter Tryd.func15, Tryd.ntmps15
  go_wp2_with fail
  go_ret
  exact ⟨rfl, rfl⟩
theorem irest_end {w : World} {b came told : Nat} {rest : List UInt8} (h : DecE w b came told rest) : Calls Tryd.prog 15 #[.pointer (some ⟨b, 0, none⟩)] w fun e w' => e = .returned (.string ⟨rest.toArray⟩) ∧ w = w' := by
  obtain ⟨_, _, _, _, v4, c4, hR4, _⟩ := h
  have hcv : (convert 58 9 v4).run Tryd.prog w = .ok (.string ⟨rest.toArray⟩) w := by
    rcases hR4 with ⟨G, cap, rfl, hG, hc, _⟩ | hR4
    · exact run_convert_bytes_back (P := Tryd.prog) w 58 9 5 ⟨G, 0, none⟩ cap rest Tryd.underlying58 Tryd.underlying5 Tryd.underlying9 hc
    · exact run_bytes_row (P := Tryd.prog) w 58 5 9 Tryd.underlying58 Tryd.underlying5 Tryd.underlying9 hR4
  obtain ⟨a4, cap4, hv4⟩ := hR4.form
  subst hv4
  clear hR4
  go_enter Tryd.func15, Tryd.ntmps15
  go_wp2_with fail
  go_ret
  exact ⟨rfl, rfl⟩
theorem iused_nil (w : World) : Calls Tryd.prog 14 #[.pointer none] w fun e w' => e = .returned (.int .i64 0) ∧ w = w' := by
  go_enter Tryd.func14, Tryd.ntmps14
  go_wp2_with fail
  refine (idone_nil _).mono ?_
  rintro e w' ⟨rfl, rfl⟩
  go_wp2_with fail
  go_ret
  exact ⟨rfl, rfl⟩
theorem ifeed_nil (t : ByteArray) (w : World) : Calls Tryd.prog 10 #[.pointer none, .string t] w fun e w' => e = .returned (.tuple #[.string ⟨#[]⟩, .int .i64 1]) ∧ w = w' := by
  go_enter Tryd.func10, Tryd.ntmps10
  go_wp2_with fail
  go_ret2
  exact ⟨rfl, rfl⟩

theorem iused_end {w : World} {b came told : Nat} {rest : List UInt8} (h : DecE w b came told rest) (hc : came < 1000000000) (hr : rest.length ≤ came) : Calls Tryd.prog 14 #[.pointer (some ⟨b, 0, none⟩)] w fun e w' => e = .returned (.int .i64 ((came : Int) - (rest.length : Int))) ∧ Touch (fun _ => False) w w' := by
  obtain ⟨c0, _, c2, _, v4, c4, hR4, _⟩ := h
  obtain ⟨a4, cap4, hv4⟩ := hR4.form
  subst hv4
  clear hR4
  go_enter Tryd.func14, Tryd.ntmps14
  go_wp2_with fail
  refine (idone_end c0).mono ?_
  rintro e w' ⟨rfl, rfl⟩
  go_wp2_with fail
  go_region
  go_wp2_with fail
  go_ret
  exact ⟨rfl, (Touch.refl _ _).drew⟩

/-- Bytes were fed to its reader. -/
theorem DecM.feed {w w1 : World} {b : Nat} {s : PS} {v5 v7 v8 p17 p18 : Value} {g : Nat} {l : List Nat} {row' : Option Nat} (h : DecM w b s v5 g v7 v8 p17 p18) (hR : RdAt (80, fun i => (decL s v5 g v7 v8 p17 p18)[i]?) w1 b 5 l row') (hs : Sep w.heap.size v5.ownBlock row') (ht : Touch (fun k => k = b ∨ v5.ownBlock = some k) w w1) (h2 : ∀ x ∈ l, x < 2) (hl : l.length < 1000000000) :
    ∃ v5' g', DecM w1 b { s with bits := l } v5' g' v7 v8 p17 p18 ∧ ∀ k, Mut b v5' v7 v8 k → Mut b v5 v7 v8 k ∨ w.heap.size ≤ k := by
  obtain ⟨v5', g', hB, hrd, ho, hne⟩ := rd_back hR
  have hm := h.mlt
  obtain ⟨k1, k2, k3, k4, k5, k6, k7, k8, k9⟩ := h
  obtain ⟨a1, a2, a3, a4, a5, a6⟩ := k5
  have hM : ∀ k, Mut b v5' v7 v8 k → Mut b v5 v7 v8 k ∨ w.heap.size ≤ k := by
    intro k hk
    rcases hk with e | e | e | e
    · exact .inl (.inl e)
    · rw [ho] at e
      rcases hs with hs | ⟨q, hq, hge⟩
      · exact .inl (.inr (.inl (by rw [← hs]; exact e)))
      · rw [hq] at e
        have := Option.some.inj e
        exact .inr (by omega)
    · exact .inl (.inr (.inr (.inl e)))
    · exact .inl (.inr (.inr (.inr e)))
  have hS : ∀ k, (k = b ∨ v5.ownBlock = some k) → Mut b v5 v7 v8 k ∨ w.heap.size ≤ k := fun k e => by
    rcases e with e | e
    · exact .inl (.inl e)
    · exact .inl (.inr (.inl e))
  have hx : ∀ k, v5'.ownBlock = some k → ∀ q, q < w.heap.size → (∀ z, v5.ownBlock = some z → q ≠ z) → k ≠ q := by
    intro k hk q hq hn e
    rw [ho] at hk
    rcases hs with hs | ⟨z, hz, hge⟩
    · exact hn k (by rw [← hs]; exact hk) e.symm
    · rw [hz] at hk
      have := Option.some.inj hk
      omega
  refine ⟨v5', g', ⟨hB, hrd, k3.kept ht (fun k e e2 => ?_), k4.kept ht (fun k e e2 => ?_), ⟨hne, a2, a3, fun k e e2 => ?_, fun k e e2 => ?_, a6⟩, k6.step ht hS hM ⟨rfl, rfl, rfl, rfl⟩, k7, h2, ⟨hl, k9.2⟩⟩, hM⟩
  · rcases e2 with e2 | e2
    · exact a2 (by rw [e, e2])
    · exact a4 k e2 e
  · rcases e2 with e2 | e2
    · exact a3 (by rw [e, e2])
    · exact a5 k e2 e
  · exact hx k e k (hm k (.inr (.inr (.inl e2)))) (fun z hz e3 => a4 z hz (by rw [← e3]; exact e2)) rfl
  · exact hx k e k (hm k (.inr (.inr (.inr e2)))) (fun z hz e3 => a5 z hz (by rw [← e3]; exact e2)) rfl
end Go.Proofs.YtoaeffinjpkahaaDoor


/- Contracts of package window over the translated program: a window by the list of all bytes that ever went by. -/
import Derived.Test.YtoaeffinjpkahaaDoorRows
import Derived.Test.YtoaeffinjpkahaaDoorNum
import Derived.Test.YtoaeffinjpkahaaDoorMem
import Derived.Test.YtoaeffinjpkahaaDoorArr
import Derived.Test.YtoaeffinjpkahaaDoorBitsN
import Derived.WalkSpells
import Derived.WalkLawsBesides
import Derived.OwnWalk
import Derived.Lib.Hide
import Derived.Laws.BitsAllLaws
import Derived.Laws.MakeOwn
import Derived.RegionTactic
import Derived.Deep.DeepCutAuto
import Derived.BigRegion
import Derived.BigQuiet
import Derived.Deep.QuietTactic
import Derived.Deep.RegionHeld3
import Derived.Deep.RegionLaw
namespace Go.Proofs.YtoaeffinjpkahaaDoor
set_option linter.unusedSimpArgs false
set_option linter.unusedVariables false
open Go Go.RowKit
set_option maxRecDepth 100000
variable {φ : TypeId × (Nat → Option Value)}

theorem Tryd.infoB : (Tryd.prog.info? 5).map (fun i => (i.zero, i.size, i.bytes)) = some (some (.int .u8 0), 1, 1) := by kernel_rfl

/-- The ring that holds the last bytes. -/
def RingOf (R all : List UInt8) : Prop := R.length = min all.length 32768 ∧ ∀ i, all.length < i + 32769 → i < all.length → R[i % 32768]? = all[i]?

/-- A window's two cells, and its ring. -/
def WinAt (φ : TypeId × (Nat → Option Value)) (w : World) (b o : Nat) (all : List UInt8) (row : Option Nat) : Prop :=
  ∃ R v, Cell2 φ w b o v (.int .i64 (all.length : Nat)) ∧ Row w 5 v (byteVs R) ∧ v.ownBlock ≠ some b ∧ v.ownBlock = row ∧ RingOf R all

theorem WinAt.kept {S : Nat → Prop} {w w' : World} {b o : Nat} {all : List UInt8} {row : Option Nat} (h : WinAt φ w b o all row) (ht : Touch S w w') (hb : ¬ S b) (hr : ∀ g, row = some g → ¬ S g) : WinAt φ w' b o all row := by
  obtain ⟨R, v, hc, hrow, hap, hv, hR⟩ := h
  exact ⟨R, v, hc.kept ht hb, hrow.kept ht (fun g hg => hr g (by rw [← hv, hg])), hap, hv, hR⟩
theorem WinAt.still {w w' : World} {b o : Nat} {all : List UInt8} {row : Option Nat} (h : WinAt φ w b o all row) (ht : Touch (fun _ => False) w w') : WinAt φ w' b o all row := h.kept ht id (fun _ _ => id)
theorem WinAt.ne {w : World} {b o : Nat} {all : List UInt8} {row : Option Nat} (h : WinAt φ w b o all row) : row ≠ some b := by
  obtain ⟨R, v, _, _, hap, hv, _⟩ := h
  rw [← hv]; exact hap
theorem WinAt.lt {w : World} {b o : Nat} {all : List UInt8} {row : Option Nat} (h : WinAt φ w b o all row) : b < w.heap.size := by
  obtain ⟨R, v, hc, _⟩ := h
  exact hc.lt

theorem ring_nil : RingOf [] [] := ⟨rfl, fun i _ h => absurd h (by simp)⟩
theorem ring_grow (R all : List UInt8) (c : UInt8) (h : RingOf R all) (hl : all.length < 32768) : RingOf (R ++ [c]) (all ++ [c]) := by
  obtain ⟨h1, h2⟩ := h
  have hRl : R.length = all.length := by omega
  refine ⟨by simp; omega, fun i hi1 hi2 => ?_⟩
  simp at hi1 hi2
  rw [Nat.mod_eq_of_lt (by omega)]
  by_cases hi : i < all.length
  · rw [List.getElem?_append_left (by omega), List.getElem?_append_left hi]
    have := h2 i (by omega) hi
    rwa [Nat.mod_eq_of_lt (by omega)] at this
  · have : i = all.length := by omega
    subst this
    rw [List.getElem?_append_right (by omega), List.getElem?_append_right (by omega), hRl]
theorem ring_turn (R all : List UInt8) (c : UInt8) (h : RingOf R all) (hl : 32768 ≤ all.length) : RingOf (R.set (all.length % 32768) c) (all ++ [c]) := by
  obtain ⟨h1, h2⟩ := h
  have hRl : R.length = 32768 := by omega
  refine ⟨by simp; omega, fun i hi1 hi2 => ?_⟩
  simp at hi1 hi2
  by_cases hi : i < all.length
  · have hne : all.length % 32768 ≠ i % 32768 := by omega
    rw [List.getElem?_set_ne hne, List.getElem?_append_left hi]
    exact h2 i (by omega) hi
  · have : i = all.length := by omega
    subst this
    rw [List.getElem?_set_self (by omega), List.getElem?_append_right (by omega)]
    simp

theorem byteVs_set (R : List UInt8) (k : Nat) (c : UInt8) : (byteVs R).set k (.int .u8 (c.toNat : Nat)) = byteVs (R.set k c) := by simp [byteVs, List.map_set]

set_option maxHeartbeats 1000000 in
theorem put_calls (b o : Nat) (c : UInt8) (all : List UInt8) (row : Option Nat) (w : World) (h : WinAt φ w b o all row) (hl : all.length < 1099511627776) :
    Calls Tryd.prog 128 #[.pointer (some ⟨b, o, none⟩), .int .u8 (c.toNat : Nat)] w fun e w' => e = .returned (.tuple #[]) ∧
      ∃ row', WinAt φ w' b o (all ++ [c]) row' ∧ Sep w.heap.size row row' ∧ Touch (fun k => k = b ∨ row = some k) w w' := by
  obtain ⟨R, v, hC, hrow, hap, rfl, hR⟩ := h
  obtain ⟨i0, hi, hz0, hz1, hz2⟩ := info_parts Tryd.infoB
  obtain ⟨a, cap, hv, hc1, hc2⟩ := hrow.form
  rw [byteVs_length] at hv hc1
  have hRl := hR.1
  have hlb := hC.lt
  have hc := c.toNat_lt
  have hC0 := hC
  obtain ⟨c0, c1, f0, f1⟩ := hC
  by_cases hlt : all.length < 32768
  · have hRn : R.length = all.length := by omega
    have HR := Lib.hid (ring_grow R all c hR hlt)
    have hRl' : R.length < 32768 := by omega
    have hlen : ∀ W : World, (Builtin.len_ #[58] 3 #[v]).run Tryd.prog W = .ok (.int .i64 (R.length : Nat)) W := by
      intro W
      rw [hv]
      simp [Builtin.len_, run_underlying Tryd.underlying58]
      rfl
    have hdl : decide ((R.length : Int) < 32768) = true := decide_eq_true (by omega)
    have HRL := Lib.hid hRl'
    have HLT := Lib.hid hlt
    have HHL := Lib.hid hl
    have HRN := Lib.hid hRn
    clear hRl' hlt hl
    have HV := Lib.hid hv
    clear hR hRl hRn hv
    go_enter Tryd.func128, Tryd.ntmps128
    go_upto_region 2 with fail
    clear hlen hdl
    go_wp2_with (at_builtin; refine wpList_append_row _ rfl (.tmp 16) (.tmp 18) 58 58 rfl 5 i0 _ 1 Tryd.underlying58 hi hz0 hz1 hz2 rfl v (byteVs R) rfl (hrow.kept ((Touch.refl (fun _ => False) w).alloc _) (fun _ _ => id)) (.slice (some ⟨w.heap.size, 0, none⟩) 1 1) rfl 1 [.int .u8 (c.toNat : Nat)] (Src.ofCell Tryd.underlying58 (heap_alloc_new w _) rfl) (by rw [byteVs_length]; have := HRL.out; unfold maxLen; omega) (by rw [byteVs_length]; have := HRL.out; omega) ?_; intro v2 w2 hrow2 hg2 ho2; obtain ⟨a2, cap2, hv2, hc2', hc3'⟩ := hrow2.form; rw [List.length_append, byteVs_length] at hv2; subst hv2; have hB : w2.heap[b]? = w.heap[b]? := (hg2.block b (by simp; omega) (fun e => hap e.symm)).trans (heap_alloc_old _ _ hlb); have g0 := (World.cell?_of_block (a := ⟨b, o, none⟩) hB).trans c0; have g1 := (World.cell?_of_block (a := ⟨b, o + 1, none⟩) hB).trans c1; have e0 := (World.frozen?_of_block (a := ⟨b, o, none⟩) hB).trans f0; have e1 := (World.frozen?_of_block (a := ⟨b, o + 1, none⟩) hB).trans f1; clear c0 c1 f0 f1)
    go_end0
    have hwt : wrap64 ((all.length : Int) + 1) = ((all ++ [c]).length : Nat) := by
      have := HHL.out
      rw [List.length_append]
      unfold wrap64
      simp
      omega
    rw [hwt]
    have hap2 : (Value.slice a2 (R.length + 1) cap2).ownBlock ≠ some b := by
      intro e
      rcases ho2 with h | h
      · exact hap (h.symm.trans e)
      · have h2 : (Value.slice a2 (R.length + 1) cap2).ownBlock = some (w.alloc (.cells #[.int .u8 (c.toNat : Nat)] 5)).heap.size := h
        rw [h2] at e
        have := Option.some.inj e
        simp at this
        omega
    have hsep : Sep w.heap.size v.ownBlock (Value.slice a2 (R.length + 1) cap2).ownBlock := by
      rcases ho2 with h | h
      · exact .inl h
      · exact .inr ⟨_, h, by simp⟩
    have hrow3 : Row w2 5 (Value.slice a2 (R.length + 1) cap2) (byteVs (R ++ [c])) := by rw [byteVs_append]; exact hrow2
    have hT : Touch (fun k => k = b ∨ v.ownBlock = some k) w w2 := ((Touch.refl _ w).alloc _).grown hg2 (fun g hg => .inl (.inr hg))
    refine ⟨rfl, _, ⟨R ++ [c], _, ((hC0.of_block hB).set0 _).set1 _, (hrow3.kept ((Touch.refl (fun k => k = b) _).setCell (Or.inl rfl) _) (fun g hg e => hap2 (by rw [hg, e]))).kept ((Touch.refl (fun k => k = b) _).setCell (Or.inl rfl) _) (fun g hg e => hap2 (by rw [hg, e])), hap2, rfl, HR.out⟩, hsep, (hT.setCell (Or.inl (Or.inl rfl)) _).setCell (Or.inl (Or.inl rfl)) _⟩
  · have hRn : R.length = 32768 := by omega
    have HR := Lib.hid (ring_turn R all c hR (by omega))
    have hlen : ∀ W : World, (Builtin.len_ #[58] 3 #[v]).run Tryd.prog W = .ok (.int .i64 (R.length : Nat)) W := by
      intro W
      rw [hv]
      simp [Builtin.len_, run_underlying Tryd.underlying58]
      rfl
    have hdl : decide ((R.length : Int) < 32768) = false := decide_eq_false (by omega)
    obtain ⟨g, off, hga⟩ : ∃ g off, a = some ⟨g, off, none⟩ := by
      rcases hrow with ⟨h1, h2⟩ | ⟨g, off, cap', cur, h1, _⟩
      · rw [hv] at h1; injection h1 with _ h1; omega
      · rw [hv] at h1; injection h1 with h1; exact ⟨g, off, h1⟩
    subst hga
    obtain ⟨q, hq⟩ : ∃ q : Nat, (all.length : Int) % 32768 = q := ⟨all.length % 32768, by omega⟩
    have hqn : q < R.length := by omega
    have hqe : all.length % 32768 = q := by omega
    rw [hqe] at HR
    have HRN := Lib.hid hRn
    have HLT := Lib.hid hlt
    have HHL := Lib.hid hl
    clear hR hRl hRn hlt hl hqe
    subst hv
    go_enter Tryd.func128, Tryd.ntmps128
    go_upto_region 3 with fail
    have hcell := (Row.cells hrow).2 q (.int .u8 (R[q].toNat : Nat)) (by simp [byteVs, hqn])
    have hfree : w.frozen? ⟨g, off + q, none⟩ = false := Row.free hrow
    have hgb : g ≠ b := fun e => hap (by rw [e]; rfl)
    have hq0 : (0 : Int) ≤ (q : Int) := by omega
    have hq1 : (q : Int) < (R.length : Int) := by omega
    clear hlen hdl
    go_region
    go_wp2_with fail
    go_end0
    have hwt : wrap64 ((all.length : Int) + 1) = ((all ++ [c]).length : Nat) := by
      have := HHL.out
      rw [List.length_append]
      unfold wrap64
      simp
      omega
    rw [hwt]
    have hrs := Row.set hrow (by simpa [byteVs_length] using hqn) (.int .u8 (c.toNat : Nat))
    rw [byteVs_set] at hrs
    have hT1 : Touch (fun k => k = g) w (w.setCell ⟨g, off + q, none⟩ (.int .u8 (c.toNat : Nat))) := (Touch.refl (fun k => k = g) w).setCell (Or.inl rfl) _
    have hC1 := hC0.kept hT1 (fun e => hgb e.symm)
    have hl2 : (R.set q c).length = R.length := List.length_set ..
    refine ⟨rfl, _, ⟨R.set q c, _, (hC1.set1 _).drew, ?_, hap, rfl, HR.out⟩, Sep.refl _ _, ?_⟩
    · exact hrs.kept (((Touch.refl (fun k => k = b) _).setCell (p := ⟨b, o + 1, none⟩) (Or.inl rfl) _).drew) (fun g' hg' e => hgb (by have := Option.some.inj hg'; rw [← e, ← this]))
    · exact (((Touch.refl (fun k => k = b ∨ (Value.slice (some ⟨g, off, none⟩) R.length cap).ownBlock = some k) w).setCell (p := ⟨g, off + q, none⟩) (Or.inl (Or.inr rfl)) _).setCell (p := ⟨b, o + 1, none⟩) (Or.inl (Or.inl rfl)) _).drew

theorem put_nil (c : Int) (w : World) : Calls Tryd.prog 128 #[.pointer none, .int .u8 c] w fun e w' => e = .returned (.tuple #[]) ∧ w = w' := by
  go_enter Tryd.func128, Tryd.ntmps128
  go_wp2
  ((try simp only [Exit.inBlock, Exit.then]); refine bodyPost_ret (results_none rfl _ _ _) rfl ?_); exact ⟨rfl, rfl⟩

theorem len_nil (w : World) : Calls Tryd.prog 158 #[.pointer none] w fun e w' => e = .returned (.int .i64 0) ∧ w = w' := by
  go_enter Tryd.func158, Tryd.ntmps158
  go_wp2
  go_ret
  exact ⟨rfl, rfl⟩
theorem winlen_calls (b o : Nat) (all : List UInt8) (row : Option Nat) (w : World) (h : WinAt φ w b o all row) :
    Calls Tryd.prog 158 #[.pointer (some ⟨b, o, none⟩)] w fun e w' => e = .returned (.int .i64 (min all.length 32768 : Nat)) ∧ w = w' := by
  obtain ⟨R, v, ⟨c0, c1, f0, f1⟩, hrow, hap, rfl, hR⟩ := h
  obtain ⟨a, cap, hv, hc1, hc2⟩ := hrow.form
  rw [byteVs_length] at hv
  subst hv
  rw [← hR.1]
  clear hR hrow hap
  go_enter Tryd.func158, Tryd.ntmps158
  go_wp2
  go_ret
  exact ⟨rfl, rfl⟩
theorem has_nil (d : Int) (w : World) : Calls Tryd.prog 149 #[.pointer none, .int .i64 d] w fun e w' => e = .returned (.bool false) ∧ w = w' := by
  by_cases h : 1 ≤ d
  · have hd : decide (d ≤ 0) = false := decide_eq_false (by omega)
    go_enter Tryd.func149, Tryd.ntmps149
    go_wp2_with (go_at_call 158; refine (len_nil _).mono ?_; rintro e w' ⟨rfl, rfl⟩)
    go_ret
    exact ⟨by first | rfl | exact ret1 (congrArg Value.bool hd), rfl⟩
  · go_enter Tryd.func149, Tryd.ntmps149
    go_wp2_with (go_at_call 158; refine (len_nil _).mono ?_; rintro e w' ⟨rfl, rfl⟩)
    go_ret
    exact ⟨rfl, rfl⟩
theorem has_calls (b o : Nat) (all : List UInt8) (row : Option Nat) (d : Int) (w : World) (h : WinAt φ w b o all row) :
    Calls Tryd.prog 149 #[.pointer (some ⟨b, o, none⟩), .int .i64 d] w fun e w' => e = .returned (.bool (decide (1 ≤ d ∧ d ≤ (min all.length 32768 : Nat)))) ∧ Touch (fun _ => False) w w' := by
  have HL := Lib.hid (fun W (ht : Touch (fun _ => False) w W) => winlen_calls b o all row W (h.still ht))
  generalize min all.length 32768 = m at HL ⊢
  by_cases h1 : 1 ≤ d
  · go_enter Tryd.func149, Tryd.ntmps149
    go_wp2_with (go_at_call 158; refine (HL.out _ (by first | exact Touch.refl _ _ | exact (Touch.refl _ _).drew)).mono ?_; rintro e w' ⟨rfl, rfl⟩)
    all_goals go_ret
    all_goals exact ⟨ret1 (congrArg Value.bool (by by_cases hx : d ≤ (m : Int) <;> simp [h1, hx])), by first | exact Touch.refl _ _ | exact (Touch.refl _ _).drew⟩
  · go_enter Tryd.func149, Tryd.ntmps149
    go_wp2_with (go_at_call 158; refine (HL.out _ (by first | exact Touch.refl _ _ | exact (Touch.refl _ _).drew)).mono ?_; rintro e w' ⟨rfl, rfl⟩)
    all_goals go_ret
    all_goals exact ⟨ret1 (congrArg Value.bool (by simp; omega)), by first | exact Touch.refl _ _ | exact (Touch.refl _ _).drew⟩
end Go.Proofs.YtoaeffinjpkahaaDoor

/- The reference of layer 25, second part: Take where nothing is taken. -/
import Derived.Test.YtimiiahhedpfaaaRvR
import Derived.Test.YtimiiahhedpfaaaDosQ
namespace Go.Proofs.Ytimiiahhedpfaaa
open Go Go.RowKit Go.Maps Go.MapKept Go.ChangeMaps
set_option maxRecDepth 100000

theorem Try.sizeR5 : (Try.prog.info? 32).map (·.size) = some 3 := by kernel_rfl
theorem m_set3 {w : World} {x : Nat} {nx nx' : Int} {tv bv tv' bv' : Value} (h : MBox w x nx tv bv) :
    MBox (((w.setCell ⟨x, 0, none⟩ (.int .u32 nx')).setCell ⟨x, 1, none⟩ tv').setCell ⟨x, 2, none⟩ bv') x nx' tv' bv' :=
  Block.set (Block.set (Block.set h 0 _) 1 _) 2 _
theorem m_touch3 {w : World} (x : Nat) (u0 u1 u2 : Value) : Touch (fun j => j = x) w (((w.setCell ⟨x, 0, none⟩ u0).setCell ⟨x, 1, none⟩ u1).setCell ⟨x, 2, none⟩ u2) :=
  (((Touch.refl (fun j => j = x) w).setCell (p := ⟨x, 0, none⟩) (Or.inl rfl) _).setCell (p := ⟨x, 1, none⟩) (Or.inl rfl) _).setCell (p := ⟨x, 2, none⟩) (Or.inl rfl) _
theorem new_touch {w w' : World} (h : Touch (fun j => w.heap.size ≤ j) w w') : Touch (fun _ => False) w w' :=
  ⟨h.os, h.tape, h.output, h.size, fun k hk _ => h.block k hk (by omega)⟩

set_option maxHeartbeats 4000000 in
theorem rrtake_no (f b sz d : Nat) (tv bv : Value) (A : Nat → Option ByteArray) (t : ByteArray) (w : World) (ht : Reads w tv (tR A b sz)) (ha : Reads w bv (bR A b sz)) (hz2 : sz ≤ 32) (_hf : f < 4294967296) (hd : d < 4294967296)
    (hno : 256 < t.size ∨ sz ≤ d ∨ (A (b + d)).isSome = true) :
    Calls Try.prog 16 #[.agg #[.int .u32 (numU f b : Nat), tv, bv], .int .u32 (numU f (b + d) : Nat), .string t] w fun e w' =>
      e = .returned (.tuple #[.agg #[.int .u32 (numU f b : Nat), tv, bv], .bool false]) ∧ Touch (fun _ => False) w w' := by
  obtain ⟨a2, k2, rfl, hk1, hk2⟩ := ha.form
  obtain ⟨a1, k1, rfl, hj1, hj2⟩ := ht.form
  unfold maxLen at hk2 hj2
  rw [bR_len] at hk1 ha ⊢
  rw [tR_len] at hj1 ht ⊢
  have HA := Lib.hid ha
  have hcmp : ∀ i, i < sz → i ≠ d → ¬ ((numU f b : Int) + (i : Int)) % 4294967296 = (numU f (b + d) : Int) := fun i hi hne h => by unfold numU at h; omega
  have hsame : d < sz → ((numU f b : Int) + (d : Int)) % 4294967296 = (numU f (b + d) : Int) := fun hi => by unfold numU; omega
  have HC := Lib.hid hcmp
  have HSM := Lib.hid hsame
  have HNO := Lib.hid hno
  generalize numU f b = nx at *
  generalize numU f (b + d) = u at *
  clear ha ht hcmp hsame
  go_enter Try.func16, Try.ntmps16
  go_upto_region 1 with fail
  obtain ⟨x, hx⟩ : ∃ x, x = w.heap.size := ⟨_, rfl⟩
  obtain ⟨rb, hrb⟩ : ∃ x, x = w.heap.size + 1 := ⟨_, rfl⟩
  rw [← hrb, ← hx]
  generalize hw1 : World.alloc (w.alloc _) _ = w1
  have hM1 : MBox w1 x nx (.slice a1 sz k1) (.slice a2 sz k2) := by
    rw [← hw1, hx]
    exact MBox.kept (S := fun _ => False) (Block.new w _ _) ((Touch.refl _ _).alloc _) id
  have hR1 : MBox w1 rb 0 (.slice none 0 0) (.slice none 0 0) := by
    rw [← hw1, hrb, ← alloc_size w]
    exact Block.new _ _ _
  have hT1 : Touch (fun _ => False) w w1 := by rw [← hw1]; exact ((Touch.refl _ w).alloc _).alloc _
  have hlt1 : x < w1.heap.size ∧ rb < w1.heap.size ∧ x ≠ rb ∧ w.heap.size ≤ x ∧ w.heap.size ≤ rb := ⟨Block.lt hM1, Block.lt hR1, by omega, by omega, by omega⟩
  obtain ⟨c0, c1, c2⟩ := hM1.cells
  obtain ⟨b0, b1, b2⟩ := hR1.cells
  have d0 := Block.free hR1 0
  have d1 := Block.free hR1 1
  have d2 := Block.free hR1 2
  have HR1 := Lib.hid hR1
  have HT1 := Lib.hid hT1
  have HLT := Lib.hid hlt1
  have hend : MBox (((w1.setCell ⟨rb, 0, none⟩ (.int .u32 nx)).setCell ⟨rb, 1, none⟩ (.slice a1 sz k1)).setCell ⟨rb, 2, none⟩ (.slice a2 sz k2)) rb nx (.slice a1 sz k1) (.slice a2 sz k2) := m_set3 hR1
  have HEND := Lib.hid hend
  have htch : Touch (fun _ => False) w (((w1.setCell ⟨rb, 0, none⟩ (.int .u32 nx)).setCell ⟨rb, 1, none⟩ (.slice a1 sz k1)).setCell ⟨rb, 2, none⟩ (.slice a2 sz k2)) :=
    new_touch ((hT1.mono (fun j e => e.elim)).trans ((m_touch3 rb _ _ _).mono (fun j e => by omega)))
  have HTCH := Lib.hid htch
  clear hw1 hx hrb hM1 hR1 hT1 hlt1 hend htch
  by_cases hlong : 256 < t.size
  · have hlI : (256 : Int) < (t.size : Int) := by omega
    clear hno
    go_wp2_with fail
    refine bodyPost_ret (results_cell_slot rfl _ _ rb _ _ _ _ rfl HEND.out Try.underlying32 rfl Try.sizeR5) rfl ⟨rfl, ?_⟩
    exact HTCH.out
  · have hlI : ¬ (256 : Int) < (t.size : Int) := by omega
    have HNO2 : Hid (sz ≤ d ∨ (A (b + d)).isSome = true) := Lib.hid (hno.resolve_left hlong)
    clear hno
    go_wp2_with fail
    go_loopw [8] (fun iv wr => RowKit.Hid (wr = w1) ∧ ∃ i : Nat, i ≤ sz ∧ iv = .int .i64 (i : Nat)) (fun iv _ => sz - (RowKit.intOf iv).toNat)
    case atStart => exact ⟨by first | exact Lib.hid rfl | exact Lib.hid trivial, 0, Nat.zero_le _, rfl⟩
    case round =>
      obtain ⟨hw, i, hi, rfl⟩ := hrel
      obtain rfl := hw.out
      clear hw
      by_cases hlt : i < sz
      · have hltI : (i : Int) < (sz : Int) := by omega
        by_cases hid : i = d
        · obtain ⟨gb, off, k9, hv, _, _, hg, hcell⟩ := (HA.out.still HT1.out).addr (by rw [bR_len]; omega)
          rw [bR_len] at hv
          injection hv with e1 _ _
          subst e1
          have hx := hcell i _ (bR_get hlt)
          rw [hid] at hx
          rw [(HNO2.out.resolve_left (by omega))] at hx
          rw [← hid] at hx
          have hs := HSM.out (by omega)
          rw [← hid] at hs
          clear hcell hid
          go_wp2_with fail
          go_roundw
          case rel => exact ⟨by first | exact Lib.hid rfl | exact Lib.hid trivial, i + 1, by omega, by go_num⟩
          case measure => simp [RowKit.intOf]; omega
        · have hs := HC.out i hlt hid
          clear hid
          go_wp2_with fail
          go_roundw
          case rel => exact ⟨by first | exact Lib.hid rfl | exact Lib.hid trivial, i + 1, by omega, by go_num⟩
          case measure => simp [RowKit.intOf]; omega
      · have hltI : ¬ (i : Int) < (sz : Int) := by omega
        go_wp2_with fail
        refine bodyPost_ret (results_cell_slot rfl _ _ rb _ _ _ _ rfl HEND.out Try.underlying32 rfl Try.sizeR5) rfl ⟨rfl, ?_⟩
        exact HTCH.out
end Go.Proofs.Ytimiiahhedpfaaa

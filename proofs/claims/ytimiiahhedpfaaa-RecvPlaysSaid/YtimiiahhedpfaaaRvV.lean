/- The reference of layer 25, fifth part: Step where there is no next text. -/
import Derived.Test.YtimiiahhedpfaaaRvU
namespace Go.Proofs.Ytimiiahhedpfaaa
open Go Go.RowKit Go.Maps Go.MapKept Go.ChangeMaps
set_option maxRecDepth 100000

theorem results_cell_slots {P : Program} {fn : Func} {p q r : Tmp} {ty : TypeId} (h : fn.results = #[.cell p ty, .tmp q, .tmp r]) (tmps : Array Value) (w : World) (g : Nat) (t : TypeId) (cs : Array Value) (fr : Nat × Nat) (d : TypeDesc)
    (hp : tmps.getD p undef = .pointer (some ⟨g, 0, none⟩)) (hg : w.heap[g]? = some (.cells cs t fr))
    (hu : P.underlying ty = some d) (hd : (match d with | .struct _ | .array _ _ => true | _ => false) = true) (hi : (P.info? ty).map (·.size) = some cs.size) :
    (results fn tmps).run P w = .ok (.tuple #[.agg cs, tmps.getD q undef, tmps.getD r undef]) w := by
  have hp' : tmps[p]?.getD undef = .pointer (some ⟨g, 0, none⟩) := by simpa using hp
  simp [results, h, hp', asAddr, run_loadVar_row w g t ty cs fr d hg hu hd hi]

set_option maxHeartbeats 4000000 in
theorem rrstep_none (nx : Int) (b sz : Nat) (tv bv : Value) (A : Nat → Option ByteArray) (w : World) (ht : Reads w tv (tR A b sz)) (ha : Reads w bv (bR A b sz)) (hz1 : 1 ≤ sz) (hz2 : sz ≤ 32) (hno : A b = none) :
    Calls Try.prog 15 #[.agg #[.int .u32 nx, tv, bv]] w fun e w' =>
      e = .returned (.tuple #[.agg #[.int .u32 nx, tv, bv], .string ⟨#[]⟩, .bool false]) ∧ Touch (fun _ => False) w w' := by
  obtain ⟨a2, k2, rfl, hk1, hk2⟩ := ha.form
  obtain ⟨a1, k1, rfl, hj1, hj2⟩ := ht.form
  unfold maxLen at hk2 hj2
  rw [bR_len] at hk1 ha ⊢
  rw [tR_len] at hj1 ht ⊢
  have HA := Lib.hid ha
  have HNO := Lib.hid hno
  clear ha ht hno
  go_enter Try.func15, Try.ntmps15
  go_upto_region 1 with fail
  obtain ⟨x, hx⟩ : ∃ x, x = w.heap.size := ⟨_, rfl⟩
  obtain ⟨rb, hrb⟩ : ∃ x, x = w.heap.size + 1 := ⟨_, rfl⟩
  rw [← hrb, ← hx]
  generalize hw1 : World.alloc (w.alloc _) _ = w1
  have hM1 : MBox w1 x nx (.slice a1 sz k1) (.slice a2 sz k2) := by
    rw [← hw1, hx]
    exact MBox.kept (S := fun _ => False) (Block.new w _ _) ((Touch.refl _ _).alloc _) id
  have hR1 : MBox w1 rb 0 (.slice none 0 0) (.slice none 0 0) := by
    rw [← hw1, hrb, ← alloc_size w]
    exact Block.new _ _ _
  have hT1 : Touch (fun _ => False) w w1 := by rw [← hw1]; exact ((Touch.refl _ w).alloc _).alloc _
  have hlt1 : x < w1.heap.size ∧ rb < w1.heap.size ∧ x ≠ rb ∧ w.heap.size ≤ x ∧ w.heap.size ≤ rb := ⟨Block.lt hM1, Block.lt hR1, by omega, by omega, by omega⟩
  obtain ⟨gb, off, k9, hv, _, _, hg, hcell⟩ := (HA.out.still hT1).addr (by rw [bR_len]; omega)
  rw [bR_len] at hv
  injection hv with e1 _ e3
  subst e1
  subst e3
  have hx0 := hcell 0 _ (bR_get (by omega))
  simp only [Nat.add_zero] at hx0
  rw [HNO.out] at hx0
  replace hx0 : w1.cell? ⟨gb, off + 0, none⟩ = some (.bool false) := hx0
  have hx1 : w1.cell? ⟨gb, off, none⟩ = some (.bool false) := hx0
  obtain ⟨c0, c1, c2⟩ := hM1.cells
  obtain ⟨b0, b1, b2⟩ := hR1.cells
  have d0 := Block.free hR1 0
  have d1 := Block.free hR1 1
  have d2 := Block.free hR1 2
  have hend : MBox (((w1.setCell ⟨rb, 0, none⟩ (.int .u32 nx)).setCell ⟨rb, 1, none⟩ (.slice a1 sz k1)).setCell ⟨rb, 2, none⟩ (.slice (some ⟨gb, off, none⟩) sz k2)) rb nx (.slice a1 sz k1) (.slice (some ⟨gb, off, none⟩) sz k2) := m_set3 hR1
  have HEND := Lib.hid hend
  have htch : Touch (fun _ => False) w (((w1.setCell ⟨rb, 0, none⟩ (.int .u32 nx)).setCell ⟨rb, 1, none⟩ (.slice a1 sz k1)).setCell ⟨rb, 2, none⟩ (.slice (some ⟨gb, off, none⟩) sz k2)) :=
    new_touch ((hT1.mono (fun j e => e.elim)).trans ((m_touch3 rb _ _ _).mono (fun j e => by omega)))
  have HTCH := Lib.hid htch
  clear hw1 hx hrb hM1 hR1 hT1 hlt1 hend htch hcell hg
  go_wp2_with fail
  refine bodyPost_ret (results_cell_slots rfl _ _ rb _ _ _ _ rfl HEND.out Try.underlying32 rfl Try.sizeR5) rfl ⟨rfl, ?_⟩
  exact HTCH.out
end Go.Proofs.Ytimiiahhedpfaaa

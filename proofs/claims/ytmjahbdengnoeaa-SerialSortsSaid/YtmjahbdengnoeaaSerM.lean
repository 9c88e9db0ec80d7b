/- A map from numbers of 32 bits to counts, as a function; an argument []uint32. -/
import Derived.Test.YtmjahbdengnoeaaSerE
import Derived.Test.YtmjahbdengnoeaaOpen
import Derived.Maps.OwnSet
import Derived.Maps.Ext
import Derived.Maps.RangeWalk
import Derived.ChangeMaps
namespace Go.Proofs.Ytmjahbdengnoeaa
open Go Go.RowKit Go.Maps Go.MapKept Go.ChangeMaps
set_option maxRecDepth 100000

def rdI : Value → Option (DataW Unit × List MemPlace)
  | .int k n => some (.lit (.int k n), [])
  | _ => none
theorem rdI_inv {v : Value} {k : IntKind} {n : Int} {ps : List MemPlace} (h : rdI v = some (.lit (.int k n), ps)) : v = .int k n := by
  unfold rdI at h
  split at h
  · rename_i k' n'
    have h1 := Option.some.inj h
    injection h1 with h1 _
    injection h1 with h1
    injection h1 with h1 h2
    subst h1; subst h2
    rfl
  · cases h
theorem wf_u32mk {n : Nat} (h : n < 4294967296) : (Lit.int .u32 (n : Int)).wf = true := by
  simp [Lit.wf, IntKind.min, IntKind.max, IntKind.signed, IntKind.bits]; omega
theorem Try.keyedU : Keyed Try.prog 22 := int_keyed Try.underlying22
theorem keyU {n : Nat} (h : n < 4294967296) : keyOf Try.prog 22 (.int .u32 (n : Int)) = some (.int .u32 (n : Int)) := keyOf_int_mk Try.underlying22 (wf_u32mk h)
def MapU (w : World) (mb n : Nat) (c : Nat → Int) : Prop := ∃ D : DataW Unit, w.ownsMap Try.prog 22 rdI mb n D ∧ Tidy D ∧ ∀ x : Nat, D.atKey (.int .u32 (x : Int)) (.lit (.int .i64 0)) = .lit (.int .i64 (c x))
theorem MapU.lt {w : World} {mb n : Nat} {c : Nat → Int} (h : MapU w mb n c) : mb < w.heap.size := by
  obtain ⟨D, h, _⟩ := h; exact h.lt
theorem MapU.of_block {w w' : World} {mb n : Nat} {c : Nat → Int} (h : MapU w mb n c) (hb : w'.heap[mb]? = w.heap[mb]?) : MapU w' mb n c := by
  obtain ⟨D, ⟨es, clock, h1, h2⟩, h3⟩ := h
  exact ⟨D, ⟨es, clock, hb.trans h1, h2⟩, h3⟩
theorem MapU.congr {w : World} {mb n : Nat} {c c' : Nat → Int} (h : MapU w mb n c) (hc : ∀ x, c x = c' x) : MapU w mb n c' := by
  obtain ⟨D, h1, h2, h3⟩ := h
  exact ⟨D, h1, h2, fun x => by rw [h3, hc]⟩
theorem zeroI (w : World) : (zeroValue 3).run Try.prog w = .ok (.int .i64 0) w := by kernel_rfl
theorem MapU.look {w : World} {mb n : Nat} {c : Nat → Int} (h : MapU w mb n c) (x : Nat) (hx : x < 4294967296) :
    (Instr.lookup 32 (.map (some mb)) (.int .u32 (x : Int)) false).run Try.prog w = .ok (.int .i64 (c x)) w := by
  obtain ⟨D, hown, _, hD⟩ := h
  obtain ⟨v, ps, hrun, hv⟩ := hown.lookup Try.keyedU Try.underlying32 (zeroI w) (show rdI (.int .i64 0) = some (.lit (.int .i64 0), []) from rfl) (keyU hx)
  rw [hD] at hv
  rw [hrun, rdI_inv hv]
theorem MapU.store {w : World} {mb n : Nat} {c : Nat → Int} (h : MapU w mb n c) (hn : n < maxLen) (x : Nat) (hx : x < 4294967296) (z : Int) :
    ∃ w', (Instr.mapUpdate 32 (.map (some mb)) (.int .u32 (x : Int)) (.int .i64 z)).run Try.prog w = .ok () w' ∧ MapU w' mb (n + 1) (fun y => if y = x then z else c y) ∧ w.grownBy w' (some mb) := by
  obtain ⟨D, hown, ht, hD⟩ := h
  obtain ⟨w', h1, h2, h3⟩ := hown.update Try.keyedU Try.underlying32 hn (keyU hx) (show rdI (.int .i64 z) = some (.lit (.int .i64 z), []) from rfl)
  have hk : WideAt.IsKeyLit (.int .u32 (x : Int)) := trivial
  refine ⟨w', h1, ⟨_, h2, ht.put hk _, fun y => ?_⟩, h3⟩
  show _ = DataW.lit (.int .i64 (if y = x then z else c y))
  by_cases hy : y = x
  · subst hy
    rw [if_pos rfl]
    exact atKey_put_same ht.isMap hk _ _
  · rw [if_neg hy, atKey_put_other (fun e => hy (by injection e with _ e; omega)), hD]
theorem MapU.made (w : World) : MapU (w.alloc (.map #[] 0)) w.heap.size 0 (fun _ => 0) := ⟨.map [], World.ownsMap_made w _ _ _, tidy_empty, fun _ => rfl⟩

theorem count_take (l : List Nat) (k : Nat) (h : k < l.length) (y : Nat) : ((l.take (k + 1)).count y : Int) = if y = l[k] then ((l.take k).count l[k] : Int) + 1 else ((l.take k).count y : Int) := by
  rw [List.take_succ_eq_append_getElem h, List.count_append]
  by_cases hy : y = l[k]
  · rw [if_pos hy, hy]; simp
  · rw [if_neg hy]
    have : List.count y [l[k]] = 0 := List.count_eq_zero.2 (by simpa using hy)
    rw [this]; simp
theorem count_perm_lt {q dl : List Nat} (hp : dl.Perm q) (k : Nat) (h : k < dl.length) : (dl.take k).count dl[k] + 1 ≤ q.count dl[k] := by
  rw [← hp.count_eq]
  have h1 : (dl.take (k + 1)).count dl[k] ≤ dl.count dl[k] := (List.take_sublist _ _).count_le _
  have h2 := count_take dl k h dl[k]
  rw [if_pos rfl] at h2
  omega

section
open Go.WideShapes Go.ChangeShapes
theorem Try.cellsU32 : Try.prog.cellsOf 22 = 1 := by kernel_rfl
theorem wf_u32' {n : Int} (h : (Lit.int .u32 n).wf = true) : 0 ≤ n ∧ n ≤ 4294967295 := by
  simpa [Lit.wf, IntKind.min, IntKind.max, IntKind.signed, IntKind.bits] using h
theorem open_u32s {H : Type} {enc : TypeId × Value → H} {P : Program} {w : World} {r : Reach} {b0 : Nat} {t e : TypeId} {v : Value} {d : DataW H} {p : List MemPlace}
    (ht : P.underlying t = some (.slice e)) (he : P.underlying e = some (.int .u32)) (hC : P.cellsOf e = 1) (hval : Value.okWide P w r b0 t v) (h : DataW.Trod enc P w 0 (fun _ => true) true t v d p) :
    ∃ l : List Nat, Reads w v (u32V l) ∧ ∀ n ∈ l, n < 4294967296 := by
  obtain ⟨a, n, cap, rfl, h1, h2, h3⟩ := open_slice_any ht hC (by omega) hval h
  rcases h3 with rfl | ⟨g, off, rfl, _, h3⟩
  · exact ⟨[], ⟨a, cap, rfl, h1, h2, .inl rfl⟩, fun s hs => by cases hs⟩
  · have h4 : ∀ i, i < n → ∃ s : Nat, w.cell? ⟨g, off + i, none⟩ = some (.int .u32 (s : Int)) ∧ s < 4294967296 := fun i hi => by
      obtain ⟨cs, f, y, c1, c2, c3⟩ := h3 i hi
      match cs, c1 with
      | [c0], _ =>
        obtain ⟨s, e0, _, w0⟩ := DataW.trod_int he c3
        injection e0 with e0 _
        subst e0
        have := c2 0 (by omega)
        rw [Nat.mul_one, Nat.add_zero] at this
        obtain ⟨q1, q2⟩ := wf_u32' w0
        exact ⟨s.toNat, by rw [Int.toNat_of_nonneg q1]; exact this, by omega⟩
    have hF : ∃ F : Nat → Nat, ∀ i, i < n → w.cell? ⟨g, off + i, none⟩ = some (.int .u32 (F i : Int)) ∧ F i < 4294967296 :=
      ⟨fun i => if h : i < n then (h4 i h).choose else 0, fun i hi => by simp only [dif_pos hi]; exact (h4 i hi).choose_spec⟩
    obtain ⟨F, hF⟩ := hF
    have hlen : (u32V ((List.range n).map F)).length = n := by simp [u32V]
    refine ⟨(List.range n).map F, ⟨some ⟨g, off, none⟩, cap, by rw [hlen], by omega, h2, .inr ⟨g, off, rfl, fun j u hu => ?_⟩⟩, fun s hs => ?_⟩
    · have hj : j < n := by
        have := (List.getElem?_eq_some_iff.1 hu).1
        omega
      simp [u32V, hj] at hu
      rw [← hu]
      exact (hF j hj).1
    · obtain ⟨i, hi, rfl⟩ := List.mem_map.1 hs
      exact (hF i (by simpa using hi)).2
end
end Go.Proofs.Ytmjahbdengnoeaa

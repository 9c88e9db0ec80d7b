
/- Tools: appends to slices that were just made, by what they leave, whatever order a region draws: empty ones (Pin of no element), ones of one element (One), and what is appended to them. No program is named here. -/
import Derived.Test.YtoaeffinjpkahaaDoorArr
import Derived.Test.YtoaeffinjpkahaaDoorDosQ
import Derived.Deep.AppendSrc
import Derived.Laws.Append
namespace Go.Proofs.YtoaeffinjpkahaaDoor
set_option linter.unusedSimpArgs false
set_option linter.unusedVariables false
open Go Go.RowKit
set_option maxRecDepth 100000

/-- A slice that was made behind N blocks, from the beginning of its own block on. -/
def Pin (W : World) (N : Nat) (T : TypeId) (l : List Value) (v : Value) : Prop :=
  ∃ g c cur, v = .slice (some ⟨g, 0, none⟩) l.length c ∧ W.heap[g]? = some (.cells cur T (0, 0)) ∧ l.length ≤ c ∧ c ≤ maxLen ∧ c ≤ cur.size ∧ (l = [] → c = 0 ∧ cur.size = 0) ∧ cur.toList.take l.length = l ∧ N ≤ g
/-- A slice of one element that was made behind N blocks. -/
def One (W : World) (N : Nat) (T : TypeId) (u v : Value) : Prop := ∃ g, v = .slice (some ⟨g, 0, none⟩) 1 1 ∧ W.heap[g]? = some (.cells #[u] T (0, 0)) ∧ N ≤ g

theorem Pin.kept {S : Nat → Prop} {W W' : World} {N : Nat} {T : TypeId} {l : List Value} {v : Value} (h : Pin W N T l v) (ht : Touch S W W') (hs : ∀ k, S k → k < N) : Pin W' N T l v := by
  obtain ⟨g, c, cur, h1, h2, h3⟩ := h
  exact ⟨g, c, cur, h1, by rw [ht.block g (row_lt h2) (fun e => by have := hs g e; omega)]; exact h2, h3⟩
theorem One.kept {S : Nat → Prop} {W W' : World} {N : Nat} {T : TypeId} {u v : Value} (h : One W N T u v) (ht : Touch S W W') (hs : ∀ k, S k → k < N) : One W' N T u v := by
  obtain ⟨g, h1, h2, h3⟩ := h
  exact ⟨g, h1, by rw [ht.block g (row_lt h2) (fun e => by have := hs g e; omega)]; exact h2, h3⟩
theorem Pin.row {W : World} {N : Nat} {T : TypeId} {l : List Value} {v : Value} (h : Pin W N T l v) : Row W T v l := by
  obtain ⟨g, c, cur, h1, h2, h3, h4, h5, _, h6, _⟩ := h
  exact .inr ⟨g, 0, c, cur, h1, h2, h3, h4, by omega, by simpa using h6⟩
theorem Pin.own {W : World} {N : Nat} {T : TypeId} {l : List Value} {v : Value} (h : Pin W N T l v) : ∀ g, v.ownBlock = some g → N ≤ g := by
  obtain ⟨g, c, cur, rfl, _, _, _, _, _, _, h⟩ := h
  intro g' hg
  have e : g = g' := Option.some.inj hg
  omega
theorem Pin.made (W : World) {N : Nat} (T : TypeId) (hN : N ≤ W.heap.size) : Pin (W.alloc (.cells #[] T)) N T [] (.slice (some ⟨W.heap.size, 0, none⟩) 0 0) :=
  ⟨W.heap.size, 0, #[], rfl, heap_alloc_new W _, Nat.le_refl _, Nat.zero_le _, Nat.zero_le _, fun _ => ⟨rfl, rfl⟩, rfl, hN⟩
theorem One.made (W : World) {N : Nat} (T : TypeId) (u : Value) (hN : N ≤ W.heap.size) : One (W.alloc (.cells #[u] T)) N T u (.slice (some ⟨W.heap.size, 0, none⟩) 1 1) := ⟨W.heap.size, rfl, heap_alloc_new W _, hN⟩

section
variable {P : Program} {t tx T : TypeId} {i : TypeInfo} {z : Value}

/-- append to an empty slice that was just made: nothing that was there is written to. -/
theorem app_empty (ty : TypeId) (ht : P.underlying t = some (.slice T)) (hi : P.info? T = some i) (hz : i.zero = some z) (hs1 : i.size = 1) (hby : i.bytes ≤ 16) (hzs : z.cells.size = 1)
    {W : World} {N : Nat} {v x : Value} {n : Nat} {news : List Value} (h : Pin W N T [] v) (hs : Src P 1 tx x n news W) (hn : n ≤ 1000) (hN : N ≤ W.heap.size) :
    ∃ v' W', (Builtin.append_ #[t, tx] ty #[v, x]).run P W = .ok v' W' ∧ Pin W' N T news v' ∧ Touch (fun _ => False) W W' := by
  obtain ⟨g, c, cur, rfl, h2, h3, h4, h5, h6, h7, h8⟩ := h
  obtain ⟨hc0, hcz⟩ := h6 rfl
  subst hc0
  clear h6
  have hnl : news.length = n := by have := hs.newsLen; omega
  have hs' : Src P i.size tx x n news W := by rw [hs1]; exact hs
  rcases Nat.eq_zero_or_pos n with hn0 | hn0
  · subst hn0
    obtain rfl : news = [] := List.eq_nil_of_length_eq_zero hnl
    exact ⟨_, _, run_append_nothing (P := P) W t tx ty T i ht hi (some ⟨g, 0, none⟩) 0 0 (Nat.le_refl _) x hs', ⟨g, 0, cur, rfl, h2, Nat.le_refl _, h4, h5, fun _ => ⟨rfl, hcz⟩, rfl, h8⟩, Touch.refl _ _⟩
  · have hold : (Builtin.firstCells i.size 0 (.slice (some ⟨g, 0, none⟩) 0 0)).run P W.drew = .ok ([] : List Value).toArray W.drew := run_firstCells_some W.drew i.size 0 ⟨g, 0, none⟩ 0 0 [] (by simp) (fun j u hu => by simp at hu)
    have hb : n * i.bytes ≤ 1000 * 16 := Nat.mul_le_mul hn hby
    have hr := run_append_grow_src (P := P) W t tx ty T i z ht hi hz (some ⟨g, 0, none⟩) 0 0 [] hold x n news hs' (by omega) (by omega) (growslice_fits (by omega) (by rw [Nat.zero_add]; omega))
    have hge := grownCap_ge W (0 + n) 0 T
    have hcm : grownCap W (0 + n) 0 T ≤ maxLen := grownCap_le_maxLen W (0 + n) 0 T (by unfold maxLen; omega)
    refine ⟨_, _, hr, ⟨W.heap.size, _, _, by rw [hnl, Nat.zero_add], heap_alloc_new W.drew _, by omega, hcm, ?_, fun e => by rw [e] at hnl; simp at hnl; omega, ?_, hN⟩, ?_⟩
    · simp only [Array.size_append, List.size_toArray, List.length_append, List.length_nil, size_zeroCells, hzs, hnl]
      omega
    · simp only [List.nil_append, Array.toList_append]
      exact List.take_left
    · exact ((Touch.refl (fun _ => False) W).drew).alloc _

/-- What an append of one element to such a slice keeps. -/
structure Kept1 (W W' : World) (N : Nat) (T : TypeId) (l : List Value) (u : Value) : Prop where
  touch : Touch (fun k => N ≤ k) W W'
  pin : ∀ v, Pin W N T l v → Pin W' N T l v
  pin1 : ∀ v, Pin W N T (l ++ [u]) v → Pin W' N T (l ++ [u]) v
  one : ∀ x v, One W N T x v → One W' N T x v
  emp : ∀ v, Pin W N T [] v → Pin W' N T [] v
  other : ∀ (T' : TypeId), T' ≠ T → ∀ (k : Nat) (cs : Array Value), W.heap[k]? = some (.cells cs T' (0, 0)) → W'.heap[k]? = some (.cells cs T' (0, 0))

theorem kept1_all {W W' : World} {N : Nat} {T : TypeId} {l : List Value} {u : Value} (ht : Touch (fun _ => False) W W') : Kept1 W W' N T l u :=
  ⟨ht.mono (fun _ e => e.elim), fun _ h => h.kept ht (fun _ e => e.elim), fun _ h => h.kept ht (fun _ e => e.elim), fun _ _ h => h.kept ht (fun _ e => e.elim), fun _ h => h.kept ht (fun _ e => e.elim), fun _ _ k cs h => by rw [ht.block k (row_lt h) id]; exact h⟩

/-- append of one element that was just made. -/
theorem app_one (ty : TypeId) (ht : P.underlying t = some (.slice T)) (hi : P.info? T = some i) (hz : i.zero = some z) (hs1 : i.size = 1) (hby : i.bytes ≤ 16) (hzs : z.cells.size = 1)
    {W : World} {N : Nat} {v x u : Value} {l : List Value} (h : Pin W N T l v) (hx : One W N T u x) (h1 : u.oneCell' = true) (hl : l.length ≤ 1000) (hN : N ≤ W.heap.size) :
    ∃ v' W', (Builtin.append_ #[t, t] ty #[v, x]).run P W = .ok v' W' ∧ Pin W' N T (l ++ [u]) v' ∧ Kept1 W W' N T l u := by
  have h0 := h
  obtain ⟨g, c, cur, rfl, h2, h3, h4, h5, h6, h7, h8⟩ := h
  obtain ⟨gx, rfl, hgx, hgn⟩ := hx
  have hs : Src P 1 t (.slice (some ⟨gx, 0, none⟩) 1 1) 1 [u] W := Src.ofCell ht hgx h1
  have hs' : Src P i.size t (.slice (some ⟨gx, 0, none⟩) 1 1) 1 [u] W := by rw [hs1]; exact hs
  by_cases hroom : l.length + 1 ≤ c
  · have hlne : l ≠ [] := fun e => by have := (h6 e).1; omega
    have hl1 : 1 ≤ l.length := by rcases l with _ | ⟨a, b⟩; exact absurd rfl hlne; simp
    have hr := run_append_room_row (P := P) W t t ty T i ht hi hs1 g 0 l.length c cur h2 (.slice (some ⟨gx, 0, none⟩) 1 1) 1 [u] hs hroom (by simp; omega)
    rw [Nat.zero_add] at hr
    have hH := heap_setRow W g cur (cur.toList.take l.length ++ [u] ++ cur.toList.drop (l.length + [u].length)).toArray T h2
    have hsz : (cur.toList.take l.length ++ [u] ++ cur.toList.drop (l.length + [u].length)).toArray.size = cur.size := by
      simp only [List.size_toArray, List.length_append, List.length_take, List.length_drop, Array.length_toList, List.length_cons, List.length_nil]; omega
    have htk : ∀ m, m ≤ l.length → (cur.toList.take l.length ++ [u] ++ cur.toList.drop (l.length + [u].length)).take m = cur.toList.take m := fun m hm => by
      rw [List.append_assoc, List.take_append_of_le_length (by have hcl : cur.toList.length = cur.size := Array.length_toList; rw [List.length_take, hcl]; omega), List.take_take, Nat.min_eq_left hm]
    have htk1 : (cur.toList.take l.length ++ [u] ++ cur.toList.drop (l.length + [u].length)).take (l ++ [u]).length = l ++ [u] := by
      rw [h7]
      exact List.take_left' rfl
    have hoth : ∀ k, k ≠ g → (W.setRow g (cur.toList.take l.length ++ [u] ++ cur.toList.drop (l.length + [u].length)).toArray).heap[k]? = W.heap[k]? := fun k hk => setRow_other W g k _ hk
    generalize hW : W.setRow g (cur.toList.take l.length ++ [u] ++ cur.toList.drop (l.length + [u].length)).toArray = W' at *
    generalize hcur : (cur.toList.take l.length ++ [u] ++ cur.toList.drop (l.length + [u].length)).toArray = cur' at *
    have htk' : ∀ m, m ≤ l.length → cur'.toList.take m = cur.toList.take m := fun m hm => by rw [← hcur]; exact htk m hm
    have htk1' : cur'.toList.take (l ++ [u]).length = l ++ [u] := by rw [← hcur]; exact htk1
    have hll : (l ++ [u]).length = l.length + 1 := by simp
    refine ⟨_, _, hr, ⟨g, c, cur', by rw [hll], hH, by rw [hll]; exact hroom, h4, by omega, fun e => by simp at e, htk1', h8⟩, ⟨?_, ?_, ?_, ?_, ?_, ?_⟩⟩
    · rw [← hW]
      exact (Touch.refl _ W).setRow (Or.inl h8) _
    · rintro v ⟨g', c', cs, rfl, e2, e3, e4, e5, e6, e7, e8⟩
      by_cases hg : g' = g
      · subst hg
        rw [h2] at e2
        injection e2 with e2
        injection e2 with e2
        subst e2
        exact ⟨g', c', cur', rfl, hH, e3, e4, by omega, fun e => absurd e hlne, by rw [htk' _ (Nat.le_refl _)]; exact e7, e8⟩
      · exact ⟨g', c', cs, rfl, by rw [hoth g' hg]; exact e2, e3, e4, e5, e6, e7, e8⟩
    · rintro v ⟨g', c', cs, rfl, e2, e3, e4, e5, e6, e7, e8⟩
      by_cases hg : g' = g
      · subst hg
        rw [h2] at e2
        injection e2 with e2
        injection e2 with e2
        subst e2
        exact ⟨g', c', cur', rfl, hH, e3, e4, by omega, fun e => by simp at e, htk1', e8⟩
      · exact ⟨g', c', cs, rfl, by rw [hoth g' hg]; exact e2, e3, e4, e5, e6, e7, e8⟩
    · rintro x v ⟨g', rfl, e2, e3⟩
      have hg : g' ≠ g := fun e => by
        subst e
        rw [h2] at e2
        injection e2 with e2
        injection e2 with e2
        rw [e2] at h5
        simp at h5
        omega
      exact ⟨g', rfl, by rw [hoth g' hg]; exact e2, e3⟩
    · rintro v ⟨g', c', cs, rfl, e2, e3, e4, e5, e6, e7, e8⟩
      have hg : g' ≠ g := fun e => by
        subst e
        rw [h2] at e2
        injection e2 with e2
        injection e2 with e2
        have := (e6 rfl).2
        rw [← e2] at this
        omega
      exact ⟨g', c', cs, rfl, by rw [hoth g' hg]; exact e2, e3, e4, e5, e6, e7, e8⟩
    · intro T' hT k cs hk
      have hg : k ≠ g := fun e => by
        subst e
        rw [h2] at hk
        injection hk with hk
        injection hk with _ hk
        exact hT hk.symm
      rw [hoth k hg]; exact hk
  · have hcells := (Row.cells h0.row).2
    have hold : (Builtin.firstCells i.size l.length (.slice (some ⟨g, 0, none⟩) l.length c)).run P W.drew = .ok l.toArray W.drew := by
      rw [hs1]
      refine run_firstCells_some W.drew 1 l.length ⟨g, 0, none⟩ l.length c l (by omega) (fun j u hu => ?_)
      have := hcells j u hu
      by_cases hj : j = 0
      · subst hj; simpa [Addr.add] using this
      · simpa [Addr.add, hj] using this
    have hb : (l.length + 1) * i.bytes ≤ 1001 * 16 := Nat.mul_le_mul (by omega) hby
    have hr := run_append_grow_src (P := P) W t t ty T i z ht hi hz (some ⟨g, 0, none⟩) l.length c l hold (.slice (some ⟨gx, 0, none⟩) 1 1) 1 [u] hs' (by omega) (by omega) (growslice_fits (by omega) (by omega))
    have hge := grownCap_ge W (l.length + 1) c T
    have hcm : grownCap W (l.length + 1) c T ≤ maxLen := grownCap_le_maxLen W (l.length + 1) c T (by unfold maxLen; omega)
    have hll : (l ++ [u]).length = l.length + 1 := by simp
    refine ⟨_, _, hr, ⟨W.heap.size, _, _, by rw [hll], heap_alloc_new W.drew _, by rw [hll]; omega, hcm, ?_, fun e => by simp at e, ?_, hN⟩, kept1_all (((Touch.refl (fun _ => False) W).drew).alloc _)⟩
    · simp only [Array.size_append, List.size_toArray, size_zeroCells, hzs, hll]
      omega
    · simp only [Array.toList_append]
      exact List.take_left
end
end Go.Proofs.YtoaeffinjpkahaaDoor

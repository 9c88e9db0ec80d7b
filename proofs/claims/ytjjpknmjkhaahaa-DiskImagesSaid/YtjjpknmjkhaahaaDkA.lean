/- The disk's cache as a list of entries by time, how the program's map tells it, and the map's operations in these words. -/
import Derived.Test.YtjjpknmjkhaahaaRows
import Derived.Test.YtjjpknmjkhaahaaNum
import Derived.Test.YtjjpknmjkhaahaaMem
import Derived.Test.YtjjpknmjkhaahaaArr
import Derived.Maps.OwnSet
import Derived.Maps.Ext
import Derived.Maps.RangeWalk
import Derived.Lib.SlKeysI
import Derived.Lib.Hide
namespace Go.Proofs.Ytjjpknmjkhaahaa
open Go Go.RowKit Go.Maps Go.MapKept Go.ChangeMaps
set_option maxRecDepth 100000

/-- An entry of the cache: its sector, what it was written with, and when. -/
structure Ent where
  k : Nat
  s : ByteArray
  t : Nat

/-- An element of the map. -/
def elV (s : ByteArray) (t : Int) : Value := .agg #[.string s, .int .i64 t]
def elD (s : ByteArray) (t : Int) : DataW Unit := .agg [.lit (.string s.data.toList), .lit (.int .i64 t)]
/-- How an element reads. -/
def rdW : Value → Option (DataW Unit × List MemPlace)
  | .agg cs => match cs.toList with
    | [.string s, .int .i64 t] => some (elD s t, [])
    | _ => none
  | _ => none

theorem rdW_mk (s : ByteArray) (t : Int) : rdW (elV s t) = some (elD s t, []) := rfl
theorem rdW_inv {v : Value} {y : DataW Unit × List MemPlace} (h : rdW v = some y) : ∃ s t, v = elV s t ∧ y = (elD s t, []) := by
  unfold rdW at h
  split at h
  · rename_i cs
    split at h
    · rename_i s t hc
      obtain ⟨l⟩ := cs
      simp at hc
      subst hc
      exact ⟨s, t, rfl, (Option.some.inj h).symm⟩
    · cases h
  · cases h
theorem ba_ext {a b : ByteArray} (h : a.data.toList = b.data.toList) : a = b := by
  apply ByteArray.ext; exact Array.toList_inj.1 h
theorem elD_inj {s s' : ByteArray} {t t' : Int} (h : elD s t = elD s' t') : s = s' ∧ t = t' := by
  unfold elD at h
  injection h with h
  injection h with h1 h2
  injection h2 with h2 _
  injection h1 with h1
  injection h1 with h1
  injection h2 with h2
  injection h2 with _ h2
  exact ⟨ba_ext h1, h2⟩

theorem wf_small {i : Int} (h0 : -9223372036854775808 ≤ i) (h1 : i ≤ 9223372036854775807) : (Lit.int .i64 i).wf = true := by
  simp [Lit.wf, IntKind.min, IntKind.max, IntKind.signed, IntKind.bits]; omega

def hasE (C : List Ent) (i : Int) : Bool := C.any fun e => ((e.k : Nat) : Int) == i
def findE (C : List Ent) (i : Int) : Option Ent := C.find? fun e => ((e.k : Nat) : Int) == i
/-- What a look-up gives. -/
def lookV (C : List Ent) (i : Int) : Value := match findE C i with
  | some e => elV e.s e.t
  | none => elV ⟨#[]⟩ 0
/-- A Write's cache. -/
def putE (C : List Ent) (k : Nat) (s : ByteArray) (t : Nat) : List Ent := C.filter (fun e => e.k != k) ++ [⟨k, s, t⟩]

theorem hasE_true {C : List Ent} {i : Int} : hasE C i = true ↔ ∃ e ∈ C, (e.k : Int) = i := by
  simp [hasE]
theorem hasE_find (C : List Ent) (i : Int) : hasE C i = (findE C i).isSome := by
  unfold hasE findE
  induction C with
  | nil => rfl
  | cons a r ih =>
    by_cases h : ((a.k : Nat) : Int) == i
    · simp [h]
    · simp [h] at ih ⊢; exact ih
theorem find_mem {C : List Ent} {i : Int} {e : Ent} (h : findE C i = some e) : e ∈ C ∧ (e.k : Int) = i :=
  ⟨List.mem_of_find?_eq_some h, by simpa using List.find?_some h⟩
theorem find_of_mem {C : List Ent} (hn : (C.map Ent.k).Nodup) {e : Ent} (h : e ∈ C) : findE C e.k = some e := by
  unfold findE
  induction C with
  | nil => cases h
  | cons a r ih =>
    have hn1 := (List.nodup_cons.1 (by simpa using hn : (a.k :: r.map Ent.k).Nodup))
    rcases List.mem_cons.1 h with rfl | h
    · simp
    · have : a.k ≠ e.k := fun h' => hn1.1 (by rw [h']; exact List.mem_map.2 ⟨e, h, rfl⟩)
      rw [List.find?_cons_of_neg (by simp; omega)]
      exact ih hn1.2 h

/-- A map's reading tells a cache. -/
structure Cached (D : DataW Unit) (C : List Ent) : Prop where
  tidy : Tidy D
  has : ∀ i : Int, Maps.has D (.int .i64 i) = hasE C i
  at' : ∀ e ∈ C, ∀ z, D.atKey (.int .i64 e.k) z = elD e.s e.t
  size : Maps.size D = C.length
  nodup : (C.map Ent.k).Nodup
  asc : C.Pairwise fun a b => a.t < b.t

theorem Cached.nil : Cached (.map []) [] := ⟨tidy_empty, fun _ => rfl, fun _ h => (by cases h), rfl, List.nodup_nil, List.Pairwise.nil⟩

theorem int_ne {i j : Int} (h : i ≠ j) : (Lit.int .i64 i) ≠ Lit.int .i64 j := fun e => h (by injection e)

theorem filter_len (C : List Ent) (k : Nat) (hn : (C.map Ent.k).Nodup) : (C.filter fun e => e.k != k).length + (if hasE C k then 1 else 0) = C.length := by
  induction C with
  | nil => rfl
  | cons a r ih =>
    have hn1 := (List.nodup_cons.1 (by simpa using hn : (a.k :: r.map Ent.k).Nodup))
    have ih := ih hn1.2
    by_cases h : a.k = k
    · subst h
      have hr : hasE r a.k = false := by
        cases hh : hasE r a.k
        · rfl
        · obtain ⟨e, he, hk⟩ := hasE_true.1 hh
          exact absurd (List.mem_map.2 ⟨e, he, by omega⟩) hn1.1
      rw [hr] at ih
      simp [hasE] at ih ⊢
      exact ih
    · have e1 : hasE (a :: r) k = hasE r k := by simp [hasE]; intro h'; omega
      rw [e1]
      rw [List.filter_cons_of_pos (by simpa using h)]
      simp only [List.length_cons]
      omega

theorem Cached.put {D : DataW Unit} {C : List Ent} (h : Cached D C) (k : Nat) (s : ByteArray) (t : Nat) (ht : ∀ e ∈ C, e.t < t) : Cached (D.put (.int .i64 k) (elD s t)) (putE C k s t) := by
  have hk : WideAt.IsKeyLit (.int .i64 (k : Int)) := trivial
  refine ⟨h.tidy.put hk _, fun i => ?_, fun e he z => ?_, ?_, ?_, ?_⟩
  · by_cases hi : i = k
    · subst hi
      rw [has_put_same h.tidy.isMap hk]
      symm
      exact hasE_true.2 ⟨⟨k, s, t⟩, by simp [putE], rfl⟩
    · rw [has_put_other (int_ne hi), h.has]
      unfold hasE putE
      rw [List.any_append, List.any_filter]
      have : ([⟨k, s, t⟩] : List Ent).any (fun e => ((e.k : Nat) : Int) == i) = false := by simp; omega
      rw [this, Bool.or_false]
      congr 1
      funext e
      by_cases he : ((e.k : Nat) : Int) = i
      · have : e.k ≠ k := by omega
        simp [this]
      · simp [he]
  · rcases List.mem_append.1 he with he | he
    · obtain ⟨h1, h2⟩ := List.mem_filter.1 he
      have : e.k ≠ k := by simpa using h2
      rw [atKey_put_other (int_ne (by omega)), h.at' e h1]
    · obtain rfl : e = ⟨k, s, t⟩ := by simpa using he
      exact atKey_put_same h.tidy.isMap hk _ _
  · rw [size_put h.tidy, h.has, h.size]
    have := filter_len C k h.nodup
    unfold putE
    rw [List.length_append]
    simp only [List.length_cons, List.length_nil]
    cases hh : hasE C k
    · simp only [hh, Bool.false_eq_true, if_false] at this ⊢; omega
    · simp only [hh, if_true] at this ⊢; omega
  · unfold putE
    rw [List.map_append]
    refine List.nodup_append.2 ⟨?_, by simp, ?_⟩
    · exact (List.Sublist.map Ent.k List.filter_sublist).nodup h.nodup
    · intro a ha b hb
      simp at hb
      subst hb
      obtain ⟨e, he, rfl⟩ := List.mem_map.1 ha
      simpa using (List.mem_filter.1 he).2
  · unfold putE
    refine List.pairwise_append.2 ⟨h.asc.filter _, List.pairwise_singleton _ _, fun a ha b hb => ?_⟩
    simp at hb
    subst hb
    exact ht a (List.mem_filter.1 ha).1

theorem Try.keyedI : Keyed Try.prog 3 := int_keyed Try.underlying3
theorem keyI {i : Int} (h0 : -9223372036854775808 ≤ i) (h1 : i ≤ 9223372036854775807) : keyOf Try.prog 3 (.int .i64 i) = some (.int .i64 i) := keyOf_int_mk Try.underlying3 (wf_small h0 h1)

/-- The disk's map: in block mb, the cache C; n bounds what it ever held. -/
def MapAt (w : World) (mb n : Nat) (C : List Ent) : Prop := ∃ D, w.ownsMap Try.prog 3 rdW mb n D ∧ Cached D C

theorem MapAt.lt {w : World} {mb n : Nat} {C : List Ent} (h : MapAt w mb n C) : mb < w.heap.size := by
  obtain ⟨D, h, _⟩ := h; exact h.lt
theorem MapAt.of_block {w w' : World} {mb n : Nat} {C : List Ent} (h : MapAt w mb n C) (hb : w'.heap[mb]? = w.heap[mb]?) : MapAt w' mb n C := by
  obtain ⟨D, ⟨es, clock, h1, h2⟩, h3⟩ := h
  exact ⟨D, ⟨es, clock, hb.trans h1, h2⟩, h3⟩
theorem MapAt.kept {S : Nat → Prop} {w w' : World} {mb n : Nat} {C : List Ent} (h : MapAt w mb n C) (ht : Touch S w w') (hn : ¬ S mb) : MapAt w' mb n C := h.of_block (ht.block mb h.lt hn)
theorem MapAt.cached {w : World} {mb n : Nat} {C : List Ent} (h : MapAt w mb n C) : (C.map Ent.k).Nodup ∧ C.Pairwise (fun a b => a.t < b.t) := by
  obtain ⟨D, _, h⟩ := h; exact ⟨h.nodup, h.asc⟩
theorem MapAt.mono {w : World} {mb n n' : Nat} {C : List Ent} (h : MapAt w mb n C) (hn : n ≤ n') : MapAt w mb n' C := by
  obtain ⟨D, h, h'⟩ := h; exact ⟨D, h.mono hn, h'⟩

theorem zeroW (w : World) : (zeroValue 58).run Try.prog w = .ok (elV ⟨#[]⟩ 0) w := by kernel_rfl

/-- 'v, ok := m[i]' and 'm[i]'. -/
theorem MapAt.look {w : World} {mb n : Nat} {C : List Ent} (h : MapAt w mb n C) (i : Int) (h0 : -9223372036854775808 ≤ i) (h1 : i ≤ 9223372036854775807) :
    (Instr.lookup 54 (.map (some mb)) (.int .i64 i) true).run Try.prog w = .ok (.tuple #[lookV C i, .bool (hasE C i)]) w ∧
    (Instr.lookup 54 (.map (some mb)) (.int .i64 i) false).run Try.prog w = .ok (lookV C i) w := by
  obtain ⟨D, hown, hC⟩ := h
  have key : ∀ {v : Value} {ps : List MemPlace}, rdW v = some (D.atKey (.int .i64 i) (elD ⟨#[]⟩ 0), ps) → v = lookV C i := fun {v ps} hv => by
    obtain ⟨s, t, rfl, he⟩ := rdW_inv hv
    have he : D.atKey (.int .i64 i) (elD ⟨#[]⟩ 0) = elD s t := by injection he
    unfold lookV
    cases hf : findE C i with
    | some e =>
      obtain ⟨hm, hk⟩ := find_mem hf
      have := hC.at' e hm (elD ⟨#[]⟩ 0)
      rw [hk, he] at this
      obtain ⟨rfl, rfl⟩ := elD_inj this
      rfl
    | none =>
      have hh : Maps.has D (.int .i64 i) = false := by rw [hC.has, hasE_find, hf]; rfl
      rw [atKey_of_not_has hh] at he
      obtain ⟨rfl, rfl⟩ := elD_inj he.symm
      rfl
  constructor
  · obtain ⟨v, ps, hrun, hv⟩ := hown.look_ok Try.keyedI Try.underlying54 (zeroW w) (rdW_mk _ _) (keyI h0 h1)
    rw [hrun, key hv, hC.has]
  · obtain ⟨v, ps, hrun, hv⟩ := hown.lookup Try.keyedI Try.underlying54 (zeroW w) (rdW_mk _ _) (keyI h0 h1)
    rw [hrun, key hv]

/-- 'm[k] = v'. -/
theorem MapAt.store {w : World} {mb n : Nat} {C : List Ent} (h : MapAt w mb n C) (hn : n < maxLen) (k : Nat) (hk : k ≤ 9223372036854775807) (s : ByteArray) (t : Nat) (ht : ∀ e ∈ C, e.t < t) :
    ∃ w', (Instr.mapUpdate 54 (.map (some mb)) (.int .i64 k) (elV s t)).run Try.prog w = .ok () w' ∧ MapAt w' mb (n + 1) (putE C k s t) ∧ w.grownBy w' (some mb) := by
  obtain ⟨D, hown, hC⟩ := h
  obtain ⟨w', h1, h2, h3⟩ := hown.update Try.keyedI Try.underlying54 hn (keyI (i := (k : Int)) (by omega) (by omega)) (rdW_mk s t)
  exact ⟨w', h1, ⟨_, h2, hC.put k s t ht⟩, h3⟩

/-- 'len(m)'. -/
theorem MapAt.len {w : World} {mb n : Nat} {C : List Ent} (h : MapAt w mb n C) (ty : TypeId) : (Builtin.len_ #[54] ty #[.map (some mb)]).run Try.prog w = .ok (.int .i64 (C.length : Nat)) w := by
  obtain ⟨D, hown, hC⟩ := h
  rw [hown.len Try.underlying54 ty, hC.size]

/-- 'clear(m)'. -/
theorem MapAt.clear {w : World} {mb n : Nat} {C : List Ent} (h : MapAt w mb n C) :
    ∃ w', (∀ ty, (Builtin.clear_ #[54] ty #[.map (some mb)]).run Try.prog w = .ok (.tuple #[]) w') ∧ MapAt w' mb 0 [] ∧ w.grownBy w' (some mb) := by
  obtain ⟨D, ⟨es, clock, hb, F, hs, hD⟩, hC⟩ := h
  refine ⟨setBlock w mb (.map #[] clock), ?_, ⟨_, ⟨#[], clock, heap_setBlock_same hb _, ⟨by simp, stamped_empty clock, by simp⟩, Nat.le_refl _, rfl⟩, Cached.nil⟩, ⟨rfl, rfl, rfl, by simp [setBlock], fun i _ hi => heap_setBlock_other hb _ (fun e => hi (by rw [e]))⟩⟩
  intro ty
  simp [Builtin.clear_, run_underlying Try.underlying54, MapKept.run_getObj_map hb, MapKept.run_setObj_map _ hb, Result.andThen, setBlock]

theorem MapAt.made (w : World) : MapAt (w.alloc (.map #[] 0)) w.heap.size 0 [] := ⟨_, World.ownsMap_made w _ _ _, Cached.nil⟩

/-- Its keys, in whatever order. -/
theorem MapAt.keys {w : World} {mb n : Nat} {C : List Ent} {D : DataW Unit} (_ : w.ownsMap Try.prog 3 rdW mb n D) (hC : Cached D C) {ss : List Int} (hn : ss.Nodup) (hs : ∀ x, x ∈ ss ↔ Maps.has D (.int .i64 x) = true) :
    ss.Perm (C.map fun e => ((e.k : Nat) : Int)) := by
  refine (List.perm_ext_iff_of_nodup hn ?_).2 fun x => ?_
  · have := hC.nodup
    rw [show (C.map fun e => ((e.k : Nat) : Int)) = (C.map Ent.k).map (fun k : Nat => (k : Int)) by simp]
    exact List.Pairwise.map _ (fun a b (h : a ≠ b) (h' : (a : Int) = b) => h (by omega)) this
  · rw [hs, hC.has, hasE_true]
    simp

end Go.Proofs.Ytjjpknmjkhaahaa

/- Contracts of package recv, first part: a map of texts as a function of places; a window in memory; New, Take, Next, and the calls of no window. -/
import Derived.Test.YtimiiahhedpfaaaSdA
import Derived.Test.YtimiiahhedpfaaaRvShelf
import Derived.Shelf.Strconv.Clone
namespace Go.Proofs.Ytimiiahhedpfaaa
open Go Go.RowKit Go.Maps Go.MapKept Go.ChangeMaps
set_option maxRecDepth 100000

/-- How a text reads. -/
def rdT : Value → Option (DataW Unit × List MemPlace)
  | .string s => some (.lit (.string s.data.toList), [])
  | _ => none
theorem rdT_mk (s : ByteArray) : rdT (.string s) = some (.lit (.string s.data.toList), []) := rfl
theorem rdT_inv {v : Value} {y : DataW Unit × List MemPlace} (h : rdT v = some y) : ∃ s, v = .string s ∧ y = (.lit (.string s.data.toList), []) := by
  unfold rdT at h
  split at h
  · exact ⟨_, rfl, (Option.some.inj h).symm⟩
  · cases h
theorem tba_ext {a b : ByteArray} (h : a.data.toList = b.data.toList) : a = b := by
  apply ByteArray.ext; exact Array.toList_inj.1 h
theorem lit_str {s t : ByteArray} (h : (DataW.lit (.string s.data.toList) : DataW Unit) = .lit (.string t.data.toList)) : s = t := by
  injection h with h
  injection h with h
  exact tba_ext h

/-- What a map's reading tells of the texts of some places. -/
structure Told (D : DataW Unit) (f : Nat) (A : Nat → Option ByteArray) : Prop where
  at' : ∀ i t, A i = some t → Maps.has D (.int .u32 (numU f i : Nat)) = true ∧ ∀ z, D.atKey (.int .u32 (numU f i : Nat)) z = .lit (.string t.data.toList)
  only : ∀ kl, Maps.has D kl = true → ∃ i t, kl = .int .u32 (numU f i : Nat) ∧ A i = some t
theorem lit_num_inj {f i j : Nat} (hi : i < 2147483648) (hj : j < 2147483648) (h : (Lit.int .u32 (numU f i : Nat)) = Lit.int .u32 (numU f j : Nat)) : i = j := by
  injection h with _ e
  exact numU_inj hi hj (Int.ofNat.inj e)

/-- A window: the next place is b, size places are taken from it on, A tells which have texts; its map may hold n entries. -/
structure RcvAt (w : World) (p mb n f b sz : Nat) (A : Nat → Option ByteArray) : Prop where
  box : Block w p 79 [.int .u32 (numU f b : Nat), .int .i64 (sz : Nat), .map (some mb)]
  map : ∃ D : DataW Unit, w.ownsMap Try.prog 22 rdT mb n D ∧ Told D f A
  ne : p ≠ mb
  hA : ∀ i t, A i = some t → b ≤ i ∧ i < b + sz ∧ t.size ≤ 256
  z1 : 1 ≤ sz
  z2 : sz ≤ 32
  hb : b ≤ 1000000000
  hf : f < 4294967296
  hn : n ≤ 1000000000
theorem RcvAt.cells {w : World} {p mb n f b sz : Nat} {A : Nat → Option ByteArray} (h : RcvAt w p mb n f b sz A) :
    w.cell? ⟨p, 0, none⟩ = some (.int .u32 (numU f b : Nat)) ∧ w.cell? ⟨p, 1, none⟩ = some (.int .i64 (sz : Nat)) ∧ w.cell? ⟨p, 2, none⟩ = some (.map (some mb)) :=
  ⟨Block.cell h.box 0, Block.cell h.box 1, Block.cell h.box 2⟩
theorem RcvAt.lt {w : World} {p mb n f b sz : Nat} {A : Nat → Option ByteArray} (h : RcvAt w p mb n f b sz A) : p < w.heap.size ∧ mb < w.heap.size := by
  obtain ⟨D, h1, _⟩ := h.map
  exact ⟨Block.lt h.box, h1.lt⟩
theorem owns_block {w w' : World} {mb n : Nat} {D : DataW Unit} {R : Value → Option (DataW Unit × List MemPlace)} (h : w.ownsMap Try.prog 22 R mb n D) (hb : w'.heap[mb]? = w.heap[mb]?) : w'.ownsMap Try.prog 22 R mb n D := by
  obtain ⟨es, clock, h1, h2⟩ := h
  exact ⟨es, clock, hb.trans h1, h2⟩
theorem RcvAt.kept {S : Nat → Prop} {w w' : World} {p mb n f b sz : Nat} {A : Nat → Option ByteArray} (h : RcvAt w p mb n f b sz A) (ht : Touch S w w') (hp : ¬ S p) (hm : ¬ S mb) : RcvAt w' p mb n f b sz A := by
  obtain ⟨D, h1, h2⟩ := h.map
  exact { h with box := h.box.kept ht hp, map := ⟨D, owns_block h1 (ht.block mb h1.lt hm), h2⟩ }
theorem RcvAt.still {w w' : World} {p mb n f b sz : Nat} {A : Nat → Option ByteArray} (h : RcvAt w p mb n f b sz A) (ht : Touch (fun _ => False) w w') : RcvAt w' p mb n f b sz A := h.kept ht id id
theorem RcvAt.congr {w : World} {p mb n f b sz : Nat} {A A' : Nat → Option ByteArray} (h : RcvAt w p mb n f b sz A) (e : ∀ i, A i = A' i) : RcvAt w p mb n f b sz A' := by
  have : A = A' := funext e
  rw [← this]; exact h
theorem RcvAt.mono {w : World} {p mb n n' f b sz : Nat} {A : Nat → Option ByteArray} (h : RcvAt w p mb n f b sz A) (hn : n ≤ n') (hn2 : n' ≤ 1000000000) : RcvAt w p mb n' f b sz A := by
  obtain ⟨D, h1, h2⟩ := h.map
  exact { h with map := ⟨D, h1.mono hn, h2⟩, hn := hn2 }
theorem zeroT (w : World) : (zeroValue 9).run Try.prog w = .ok (.string ⟨#[]⟩) w := by kernel_rfl

/-- 'v, ok := m[k]' and 'm[k]' at a place within reach. -/
theorem RcvAt.look {w : World} {p mb n f b sz : Nat} {A : Nat → Option ByteArray} (h : RcvAt w p mb n f b sz A) (i : Nat) (hi : i < 2147483648) :
    (Instr.lookup 77 (.map (some mb)) (.int .u32 (numU f i : Nat)) true).run Try.prog w = .ok (.tuple #[.string ((A i).getD ⟨#[]⟩), .bool (A i).isSome]) w := by
  obtain ⟨D, hown, hD⟩ := h.map
  obtain ⟨v, ps, hrun, hv⟩ := hown.look_ok Try.keyedU Try.underlying77 (zeroT w) (rdT_mk _) (keyU (numU_lt f i))
  obtain ⟨s, rfl, he⟩ := rdT_inv hv
  injection he with he _
  cases hA : A i with
  | some t =>
    obtain ⟨h1, h2⟩ := hD.at' i t hA
    rw [h2] at he
    rw [hrun, h1, lit_str he]
    rfl
  | none =>
    have hno : Maps.has D (.int .u32 (numU f i : Nat)) = false := by
      cases hh : Maps.has D (.int .u32 (numU f i : Nat)) with
      | false => rfl
      | true =>
        obtain ⟨j, t, e, hj⟩ := hD.only _ hh
        have hjb := h.hA j t hj
        have := h.hb; have := h.z2
        have e := lit_num_inj hi (by omega) e
        rw [e, hj] at hA; cases hA
    rw [atKey_of_not_has hno] at he
    rw [hrun, hno, lit_str he.symm]
    rfl

/-- One place has a text more; one has none any more. -/
def setT (A : Nat → Option ByteArray) (i : Nat) (t : ByteArray) : Nat → Option ByteArray := fun j => if j = i then some t else A j
def offT (A : Nat → Option ByteArray) (i : Nat) : Nat → Option ByteArray := fun j => if j = i then none else A j
theorem Told.put {D : DataW Unit} {f : Nat} {A : Nat → Option ByteArray} (h : Told D f A) (ht : Tidy D) (i : Nat) (hi : i < 2147483648) (hA : ∀ j t, A j = some t → j < 2147483648) (t : ByteArray) : Told (D.put (.int .u32 (numU f i : Nat)) (.lit (.string t.data.toList))) f (setT A i t) := by
  have hk : WideAt.IsKeyLit (.int .u32 (numU f i : Nat)) := trivial
  refine ⟨fun j s hj => ?_, fun kl hkl => ?_⟩
  · unfold setT at hj
    by_cases e : j = i
    · subst e
      rw [if_pos rfl] at hj
      cases hj
      exact ⟨has_put_same ht.isMap hk _, fun z => atKey_put_same ht.isMap hk _ _⟩
    · rw [if_neg e] at hj
      have hne : (Lit.int .u32 (numU f j : Nat)) ≠ Lit.int .u32 (numU f i : Nat) := fun e' => e (lit_num_inj (hA j s hj) hi e')
      obtain ⟨h1, h2⟩ := h.at' j s hj
      exact ⟨by rw [has_put_other hne]; exact h1, fun z => by rw [atKey_put_other hne]; exact h2 z⟩
  · by_cases e : kl = .int .u32 (numU f i : Nat)
    · exact ⟨i, t, e, by unfold setT; rw [if_pos rfl]⟩
    · rw [has_put_other e] at hkl
      obtain ⟨j, s, e1, e2⟩ := h.only kl hkl
      refine ⟨j, s, e1, ?_⟩
      unfold setT
      rw [if_neg (fun e' => e (by rw [e1, e'])), e2]
theorem Told.del {D : DataW Unit} {f : Nat} {A : Nat → Option ByteArray} (h : Told D f A) (i : Nat) (hi : i < 2147483648) (hA : ∀ j t, A j = some t → j < 2147483648) : Told (D.del (.int .u32 (numU f i : Nat))) f (offT A i) := by
  refine ⟨fun j s hj => ?_, fun kl hkl => ?_⟩
  · unfold offT at hj
    by_cases e : j = i
    · rw [if_pos e] at hj; cases hj
    · rw [if_neg e] at hj
      have hne : (Lit.int .u32 (numU f j : Nat)) ≠ Lit.int .u32 (numU f i : Nat) := fun e' => e (lit_num_inj (hA j s hj) hi e')
      obtain ⟨h1, h2⟩ := h.at' j s hj
      exact ⟨by rw [has_del_other hne]; exact h1, fun z => by rw [atKey_del_other hne]; exact h2 z⟩
  · by_cases e : kl = .int .u32 (numU f i : Nat)
    · subst e; rw [has_del_same] at hkl; cases hkl
    · rw [has_del_other e] at hkl
      obtain ⟨j, s, e1, e2⟩ := h.only kl hkl
      refine ⟨j, s, e1, ?_⟩
      unfold offT
      rw [if_neg (fun e' => e (by rw [e1, e'])), e2]

theorem clone_calls (s : ByteArray) (w : World) (hs : s.size ≤ 281474976710656) : Calls Try.prog 37 #[.string s] w fun e w' => e = .returned (.string s) ∧ Touch (fun _ => False) w w' := by
  have h := fun W => Any.stringslite_Clone Try.rvClone s W hs
  go_enter Try.func37, Try.ntmps37
  go_wp2_with fail
  refine (h _).mono ?_
  rintro e w1 ⟨rfl, hb⟩
  go_wp2_with fail
  go_ret
  exact ⟨rfl, ⟨hb.os, hb.tape, hb.output, hb.size, fun k hk _ => hb.block k hk⟩⟩

/-- The calls of no window. -/
theorem rtake_nil (u : Int) (t : ByteArray) (w : World) : Calls Try.prog 17 #[.pointer none, .int .u32 u, .string t] w fun e w' => e = .returned (.bool false) ∧ Touch (fun _ => False) w w' := by
  go_enter Try.func17, Try.ntmps17
  go_wp2_with fail
  go_quiet (fail)
  go_wp2_with fail
  go_ret
  exact ⟨rfl, (Touch.refl _ w).drewN _⟩
theorem rnext_nil (w : World) : Calls Try.prog 14 #[.pointer none] w fun e w' => e = .returned (.tuple #[.string ⟨#[]⟩, .bool false]) ∧ w = w' := by
  go_enter Try.func14, Try.ntmps14
  go_wp2
  go_ret2
  exact ⟨rfl, rfl⟩
theorem rack_nil (w : World) : Calls Try.prog 18 #[.pointer none] w fun e w' => e = .returned (.tuple #[.int .u32 0, .int .u32 0]) ∧ w = w' := by
  go_enter Try.func18, Try.ntmps18
  go_wp2
  go_ret2
  exact ⟨rfl, rfl⟩
theorem rheld_nil (w : World) : Calls Try.prog 20 #[.pointer none] w fun e w' => e = .returned (.int .i64 0) ∧ w = w' := by
  go_enter Try.func20, Try.ntmps20
  go_wp2
  go_ret
  exact ⟨rfl, rfl⟩

theorem rnew_bad (f : Nat) (sz : Int) (h : sz < 1 ∨ 32 < sz) (w : World) : Calls Try.prog 12 #[.int .u32 (f : Nat), .int .i64 sz] w fun e w' => e = .returned (.tuple #[.pointer none, .int .i64 1]) ∧ w = w' := by
  by_cases h1 : sz < 1
  · have d1 : decide (sz < 1) = true := decide_eq_true h1
    clear h
    go_enter Try.func12, Try.ntmps12
    go_wp2
    go_ret2
    exact ⟨rfl, rfl⟩
  · have d1 : decide (sz < 1) = false := decide_eq_false h1
    have h2 : 32 < sz := by omega
    have d2 : decide (32 < sz) = true := decide_eq_true h2
    clear h
    go_enter Try.func12, Try.ntmps12
    go_wp2
    go_ret2
    exact ⟨rfl, rfl⟩
theorem rnew_calls (f sz : Nat) (hf : f < 4294967296) (hz1 : 1 ≤ sz) (hz2 : sz ≤ 32) (w : World) : Calls Try.prog 12 #[.int .u32 (f : Nat), .int .i64 (sz : Nat)] w fun e w' =>
    ∃ p mb, e = .returned (.tuple #[.pointer (some ⟨p, 0, none⟩), .int .i64 0]) ∧ RcvAt w' p mb 0 f 0 sz (fun _ => none) ∧ (w.heap.size ≤ p ∧ w.heap.size ≤ mb) ∧ Touch (fun _ => False) w w' := by
  have d1 : decide ((sz : Int) < 1) = false := decide_eq_false (by omega)
  have d2 : decide ((32 : Int) < sz) = false := decide_eq_false (by omega)
  have d2' : decide (32 < sz) = false := decide_eq_false (by omega)
  go_enter Try.func12, Try.ntmps12
  have hmm := @run_makeMap Try.prog
  go_wp2
  go_ret2
  have hm : (w.alloc (.map #[] 0)).ownsMap Try.prog 22 rdT w.heap.size 0 (.map []) := World.ownsMap_made w _ _ _
  have hb := Block.new (w.alloc (.map #[] 0)) 79 [.int .u32 f, .int .i64 sz, .map (some w.heap.size)]
  have hT : Touch (fun _ => False) (w.alloc (.map #[] 0)) ((w.alloc (.map #[] 0)).alloc (.cells [.int .u32 f, .int .i64 sz, .map (some w.heap.size)].toArray 79)) := (Touch.refl _ _).alloc _
  rw [alloc_size] at hb
  refine ⟨w.heap.size + 1, w.heap.size, rfl, ⟨?_, ⟨_, owns_block hm (hT.block _ (by rw [alloc_size]; omega) id), ⟨fun _ _ h => (by cases h), fun _ h => (by cases h)⟩⟩, by omega, fun _ _ h => (by cases h), hz1, hz2, Nat.zero_le _, hf, Nat.zero_le _⟩, ⟨Nat.le_succ _, Nat.le_refl _⟩, ((Touch.refl _ w).alloc _).trans hT⟩
  have e : numU f 0 = f := by unfold numU; omega
  rw [e]
  exact hb

set_option maxHeartbeats 1000000 in
/-- What isn't taken: a number that is far, a text that is long. -/
theorem rtake_far {w : World} {p mb n f b sz : Nat} {A : Nat → Option ByteArray} (h : RcvAt w p mb n f b sz A) (d : Nat) (hd : d < 4294967296) (hds : sz ≤ d) (t : ByteArray) :
    Calls Try.prog 17 #[.pointer (some ⟨p, 0, none⟩), .int .u32 (numU f (b + d) : Nat), .string t] w fun e w' => e = .returned (.bool false) ∧ Touch (fun _ => False) w w' := by
  have hin := fun W => sin_calls (numU f (b + d)) (numU f b) ((sz : Nat) : Int) (numU_lt _ _) (numU_lt _ _) (by have := h.z2; omega) W
  rw [inS_num f b d hd, decide_eq_false (by omega)] at hin
  have HIN := Lib.hid hin
  obtain ⟨c0, c1, c2⟩ := h.cells
  clear hin h
  generalize numU f (b + d) = u at *
  generalize numU f b = nb at *
  go_enter Try.func17, Try.ntmps17
  go_upto_region 1 with fail
  go_quiet (first | (go_at_call 36; with_reducible exact quiet_same (HIN.out _)))
  go_wp2_with fail
  go_ret
  exact ⟨rfl, (Touch.refl _ w).drewN _⟩
set_option maxHeartbeats 1000000 in
theorem rtake_long {w : World} {p mb n f b sz : Nat} {A : Nat → Option ByteArray} (h : RcvAt w p mb n f b sz A) (u : Nat) (hu : u < 4294967296) (t : ByteArray) (ht : 256 < t.size) :
    Calls Try.prog 17 #[.pointer (some ⟨p, 0, none⟩), .int .u32 (u : Nat), .string t] w fun e w' => e = .returned (.bool false) ∧ Touch (fun _ => False) w w' := by
  have hin := fun W => sin_calls u (numU f b) ((sz : Nat) : Int) hu (numU_lt _ _) (by have := h.z2; omega) W
  have htI : (256 : Int) < (t.size : Int) := by omega
  obtain ⟨c0, c1, c2⟩ := h.cells
  clear h
  generalize numU f b = nb at *
  generalize inS u nb sz = bb at *
  have HIN := Lib.hid hin
  clear hin
  cases bb
  all_goals
    go_enter Try.func17, Try.ntmps17
    go_upto_region 1 with fail
    go_quiet (first | (go_at_call 36; with_reducible exact quiet_same (HIN.out _)))
    go_wp2_with fail
    go_ret
    exact ⟨rfl, (Touch.refl _ w).drewN _⟩
set_option maxHeartbeats 1000000 in
theorem rtake_held {w : World} {p mb n f b sz : Nat} {A : Nat → Option ByteArray} (h : RcvAt w p mb n f b sz A) (d : Nat) (hds : d < sz) (t : ByteArray) (ht : t.size ≤ 256) {t' : ByteArray} (hA : A (b + d) = some t') :
    Calls Try.prog 17 #[.pointer (some ⟨p, 0, none⟩), .int .u32 (numU f (b + d) : Nat), .string t] w fun e w' => e = .returned (.bool false) ∧ Touch (fun _ => False) w w' := by
  have hzz := h.z2
  have hbb := h.hb
  have hin := fun W => sin_calls (numU f (b + d)) (numU f b) ((sz : Nat) : Int) (numU_lt _ _) (numU_lt _ _) (by omega) W
  rw [inS_num f b d (by omega), decide_eq_true (by omega)] at hin
  have HIN := Lib.hid hin
  obtain ⟨c0, c1, c2⟩ := h.cells
  have htI : ¬ (256 : Int) < (t.size : Int) := by omega
  have htI' : (t.size : Int) ≤ 256 := by omega
  have hlook : ∀ q, (Instr.lookup 77 (.map (some mb)) (.int .u32 (numU f (b + d) : Nat)) true).run Try.prog (w.drewN q) = .ok (.tuple #[.string t', .bool true]) (w.drewN q) := fun q => by
    have := (h.kept ((Touch.refl (fun _ => False) w).drewN q) id id).look (b + d) (by omega)
    rw [hA] at this; exact this
  clear hin h hA ht
  generalize numU f (b + d) = u at *
  generalize numU f b = nb at *
  go_enter Try.func17, Try.ntmps17
  go_upto_region 1 with fail
  go_quiet (first | (go_at_call 36; with_reducible exact quiet_same (HIN.out _)))
  go_wp2_with fail
  go_ret
  exact ⟨rfl, (Touch.refl _ w).drewN _⟩
set_option maxHeartbeats 2000000 in
theorem rtake_new {w : World} {p mb n f b sz : Nat} {A : Nat → Option ByteArray} (h : RcvAt w p mb n f b sz A) (d : Nat) (hds : d < sz) (t : ByteArray) (ht : t.size ≤ 256) (hA : A (b + d) = none) (hn : n < 1000000000) :
    Calls Try.prog 17 #[.pointer (some ⟨p, 0, none⟩), .int .u32 (numU f (b + d) : Nat), .string t] w fun e w' => e = .returned (.bool true) ∧ RcvAt w' p mb (n + 1) f b sz (setT A (b + d) t) ∧ Touch (fun k => k = mb) w w' := by
  have hzz := h.z2
  have hbb := h.hb
  have hin := fun W => sin_calls (numU f (b + d)) (numU f b) ((sz : Nat) : Int) (numU_lt _ _) (numU_lt _ _) (by omega) W
  rw [inS_num f b d (by omega), decide_eq_true (by omega)] at hin
  have HIN := Lib.hid hin
  obtain ⟨c0, c1, c2⟩ := h.cells
  have htI : ¬ (256 : Int) < (t.size : Int) := by omega
  have htI' : (t.size : Int) ≤ 256 := by omega
  have hlook : ∀ q, (Instr.lookup 77 (.map (some mb)) (.int .u32 (numU f (b + d) : Nat)) true).run Try.prog (w.drewN q) = .ok (.tuple #[.string ⟨#[]⟩, .bool false]) (w.drewN q) := fun q => by
    have := (h.kept ((Touch.refl (fun _ => False) w).drewN q) id id).look (b + d) (by omega)
    rw [hA] at this; exact this
  have hM : ∀ w2, Touch (fun _ => False) w w2 → ∃ w3, (Instr.mapUpdate 77 (.map (some mb)) (.int .u32 (numU f (b + d) : Nat)) (.string t)).run Try.prog w2 = .ok () w3 ∧ RcvAt w3 p mb (n + 1) f b sz (setT A (b + d) t) ∧ w2.grownBy w3 (some mb) := fun w2 hT => by
    have h2 := h.still hT
    obtain ⟨D, hown, hD⟩ := h2.map
    obtain ⟨w', r1, r2, r3⟩ := hown.update Try.keyedU Try.underlying77 (by unfold maxLen; omega) (keyU (numU_lt f (b + d))) (rdT_mk t)
    have hT3 : Touch (fun k => k = mb) w2 w' := (Touch.refl _ _).grown r3 (fun k hk => Or.inl (Option.some.inj hk).symm)
    refine ⟨w', r1, { h2 with box := h2.box.kept hT3 h2.ne, map := ⟨_, r2, hD.put (hown.tidy Try.keyedU) (b + d) (by omega) (fun j s hj => by have := h2.hA j s hj; omega) t⟩, hA := fun i s hi => ?_, hn := hn }, r3⟩
    unfold setT at hi
    by_cases e : i = b + d
    · rw [if_pos e] at hi
      cases hi
      exact ⟨by omega, by omega, ht⟩
    · rw [if_neg e] at hi
      exact h2.hA i s hi
  have HM := Lib.hid hM
  have HC := Lib.hid (fun W => clone_calls t W (by omega))
  clear hin h hA ht hM
  generalize numU f (b + d) = u at *
  generalize numU f b = nb at *
  go_enter Try.func17, Try.ntmps17
  go_upto_region 1 with fail
  go_quiet (first | (go_at_call 36; with_reducible exact quiet_same (HIN.out _)))
  go_upto_region 6 with fail
  have hT1 : Touch (fun _ => False) w (w.drewN nq) := (Touch.refl _ w).drewN nq
  have c2 := hT1.cell (p := ⟨p, 2, none⟩) c2 id
  generalize w.drewN nq = w1 at *
  have HT1 := Lib.hid hT1
  have HE := Lib.hid c2
  clear hT1 hlook c0 c1 htI htI'
  go_region_law (go_simp; go_at_call 37; refine (HC.out _).mono ?_; rintro e w2 ⟨rfl, hT2⟩; obtain ⟨w3, hrun3, hm3, hg3⟩ := HM.out w2 (HT1.out.trans ((Touch.refl (fun _ => False) w1).drew.trans hT2)); have g2 := hT2.cell (p := ⟨p, 2, none⟩) HE.out id)
  all_goals
    go_wp2
    go_ret
    exact ⟨rfl, hm3, ((HT1.out.trans ((Touch.refl (fun _ => False) w1).drew.trans hT2)).mono (fun _ e => e.elim)).grown hg3 (fun k hk => Or.inl (Option.some.inj hk).symm)⟩

set_option maxHeartbeats 1000000 in
theorem rnext_none {w : World} {p mb n f b sz : Nat} {A : Nat → Option ByteArray} (h : RcvAt w p mb n f b sz A) (hA : A b = none) :
    Calls Try.prog 14 #[.pointer (some ⟨p, 0, none⟩)] w fun e w' => e = .returned (.tuple #[.string ⟨#[]⟩, .bool false]) ∧ Touch (fun _ => False) w w' := by
  have hbb := h.hb
  obtain ⟨c0, c1, c2⟩ := h.cells
  have hlook : ∀ q, (Instr.lookup 77 (.map (some mb)) (.int .u32 (numU f b : Nat)) true).run Try.prog (w.drewN q) = .ok (.tuple #[.string ⟨#[]⟩, .bool false]) (w.drewN q) := fun q => by
    have := (h.kept ((Touch.refl (fun _ => False) w).drewN q) id id).look b (by omega)
    rw [hA] at this; exact this
  clear h hA
  generalize numU f b = nb at *
  go_enter Try.func14, Try.ntmps14
  go_upto_region 3 with fail
  go_quiet (fail)
  go_wp2_with fail
  go_ret2
  exact ⟨rfl, (Touch.refl _ w).drewN _⟩
set_option maxHeartbeats 2000000 in
theorem rnext_some {w : World} {p mb n f b sz : Nat} {A : Nat → Option ByteArray} (h : RcvAt w p mb n f b sz A) {t : ByteArray} (hA : A b = some t) (hb1 : b < 1000000000) :
    Calls Try.prog 14 #[.pointer (some ⟨p, 0, none⟩)] w fun e w' => e = .returned (.tuple #[.string t, .bool true]) ∧ RcvAt w' p mb n f (b + 1) sz (offT A b) ∧ Touch (fun k => k = p ∨ k = mb) w w' := by
  have hbb := h.hb
  have hts := h.hA b t hA
  obtain ⟨c0, c1, c2⟩ := h.cells
  have hlook : ∀ q, (Instr.lookup 77 (.map (some mb)) (.int .u32 (numU f b : Nat)) true).run Try.prog (w.drewN q) = .ok (.tuple #[.string t, .bool true]) (w.drewN q) := fun q => by
    have := (h.kept ((Touch.refl (fun _ => False) w).drewN q) id id).look b (by omega)
    rw [hA] at this; exact this
  have hM : ∀ w2, Touch (fun _ => False) w w2 → ∃ w3, (∀ ty, (Builtin.delete_ #[77, 22] ty #[.map (some mb), .int .u32 (numU f b : Nat)]).run Try.prog w2 = .ok (.tuple #[]) w3) ∧ (∃ D, w3.ownsMap Try.prog 22 rdT mb n D ∧ Told D f (offT A b)) ∧ w2.grownBy w3 (some mb) := fun w2 hT => by
    obtain ⟨D, hown, hD⟩ := (h.still hT).map
    obtain ⟨w', r1, r2, r3⟩ := hown.drop Try.keyedU Try.underlying77 (keyU (numU_lt f b)) 0
    exact ⟨w', fun ty => r1, ⟨_, r2, hD.del b (by omega) (fun j s hj => by have := h.hA j s hj; have := h.z2; omega)⟩, r3.grown⟩
  have e1 : (((numU f b : Nat) : Int) + 1) % 4294967296 = ((numU f (b + 1) : Nat) : Int) := by unfold numU; omega
  have HX := Lib.hid h
  have HM := Lib.hid hM
  have HTS := Lib.hid hts
  clear h hA hts hM
  obtain ⟨nb, hnb⟩ : ∃ nb, nb = numU f b := ⟨_, rfl⟩
  obtain ⟨nc, hnc⟩ : ∃ nc, nc = numU f (b + 1) := ⟨_, rfl⟩
  rw [← hnb] at c0 hlook e1 HM
  rw [← hnc] at e1
  have HNC := Lib.hid (⟨hnb, hnc⟩ : nb = numU f b ∧ nc = numU f (b + 1))
  clear hnb hnc
  go_enter Try.func14, Try.ntmps14
  go_upto_region 3 with fail
  go_quiet (fail)
  go_upto_region 6 with fail
  have hT1 : Touch (fun _ => False) w (w.drewN nq) := (Touch.refl _ w).drewN nq
  have c2 := hT1.cell (p := ⟨p, 2, none⟩) c2 id
  have c0 := hT1.cell (p := ⟨p, 0, none⟩) c0 id
  generalize w.drewN nq = w1 at *
  obtain ⟨w3, hrun, hmap3, hg3⟩ := HM.out w1.drew hT1.drew
  have hT3 : Touch (fun k => k = mb) w w3 := (hT1.drew.mono (fun _ e => e.elim)).grown hg3 (fun k hk => Or.inl (Option.some.inj hk).symm)
  have hbox3 := HX.out.box.kept hT3 HX.out.ne
  have e0 : w3.cell? ⟨p, 0, none⟩ = some (.int .u32 (nb : Nat)) := by rw [HNC.out.1]; exact Block.cell hbox3 0
  have f0 := Block.free hbox3 0
  have HM3 := Lib.hid hmap3
  have HB3 := Lib.hid hbox3
  have HT3 := Lib.hid hT3
  clear hmap3 hbox3 hT3 hg3 hT1 hlook
  go_still_tail 8, (by kernel_rfl)
  change wpList _ _ _ _ _ w1.drew
  go_wp2_with fail
  go_ret2
  have hb0 := Block.set HB3.out 0 (.int .u32 (nc : Nat))
  have hTs : Touch (fun k => k = p) w3 (w3.setCell ⟨p, 0, none⟩ (.int .u32 (nc : Nat))) := (Touch.refl (fun k => k = p) w3).setCell (p := ⟨p, 0, none⟩) (Or.inl rfl) _
  obtain ⟨D, h1, h2⟩ := HM3.out
  refine ⟨rfl, { HX.out with box := by rw [← HNC.out.2]; exact hb0, map := ⟨D, owns_block h1 (hTs.block mb h1.lt (fun e => HX.out.ne e.symm)), h2⟩, hb := hb1, hA := fun i s hi => ?_ }, (HT3.out.mono (fun _ e => Or.inr e)).trans (hTs.mono (fun _ e => Or.inl e))⟩
  unfold offT at hi
  by_cases e : i = b
  · rw [if_pos e] at hi; cases hi
  · rw [if_neg e] at hi
    have := HX.out.hA i s hi
    omega
end Go.Proofs.Ytimiiahhedpfaaa


/- Contracts of package disk, fourth part: Dirty, by the library's contracts of maps.Keys, slices.Collect and slices.SortFunc. -/
import Derived.Test.YtjjpknmjkhaahaaDkC
import Derived.Test.YtjjpknmjkhaahaaDkShelf
import Derived.Shelf.SlSortCmp.NoneTotal
import Derived.Sort.Grow
namespace Go.Proofs.Ytjjpknmjkhaahaa
open Go Go.RowKit Go.Maps Go.Sort Go.Shelf
set_option maxRecDepth 100000

/-- The sort of sectors by their times. -/
def timeE (C : List Ent) (i : Int) : Int := match findE C i with
  | some e => e.t
  | none => 0
def textE (C : List Ent) (i : Int) : ByteArray := match findE C i with
  | some e => e.s
  | none => ⟨#[]⟩
theorem lookV_eq (C : List Ent) (i : Int) : lookV C i = .agg #[.string (textE C i), .int .i64 (timeE C i)] := by
  unfold lookV textE timeE
  cases findE C i <;> rfl
def cmpI (x y : Int) : Int := if x < y then -1 else if y < x then 1 else 0
theorem cmpI_lt (x y : Int) : cmpI x y < 0 ↔ x < y := by
  unfold cmpI; split
  · omega
  · split <;> omega

/-- A sector's number as the sort's element. -/
abbrev Snum := Fin 65536
def encF (x : Snum) : Value := .int .i64 (x.val : Int)
def cfF (C : List Ent) (x y : Snum) : Int := cmpI (timeE C x.val) (timeE C y.val)
theorem ltF (C : List Ent) (x y : Snum) : ltOf (cfF C) x y = decide (timeE C x.val < timeE C y.val) := by
  unfold ltOf cfF
  by_cases h : timeE C x.val < timeE C y.val
  · rw [decide_eq_true h, decide_eq_true ((cmpI_lt _ _).2 h)]
  · rw [decide_eq_false h, decide_eq_false (fun h' => h ((cmpI_lt _ _).1 h'))]
theorem swoF (C : List Ent) : SWO (ltOf (cfF C)) where
  irrefl x := by rw [ltF]; simp
  trans x y z h1 h2 := by rw [ltF] at *; simp at *; omega
  ntrans x y z h1 h2 := by rw [ltF] at *; simp at *; omega

theorem perm_sorted_eq {α : Type} (T : α → Int) : ∀ l1 l2 : List α, l1.Perm l2 → l1.Pairwise (fun a b => T a < T b) → l2.Pairwise (fun a b => T a < T b) → l1 = l2
  | [], l2, hp, _, _ => (List.nil_perm.1 hp).symm
  | a :: r1, [], hp, _, _ => by have := List.perm_nil.1 hp; cases this
  | a :: r1, b :: r2, hp, h1, h2 => by
    obtain ⟨a1, a2⟩ := List.pairwise_cons.1 h1
    obtain ⟨b1, b2⟩ := List.pairwise_cons.1 h2
    have hab : a = b := by
      rcases List.mem_cons.1 (hp.mem_iff.1 List.mem_cons_self : a ∈ b :: r2) with e | ha
      · exact e
      · rcases List.mem_cons.1 (hp.mem_iff.2 List.mem_cons_self : b ∈ a :: r1) with e | hb
        · exact e.symm
        · have := a1 b hb; have := b1 a ha; omega
    subst hab
    rw [perm_sorted_eq T r1 r2 hp.cons_inv a2 b2]

theorem isnan_calls (x : Int) (w : World) : Calls Try.prog 37 #[.int .i64 x] w fun e w' => e = .returned (.bool false) ∧ w = w' := by
  go_enter Try.func37, Try.ntmps37
  go_wp2
  go_ret
  exact ⟨by simp, rfl⟩
theorem compare_calls (x y : Int) (w : World) : Calls Try.prog 30 #[.int .i64 x, .int .i64 y] w fun e w' => e = .returned (.int .i64 (cmpI x y)) ∧ w = w' := by
  by_cases h1 : x < y
  · have e1 : cmpI x y = -1 := by unfold cmpI; rw [if_pos h1]
    rw [e1]
    have d1 : decide (x < y) = true := decide_eq_true h1
    clear h1 e1
    go_enter Try.func30, Try.ntmps30
    go_wp2_with (go_at_call 37; refine (isnan_calls _ _).mono ?_; rintro e w' ⟨rfl, rfl⟩)
    go_ret
    exact ⟨rfl, rfl⟩
  · by_cases h2 : y < x
    · have e1 : cmpI x y = 1 := by unfold cmpI; rw [if_neg h1, if_pos h2]
      rw [e1]
      have d1 : decide (x < y) = false := decide_eq_false h1
      have d2 : decide (y < x) = true := decide_eq_true h2
      clear h1 h2 e1
      go_enter Try.func30, Try.ntmps30
      go_wp2_with (go_at_call 37; refine (isnan_calls _ _).mono ?_; rintro e w' ⟨rfl, rfl⟩)
      go_ret
      exact ⟨rfl, rfl⟩
    · have e1 : cmpI x y = 0 := by unfold cmpI; rw [if_neg h1, if_neg h2]
      rw [e1]
      have d1 : decide (x < y) = false := decide_eq_false h1
      have d2 : decide (y < x) = false := decide_eq_false h2
      clear h1 h2 e1
      go_enter Try.func30, Try.ntmps30
      go_wp2_with (go_at_call 37; refine (isnan_calls _ _).mono ?_; rintro e w' ⟨rfl, rfl⟩)
      go_ret
      exact ⟨rfl, rfl⟩

theorem fieldT (s : ByteArray) (t : Int) (w : World) : (Instr.field 58 (.agg #[.string s, .int .i64 t]) 1).run Try.prog w = .ok (.int .i64 t) w := by kernel_rfl
theorem fieldS (s : ByteArray) (t : Int) (w : World) : (Instr.field 58 (.agg #[.string s, .int .i64 t]) 0).run Try.prog w = .ok (.string s) w := by kernel_rfl

set_option maxHeartbeats 400000 in
/-- The closure: two sectors by their times. -/
theorem dirty1_calls {W : World} {B b mb nn : Nat} {C : List Ent} (hB : W.cell? ⟨B, 0, none⟩ = some (.pointer (some ⟨b, 0, none⟩))) (hb : W.cell? ⟨b, 1, none⟩ = some (.map (some mb))) (hm : MapAt W mb nn C) (x y : Int)
    (hx0 : 0 ≤ x) (hx1 : x < 65536) (hy0 : 0 ≤ y) (hy1 : y < 65536) :
    Calls Try.prog 29 #[.int .i64 x, .int .i64 y, .pointer (some ⟨B, 0, none⟩)] W fun e w' => e = .returned (.int .i64 (cmpI (timeE C x) (timeE C y))) ∧ ∃ q, w' = W.drewN q := by
  have l1 : ∀ q, (Instr.lookup 54 (.map (some mb)) (.int .i64 x) false).run Try.prog (W.drewN q) = .ok (.agg #[.string (textE C x), .int .i64 (timeE C x)]) (W.drewN q) := fun q => by
    rw [← lookV_eq]; exact ((hm.of_block (w' := W.drewN q) rfl).look x (by omega) (by omega)).2
  have l2 : ∀ q, (Instr.lookup 54 (.map (some mb)) (.int .i64 y) false).run Try.prog (W.drewN q) = .ok (.agg #[.string (textE C y), .int .i64 (timeE C y)]) (W.drewN q) := fun q => by
    rw [← lookV_eq]; exact ((hm.of_block (w' := W.drewN q) rfl).look y (by omega) (by omega)).2
  have hfT := fieldT
  clear hm
  generalize timeE C x = t1 at l1 ⊢
  generalize timeE C y = t2 at l2 ⊢
  generalize textE C x = s1 at l1
  generalize textE C y = s2 at l2
  go_enter Try.func29, Try.ntmps29
  go_upto_region 1 with fail
  go_quiet ((go_at_call 30; exact Calls.quiet_of_same ((compare_calls _ _ _).mono fun _ _ ⟨he, hw⟩ => ⟨he, hw.symm⟩)))
  go_wp2
  go_ret
  exact ⟨rfl, _, rfl⟩


theorem heap_sorted' {w : World} {g m : Nat} {os : Array Obj} {cur : Array Value} {e : TypeId} {fr : Nat × Nat} (d : Array Snum) (hb : w.heap[g]? = some (.cells cur e fr)) :
    (sortWorld encF w g 0 m d os).heap[g]? = some (.cells (putCells encF 0 d cur) e fr) := by
  have hg : g < w.heap.size := (Array.getElem?_eq_some_iff.1 hb).1
  unfold sortWorld
  rw [heap_grow_old _ _ (by simpa using hg)]
  simp [putRow, mapBlock, Sort.ahead, Array.getElem?_modify, hb, onCells]
theorem touch_sorted {w : World} {g m : Nat} {os : Array Obj} (d : Array Snum) : Touch (fun k => k = g) w (sortWorld encF w g 0 m d os) := by
  refine ⟨rfl, rfl, rfl, by unfold sortWorld; simp, fun k hk hne => ?_⟩
  unfold sortWorld
  rw [heap_grow_old _ _ (by simpa using hk)]
  have : g ≠ k := fun e => hne e.symm
  simp [putRow, mapBlock, Sort.ahead, Array.getElem?_modify, this]
theorem take_putCells' (cur : Array Value) (d : Array Snum) (h : d.size ≤ cur.size) : (putCells encF 0 d cur).toList.take d.size = d.toList.map encF := by
  apply List.ext_getElem?
  intro j
  by_cases hj : j < d.size
  · rw [List.getElem?_take_of_lt hj, Array.getElem?_toList]
    simp [putCells, hj, show j < cur.size by omega]
  · rw [List.getElem?_take_eq_none (by omega), List.getElem?_eq_none (by simp; omega)]

/-- Numbers as cells. -/
def natVs (ks : List Nat) : List Value := ks.map fun (k : Nat) => Value.int .i64 ((k : Nat) : Int)
theorem natVs_length (ks : List Nat) : (natVs ks).length = ks.length := by simp [natVs]

theorem dirty_nil (w : World) : Calls Try.prog 14 #[.pointer none] w fun e w' => e = .returned (.slice none 0 0) ∧ Touch (fun _ => False) w w' := by
  go_enter Try.func14, Try.ntmps14
  go_wp2
  go_ret
  exact ⟨rfl, (Touch.refl _ w).alloc _⟩

/-- The keys, collected. -/
theorem collect_keys {w : World} {mb nn : Nat} {C : List Ent} (hm : MapAt w mb nn C) (hC : C.length ≤ 1000000) (bk : Nat) (hbk : w.cell? ⟨bk, 0, none⟩ = some (.map (some mb))) :
    Calls Try.prog 26 #[.func (.func 34) #[] #[.pointer (some ⟨bk, 0, none⟩)]] w fun e w' =>
      ∃ (v : Value) (ss : List Int), e = .returned v ∧ ss.Perm (C.map fun e => ((e.k : Nat) : Int)) ∧ w'.ownsRow w.heap.size 3 1 v ss.length (ss.map encZ) ∧ (v = .slice none 0 0 ↔ ss = []) ∧ RowKit.Below w.heap.size w w' := by
  obtain ⟨D, hown, hCd⟩ := hm
  have hsz : Maps.size D ≤ 1000000 := by rw [hCd.size]; exact hC
  have hseq := AnyZI.keys_stops (ρ := Try.dkKeys_ren) { Try.dkKeys with } Fence.wide 2 trivial rfl (by omega) bk mb nn D w (World.block_lt_of_cell? w _ hbk) hbk hown
  have hg := hseq.gives
  have cS := AnyZI.collect_in Try.dkCollect Fence.wide 4 trivial trivial rfl (by omega) 34 #[.pointer (some ⟨bk, 0, none⟩)] trivial (enters_of Try.func34 (by kernel_rfl) rfl) _ _ (by unfold maxLen; omega) (by omega) _ hg
  refine ((callsIn_wide).1 cS).mono ?_
  rintro e w' ⟨v, ss, he, hS, hrow, hnil, hb⟩
  have hk : (C.map fun e => ((e.k : Nat) : Int)).Perm (intKeys D) := by
    obtain ⟨es, hD, hpw, _⟩ := hown.entries Try.keyedI
    obtain ⟨es', hD', hko⟩ := hown.keysOf
    obtain rfl : es = es' := by rw [hD] at hD'; simpa using hD'
    subst hD
    refine perm_intKeys hpw (fun p hp => by obtain ⟨v, hv⟩ := hko p hp; obtain ⟨x, _, hx, _⟩ := Maps.keyOf_i64 Try.underlying3 hv; exact ⟨x, hx⟩) ?_ (fun x => ?_)
    · rw [show (C.map fun e => ((e.k : Nat) : Int)) = (C.map Ent.k).map (fun k : Nat => (k : Int)) by simp]
      exact List.Pairwise.map _ (fun a b (h : a ≠ b) (h' : (a : Int) = b) => h (by omega)) hCd.nodup
    · rw [hCd.has, hasE_true]; simp
  exact ⟨v, ss, he, hS.1.trans hk.symm, hrow, hnil, hb⟩

theorem timeE_mem {C : List Ent} (hn : (C.map Ent.k).Nodup) {e : Ent} (he : e ∈ C) : timeE C ((e.k : Nat) : Int) = e.t := by
  unfold timeE; rw [find_of_mem hn he]

/-- What the sort leaves is the list of the cache's sectors by their times. -/
theorem sorted_is {C : List Ent} (hn : (C.map Ent.k).Nodup) (ha : C.Pairwise fun a b => a.t < b.t) {d d' : Array Snum} (hd : (d.toList.map fun x => ((x.val : Nat) : Int)).Perm (C.map fun e => ((e.k : Nat) : Int)))
    (hp : PermIn 0 d.size d d') (hs : SortedIn (ltOf (cfF C)) 0 d.size d') : d'.toList.map encF = natVs (C.map Ent.k) := by
  obtain ⟨h1, _, h3⟩ := hp
  have e1 : (d'.extract 0 d.size).toList = d'.toList := by rw [← h1, Array.extract_size]
  have e2 : (d.extract 0 d.size).toList = d.toList := by rw [Array.extract_size]
  rw [e1, e2] at h3
  have h4 : (d'.toList.map fun x => ((x.val : Nat) : Int)).Perm (C.map fun e => ((e.k : Nat) : Int)) := (h3.map _).trans hd
  have hnd : (C.map fun e => ((e.k : Nat) : Int)).Nodup := by
    rw [show (C.map fun e => ((e.k : Nat) : Int)) = (C.map Ent.k).map (fun k : Nat => (k : Int)) by simp]
    exact List.Pairwise.map _ (fun a b (h : a ≠ b) (h' : (a : Int) = b) => h (by omega)) hn
  have hinj : ∀ a ∈ C, ∀ b ∈ C, a.t = b.t → a = b := by
    intro a hA b hB hab
    have : ∀ l : List Ent, l.Pairwise (fun a b => a.t < b.t) → a ∈ l → b ∈ l → a = b := by
      intro l
      induction l with
      | nil => intro _ h; cases h
      | cons x r ih =>
        intro hp ha hb
        obtain ⟨p1, p2⟩ := List.pairwise_cons.1 hp
        rcases List.mem_cons.1 ha with rfl | ha'
        · rcases List.mem_cons.1 hb with e | hb'
          · exact e.symm
          · have := p1 b hb'; omega
        · rcases List.mem_cons.1 hb with rfl | hb'
          · have := p1 a ha'; omega
          · exact ih p2 ha' hb'
    exact this C ha hA hB
  have s2 : (C.map fun e => ((e.k : Nat) : Int)).Pairwise (fun a b => timeE C a < timeE C b) := by
    rw [List.pairwise_map]
    refine ha.imp_of_mem fun {a b} hA hB hab => ?_
    rw [timeE_mem hn hA, timeE_mem hn hB]; omega
  have s1 : (d'.toList.map fun x => ((x.val : Nat) : Int)).Pairwise (fun a b => timeE C a < timeE C b) := by
    have hnd1 := h4.nodup_iff.2 hnd
    have hmem : ∀ x ∈ d'.toList, ∃ e ∈ C, (x.val : Int) = e.k := fun x hx => by
      have := h4.mem_iff.1 (List.mem_map.2 ⟨x, hx, rfl⟩)
      obtain ⟨e, he, hk⟩ := List.mem_map.1 this
      exact ⟨e, he, hk.symm⟩
    rw [List.pairwise_iff_getElem]
    intro i j hi hj hij
    rw [List.length_map] at hi hj
    have hji : j < d.size := by rw [← h1]; simpa using hj
    have hs' := hs i j (Nat.zero_le _) hij hji
    rw [ltF] at hs'
    have hi' : i < d'.size := by simpa using hi
    have hj' : j < d'.size := by simpa using hj
    rw [getElem!_pos d' i hi', getElem!_pos d' j hj'] at hs'
    simp only [List.getElem_map, Array.getElem_toList]
    have hle : timeE C (d'[i].val : Int) ≤ timeE C (d'[j].val : Int) := by simpa using hs'
    obtain ⟨a, hA, ha1⟩ := hmem d'[i] (by simp)
    obtain ⟨b, hB, hb1⟩ := hmem d'[j] (by simp)
    have hne : (d'[i].val : Int) ≠ d'[j].val := by
      have := List.pairwise_iff_getElem.1 hnd1 i j (by simpa using hi) (by simpa using hj) hij
      simpa using this
    rw [ha1, hb1] at hle hne ⊢
    rw [timeE_mem hn hA, timeE_mem hn hB] at hle ⊢
    by_cases hq : a.t = b.t
    · exact absurd (by rw [hinj a hA b hB hq]) hne
    · omega
  have h5 := perm_sorted_eq (timeE C) _ _ h4 s1 s2
  have h6 := congrArg (List.map (Value.int .i64)) h5
  rw [List.map_map, List.map_map] at h6
  unfold natVs
  rw [List.map_map]
  exact h6


theorem MapAt.size_le {w : World} {mb nn : Nat} {C : List Ent} (h : MapAt w mb nn C) : C.length ≤ nn := by
  obtain ⟨D, hown, hC⟩ := h
  rw [← hC.size]; exact hown.size_le
theorem snum_of : ∀ ss : List Int, (∀ x ∈ ss, ∃ k : Nat, x = k ∧ k < 65536) → ∃ d : Array Snum, (d.toList.map fun x => ((x.val : Nat) : Int)) = ss
  | [], _ => ⟨#[], rfl⟩
  | x :: r, h => by
    obtain ⟨d, hd⟩ := snum_of r (fun y hy => h y (List.mem_cons_of_mem _ hy))
    obtain ⟨k, hk, hlt⟩ := h x List.mem_cons_self
    exact ⟨((⟨k, hlt⟩ : Snum) :: d.toList).toArray, by simp [hd, hk]⟩
theorem holds_d {w : World} {g : Nat} {cur : Array Value} {e : TypeId} {d : Array Snum} (hb : w.heap[g]? = some (.cells cur e (0, 0))) (ht : cur.toList.take d.size = d.toList.map encF) : Holds encF w g 0 d := by
  intro j hj
  refine ⟨?_, by simp [World.frozen?, hb]⟩
  have h1 : (cur.toList.take d.size)[j]? = (d.toList.map encF)[j]? := by rw [ht]
  rw [List.getElem?_take_of_lt hj] at h1
  simp only [World.cell?, hb, Nat.zero_add]
  simp only [Option.isSome_none, Bool.false_eq_true, if_false]
  rw [← Array.getElem?_toList, h1]
  simp [hj]

set_option maxHeartbeats 800000 in
theorem dirty_calls {w : World} {b lb mb c n : Nat} {L : List UInt8} {C : List Ent} {t : Nat} {f : Int} {on : Bool} (h : DkAt w b lb mb c n L C t f on) :
    Calls Try.prog 14 #[.pointer (some ⟨b, 0, none⟩)] w fun e w' => ∃ v, e = .returned v ∧ Row w' 3 v (natVs (C.map Ent.k)) ∧ (∀ g, v.ownBlock = some g → w.heap.size ≤ g) ∧ Touch (fun _ => False) w w' := by
  have c1 := h.cells.2.1
  have hbl := h.lt.1
  obtain ⟨hnd, hasc⟩ := h.map.cached
  have hl2 := h.map.size_le
  have ht2 := h.t2
  have hn2 := h.n2
  have cK : ∀ W, Calls Try.prog 27 #[.map (some mb)] W fun e w' => e = .returned (.func (.func 34) #[] #[.pointer (some ⟨W.heap.size, 0, none⟩)]) ∧ w' = W.alloc (.cells #[.map (some mb)] 54) :=
    fun W => (callsIn_wide (n := 5)).1 (AnyZI.keys_in Try.dkKeys Fence.wide 5 trivial rfl (some mb) W)
  have H := Lib.hid h
  clear h
  go_enter Try.func14, Try.ntmps14
  go_wp2_with fail
  refine (cK _).mono ?_
  rintro e w' ⟨rfl, rfl⟩
  go_wp2_with fail
  have hT2 : Touch (fun _ => False) w ((w.alloc (.cells #[.pointer (some ⟨b, 0, none⟩)] 24)).alloc (.cells #[.map (some mb)] 54)) := ((Touch.refl _ w).alloc _).alloc _
  have hs1 : (w.alloc (.cells #[.pointer (some ⟨b, 0, none⟩)] 24)).heap.size = w.heap.size + 1 := Array.size_push ..
  have hs2 : ((w.alloc (.cells #[.pointer (some ⟨b, 0, none⟩)] 24)).alloc (.cells #[.map (some mb)] 54)).heap.size = w.heap.size + 1 + 1 := by rw [← hs1]; exact Array.size_push ..
  have hB2 : ((w.alloc (.cells #[.pointer (some ⟨b, 0, none⟩)] 24)).alloc (.cells #[.map (some mb)] 54)).cell? ⟨w.heap.size, 0, none⟩ = some (.pointer (some ⟨b, 0, none⟩)) :=
    ((Touch.refl (fun _ => False) (w.alloc (.cells #[.pointer (some ⟨b, 0, none⟩)] 24))).alloc _).cell (cell_of_row _ _ 0 _ _ _ (heap_alloc_new w _)) id
  have hK2 : ((w.alloc (.cells #[.pointer (some ⟨b, 0, none⟩)] 24)).alloc (.cells #[.map (some mb)] 54)).cell? ⟨w.heap.size + 1, 0, none⟩ = some (.map (some mb)) := by
    rw [← hs1]; exact cell_of_row _ _ 0 _ _ _ (heap_alloc_new _ _)
  generalize ((w.alloc (.cells #[.pointer (some ⟨b, 0, none⟩)] 24)).alloc (.cells #[.map (some mb)] 54)) = w2 at hT2 hs2 hB2 hK2 ⊢
  have hm2 := H.out.map.kept hT2 id
  have hd2 := hT2.cell c1 id
  refine (collect_keys hm2 (by omega) _ hK2).mono ?_
  rintro e w3 ⟨v, ss, rfl, hperm, hrow, hnil, hBl⟩
  have hT3 : Touch (fun _ => False) w2 w3 := ⟨hBl.os, hBl.tape, hBl.output, hBl.size, fun k hk _ => hBl.block k hk⟩
  have hm3 := hm2.kept hT3 id
  have hd3 := hT3.cell hd2 id
  have hB3 := hT3.cell hB2 id
  have hT03 := hT2.trans hT3
  clear hm2 hd2 hB2 hK2 cK c1 hs1
  cases hC : C with
  | nil =>
    rw [hC] at hperm
    obtain rfl : ss = [] := List.perm_nil.1 hperm
    obtain rfl : v = .slice none 0 0 := hnil.2 rfl
    have cN : ∀ fv W, Calls Try.prog 28 #[.slice none 0 0, fv] W fun e w' => e = .returned (.tuple #[]) ∧ w' = W := fun fv W => AnyF.slices_SortFunc_none { Try.dkSort with } none 0 fv W
    have HC := Lib.hid hC
    clear hperm hrow hnil hBl hm3 hC
    go_wp2_with (go_at_call 28; refine (cN _ _).mono ?_; rintro e w' ⟨rfl, rfl⟩)
    go_ret
    refine ⟨_, rfl, ?_, (fun g hg => (by cases hg)), hT03⟩
    rw [HC.out]; exact Row.nil _ _
  | cons e0 r0 =>
    have hlen : ss.length = C.length := by rw [hperm.length_eq, List.length_map]
    have hpos : 0 < ss.length := by rw [hlen, hC]; simp
    clear hC hnil
    have hrow' := hrow.2
    rcases hrow' with ⟨_, h0⟩ | ⟨g, cap, cur, rfl, hbase, hg, h1, h2, h3, h4⟩
    · omega
    have hsn : ∀ x ∈ ss, ∃ k : Nat, x = k ∧ k < 65536 := fun x hx => by
      obtain ⟨e, he, hk⟩ := List.mem_map.1 (hperm.mem_iff.1 hx)
      have := (H.out.ents e he).1
      exact ⟨e.k, hk.symm, by omega⟩
    obtain ⟨d, hd⟩ := snum_of ss hsn
    have hds : d.size = ss.length := by rw [← hd]; simp
    have hgl : g < w3.heap.size := (Array.getElem?_eq_some_iff.1 hg).1
    have htk : cur.toList.take d.size = d.toList.map encF := by
      rw [Nat.mul_one] at h4
      rw [hds, h4, ← hd, List.map_map]; rfl
    have hcmp : CmpReads Try.prog 29 #[.pointer (some ⟨w.heap.size, 0, none⟩)] encF (cfF C) g 0 d.size w3 := fun m os dk hs x y => by
      have hT := touch_sorted (w := w3) (g := g) (m := m) (os := os) dk
      have q1 := hT.cell hB3 (by show w.heap.size ≠ g; omega)
      have q2 := hT.cell hd3 (by show b ≠ g; omega)
      have q3 := hm3.kept hT (by have := H.out.lt; omega)
      exact dirty1_calls q1 q2 q3 _ _ (by omega) (by omega) (by omega) (by omega)
    have eg : ∀ args w, (callFunc 29 args).run Try.prog w = .ok (.enter 29 args) w := enters_of Try.func29 (by kernel_rfl) rfl
    have hcon := Any.slices_SortFunc Try.dkSort encF (fun _ => rfl) (cfF C) (swoF C) 29 #[.pointer (some ⟨w.heap.size, 0, none⟩)] g 0 cap d w3 eg hcmp.lays (holds_d hg htk) hgl (by omega)
    have hcon : Calls Try.prog 28 #[.slice (some ⟨g, 0, none⟩) ss.length cap, .func (.func 29) #[] #[.pointer (some ⟨w.heap.size, 0, none⟩)]] w3 (fun e w' => e = .returned (.tuple #[]) ∧ ∃ d' n os, PermIn 0 d.size d d' ∧ SortedIn (ltOf (cfF C)) 0 d.size d' ∧ w' = sortWorld encF w3 g 0 n d' os) := by
      rw [← hds]; exact hcon
    have HH := Lib.hid (⟨hperm, hg, h1, h2, h3, hd, hds, hT03, hs2, hbase⟩ : _ ∧ _ ∧ _ ∧ _ ∧ _ ∧ _ ∧ _ ∧ _ ∧ _ ∧ _)
    clear hcmp eg hperm hg h1 h2 h3 h4 hd hds hT03 hs2 hbase hrow hBl hm3 hd3 hB3 htk hsn hgl hT3 hT2 hlen hpos
    go_wp2_with (go_at_call 28; refine hcon.mono ?_; rintro e w4 ⟨rfl, d', m, os, hp, hs, rfl⟩)
    go_ret
    obtain ⟨hperm, hg, h1, h2, h3, hd, hds, hT03, hs2, hbase⟩ := HH.out
    have hkeys := sorted_is hnd hasc (by rw [hd]; exact hperm) hp hs
    have hd's : d'.size = ss.length := by rw [hp.1, hds]
    have hT := touch_sorted (w := w3) (g := g) (m := m) (os := os) d'
    refine ⟨_, rfl, .inr ⟨g, 0, cap, _, by rw [← hkeys]; simp [hd's], heap_sorted' d' hg, by rw [← hkeys]; simp [hd's]; exact h1, h2, by simp [putCells, h3], ?_⟩, fun g' hg' => by simp [Value.ownBlock] at hg'; subst hg'; omega, hT03.trans' hT (fun i hi => .inr (by rw [hi]; omega))⟩
    rw [← hkeys, List.drop_zero, List.length_map, Array.length_toList]
    exact take_putCells' cur d' (by omega)

end Go.Proofs.Ytjjpknmjkhaahaa

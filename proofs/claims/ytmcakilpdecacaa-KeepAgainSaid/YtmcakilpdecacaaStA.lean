/- What a disk's bytes are, one by one, whatever lasts of them: plain. -/
import Derived.Test.YtmcakilpdecacaaDkC
namespace Go.Proofs.Ytmcakilpdecacaa
open Go Go.RowKit Go.Maps
set_option maxRecDepth 100000

/-- A disk's byte as it is read. -/
def imgB (L : List UInt8) (C : List Ent) (p : Nat) : UInt8 := (readS L C (p / 64)).data.toList.getD (p % 64) 0

/-- Some of a disk's bytes are these, whatever comes of its cache. -/
structure Keeps (D : Nat → Prop) (g : Nat → UInt8) (L : List UInt8) (C : List Ent) : Prop where
  lasts : ∀ p, D p → (sec L (p / 64)).getD (p % 64) 0 = g p
  cached : ∀ p, D p → ∀ e ∈ C, e.k = p / 64 → e.s.data.toList.getD (p % 64) 0 = g p

theorem Keeps.img {D : Nat → Prop} {g : Nat → UInt8} {L : List UInt8} {C : List Ent} (h : Keeps D g L C) {p : Nat} (hp : D p) : imgB L C p = g p := by
  unfold imgB readS
  cases hf : findE C ((p / 64 : Nat) : Int) with
  | none => exact h.lasts p hp
  | some e =>
    obtain ⟨h1, h2⟩ := find_mem hf
    exact h.cached p hp e h1 (by omega)

theorem Keeps.burn {D : Nat → Prop} {g : Nat → UInt8} {L : List UInt8} {C : List Ent} (h : Keeps D g L C) : Keeps D g L [] :=
  ⟨h.lasts, fun _ _ _ he => by cases he⟩

theorem Keeps.put {D : Nat → Prop} {g : Nat → UInt8} {L : List UInt8} {C : List Ent} (h : Keeps D g L C) {k t : Nat} {s : ByteArray} (hs : ∀ p, D p → p / 64 = k → s.data.toList.getD (p % 64) 0 = g p) : Keeps D g L (putE C k s t) := by
  refine ⟨h.lasts, fun p hp e he hk => ?_⟩
  rcases List.mem_append.1 he with he | he
  · exact h.cached p hp e (List.mem_filter.1 he).1 hk
  · have := List.mem_singleton.1 he
    subst this
    exact hs p hp hk.symm

theorem Keeps.sub {D D' : Nat → Prop} {g g' : Nat → UInt8} {L : List UInt8} {C : List Ent} (h : Keeps D g L C) (hD : ∀ p, D' p → D p) (hg : ∀ p, D' p → g p = g' p) : Keeps D' g' L C :=
  ⟨fun p hp => (h.lasts p (hD p hp)).trans (hg p hp), fun p hp e he hk => (h.cached p (hD p hp) e he hk).trans (hg p hp)⟩

/-- A sector with some bytes in it. -/
def ptS (old : ByteArray) (o : Nat) (s : ByteArray) : ByteArray := old.extract 0 o ++ s ++ old.extract (o + s.size) old.size

theorem ba_len (s : ByteArray) : s.data.toList.length = s.size := by rw [Array.length_toList]; rfl
theorem ptS_list (old : ByteArray) (o : Nat) (s : ByteArray) : (ptS old o s).data.toList = old.data.toList.take o ++ s.data.toList ++ old.data.toList.drop (o + s.size) := by
  unfold ptS
  rw [ByteArray.data_append, ByteArray.data_append, ByteArray.data_extract, ByteArray.data_extract, Array.toList_append, Array.toList_append, Array.toList_extract, Array.toList_extract]
  simp only [List.extract, List.drop_zero, Nat.sub_zero]
  congr 1
  exact List.take_of_length_le (by rw [List.length_drop, ba_len]; omega)
theorem ptS_size (old : ByteArray) (o : Nat) (s : ByteArray) (h : o + s.size ≤ old.size) : (ptS old o s).size = old.size := by
  rw [← ba_len, ptS_list]
  simp only [List.length_append, List.length_take, List.length_drop, ba_len]; omega
theorem ptS_at (old : ByteArray) (o : Nat) (s : ByteArray) (h : o + s.size ≤ old.size) (q : Nat) : (ptS old o s).data.toList.getD q 0 = if o ≤ q ∧ q < o + s.size then s.data.toList.getD (q - o) 0 else old.data.toList.getD q 0 := by
  rw [ptS_list]
  have hl := ba_len old
  have hs := ba_len s
  simp only [List.getD_eq_getElem?_getD]
  by_cases h1 : q < o
  · rw [if_neg (by omega), List.append_assoc, List.getElem?_append_left (by rw [List.length_take]; omega), List.getElem?_take_of_lt h1]
  · by_cases h2 : q < o + s.size
    · rw [if_pos (by omega), List.getElem?_append_left (by rw [List.length_append, List.length_take]; omega), List.getElem?_append_right (by rw [List.length_take]; omega), List.length_take, hl, Nat.min_eq_left (by omega)]
    · rw [if_neg (by omega), List.getElem?_append_right (by rw [List.length_append, List.length_take]; omega), List.length_append, List.length_take, List.getElem?_drop, hl, hs, Nat.min_eq_left (by omega)]
      congr 2
      omega

theorem readS_size {n : Nat} {L : List UInt8} {C : List Ent} (hL : L.length = n * 64) (hc : ∀ e ∈ C, e.k < n ∧ e.s.size = 64) {k : Nat} (hk : k < n) : (readS L C k).size = 64 := by
  unfold readS
  cases hf : findE C k with
  | some e => exact (hc e (find_mem hf).1).2
  | none => show (sec L k).toArray.size = 64; simp [sec_len hL hk]

theorem putE_nodup {C : List Ent} (h : (C.map Ent.k).Nodup) (k : Nat) (s : ByteArray) (t : Nat) : ((putE C k s t).map Ent.k).Nodup := by
  unfold putE
  rw [List.map_append]
  refine List.nodup_append.2 ⟨?_, by simp, ?_⟩
  · exact (List.Sublist.map _ List.filter_sublist).nodup h
  · intro a ha b hb
    obtain ⟨e, he, rfl⟩ := List.mem_map.1 ha
    have := (List.mem_filter.1 he).2
    simp at hb this
    omega
theorem findE_put_same {C : List Ent} (k : Nat) (s : ByteArray) (t : Nat) : findE (putE C k s t) k = some ⟨k, s, t⟩ := by
  unfold findE putE
  rw [List.find?_append]
  have : (C.filter (fun e => e.k != k)).find? (fun e => ((e.k : Nat) : Int) == (k : Int)) = none := by
    rw [List.find?_eq_none]
    intro e he
    have := (List.mem_filter.1 he).2
    simp at this ⊢
    omega
  rw [this]
  simp
theorem findE_put_other {C : List Ent} {k j : Nat} (hjk : j ≠ k) (s : ByteArray) (t : Nat) : findE (putE C k s t) j = findE C j := by
  unfold findE putE
  rw [List.find?_append]
  have h2 : ([⟨k, s, t⟩] : List Ent).find? (fun e => ((e.k : Nat) : Int) == (j : Int)) = none := by
    rw [List.find?_eq_none]; intro e he; have := List.mem_singleton.1 he; subst this; simp; omega
  rw [h2, Option.or_none]
  induction C with
  | nil => rfl
  | cons a r ih =>
    by_cases ha : a.k = k
    · rw [List.filter_cons_of_neg (by simpa using ha), ih, List.find?_cons_of_neg (by simp; omega)]
    · rw [List.filter_cons_of_pos (by simpa using ha)]
      by_cases hj : ((a.k : Nat) : Int) = (j : Int)
      · rw [List.find?_cons_of_pos (by simpa using hj), List.find?_cons_of_pos (by simpa using hj)]
      · rw [List.find?_cons_of_neg (by simpa using hj), List.find?_cons_of_neg (by simpa using hj), ih]
theorem rput_same (L : List UInt8) (C : List Ent) (k : Nat) (s : ByteArray) (t : Nat) : readS L (putE C k s t) k = s := by
  unfold readS; rw [findE_put_same]
theorem rput_other (L : List UInt8) (C : List Ent) {k j : Nat} (hjk : j ≠ k) (s : ByteArray) (t : Nat) : readS L (putE C k s t) j = readS L C j := by
  unfold readS; rw [findE_put_other hjk]

/-- The image behind some bytes that are put in a sector. -/
theorem img_put {n : Nat} {L : List UInt8} {C : List Ent} (hL : L.length = n * 64) (hc : ∀ e ∈ C, e.k < n ∧ e.s.size = 64) {k : Nat} (hk : k < n) (o : Nat) (s : ByteArray) (ho : o + s.size ≤ 64) (t p : Nat) :
    imgB L (putE C k (ptS (readS L C k) o s) t) p = if k * 64 + o ≤ p ∧ p < k * 64 + o + s.size then s.data.toList.getD (p - (k * 64 + o)) 0 else imgB L C p := by
  have hsz := readS_size hL hc hk
  unfold imgB
  by_cases hp : p / 64 = k
  · rw [hp, rput_same, ptS_at _ _ _ (by omega)]
    have hp2 := Nat.div_add_mod p 64
    by_cases hc : o ≤ p % 64 ∧ p % 64 < o + s.size
    · rw [if_pos hc, if_pos (by omega)]
      congr 1
      omega
    · rw [if_neg hc, if_neg (by omega)]
  · rw [rput_other _ _ hp]
    have hp2 := Nat.div_add_mod p 64
    rw [if_neg (by omega)]

/-- What is kept behind them. -/
theorem keeps_put {n : Nat} {D : Nat → Prop} {g : Nat → UInt8} {L : List UInt8} {C : List Ent} (h : Keeps D g L C) (hL : L.length = n * 64) (hc : ∀ e ∈ C, e.k < n ∧ e.s.size = 64) {k : Nat} (hk : k < n) (o : Nat) (s : ByteArray) (ho : o + s.size ≤ 64) (t : Nat)
    (hD : ∀ p, D p → ¬ (k * 64 + o ≤ p ∧ p < k * 64 + o + s.size)) : Keeps D g L (putE C k (ptS (readS L C k) o s) t) := by
  refine h.put fun p hp hpk => ?_
  have hsz := readS_size hL hc hk
  have hp2 := Nat.div_add_mod p 64
  rw [ptS_at _ _ _ (by omega), if_neg (by have := hD p hp; omega), ← hpk]
  exact h.img hp

/-- Some bytes of the image, as a list. -/
def imgL (L : List UInt8) (C : List Ent) (p n : Nat) : List UInt8 := (List.range n).map fun j => imgB L C (p + j)
theorem imgL_len (L : List UInt8) (C : List Ent) (p n : Nat) : (imgL L C p n).length = n := by simp [imgL]
theorem imgL_zero (L : List UInt8) (C : List Ent) (p : Nat) : imgL L C p 0 = [] := rfl
theorem imgL_add (L : List UInt8) (C : List Ent) (p a b : Nat) : imgL L C p (a + b) = imgL L C p a ++ imgL L C (p + a) b := by
  unfold imgL
  rw [List.range_add, List.map_append, List.map_map]
  congr 1
  apply List.map_congr_left
  intro j _
  simp [Nat.add_assoc]
/-- A part of a sector. -/
theorem imgL_sec {n : Nat} {L : List UInt8} {C : List Ent} (hL : L.length = n * 64) (hc : ∀ e ∈ C, e.k < n ∧ e.s.size = 64) {i : Nat} (hi : i < n) (o k : Nat) (h : o + k ≤ 64) :
    ((readS L C i).extract o (o + k)).data.toList = imgL L C (i * 64 + o) k := by
  have hsz := readS_size hL hc hi
  have hl := ba_len (readS L C i)
  rw [ByteArray.data_extract, Array.toList_extract]
  apply List.ext_getElem
  · simp [imgL, List.extract, hl, hsz]; omega
  · intro j h1 h2
    rw [imgL_len] at h2
    simp only [imgL, List.extract, List.getElem_map, List.getElem_range, List.getElem_take, List.getElem_drop, imgB]
    have e1 : (i * 64 + o + j) / 64 = i := by omega
    have e2 : (i * 64 + o + j) % 64 = o + j := by omega
    rw [e1, e2, List.getD_eq_getElem?_getD, List.getElem?_eq_getElem (by rw [hl, hsz]; omega)]
    rfl

/-- The file's bytes are these. -/
def Holds (L : List UInt8) (C : List Ent) (p : Nat) (A : List UInt8) : Prop := imgL L C p A.length = A
theorem Holds.at' {L : List UInt8} {C : List Ent} {p : Nat} {A : List UInt8} (h : Holds L C p A) {j : Nat} (hj : j < A.length) : imgB L C (p + j) = A.getD j 0 := by
  have h2 : A[j]? = some (imgB L C (p + j)) := by
    rw [← show imgL L C p A.length = A from h]
    simp [imgL, hj]
  rw [List.getD_eq_getElem?_getD, h2]; rfl
theorem holds_of {L : List UInt8} {C : List Ent} {p : Nat} {A : List UInt8} (h : ∀ j, j < A.length → imgB L C (p + j) = A.getD j 0) : Holds L C p A := by
  show imgL L C p A.length = A
  apply List.ext_getElem
  · rw [imgL_len]
  · intro j h1 h2
    simp only [imgL, List.getElem_map, List.getElem_range]
    rw [h j h2, List.getD_eq_getElem?_getD, List.getElem?_eq_getElem h2]; rfl
theorem Holds.congr {L L' : List UInt8} {C C' : List Ent} {p : Nat} {A : List UInt8} (h : Holds L C p A) (hh : ∀ j, j < A.length → imgB L' C' (p + j) = imgB L C (p + j)) : Holds L' C' p A :=
  holds_of fun j hj => (hh j hj).trans (h.at' hj)
theorem Holds.part {L : List UInt8} {C : List Ent} {p : Nat} {A : List UInt8} (h : Holds L C p A) {a k : Nat} (hk : a + k ≤ A.length) : imgL L C (p + a) k = (A.drop a).take k := by
  have e : A.length = a + (k + (A.length - (a + k))) := by omega
  have h1 : imgL L C p A.length = A := h
  rw [e, imgL_add, imgL_add] at h1
  have := congrArg (fun l => (l.drop a).take k) h1
  simp only [List.drop_append_of_le_length (Nat.le_of_eq (imgL_len L C p a).symm)] at this
  rw [List.drop_eq_nil_of_le (Nat.le_of_eq (imgL_len L C p a)), List.nil_append, List.take_append_of_le_length (Nat.le_of_eq (imgL_len L C (p + a) k).symm), List.take_of_length_le (Nat.le_of_eq (imgL_len L C (p + a) k))] at this
  exact this
theorem Holds.take {L : List UInt8} {C : List Ent} {p : Nat} {A : List UInt8} (h : Holds L C p A) (k : Nat) (hk : k ≤ A.length) : Holds L C p (A.take k) := by
  have := h.part (a := 0) (k := k) (by omega)
  rw [Nat.add_zero, List.drop_zero] at this
  show imgL L C p (A.take k).length = A.take k
  rw [List.length_take, Nat.min_eq_left hk]; exact this
theorem Holds.app {L L' : List UInt8} {C C' : List Ent} {p : Nat} {A T : List UInt8} (h : Holds L C p A) (hi : ∀ q, imgB L' C' q = if p + A.length ≤ q ∧ q < p + A.length + T.length then T.getD (q - (p + A.length)) 0 else imgB L C q) : Holds L' C' p (A ++ T) := by
  refine holds_of fun j hj => ?_
  rw [List.length_append] at hj
  rw [hi]
  by_cases h1 : j < A.length
  · rw [if_neg (by omega), h.at' h1]
    simp only [List.getD_eq_getElem?_getD]
    rw [List.getElem?_append_left h1]
  · rw [if_pos (by omega)]
    simp only [List.getD_eq_getElem?_getD]
    rw [List.getElem?_append_right (by omega)]
    congr 2
    omega

end Go.Proofs.Ytmcakilpdecacaa

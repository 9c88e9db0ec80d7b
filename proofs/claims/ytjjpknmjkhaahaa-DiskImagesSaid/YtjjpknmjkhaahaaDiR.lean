/- The reference of layer 17, first part: sectors as texts, a cache as it lies in a slice; Sync. -/
import Derived.Test.YtjjpknmjkhaahaaDkD
import Derived.Test.YtjjpknmjkhaahaaDosQ
import Derived.RegionTactic
import Derived.BigRegion
import Derived.BigQuiet
import Derived.Deep.QuietTactic
import Derived.Laws.ResultCell
namespace Go.Proofs.Ytjjpknmjkhaahaa
open Go Go.RowKit Go.Maps
set_option maxRecDepth 100000

theorem di_same {n : Nat} {L : List UInt8} (h : L.length = n * 64) {i : Nat} (hi : i < n) {T : List UInt8} (hT : T.length = 64) : sec (setS L i T) i = T := by
  unfold sec setS putB
  rw [List.append_assoc, List.drop_append_of_le_length (by rw [List.length_take]; omega), List.drop_eq_nil_of_le (by rw [List.length_take]; omega), List.nil_append, List.take_append_of_le_length (by omega), List.take_of_length_le (by omega)]
theorem di_other {n : Nat} {L : List UInt8} (h : L.length = n * 64) {i j : Nat} (hi : i < n) (_hj : j < n) (hne : j ≠ i) {T : List UInt8} (hT : T.length = 64) : sec (setS L i T) j = sec L j := by
  unfold sec setS putB
  apply List.ext_getElem?
  intro q
  by_cases hq : q < 64
  · rw [List.getElem?_take_of_lt hq, List.getElem?_take_of_lt hq, List.getElem?_drop, List.getElem?_drop]
    have hlt : (L.take (i * 64)).length = i * 64 := by rw [List.length_take]; omega
    by_cases hji : j < i
    · rw [List.append_assoc, List.getElem?_append_left (by omega), List.getElem?_take_of_lt (by omega)]
    · have : i < j := by omega
      rw [List.getElem?_append_right (by rw [List.length_append]; omega), List.getElem?_drop, List.length_append, hlt]
      congr 1
      omega
  · rw [List.getElem?_take_eq_none (by omega), List.getElem?_take_eq_none (by omega)]
theorem di_len {n : Nat} {L : List UInt8} (h : L.length = n * 64) {i : Nat} (hi : i < n) {T : List UInt8} (hT : T.length = 64) : (setS L i T).length = n * 64 := by
  unfold setS; rw [putB_len (by omega), h]

/-- Sectors as texts. -/
def secV (n : Nat) (L : List UInt8) : List Value := (List.range n).map fun k => Value.string ⟨(sec L k).toArray⟩
theorem secV_len (n : Nat) (L : List UInt8) : (secV n L).length = n := by simp [secV]
theorem secV_get {n : Nat} {L : List UInt8} {i : Nat} (h : i < n) : (secV n L)[i]? = some (.string ⟨(sec L i).toArray⟩) := by simp [secV, h]
theorem secV_one (n : Nat) (L : List UInt8) : ∀ u ∈ secV n L, u.oneCell' = true := by
  intro u hu
  simp [secV] at hu
  obtain ⟨_, _, rfl⟩ := hu
  rfl
theorem secV_set {n k : Nat} {L : List UInt8} (h : L.length = n * 64) (hk : k < n) (s : ByteArray) (hs : s.size = 64) : (secV n L).set k (.string s) = secV n (setS L k s.data.toList) := by
  have hl : s.data.toList.length = 64 := by rw [Array.length_toList]; exact hs
  apply List.ext_getElem?
  intro i
  rw [List.getElem?_set, secV_len]
  by_cases hi : i < n
  · rw [secV_get hi, secV_get hi]
    by_cases e : k = i
    · subst e
      rw [if_pos rfl, if_pos hi, di_same h hk hl]
    · rw [if_neg e, di_other h hk hi (fun e' => e e'.symm) hl]
  · have e1 : (secV n (setS L k s.data.toList))[i]? = none := List.getElem?_eq_none (by rw [secV_len]; omega)
    have e2 : (secV n L)[i]? = none := List.getElem?_eq_none (by rw [secV_len]; omega)
    rw [e1, e2, if_neg (by omega)]
theorem Try.infoStr : (Try.prog.info? 9).map (fun i => (i.zero, i.size, i.bytes)) = some (some (.string ⟨#[]⟩), 1, 16) := by kernel_rfl
theorem Try.sizeDi : (Try.prog.info? 31).map (·.size) = some 4 := by kernel_rfl

/-- A cache as it lies in a slice: two cells an entry. -/
def Ch (w : World) (v : Value) (C : List Ent) : Prop := ∃ a cap, v = .slice a C.length cap ∧ C.length ≤ cap ∧ cap ≤ maxLen ∧ (C = [] ∨ ∃ g off, a = some ⟨g, off, none⟩ ∧ g < w.heap.size ∧ ∀ j e, C[j]? = some e → w.cell? ⟨g, off + j * 2, none⟩ = some (.int .i64 (e.k : Nat)) ∧ w.cell? ⟨g, off + j * 2 + 1, none⟩ = some (.string e.s))
theorem Ch.nil (w : World) : Ch w (.slice none 0 0) [] := ⟨none, 0, rfl, Nat.le_refl _, Nat.zero_le _, .inl rfl⟩
theorem Ch.form {w : World} {v : Value} {C : List Ent} (h : Ch w v C) : ∃ a cap, v = .slice a C.length cap ∧ C.length ≤ cap ∧ cap ≤ maxLen := by
  obtain ⟨a, cap, rfl, h1, h2, _⟩ := h
  exact ⟨a, cap, rfl, h1, h2⟩
theorem Ch.kept {S : Nat → Prop} {w w' : World} {v : Value} {C : List Ent} (h : Ch w v C) (ht : Touch S w w') (hn : ∀ g, v.ownBlock = some g → ¬ S g) : Ch w' v C := by
  obtain ⟨a, cap, rfl, h1, h2, h3⟩ := h
  refine ⟨a, cap, rfl, h1, h2, ?_⟩
  rcases h3 with h3 | ⟨g, off, rfl, hg, h4⟩
  · exact .inl h3
  · have hng := hn g rfl
    exact .inr ⟨g, off, rfl, Nat.lt_of_lt_of_le hg ht.size, fun j e he => ⟨ht.cell (h4 j e he).1 hng, ht.cell (h4 j e he).2 hng⟩⟩
theorem Ch.at' {w : World} {v : Value} {C : List Ent} (h : Ch w v C) {k : Nat} (hk : k < C.length) : ∃ g off cap, v = .slice (some ⟨g, off, none⟩) C.length cap ∧ g < w.heap.size ∧ w.cell? ⟨g, off + k * 2, none⟩ = some (.int .i64 (C[k].k : Nat)) ∧ w.cell? ⟨g, off + k * 2 + 1, none⟩ = some (.string C[k].s) := by
  obtain ⟨a, cap, rfl, h1, h2, h3⟩ := h
  rcases h3 with rfl | ⟨g, off, rfl, hg, h4⟩
  · exact absurd hk (Nat.not_lt_zero _)
  · exact ⟨g, off, cap, rfl, hg, (h4 k _ (List.getElem?_eq_getElem hk)).1, (h4 k _ (List.getElem?_eq_getElem hk)).2⟩

theorem Ch.lt {w : World} {v : Value} {C : List Ent} (h : Ch w v C) : ∀ g, v.ownBlock = some g → C = [] ∨ g < w.heap.size := by
  obtain ⟨a, cap, rfl, h1, h2, h3⟩ := h
  intro g hg
  rcases h3 with h3 | ⟨g', off, rfl, hg', h4⟩
  · exact .inl h3
  · injection hg with hg
    subst hg
    exact .inr hg'
theorem Ch.kept0 {S : Nat → Prop} {w w' : World} {v : Value} {C : List Ent} (h : Ch w v C) (ht : Touch S w w') (hn : ∀ g, g < w.heap.size → ¬ S g) : Ch w' v C := by
  obtain ⟨a, cap, rfl, h1, h2, h3⟩ := h
  refine ⟨a, cap, rfl, h1, h2, ?_⟩
  rcases h3 with h3 | ⟨g, off, rfl, hg, h4⟩
  · exact .inl h3
  · exact .inr ⟨g, off, rfl, Nat.lt_of_lt_of_le hg ht.size, fun j e he => ⟨ht.cell (h4 j e he).1 (hn g hg), ht.cell (h4 j e he).2 (hn g hg)⟩⟩

theorem Ch.kept1 {S : Nat → Prop} {w w' : World} {v : Value} {C : List Ent} (h : Ch w v C) (ht : Touch S w w') (hn : ∀ g, v.ownBlock = some g → C = [] ∨ ¬ S g) : Ch w' v C := by
  obtain ⟨a, cap, rfl, h1, h2, h3⟩ := h
  refine ⟨a, cap, rfl, h1, h2, ?_⟩
  rcases h3 with h3 | ⟨g, off, rfl, hg, h4⟩
  · exact .inl h3
  · rcases hn g rfl with h5 | hng
    · exact .inl h5
    · exact .inr ⟨g, off, rfl, Nat.lt_of_lt_of_le hg ht.size, fun j e he => ⟨ht.cell (h4 j e he).1 hng, ht.cell (h4 j e he).2 hng⟩⟩

/-- The reference's disk in its box. -/
def DAt (w : World) (x : Nat) (lv cv : Value) (off : Bool) (fz : Int) : Prop := Block w x 31 [lv, cv, .bool off, .int .i64 fz]
theorem DAt.kept {S : Nat → Prop} {w w' : World} {x : Nat} {lv cv : Value} {off : Bool} {fz : Int} (h : DAt w x lv cv off fz) (ht : Touch S w w') (hn : ¬ S x) : DAt w' x lv cv off fz := Block.kept h ht hn
theorem DAt.cells {w : World} {x : Nat} {lv cv : Value} {off : Bool} {fz : Int} (h : DAt w x lv cv off fz) :
    w.cell? ⟨x, 0, none⟩ = some lv ∧ w.cell? ⟨x, 1, none⟩ = some cv ∧ w.cell? ⟨x, 2, none⟩ = some (.bool off) ∧ w.cell? ⟨x, 3, none⟩ = some (.int .i64 fz) :=
  ⟨Block.cell h 0, Block.cell h 1, Block.cell h 2, Block.cell h 3⟩
theorem d_set4 {w : World} {x : Nat} {lv cv lv' cv' : Value} {off off' : Bool} {fz fz' : Int} (h : DAt w x lv cv off fz) :
    DAt ((((w.setCell ⟨x, 0, none⟩ lv').setCell ⟨x, 1, none⟩ cv').setCell ⟨x, 2, none⟩ (.bool off')).setCell ⟨x, 3, none⟩ (.int .i64 fz')) x lv' cv' off' fz' :=
  Block.set (Block.set (Block.set (Block.set h 0 _) 1 _) 2 _) 3 _
theorem d_touch4 {w : World} (x : Nat) (u0 u1 u2 u3 : Value) : Touch (fun j => j = x) w ((((w.setCell ⟨x, 0, none⟩ u0).setCell ⟨x, 1, none⟩ u1).setCell ⟨x, 2, none⟩ u2).setCell ⟨x, 3, none⟩ u3) :=
  ((((Touch.refl (fun j => j = x) w).setCell (p := ⟨x, 0, none⟩) (Or.inl rfl) _).setCell (p := ⟨x, 1, none⟩) (Or.inl rfl) _).setCell (p := ⟨x, 2, none⟩) (Or.inl rfl) _).setCell (p := ⟨x, 3, none⟩) (Or.inl rfl) _
theorem d_new {w w' : World} (h : Touch (fun j => w.heap.size ≤ j) w w') : Touch (fun _ => False) w w' :=
  ⟨h.os, h.tape, h.output, h.size, fun k hk _ => h.block k hk (by omega)⟩
theorem d_addr {w : World} {e : TypeId} {v : Value} {xs : List Value} {n : Nat} (h : Row w e v xs) (hl : xs.length = n) (hn : 0 < n) :
    ∃ g off cap, v = .slice (some ⟨g, off, none⟩) n cap ∧ (∀ j u, xs[j]? = some u → w.cell? ⟨g, off + j, none⟩ = some u) ∧ ∀ k, w.frozen? ⟨g, off + k, none⟩ = false := by
  obtain ⟨g, off, cap, rfl, _, _, h4⟩ := h.addr (by omega)
  exact ⟨g, off, cap, by rw [hl], h4, fun k => Row.free h⟩
def DNew (w : World) (v : Value) : Prop := ∀ g, v.ownBlock = some g → w.heap.size ≤ g

/-- A Sync's sectors. -/
def syncL (L : List UInt8) (C : List Ent) : List UInt8 := C.foldl (fun L e => setS L e.k e.s.data.toList) L
theorem syncL_snoc (L : List UInt8) (C : List Ent) (e : Ent) : syncL L (C ++ [e]) = setS (syncL L C) e.k e.s.data.toList := by unfold syncL; rw [List.foldl_append]; rfl
theorem syncL_len {n : Nat} : ∀ (C : List Ent) (L : List UInt8), L.length = n * 64 → (∀ e ∈ C, e.k < n ∧ e.s.size = 64) → (syncL L C).length = n * 64
  | [], L, h, _ => h
  | e :: r, L, h, hc => by
    have he := hc e List.mem_cons_self
    exact syncL_len r _ (di_len h he.1 (by rw [Array.length_toList]; exact he.2)) (fun e' h' => hc e' (List.mem_cons_of_mem _ h'))
end Go.Proofs.Ytjjpknmjkhaahaa

/- A tree of names in memory: places as keys, the map, newTree, enter. -/
import Derived.Test.YtmhigecchligcaaDoorNamT
import Derived.Test.YtmhigecchligcaaDoorArr
import Derived.Test.YtmhigecchligcaaDoorNum
import Derived.Test.YtmhigecchligcaaDoorRows
import Derived.Maps.Own
import Derived.Maps.OwnSet
import Derived.DeepKeys4
import Derived.WalkSpells
import Derived.OwnWalk
import Derived.WalkLawsBesides
import Derived.Lib.Hide
import Derived.RegionTactic
import Derived.BigRegion
import Derived.BigQuiet
import Derived.Deep.QuietTactic
import Derived.Deep.RegionHeld3
import Derived.Deep.RegionLaw
namespace Go.Proofs.YtmhigecchligcaaDoor
open Go Go.RowKit Go.Maps Go.MapKept Go.ChangeMaps
set_option maxRecDepth 100000

theorem Tryd.keyTypePl : Tryd.prog.keyType 64 = true := by kernel_rfl
theorem Tryd.tiledPl : Tryd.prog.tiled 3 64 = true := by kernel_rfl
theorem Tryd.widePl : (match Tryd.prog.underlying 64 with | some (.array _ _) | some (.struct _) => true | _ => false) = true := by kernel_rfl
theorem Tryd.keyedPl : Keyed Tryd.prog 64 := Keyed.of_law (deep_law (m := 3) (by omega) (by kernel_rfl) Tryd.tiledPl Tryd.widePl)
theorem Tryd.cellsPl : Tryd.prog.cellsOf 64 = 2 := by kernel_rfl
theorem Tryd.cellsIntPl : Tryd.prog.cellsOf 3 = 1 := by kernel_rfl
theorem Tryd.cellsStrPl : Tryd.prog.cellsOf 9 = 1 := by kernel_rfl
theorem zeroPl (w : World) : (zeroValue 3).run Tryd.prog w = .ok (.int .i64 0) w := by kernel_rfl

/-- A place as a key. -/
def plKey (d : Nat) (t : List UInt8) : Lit := .string (keyBytes [.int .i64 (d : Nat), .string t])
theorem keyOf_pl (d : Nat) (t : ByteArray) (hd : d ≤ 1000000001) (ht : t.size ≤ 65535) : keyOf Tryd.prog 64 (.agg #[.int .i64 (d : Nat), .string t]) = some (plKey d t.data.toList) := by
  have hw : (Lit.int .i64 (d : Nat)).wf = true := WalkArith.wf_i64 (by omega)
  have ht' : t.size ≤ maxLen := by unfold maxLen; omega
  obtain ⟨m, hm⟩ : ∃ m, Tryd.prog.types.size = m + 1 := ⟨Tryd.prog.types.size - 1, (Nat.sub_add_cancel (by decide +kernel : 1 ≤ Tryd.prog.types.size)).symm⟩
  unfold keyOf
  simp only [Tryd.underlying64]
  rw [if_pos (by simp [Tryd.keyTypePl, Value.formed, Tryd.underlying64, Tryd.cellsPl]), hm]
  unfold Program.keyLits
  simp only [Tryd.underlying64, Value.cells]
  rw [if_pos (by simp [Tryd.cellsPl])]
  simp [Tryd.cellsIntPl, Tryd.cellsStrPl, Program.keyLits, Tryd.underlying3, Tryd.underlying9, hw, ht', plKey]
theorem plKey_inj {d d' : Nat} {t t' : ByteArray} (hd : d ≤ 1000000001) (hd' : d' ≤ 1000000001) (ht : t.size ≤ 65535) (ht' : t'.size ≤ 65535) (h : plKey d t.data.toList = plKey d' t'.data.toList) : d = d' ∧ t = t' := by
  have := keyOf_inj_deep Tryd.tiledPl Tryd.widePl (keyOf_pl d t hd ht) (by rw [h]; exact keyOf_pl d' t' hd' ht')
  injection this with this
  have e := congrArg Array.toList this
  simp at e
  exact ⟨by omega, e.2⟩

/-- What a map's reading tells of the places of a tree. -/
structure MapOf (D : DataW Unit) (P : List Path) : Prop where
  at' : ∀ (d k : Nat) (p : Path) (t : ByteArray), P[d]? = some p → P[k]? = some (p ++ [t.data.toList]) → Maps.has D (plKey d t.data.toList) = true ∧ ∀ z, D.atKey (plKey d t.data.toList) z = .lit (.int .i64 (k : Nat))
  only : ∀ kl, Maps.has D kl = true → ∃ (d k : Nat) (p : Path) (t : ByteArray), kl = plKey d t.data.toList ∧ P[d]? = some p ∧ P[k]? = some (p ++ [t.data.toList])
def Small (P : List Path) : Prop := ∀ (p : Path) (t : ByteArray), p ++ [t.data.toList] ∈ P → t.size ≤ 65535
theorem get_lt {P : List Path} {k : Nat} {p : Path} (h : P[k]? = some p) : k < P.length := (List.getElem?_eq_some_iff.1 h).1
theorem bytes_inj {s t : ByteArray} (h : s.data.toList = t.data.toList) : s = t := by apply ByteArray.ext; exact Array.toList_inj.1 h
theorem MapOf.none {D : DataW Unit} {P : List Path} (h : MapOf D P) (hs : Small P) (hb : P.length ≤ 1000000000) {d : Nat} {q : Path} {t : ByteArray} (ht : t.size ≤ 65535) (hd : P[d]? = some q) (hn : q ++ [t.data.toList] ∉ P) : Maps.has D (plKey d t.data.toList) = false := by
  cases hh : Maps.has D (plKey d t.data.toList) with
  | false => rfl
  | true =>
    obtain ⟨d', k', p', t', e, e1, e2⟩ := h.only _ hh
    have l1 := get_lt hd
    have l2 := get_lt e1
    obtain ⟨rfl, rfl⟩ := plKey_inj (by omega) (by omega) ht (hs _ _ (List.mem_of_getElem? e2)) e
    rw [hd] at e1
    cases e1
    exact absurd (List.mem_of_getElem? e2) hn
theorem Small.snoc {P : List Path} (h : Small P) {q : Path} {t : ByteArray} (ht : t.size ≤ 65535) : Small (P ++ [q ++ [t.data.toList]]) := by
  intro p u hp
  rw [List.mem_append] at hp
  rcases hp with hp | hp
  · exact h p u hp
  · have e := List.mem_singleton.1 hp
    have e2 := (List.append_inj' e rfl).2
    injection e2 with e2
    rw [bytes_inj e2]
    exact ht
theorem MapOf.put {D : DataW Unit} {P : List Path} (h : MapOf D P) (hT : Tidy D) (hP : TreeP P) (hs : Small P) (hb : P.length ≤ 1000000000) {d : Nat} {q : Path} {t : ByteArray} (ht : t.size ≤ 65535) (hd : P[d]? = some q) (hn : q ++ [t.data.toList] ∉ P) :
    MapOf (D.put (plKey d t.data.toList) (.lit (.int .i64 (P.length : Nat)))) (P ++ [q ++ [t.data.toList]]) := by
  have hk : WideAt.IsKeyLit (plKey d t.data.toList) := trivial
  have hP' := hP.snoc hd hn
  have hs' := hs.snoc (q := q) ht
  have hdl := get_lt hd
  refine ⟨fun d' k' p' t' e1 e2 => ?_, fun kl hkl => ?_⟩
  · have l1 := get_lt e1
    rw [List.length_append, List.length_singleton] at l1
    by_cases e : plKey d' t'.data.toList = plKey d t.data.toList
    · obtain ⟨rfl, rfl⟩ := plKey_inj (by omega) (by omega) (hs' _ _ (List.mem_of_getElem? e2)) ht e
      rw [List.getElem?_append_left hdl, hd] at e1
      cases e1
      have : k' = P.length := hP'.inj e2 (by simp)
      subst this
      exact ⟨has_put_same hT.isMap hk _, fun z => atKey_put_same hT.isMap hk _ _⟩
    · have hd' : d' < P.length := by
        rcases Nat.lt_or_ge d' P.length with h1 | h1
        · exact h1
        · obtain rfl : d' = P.length := by omega
          rw [List.getElem?_append_right (Nat.le_refl _), Nat.sub_self] at e1
          have e1 : p' = q ++ [t.data.toList] := (Option.some.inj e1).symm
          have hm := List.mem_of_getElem? e2
          rw [List.mem_append] at hm
          rcases hm with hm | hm
          · exact absurd (e1 ▸ hP.closed _ _ hm) hn
          · have := congrArg List.length (List.mem_singleton.1 hm)
            rw [e1] at this
            simp at this
      rw [List.getElem?_append_left hd'] at e1
      have hk' : k' < P.length := by
        have l2 := get_lt e2
        rw [List.length_append, List.length_singleton] at l2
        rcases Nat.lt_or_ge k' P.length with h1 | h1
        · exact h1
        · obtain rfl : k' = P.length := by omega
          rw [List.getElem?_append_right (Nat.le_refl _), Nat.sub_self] at e2
          have e2 : p' ++ [t'.data.toList] = q ++ [t.data.toList] := (Option.some.inj e2).symm
          obtain ⟨e3, e4⟩ := List.append_inj' e2 rfl
          injection e4 with e4
          subst e3
          exact absurd (by rw [hP.inj e1 hd, e4]) e
      rw [List.getElem?_append_left hk'] at e2
      obtain ⟨h1, h2⟩ := h.at' d' k' p' t' e1 e2
      exact ⟨by rw [has_put_other e]; exact h1, fun z => by rw [atKey_put_other e]; exact h2 z⟩
  · by_cases e : kl = plKey d t.data.toList
    · exact ⟨d, P.length, q, t, e, by rw [List.getElem?_append_left hdl]; exact hd, by simp⟩
    · rw [has_put_other e] at hkl
      obtain ⟨d', k', p', t', e0, e1, e2⟩ := h.only kl hkl
      exact ⟨d', k', p', t', e0, by rw [List.getElem?_append_left (get_lt e1)]; exact e1, by rw [List.getElem?_append_left (get_lt e2)]; exact e2⟩

def boolVs (F : List Bool) : List Value := F.map Value.bool
theorem boolVs_length (F : List Bool) : (boolVs F).length = F.length := by simp [boolVs]
/-- A tree in memory: its box, its map, the row that tells which are files. -/
structure TrAt (w : World) (tb mb n base : Nat) (fv : Value) (P : List Path) (F : List Bool) : Prop where
  box : Block w tb 60 [.map (some mb), fv]
  row : Row w 4 fv (boolVs F)
  own : ∀ g, fv.ownBlock = some g → base ≤ g ∧ g ≠ tb ∧ g ≠ mb
  map : ∃ D : DataW Unit, w.ownsMap Tryd.prog 64 (plainElem Tryd.prog 3) mb n D ∧ MapOf D P
  tree : TreeP P
  small : Small P
  len : F.length = P.length
  lo : base ≤ tb ∧ base ≤ mb ∧ tb ≠ mb
  hn : n ≤ P.length
theorem map_block {w w' : World} {mb n : Nat} {D : DataW Unit} (h : w.ownsMap Tryd.prog 64 (plainElem Tryd.prog 3) mb n D) (hb : w'.heap[mb]? = w.heap[mb]?) : w'.ownsMap Tryd.prog 64 (plainElem Tryd.prog 3) mb n D := by
  obtain ⟨es, clock, h1, h2⟩ := h
  exact ⟨es, clock, hb.trans h1, h2⟩
theorem TrAt.lt {w : World} {tb mb n base : Nat} {fv : Value} {P : List Path} {F : List Bool} (h : TrAt w tb mb n base fv P F) : tb < w.heap.size ∧ mb < w.heap.size ∧ ∀ g, fv.ownBlock = some g → g < w.heap.size := by
  obtain ⟨D, h1, _⟩ := h.map
  exact ⟨Block.lt h.box, h1.lt, h.row.lt⟩
theorem TrAt.kept {S : Nat → Prop} {w w' : World} {tb mb n base : Nat} {fv : Value} {P : List Path} {F : List Bool} (h : TrAt w tb mb n base fv P F) (ht : Touch S w w') (h1 : ¬ S tb) (h2 : ¬ S mb) (h3 : ∀ g, fv.ownBlock = some g → ¬ S g) : TrAt w' tb mb n base fv P F := by
  obtain ⟨D, hm, hD⟩ := h.map
  exact { h with box := Block.kept h.box ht h1, row := h.row.kept ht h3, map := ⟨D, map_block hm (ht.block mb hm.lt h2), hD⟩ }
theorem TrAt.still {w w' : World} {tb mb n base : Nat} {fv : Value} {P : List Path} {F : List Bool} (h : TrAt w tb mb n base fv P F) (ht : Touch (fun _ => False) w w') : TrAt w' tb mb n base fv P F := h.kept ht id id (fun _ _ => id)
theorem TrAt.look {w : World} {tb mb n base : Nat} {fv : Value} {P : List Path} {F : List Bool} (h : TrAt w tb mb n base fv P F) (hb : P.length ≤ 1000000000) {d : Nat} {q : Path} {t : ByteArray} (ht : t.size ≤ 65535) (hd : P[d]? = some q) (c : Nat) (b : Bool) (hc : (b = true ∧ P[c]? = some (q ++ [t.data.toList])) ∨ (b = false ∧ c = 0 ∧ q ++ [t.data.toList] ∉ P)) :
    (Instr.lookup 57 (.map (some mb)) (.agg #[.int .i64 (d : Nat), .string t]) true).run Tryd.prog w = .ok (.tuple #[.int .i64 (c : Nat), .bool b]) w := by
  obtain ⟨D, hown, hD⟩ := h.map
  have hdl := get_lt hd
  obtain ⟨v, ps, hrun, hv⟩ := hown.look_ok Tryd.keyedPl Tryd.underlying57 (zeroPl w) (plainElem_int Tryd.underlying3 (by decide)) (keyOf_pl d t (by omega) ht)
  obtain ⟨c', rfl, he, _⟩ := plainElem_int_inv Tryd.underlying3 hv
  injection he with he _
  rcases hc with ⟨rfl, hc⟩ | ⟨rfl, rfl, hc⟩
  · obtain ⟨h1, h2⟩ := hD.at' d c q t hd hc
    rw [h2] at he
    injection he with he
    injection he with _ he
    rw [hrun, h1, ← he]
  · have hno := hD.none h.small hb ht hd hc
    rw [atKey_of_not_has hno] at he
    injection he with he
    injection he with _ he
    rw [hrun, hno, ← he]
    rfl
theorem TrAt.store {w : World} {tb mb n base : Nat} {fv : Value} {P : List Path} {F : List Bool} (h : TrAt w tb mb n base fv P F) (hb : P.length ≤ 1000000000) {d : Nat} {q : Path} {t : ByteArray} (ht : t.size ≤ 65535) (hd : P[d]? = some q) (hn : q ++ [t.data.toList] ∉ P) :
    ∃ w', (Instr.mapUpdate 57 (.map (some mb)) (.agg #[.int .i64 (d : Nat), .string t]) (.int .i64 (P.length : Nat))).run Tryd.prog w = .ok () w' ∧ w.grownBy w' (some mb) ∧
      ∃ D : DataW Unit, w'.ownsMap Tryd.prog 64 (plainElem Tryd.prog 3) mb (n + 1) D ∧ MapOf D (P ++ [q ++ [t.data.toList]]) := by
  obtain ⟨D, hown, hD⟩ := h.map
  have hdl := get_lt hd
  have hnb := h.hn
  obtain ⟨w', r1, r2, r3⟩ := hown.update Tryd.keyedPl Tryd.underlying57 (by unfold maxLen; omega) (keyOf_pl d t (by omega) ht) (plainElem_int Tryd.underlying3 (WalkArith.wf_i64 (n := (P.length : Int)) (by omega)))
  exact ⟨w', r1, r3, _, r2, hD.put (hown.tidy Tryd.keyedPl) h.tree h.small hb ht hd hn⟩
end Go.Proofs.YtmhigecchligcaaDoor

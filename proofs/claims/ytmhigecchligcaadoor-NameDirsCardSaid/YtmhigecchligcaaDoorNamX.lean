/- Contract: adding a name to a tree. -/
import Derived.Test.YtmhigecchligcaaDoorNamW
import Derived.BigRegionIn
import Derived.RangeFuncNested
import Derived.RangeFuncBound
import Derived.RangeFuncCalls
import Derived.RangeFuncLeaves
import Derived.RangeFuncWrites
import Derived.RangeFuncBox
namespace Go.Proofs.YtmhigecchligcaaDoor
open Go Go.RowKit Go.Shelf Go.Maps Go.MapKept Go.ChangeMaps
set_option maxRecDepth 100000
attribute [local go_sem] Oper.semAt_some

def pth {S : ByteArray} (pre : List (Pt S)) : Path := pre.map fun x => x.t.data.toList
theorem pth_snoc {S : ByteArray} (pre : List (Pt S)) (x : Pt S) : pth (pre ++ [x]) = pth pre ++ [x.t.data.toList] := by simp [pth]
theorem pth_all (S : ByteArray) : pth (ptsA S 0) = spl S.data.toList := by
  have := tsOf_spl S S.size 0 (by omega) (by omega)
  rw [List.drop_zero] at this
  rw [← this]
  rfl
theorem pth_length {S : ByteArray} (pre : List (Pt S)) : (pth pre).length = pre.length := by simp [pth]

/-- What of a tree may be written. -/
def TrS (tb mb : Nat) (fv : Value) (k : Nat) : Prop := k = tb ∨ k = mb ∨ fv.ownBlock = some k
theorem Row.cellsAt {w : World} {e : TypeId} {v : Value} {xs : List Value} (h : Row w e v xs) {g : Nat} (hg : v.ownBlock = some g) : ∃ o : Obj, w.heap[g]? = some o ∧ o.isCells = true := by
  rcases h with ⟨rfl, _⟩ | ⟨g', off, cap, cur, rfl, hh, _⟩
  · simp [Value.ownBlock] at hg
  · simp [Value.ownBlock] at hg
    subst hg
    exact ⟨_, hh, rfl⟩
theorem keeps_touch {W W' : World} {tb mb n base B : Nat} {fv : Value} {P : List Path} {F : List Bool} {T : Nat → Prop} (h : TrAt W tb mb n base fv P F) (ht : Touch T W W') (hT : ∀ k, T k → TrS tb mb fv k ∨ ∃ o : Obj, W.heap[k]? = some o ∧ o.isCells = true) (h2 : mb < B) : KeepsFrom B W W' :=
  ⟨ht.size, fun k o hk ho hc => by
    refine (ht.block k (Array.getElem?_eq_some_iff.1 ho).1 (fun hs => ?_)).trans ho
    rcases hT k hs with (rfl | rfl | hg) | ⟨o', ho', hc'⟩
    · rw [show W.heap[k]? = _ from h.box] at ho
      cases ho
      cases hc
    · omega
    · obtain ⟨o', ho', hc'⟩ := h.row.cellsAt hg
      rw [ho'] at ho
      cases ho
      rw [hc'] at hc; cases hc
    · rw [ho'] at ho
      cases ho
      rw [hc'] at hc; cases hc⟩
theorem TrAt.grown {W W' : World} {tb mb n base B : Nat} {fv : Value} {P : List Path} {F : List Bool} {row : Option Nat} (h : TrAt W tb mb n base fv P F) (hg : W.grownBy W' row) (hr : ∀ r, row = some r → B ≤ r ∧ ∃ o : Obj, W.heap[r]? = some o ∧ o.isCells = false) (h2 : mb < B) : TrAt W' tb mb n base fv P F := by
  refine h.kept (S := fun k => some k = row) (Touch.of_grown hg) (fun e => ?_) (fun e => ?_) (fun g hv e => ?_)
  · obtain ⟨_, o, ho, hc⟩ := hr tb e.symm
    rw [show W.heap[tb]? = _ from h.box] at ho
    cases ho; cases hc
  · have := (hr mb e.symm).1
    omega
  · obtain ⟨_, o, ho, hc⟩ := hr g e.symm
    obtain ⟨o', ho', hc'⟩ := h.row.cellsAt hv
    rw [ho'] at ho
    cases ho
    rw [hc'] at hc; cases hc

theorem results_cellB {P : Program} {fn : Func} {p : Tmp} {ty : TypeId} (h : fn.results = #[.cell p ty]) (tmps : Array Value) (w : World) (a : Addr) (v : Value)
    (hp : tmps.getD p undef = .pointer (some a)) (hc : w.cell? a = some v) (hu : P.underlying ty = some .bool) : (results fn tmps).run P w = .ok v w := by
  have hp' : tmps[p]?.getD undef = .pointer (some a) := by simpa using hp
  simp [results, h, hp', asAddr, loadVar, isAgg, Sem.run_bind, run_underlying hu w, go_sem, hc]
theorem boxed_touch {S : Nat → Prop} {W W' : World} {b : Nat} {t : TypeId} {v : Value} (h : Boxed W b t v) (ht : Touch S W W') (hn : ¬ S b) : Boxed W' b t v := (ht.block b h.lt hn).trans h
/-- What a round of add leaves. -/
def AdI (S : ByteArray) (w : World) (tb mb base : Nat) (fv : Value) (P : List Path) (F : List Bool) (B : Nat) (pre : List (Pt S)) (W : World) : Prop :=
  ∃ (n' k : Nat) (fv' : Value) (P' : List Path) (F' : List Bool), TrAt W tb mb n' base fv' P' F' ∧ Adding P F (pth pre) P' F' k ∧ P'.length ≤ P.length + pre.length ∧ (∀ g, fv'.ownBlock = some g → TrS tb mb fv g ∨ B + 5 ≤ g) ∧
    Boxed W B 44 (.pointer (some ⟨tb, 0, none⟩)) ∧ Boxed W (B + 1) 4 (.bool false) ∧ Boxed W (B + 2) 3 (.int .i64 (k : Nat)) ∧ Boxed W (B + 3) 4 (.bool (decide (pth pre ∉ P))) ∧
    B + 5 ≤ W.heap.size ∧ Touch (TrS tb mb fv) w W
def AdX (S : ByteArray) (w : World) (tb mb : Nat) (fv : Value) (P : List Path) (F : List Bool) (B : Nat) (c : Code) (pre : List (Pt S)) (W : World) : Prop :=
  c = .ret ∧ (∃ j, j < pre.length ∧ isF P F ((pth pre).take j)) ∧ Boxed W (B + 1) 4 (.bool false) ∧ Touch (TrS tb mb fv) w W
theorem boxed_grown {W W' : World} {b B : Nat} {t : TypeId} {v : Value} {row : Option Nat} (h : Boxed W b t v) (hg : W.grownBy W' row) (hr : ∀ r, row = some r → B ≤ r ∧ ∃ o : Obj, W.heap[r]? = some o ∧ o.isCells = false) : Boxed W' b t v :=
  h.kept hg (fun e => by
    obtain ⟨_, o, ho, hc⟩ := hr b e.symm
    rw [show W.heap[b]? = _ from h] at ho
    cases ho; cases hc)
theorem AdI_own (S : ByteArray) (w : World) (tb mb base : Nat) (fv : Value) (P : List Path) (F : List Bool) (B N : Nat) (hB : w.heap.size ≤ B) (hN : B ≤ N) (hm : mb < B) : OwnFrom N (AdI S w tb mb base fv P F B) := by
  rintro pre W W' row ⟨n', k, fv', P', F', h1, h2, h3, h4, h5, h6, h7, h8, h9, h10⟩ hg hr
  refine ⟨n', k, fv', P', F', h1.grown hg hr (by omega), h2, h3, h4, boxed_grown h5 hg hr, boxed_grown h6 hg hr, boxed_grown h7 hg hr, boxed_grown h8 hg hr, Nat.le_trans h9 hg.size, h10.grown hg (fun r e => .inr ?_)⟩
  have := (hr r e).1
  omega
theorem AdX_own (S : ByteArray) (w : World) (tb mb : Nat) (fv : Value) (P : List Path) (F : List Bool) (B N : Nat) (hB : w.heap.size ≤ B) (hN : B ≤ N) (c : Code) : OwnFrom N (AdX S w tb mb fv P F B c) := by
  rintro pre W W' row ⟨h1, h2, h3, h4⟩ hg hr
  refine ⟨h1, h2, boxed_grown h3 hg hr, h4.grown hg (fun r e => .inr ?_)⟩
  have := (hr r e).1
  omega

theorem add_step {S : ByteArray} {pre : List (Pt S)} {x : Pt S} {w W w2 : World} {tb mb base n' n2 j B N : Nat} {fv fvc fv2 : Value} {P P' P2 : List Path} {F F' F2 : List Bool} {b : Bool}
    (hBw : w.heap.size = B) (hFR : ∀ g, TrS tb mb fv g → g < B) (hmN : mb < N)
    (hT : TrAt W tb mb n' base fvc P' F') (ho : ∀ g, fvc.ownBlock = some g → TrS tb mb fv g ∨ B + 5 ≤ g) (hW : Touch (TrS tb mb fv) w W) (hz : B + 5 ≤ W.heap.size)
    (hC : Boxed W B 44 (.pointer (some ⟨tb, 0, none⟩)) ∧ Boxed W (B + 1) 4 (.bool false) ∧ (∃ v, Boxed W (B + 2) 3 v) ∧ (∃ v, Boxed W (B + 3) 4 v))
    (h2 : Touch (TrS tb mb fvc) W w2) (hT2 : TrAt w2 tb mb n2 base fv2 P2 F2) (ho2 : fv2.ownBlock = fvc.ownBlock ∨ ∃ g, fv2.ownBlock = some g ∧ W.heap.size ≤ g)
    (hA : Adding P F (pth (pre ++ [x])) P2 F2 j) (hl : P2.length ≤ P.length + (pre ++ [x]).length) (hb : b = decide (pth (pre ++ [x]) ∉ P)) :
    KeepsFrom N W ((w2.setCell ⟨B + 2, 0, none⟩ (.int .i64 (j : Nat))).setCell ⟨B + 3, 0, none⟩ (.bool b)) ∧
    (W.cell? ⟨B + 4, 0, none⟩ = some (.string S) → ((w2.setCell ⟨B + 2, 0, none⟩ (.int .i64 (j : Nat))).setCell ⟨B + 3, 0, none⟩ (.bool b)).cell? ⟨B + 4, 0, none⟩ = some (.string S)) ∧
    AdI S w tb mb base fv P F B (pre ++ [x]) ((w2.setCell ⟨B + 2, 0, none⟩ (.int .i64 (j : Nat))).setCell ⟨B + 3, 0, none⟩ (.bool b)) := by
  obtain ⟨c0, c1, ⟨v2, c2⟩, ⟨v3, c3⟩⟩ := hC
  have hfc : ∀ k, TrS tb mb fvc k → k < B ∨ B + 5 ≤ k := fun k hk => by
    rcases hk with rfl | rfl | hg
    · exact .inl (hFR _ (.inl rfl))
    · exact .inl (hFR _ (.inr (.inl rfl)))
    · rcases ho k hg with h | h
      · exact .inl (hFR _ h)
      · exact .inr h
  have hno : ∀ i, i < 5 → ¬ TrS tb mb fvc (B + i) := fun i hi h => by
    rcases hfc _ h with h | h <;> omega
  have hX : Touch (fun k => k = B + 2 ∨ k = B + 3) w2 ((w2.setCell ⟨B + 2, 0, none⟩ (.int .i64 (j : Nat))).setCell ⟨B + 3, 0, none⟩ (.bool b)) :=
    ((Touch.refl (fun k => k = B + 2 ∨ k = B + 3) w2).setCell (p := ⟨B + 2, 0, none⟩) (.inl (.inl rfl)) _).setCell (p := ⟨B + 3, 0, none⟩) (.inl (.inr rfl)) _
  have hAll : Touch (fun k => TrS tb mb fvc k ∨ k = B + 2 ∨ k = B + 3) W ((w2.setCell ⟨B + 2, 0, none⟩ (.int .i64 (j : Nat))).setCell ⟨B + 3, 0, none⟩ (.bool b)) := (h2.mono (fun _ h => .inl h)).trans (hX.mono (fun _ h => .inr h))
  have hown2 : ∀ g, fv2.ownBlock = some g → TrS tb mb fv g ∨ B + 5 ≤ g := fun g hg => by
    rcases ho2 with e | ⟨g', e, hg'⟩
    · exact ho g (e ▸ hg)
    · rw [e] at hg
      have := Option.some.inj hg
      omega
  have k0 := boxed_touch c0 h2 (hno 0 (by omega))
  have k1 := boxed_touch c1 h2 (hno 1 (by omega))
  have k2 := boxed_touch c2 h2 (hno 2 (by omega))
  have k3 := boxed_touch c3 h2 (hno 3 (by omega))
  have htb := hFR tb (.inl rfl)
  have hmb := hFR mb (.inr (.inl rfl))
  refine ⟨keeps_touch hT hAll (fun k hk => ?_) hmN, fun h => hAll.cell (p := ⟨B + 4, 0, none⟩) h (fun e => ?_), ⟨n2, j, fv2, P2, F2, hT2.kept hX (fun e => ?_) (fun e => ?_) (fun g hg e => ?_), hA, hl, hown2, (k0.other (by omega) _).other (by omega) _, (k1.other (by omega) _).other (by omega) _, (k2.set _).other (by omega) _, ?_, ?_, hW.trans' hAll (fun i hi => ?_)⟩⟩
  · rcases hk with hk | rfl | rfl
    · exact .inl hk
    · exact .inr ⟨_, c2, rfl⟩
    · exact .inr ⟨_, c3, rfl⟩
  · rcases e with e | e | e
    · exact hno 4 (by omega) e
    · have : B + 4 = B + 2 := e
      omega
    · have : B + 4 = B + 3 := e
      omega
  · rcases e with e | e <;> omega
  · rcases e with e | e <;> omega
  · rcases hown2 g hg with h | h
    · have := hFR g h
      rcases e with e | e <;> omega
    · rcases e with e | e <;> omega
  · rw [← hb]
    exact (k3.other (by omega) _).set _
  · have := hAll.size
    omega
  · rcases hi with (rfl | rfl | hg) | rfl | rfl
    · exact .inl (.inl rfl)
    · exact .inl (.inr (.inl rfl))
    · rcases ho i hg with h | h
      · exact .inl h
      · exact .inr (by omega)
    · exact .inr (by omega)
    · exact .inr (by omega)

set_option maxHeartbeats 4000000 in
theorem add_calls (S : ByteArray) {w : World} {tb mb n base : Nat} {fv : Value} {ns P : List Path} {F : List Bool} (hTr : TrAt w tb mb n base fv P F) (hNs : TreeN ns P F) (hS : S.size ≤ 65535) (hb : P.length ≤ 900000000) :
    Calls Tryd.prog 26 #[.pointer (some ⟨tb, 0, none⟩), .string S] w fun e w' => Touch (TrS tb mb fv) w w' ∧
      ((fitsT ns (spl S.data.toList) ∧ e = .returned (.bool true) ∧ ∃ (n' : Nat) (fv' : Value) (P' : List Path) (F' : List Bool), TrAt w' tb mb n' base fv' P' F' ∧ TreeN (ns ++ [spl S.data.toList]) P' F' ∧ P'.length ≤ P.length + S.size + 1 ∧ (∀ g, fv'.ownBlock = some g → TrS tb mb fv g ∨ w.heap.size ≤ g)) ∨
       (¬ fitsT ns (spl S.data.toList) ∧ e = .returned (.bool false))) := by
  have hlt := hTr.lt
  refine (callsIn_wide (n := 3)).1 ?_
  refine callsIn_of_wp_marks Tryd.func26 rfl trivial ?_ rfl
  simp only [Tryd.ntmps26, List.size_toArray, List.length_cons, List.length_nil, Nat.reduceAdd, Nat.reduceSub, Array.replicate_succ, Array.replicate_zero, List.push_toArray, List.append_toArray, List.nil_append, List.cons_append]
  gi_wp2_with (first
    | (refine ⟨trivial, ?_⟩; gi_at_call 23; refine (parts_in _ S).mono ?_; rintro e w3 ⟨rfl, rfl⟩))
  obtain ⟨B, hB⟩ : ∃ B, w.heap.size = B := ⟨_, rfl⟩
  obtain ⟨W0, hW0⟩ : ∃ W0, ((((w.alloc (.cells #[.pointer (some ⟨tb, 0, none⟩)] 44)).alloc (.cells #[.bool false] 4)).alloc (.cells #[.int .i64 0] 3)).alloc (.cells #[.bool false] 4)).alloc (.cells #[.string S] 9) = W0 := ⟨_, rfl⟩
  have hWs : W0.heap.size = B + 5 := by rw [← hW0]; simp [hB]
  have hTW : Touch (fun _ => False) w W0 := by rw [← hW0]; exact (((((Touch.refl _ _).alloc _).alloc _).alloc _).alloc _).alloc _
  have b0 : Boxed W0 B 44 (.pointer (some ⟨tb, 0, none⟩)) := by rw [← hW0, ← hB]; exact ((((Boxed.new w _ _).alloc _).alloc _).alloc _).alloc _
  have b1 : Boxed W0 (B + 1) 4 (.bool false) := by
    rw [← hW0, ← hB, show w.heap.size + 1 = (w.alloc (.cells #[.pointer (some ⟨tb, 0, none⟩)] 44)).heap.size by simp]; exact (((Boxed.new _ _ _).alloc _).alloc _).alloc _
  have b2 : Boxed W0 (B + 2) 3 (.int .i64 0) := by
    rw [← hW0, ← hB, show w.heap.size + 2 = ((w.alloc (.cells #[.pointer (some ⟨tb, 0, none⟩)] 44)).alloc (.cells #[.bool false] 4)).heap.size by simp]; exact ((Boxed.new _ _ _).alloc _).alloc _
  have b3 : Boxed W0 (B + 3) 4 (.bool false) := by
    rw [← hW0, ← hB, show w.heap.size + 3 = (((w.alloc (.cells #[.pointer (some ⟨tb, 0, none⟩)] 44)).alloc (.cells #[.bool false] 4)).alloc (.cells #[.int .i64 0] 3)).heap.size by simp]; exact (Boxed.new _ _ _).alloc _
  have b4 : Boxed W0 (B + 4) 9 (.string S) := by
    rw [← hW0, ← hB, show w.heap.size + 4 = ((((w.alloc (.cells #[.pointer (some ⟨tb, 0, none⟩)] 44)).alloc (.cells #[.bool false] 4)).alloc (.cells #[.int .i64 0] 3)).alloc (.cells #[.bool false] 4)).heap.size by simp]; exact Boxed.new _ _ _
  rw [hB] at hlt ⊢
  rw [show ((((w.alloc (.cells #[.pointer (some ⟨tb, 0, none⟩)] 44)).alloc (.cells #[.bool false] 4)).alloc (.cells #[.int .i64 0] 3)).alloc (.cells #[.bool false] 4)).alloc (.cells #[.string S] 9) = W0 from hW0]
  have HB := Lib.hid hB
  have hfree : ∀ g, TrS tb mb fv g → g < B := fun g hg => by
    rcases hg with rfl | rfl | hg
    · exact hlt.1
    · exact hlt.2.1
    · exact hlt.2.2 g hg
  have HFR := Lib.hid hfree
  have HTR := Lib.hid hTr
  have HNS := Lib.hid hNs
  have hI0 : AdI S w tb mb base fv P F B [] W0 := ⟨n, 0, fv, P, F, hTr.still hTW, Adding.first hTr.tree, Nat.le_refl _, fun g hg => .inl (.inr (.inr hg)), b0, b1, b2, by
    rw [show decide (pth ([] : List (Pt S)) ∉ P) = false from decide_eq_false (fun h => h (List.mem_of_getElem? hTr.tree.top))]; exact b3, by omega, hTW.mono (fun _ e => e.elim)⟩
  clear hW0 hB hfree hTr hNs
  refine wpIn_rangeFunc_ownG (α := Pt S) rfl (by omega) (gf := 33) (lb := #[.pointer (some ⟨B + 4, 0, none⟩)]) rfl trivial (enters_of Tryd.func33 (by kernel_rfl) rfl)
    (parts_stops (3 - 1) (by omega) S (by omega) (B + 4) W0 (fun A C => A.cell? ⟨B + 4, 0, none⟩ = some (.string S) → C.cell? ⟨B + 4, 0, none⟩ = some (.string S)) (fun A C h hc => h hc) (by omega) b4.cell)
    (fun h k hc => k (h hc)) (fun W l o o' hl h hc hw hs => cell_kept hs (grownBy_putObj' W l o') (fun r e => by cases e; exact ⟨o, h, hc⟩)) (Below.refl _ _) (fun _ => rfl)
    (AdI S w tb mb base fv P F B) (AdX S w tb mb fv P F B)
    ?own ?ownx hI0
    (fun x => { tmps := #[.pointer (some ⟨tb, 0, none⟩), .string S, .pointer (some ⟨B, 0, none⟩), undef, .pointer (some ⟨B + 1, 0, none⟩), .pointer (some ⟨B + 2, 0, none⟩), .pointer (some ⟨B + 3, 0, none⟩), undef, .string x.t, .string S, .func (.func 33) #[] #[.pointer (some ⟨B + 4, 0, none⟩)], .int .i64 (x.e : Nat), .string x.t, undef, undef, undef, undef, undef, undef, undef, undef, undef, undef, undef, undef, undef, undef, undef, undef, undef, undef, undef, undef, undef, undef], defers := [] }) ?assign ?body ?done ?stop
  case own => exact AdI_own S w tb mb base fv P F B _ (by have := HB.out; omega) (by omega) hlt.2.1
  case ownx => exact fun c => AdX_own S w tb mb fv P F B _ (by have := HB.out; omega) (by omega) c
  case assign =>
    intro l x W K hK
    dsimp only [ptV]
    gi_wp2
    exact hK
  case body =>
    rintro l pre x W ⟨n', k, fv', P', F', hT, hA, hl, ho, c0, c1, c2, c3, hz, hW⟩ hpN
    obtain ⟨t, ht⟩ : ∃ t, x.t = t := ⟨_, rfl⟩
    have hts : t.size ≤ 65535 := by rw [← ht]; have := x.hs; omega
    have hlen := hA.len HTR.out.len
    have hk := get_lt hA.at'
    obtain ⟨fa, fc, hfe, hfc, hfm⟩ := hT.row.form
    rw [boolVs_length] at hfe hfc
    subst hfe
    obtain ⟨g, off, cap, he, _, hfg, hcs⟩ := hT.row.addr (by rw [boolVs_length]; omega)
    rw [boolVs_length] at he
    injection he with he1 _ he2
    subst he1 he2
    obtain ⟨bf, hbf⟩ : ∃ bf, F'[k]? = some bf := ⟨_, List.getElem?_eq_getElem (by omega)⟩
    have hcf := hcs k (.bool bf) (by simp [boolVs, hbf])
    have hkF : (k : Int) < (F'.length : Int) := by omega
    have hk0 : (0 : Int) ≤ (k : Int) := by omega
    have t1 := Block.cell hT.box 1
    simp only [List.getElem?_cons_zero, List.getElem?_cons_succ] at t1
    have d0 := c0.cell
    have d1 := c1.cell
    have d2 := c2.cell
    have d3 := c3.cell
    have g1 := c1.frozen
    have g2 := c2.frozen
    have g3 := c3.frozen
    have HC := Lib.hid (And.intro c0 (And.intro c1 (And.intro c2 c3)))
    have HT := Lib.hid hT
    have HA := Lib.hid hA
    have HO := Lib.hid ho
    have HW := Lib.hid hW
    have HL := Lib.hid hl
    have hbnd : P'.length ≤ 999999999 := by omega
    simp only [ht]
    clear c0 c1 c2 c3 hT hA ho hW hl hfg hcs b0 b1 b2 b3 b4 hTW hI0
    have hBw := HB.out
    have hx : pth (pre ++ [x]) = pth pre ++ [t.data.toList] := by rw [pth_snoc, ht]
    have HX := Lib.hid hx
    clear hx
    cases bf
    · have hnf : ¬ isF P F (pth pre) := fun h => by have := (HA.out.file HTR.out.len).2 h; rw [hbf] at this; cases this
      have HNF := Lib.hid hnf
      clear hbf hnf
      by_cases hm : pth pre ++ [t.data.toList] ∈ P'
      · obtain ⟨j, hj⟩ := List.mem_iff_getElem?.1 hm
        have hE : Calls Tryd.prog 35 #[.pointer (some ⟨tb, 0, none⟩), .agg #[.int .i64 (k : Nat), .string t]] W.drew _ := enter_old (HT.out.still ((Touch.refl _ W).drew)) (by omega) hts HA.out.at' hj
        have HE := Lib.hid hE
        have HJ := Lib.hid hj
        have HM := Lib.hid hm
        clear hE hj hm
        gi_wp2
        gi_region
        all_goals gi_wp2_with (refine ⟨trivial, ?_⟩; gi_at_call 35; refine (callsIn_wide.2 HE.out).mono ?_; rintro e w2 ⟨rfl, hT2⟩; have e2 := hT2.cell d2 id; have e3 := hT2.cell d3 id; have u2 := (hT2.frozen (p := ⟨B + 2, 0, none⟩) (World.block_lt_of_cell? W.drew _ d2) id).trans g2; have u3 := (hT2.frozen (p := ⟨B + 3, 0, none⟩) (World.block_lt_of_cell? W.drew _ d3) id).trans g3)
        all_goals exact add_step hBw HFR.out (by omega) HT.out HO.out HW.out hz ⟨HC.out.1, HC.out.2.1, ⟨_, HC.out.2.2.1⟩, ⟨_, HC.out.2.2.2⟩⟩ (((Touch.refl _ W).drew).trans (hT2.mono (fun _ e => e.elim))) (HT.out.still (((Touch.refl _ W).drew).trans hT2)) (.inl rfl) (HX.out ▸ HA.out.old HNF.out HJ.out) (by have := HL.out; simp; omega) (by rw [HX.out]; exact (decide_eq_false (fun h => h (HA.out.isNew.1 HM.out))).symm)
      · have hE : Calls Tryd.prog 35 #[.pointer (some ⟨tb, 0, none⟩), .agg #[.int .i64 (k : Nat), .string t]] W.drew _ := enter_new (HT.out.still ((Touch.refl _ W).drew)) (by omega) hts HA.out.at' hm
        have HE := Lib.hid hE
        have HM := Lib.hid hm
        have hn2 : ¬ TrS tb mb (.slice (some ⟨g, off, none⟩) F'.length fc) (B + 2) := fun e => by
          rcases e with e | e | e
          · have := hlt.1; omega
          · have := hlt.2.1; omega
          · rcases HO.out _ e with h | h
            · have := HFR.out _ h; omega
            · omega
        have hn3 : ¬ TrS tb mb (.slice (some ⟨g, off, none⟩) F'.length fc) (B + 3) := fun e => by
          rcases e with e | e | e
          · have := hlt.1; omega
          · have := hlt.2.1; omega
          · rcases HO.out _ e with h | h
            · have := HFR.out _ h; omega
            · omega
        have HN2 := Lib.hid hn2
        have HN3 := Lib.hid hn3
        clear hE hm hn2 hn3
        gi_wp2
        gi_region
        all_goals gi_wp2_with (refine ⟨trivial, ?_⟩; gi_at_call 35; refine (callsIn_wide.2 HE.out).mono ?_; rintro e w2 ⟨rfl, fv2, hTr2, hown2, hT2⟩; have e2 := hT2.cell d2 HN2.out; have e3 := hT2.cell d3 HN3.out; have u2 := (hT2.frozen (p := ⟨B + 2, 0, none⟩) (World.block_lt_of_cell? W.drew _ d2) HN2.out).trans g2; have u3 := (hT2.frozen (p := ⟨B + 3, 0, none⟩) (World.block_lt_of_cell? W.drew _ d3) HN3.out).trans g3; have HTr2 := Lib.hid hTr2; have HOw2 := Lib.hid hown2; have HT2 := Lib.hid hT2; clear hTr2 hown2 hT2)
        all_goals exact add_step hBw HFR.out (by omega) HT.out HO.out HW.out hz ⟨HC.out.1, HC.out.2.1, ⟨_, HC.out.2.2.1⟩, ⟨_, HC.out.2.2.2⟩⟩ (((Touch.refl _ W).drew).trans HT2.out) HTr2.out HOw2.out (HX.out ▸ HA.out.new HNF.out HM.out) (by have := HL.out; simp; omega) (by rw [HX.out]; exact (decide_eq_true (show ¬ (pth pre ++ [t.data.toList] ∈ P) from fun h => HM.out (HA.out.isNew.2 h))).symm)
    · have hf : isF P F (pth pre) := (HA.out.file HTR.out.len).1 hbf
      have HF := Lib.hid hf
      clear hbf hf
      gi_wp2
      gi_region
      all_goals gi_wp2
      all_goals
        refine ⟨keeps_touch HT.out (T := fun k => k = B + 1) (((Touch.refl (fun k => k = B + 1) W).setCell (p := ⟨B + 1, 0, none⟩) (.inl rfl) _).drew) (fun k hk => .inr ⟨_, hk ▸ HC.out.2.1, rfl⟩) (by omega), rfl, ⟨(pth pre).length, by simp [pth], ?_⟩, HC.out.2.1.set _, (HW.out.setCell (p := ⟨B + 1, 0, none⟩) (.inr (by simp; omega)) _).drew⟩
        rw [HX.out, List.take_left']
        · exact HF.out
        · rfl
  case done =>
    rintro D ys W hD hys ⟨n', k, fv', P', F', hT, hA, hl, ho, c0, c1, c2, c3, hz, hW⟩ hK
    subst hys
    rw [pth_all] at hA c3
    have hlen := hA.len HTR.out.len
    have hk := get_lt hA.at'
    obtain ⟨fa, fc, hfe, hfc, hfm⟩ := hT.row.form
    rw [boolVs_length] at hfe hfc
    subst hfe
    obtain ⟨g, off, cap, he, _, hfg, hcs⟩ := hT.row.addr (by rw [boolVs_length]; omega)
    rw [boolVs_length] at he
    injection he with he1 _ he2
    subst he1 he2
    obtain ⟨bf, hbf⟩ : ∃ bf, F'[k]? = some bf := ⟨_, List.getElem?_eq_getElem (by omega)⟩
    have hcf := hcs k (.bool bf) (by simp [boolVs, hbf])
    have hfr := hT.row.free (k := k)
    have hkF : (k : Int) < (F'.length : Int) := by omega
    have hk0 : (0 : Int) ≤ (k : Int) := by omega
    have t1 := Block.cell hT.box 1
    simp only [List.getElem?_cons_zero, List.getElem?_cons_succ] at t1
    have d0 := c0.cell
    have d2 := c2.cell
    have hne : g < B ∨ B + 5 ≤ g := by
      rcases ho g rfl with h | h
      · exact .inl (HFR.out g h)
      · exact .inr h
    obtain ⟨bn, hbn⟩ : ∃ bn, bn = decide (spl S.data.toList ∉ P) := ⟨_, rfl⟩
    rw [← hbn] at c3
    have HC := Lib.hid (And.intro c0 (And.intro c1 (And.intro c2 c3)))
    have HBN := Lib.hid hbn
    have HT := Lib.hid hT
    have HA := Lib.hid hA
    have HO := Lib.hid ho
    have HW := Lib.hid hW
    have HL := Lib.hid hl
    have HDK := Lib.hid hK
    have HNE := Lib.hid hne
    clear c0 c1 c2 c3 hT hA ho hW hl hfg hcs b0 b1 b2 b3 b4 hTW hI0 hbn hK hne
    have hgtb : g ≠ tb ∧ g ≠ mb := (HT.out.own g rfl).2
    have HGT := Lib.hid hgtb
    have hrs := HT.out.row.set (k := k) (by omega) (.bool true)
    rw [show (boolVs F').set k (.bool true) = boolVs (F'.set k true) by simp [boolVs, List.map_set]] at hrs
    have HRS := Lib.hid hrs
    clear hgtb hrs
    gi_wp2
    gi_region
    obtain ⟨W1, hW1⟩ : ∃ W1, (W.setCell ⟨g, off + k, none⟩ (.bool true)).drew = W1 := ⟨_, rfl⟩
    rw [hW1]
    have hS1 : Touch (fun j => j = g) W W1 := by rw [← hW1]; exact ((Touch.refl (fun j => j = g) W).setCell (p := ⟨g, off + k, none⟩) (.inl rfl) _).drew
    have hrow1 : Row W1 4 (.slice (some ⟨g, off, none⟩) F'.length fc) (boolVs (F'.set k true)) := by
      have h := HRS.out.kept (S := fun _ => False) ((Touch.refl _ _).drew) (fun _ _ => id)
      rw [hW1] at h
      exact h
    have q1 := boxed_touch HC.out.2.1 hS1 (by have := HNE.out; omega)
    have q3 := boxed_touch HC.out.2.2.2 hS1 (by have := HNE.out; omega)
    have q1c := q1.cell
    have q1f := q1.frozen
    have q3c := q3.cell
    have hT1 : TrAt W1 tb mb n' base (.slice (some ⟨g, off, none⟩) F'.length fc) P' (F'.set k true) := by
      obtain ⟨Dm, hm1, hm2⟩ := HT.out.map
      exact { HT.out with box := Block.kept HT.out.box hS1 HGT.out.1.symm, row := hrow1, map := ⟨Dm, map_block hm1 (hS1.block mb hm1.lt HGT.out.2.symm), hm2⟩, len := by rw [List.length_set]; exact HT.out.len }
    have hKD : W1.heap[D]? = some (.deferred (some [])) := (hS1.block D (Array.getElem?_eq_some_iff.1 HDK.out).1 (fun e => by
      obtain ⟨o, ho, hc⟩ := HT.out.row.cellsAt (g := g) rfl
      rw [← e, HDK.out] at ho
      cases ho; cases hc)).trans HDK.out
    have HS1 := Lib.hid hS1
    have HT1 := Lib.hid hT1
    have HKD := Lib.hid hKD
    have HQ1 := Lib.hid q1
    clear hS1 hT1 hKD hrow1 hW1 q1 q3 hcf t1 d0 d2 hfr
    gi_wp2
    have hBw := HB.out
    have hK2 : (W1.setCell ⟨B + 1, 0, none⟩ (.bool bn)).heap[D]? = some (.deferred (some [])) := (KeepsOthers.setCell W1 ⟨B + 1, 0, none⟩ (.bool bn)).same D _ HKD.out rfl
    have hgb := grownBy_putObj' (W1.setCell ⟨B + 1, 0, none⟩ (.bool bn)) D (.deferred none)
    have hX2 : Touch (fun j => j = B + 1) W1 (W1.setCell ⟨B + 1, 0, none⟩ (.bool bn)) := (Touch.refl (fun j => j = B + 1) W1).setCell (p := ⟨B + 1, 0, none⟩) (.inl rfl) _
    have hT2 : TrAt (W1.setCell ⟨B + 1, 0, none⟩ (.bool bn)) tb mb n' base (.slice (some ⟨g, off, none⟩) F'.length fc) P' (F'.set k true) := HT1.out.kept hX2 (by have := hlt.1; omega) (by have := hlt.2.1; omega) (fun g' hg' => by
      rcases HO.out g' hg' with h | h
      · have := HFR.out g' h; omega
      · omega)
    have hT3 := hT2.grown (B := B + 5) hgb (fun r e => by cases e; exact ⟨by omega, _, hK2, rfl⟩) (by have := hlt.2.1; omega)
    refine ⟨by simp, .inl ⟨_, _, rfl, run_takeDeferred hK2, ?_⟩⟩
    refine ⟨_, results_cellB rfl _ _ ⟨B + 1, 0, none⟩ (.bool bn) rfl (cell_kept (World.cell?_setCell_same _ _ _ q1c) hgb (fun r e => by cases e; exact ⟨_, hK2, rfl⟩)) Tryd.underlying4, ?_, ?_⟩
    · refine (((HW.out.trans' HS1.out (fun i hi => ?_)).setCell (p := ⟨B + 1, 0, none⟩) (.inr (by simp; omega)) _).grown hgb (fun r e => .inr ?_))
      · rcases HO.out i (by rw [hi]; rfl) with h | h
        · exact .inl h
        · exact .inr (by omega)
      · cases e
        omega
    · by_cases hm : spl S.data.toList ∈ P
      · right
        refine ⟨fun hf => ?_, ?_⟩
        · exact ((HNS.out.fits _ (spl_ne _)).1 hf).1 hm
        · rw [HBN.out, decide_eq_false (fun h => h hm)]
      · left
        refine ⟨(HNS.out.fits _ (spl_ne _)).2 ⟨hm, HA.out.free⟩, by rw [HBN.out, decide_eq_true hm], n', _, P', F'.set k true, hT3, HA.out.done HNS.out hm, ?_, fun g' hg' => ?_⟩
        · have h1 := HL.out
          have h2 := spl_len S.data.toList
          have h3 : S.data.toList.length = S.size := by simp
          rw [← pth_length, pth_all] at h1
          omega
        · rcases HO.out g' hg' with h | h
          · exact .inl h
          · exact .inr (by omega)
  case stop =>
    rintro D c pre W hD hpre ⟨rfl, ⟨j, hj, hF⟩, c1, hW⟩ hK
    have HC := Lib.hid c1
    have HW := Lib.hid hW
    have HDK := Lib.hid hK
    have hnf : ¬ fitsT ns (spl S.data.toList) := fun hf => by
      obtain ⟨r, hr⟩ := hpre
      have e : (pth pre).take j = (spl S.data.toList).take j := by
        rw [← pth_all, ← hr]
        unfold pth
        rw [List.map_append, List.take_append_of_le_length (by simp; omega)]
      rw [e] at hF
      exact ((HNS.out.fits _ (spl_ne _)).1 hf).2 j (by rw [← pth_all, ← hr, pth_length, List.length_append]; omega) hF
    have HNF := Lib.hid hnf
    clear hnf hF hpre c1 hW hK b0 b1 b2 b3 b4 hTW hI0
    gi_wp2
    have hgb := grownBy_putObj' W D (.deferred none)
    refine ⟨by simp, .inl ⟨_, _, rfl, run_takeDeferred HDK.out, ?_⟩⟩
    refine ⟨_, results_cellB rfl _ _ ⟨B + 1, 0, none⟩ (.bool false) rfl (cell_kept HC.out.cell hgb (fun r e => by cases e; exact ⟨_, HDK.out, rfl⟩)) Tryd.underlying4, ?_, .inr ⟨HNF.out, rfl⟩⟩
    exact HW.out.grown hgb (fun r e => .inr (by have := HB.out; cases e; omega))
end Go.Proofs.YtmhigecchligcaaDoor

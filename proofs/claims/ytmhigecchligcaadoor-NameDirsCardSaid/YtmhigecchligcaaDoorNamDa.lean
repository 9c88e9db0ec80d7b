/- Contract: the directories of a name that weren't seen yet. -/
import Derived.Test.YtmhigecchligcaaDoorNamDp
import Derived.Test.YtmhigecchligcaaDoorNamRg
namespace Go.Proofs.YtmhigecchligcaaDoor
open Go Go.RowKit Go.Shelf Go.Maps Go.MapKept Go.ChangeMaps
set_option maxRecDepth 100000
attribute [local go_sem] Oper.semAt_some

theorem Tryd.infoSD : (Tryd.prog.info? 9).map (fun i => (i.zero, i.size, i.bytes)) = some (some (.string ⟨#[]⟩), 1, 16) := by kernel_rfl
/-- What each operation of the append leaves. -/
def daI9 (va : Option Addr) (nY vc : Nat) (S : ByteArray) (e : Nat) (s' : ByteArray) (z g2 cap2 : Nat) (i : Nat) (v : Value) : Prop := match i with
  | 0 => v = .slice va nY vc
  | 1 => v = .string S
  | 2 => v = .int .i64 (e : Nat)
  | 3 => v = .string s'
  | 4 => v = .slice (some ⟨z, 0, none⟩) 1 1
  | 5 => v = .slice (some ⟨g2, 0, none⟩) (nY + 1) cap2
  | 6 => v = undef
  | _ => True
/-- What a round of newDirs leaves. -/
def DaI (S : ByteArray) (w : World) (tb mb base : Nat) (fv : Value) (P : List Path) (B : Nat) (pre : List (Pt S)) (W : World) : Prop :=
  ∃ (n' k : Nat) (fv' : Value) (P' : List Path) (F' : List Bool) (Y : List (List (Pt S))) (v : Value) (bn : Bool), TrAt W tb mb n' base fv' P' F' ∧ P' = P ++ Y.map pth ∧ (∀ y ∈ Y, y <+: pre ∧ y ≠ []) ∧ P'[k]? = some (pth pre) ∧ (∀ x ∈ pre, x.e ≠ S.size) ∧
    P'.length ≤ P.length + pre.length ∧ Y.length ≤ pre.length ∧ (∀ g, fv'.ownBlock = some g → TrS tb mb fv g ∨ B + 6 ≤ g) ∧
    (Boxed W B 44 (.pointer (some ⟨tb, 0, none⟩)) ∧ Boxed W (B + 1) 9 (.string S) ∧ Boxed W (B + 2) 27 v ∧ Boxed W (B + 3) 3 (.int .i64 (k : Nat)) ∧ Boxed W (B + 4) 4 (.bool bn)) ∧
    W.ownsRow (B + 6) 9 1 v Y.length (strs (Y.map txtOf)) ∧ B + 6 ≤ W.heap.size ∧ Touch (TrS tb mb fv) w W
def DaX (S : ByteArray) (w : World) (tb mb base : Nat) (fv : Value) (P : List Path) (B : Nat) (c : Code) (pre : List (Pt S)) (W : World) : Prop :=
  c = .exit 0 ∧ ∃ (pr : List (Pt S)) (x : Pt S), pre = pr ++ [x] ∧ x.e = S.size ∧ DaI S w tb mb base fv P B pr W
theorem ownsRow_grownC {W W' : World} {b B : Nat} {e : TypeId} {v : Value} {n : Nat} {xs : List Value} {row : Option Nat} (h : W.ownsRow b e 1 v n xs) (hg : W.grownBy W' row) (hr : ∀ r, row = some r → B ≤ r ∧ ∃ o : Obj, W.heap[r]? = some o ∧ o.isCells = false) : W'.ownsRow b e 1 v n xs := by
  refine h.kept hg ?_
  rcases h.2 with ⟨rfl, _⟩ | ⟨g, cap, cur, rfl, _, hgb, _⟩
  · exact .inl rfl
  · refine .inr fun e' => ?_
    obtain ⟨_, o, ho, hc⟩ := hr g (by simpa [Value.ownBlock] using e'.symm)
    rw [hgb] at ho; cases ho; cases hc
theorem DaI_own (S : ByteArray) (w : World) (tb mb base : Nat) (fv : Value) (P : List Path) (B N : Nat) (hB : w.heap.size ≤ B) (hN : B ≤ N) (hm : mb < B) : OwnFrom N (DaI S w tb mb base fv P B) := by
  rintro pre W W' row ⟨n', k, fv', P', F', Y, v, bn, h1, h2, h3, h4, h5, h6, h6', h7, ⟨c0, c1, c2, c3, c4⟩, h8, h9, h10⟩ hg hr
  refine ⟨n', k, fv', P', F', Y, v, bn, h1.grown hg hr (by omega), h2, h3, h4, h5, h6, h6', h7, ⟨boxed_grown c0 hg hr, boxed_grown c1 hg hr, boxed_grown c2 hg hr, boxed_grown c3 hg hr, boxed_grown c4 hg hr⟩, ownsRow_grownC h8 hg hr, Nat.le_trans h9 hg.size, h10.grown hg (fun r e => .inr ?_)⟩
  have := (hr r e).1
  omega
theorem DaX_own (S : ByteArray) (w : World) (tb mb base : Nat) (fv : Value) (P : List Path) (B N : Nat) (hB : w.heap.size ≤ B) (hN : B ≤ N) (hm : mb < B) (c : Code) : OwnFrom N (DaX S w tb mb base fv P B c) := by
  rintro pre W W' row ⟨h1, pr, x, h2, h3, h4⟩ hg hr
  exact ⟨h1, pr, x, h2, h3, DaI_own S w tb mb base fv P B N hB hN hm pr W W' row h4 hg hr⟩

theorem ownsRow_touch {S : Nat → Prop} {W W' : World} {b : Nat} {e : TypeId} {v : Value} {n : Nat} {xs : List Value} (h : W.ownsRow b e 1 v n xs) (ht : Touch S W W') (hn : ∀ g, v.ownBlock = some g → ¬ S g) : W'.ownsRow b e 1 v n xs := by
  obtain ⟨h1, h2⟩ := h
  refine ⟨h1, h2.imp id ?_⟩
  rintro ⟨g, cap, cur, rfl, h3, h4, h5⟩
  exact ⟨g, cap, cur, rfl, h3, (ht.block g (Array.getElem?_eq_some_iff.1 h4).1 (hn g rfl)).trans h4, h5⟩
/-- A row of texts is none of a tree's blocks. -/
theorem row_apart {W : World} {tb mb n base b k : Nat} {fv v : Value} {P : List Path} {F : List Bool} {xs : List Value} (h : TrAt W tb mb n base fv P F) (hr : W.ownsRow b 9 1 v k xs) {g : Nat} (hg : v.ownBlock = some g) : ¬ TrS tb mb fv g := by
  rcases hr.2 with ⟨rfl, _⟩ | ⟨g', cap, cur, rfl, _, hgb, _⟩
  · simp [Value.ownBlock] at hg
  · have e : g' = g := by simpa [Value.ownBlock] using hg
    subst e
    rintro (rfl | rfl | hf)
    · have := (show W.heap[g']? = _ from h.box).symm.trans hgb
      simp at this
    · obtain ⟨D, ⟨es, clock, h1, _⟩, _⟩ := h.map
      rw [h1] at hgb
      cases hgb
    · rcases h.row with ⟨e1, _⟩ | ⟨g2, off, cap2, cur2, e1, hh, _⟩
      · rw [e1] at hf; simp [Value.ownBlock] at hf
      · rw [e1] at hf
        have e2 : g2 = g' := by simpa [Value.ownBlock] using hf
        subst e2
        rw [hgb] at hh
        simp at hh

theorem da_step {S : ByteArray} {w W w2 : World} {tb mb base n' n2 j B N Yn : Nat} {fv fvc fv2 v : Value} {P' P2 : List Path} {F' F2 : List Bool} {b : Bool} {xs : List Value}
    (hBw : w.heap.size = B) (hFR : ∀ g, TrS tb mb fv g → g < B) (hmN : mb < N)
    (hT : TrAt W tb mb n' base fvc P' F') (ho : ∀ g, fvc.ownBlock = some g → TrS tb mb fv g ∨ B + 6 ≤ g) (hW : Touch (TrS tb mb fv) w W) (hz : B + 6 ≤ W.heap.size)
    (hC : Boxed W B 44 (.pointer (some ⟨tb, 0, none⟩)) ∧ Boxed W (B + 1) 9 (.string S) ∧ Boxed W (B + 2) 27 v ∧ (∃ v, Boxed W (B + 3) 3 v) ∧ (∃ v, Boxed W (B + 4) 4 v))
    (hr : W.ownsRow (B + 6) 9 1 v Yn xs)
    (h2 : Touch (TrS tb mb fvc) W w2) (hT2 : TrAt w2 tb mb n2 base fv2 P2 F2) (ho2 : fv2.ownBlock = fvc.ownBlock ∨ ∃ g, fv2.ownBlock = some g ∧ W.heap.size ≤ g) :
    KeepsFrom N W ((w2.setCell ⟨B + 3, 0, none⟩ (.int .i64 (j : Nat))).setCell ⟨B + 4, 0, none⟩ (.bool b)) ∧
    (W.cell? ⟨B + 5, 0, none⟩ = some (.string S) → ((w2.setCell ⟨B + 3, 0, none⟩ (.int .i64 (j : Nat))).setCell ⟨B + 4, 0, none⟩ (.bool b)).cell? ⟨B + 5, 0, none⟩ = some (.string S)) ∧
    TrAt ((w2.setCell ⟨B + 3, 0, none⟩ (.int .i64 (j : Nat))).setCell ⟨B + 4, 0, none⟩ (.bool b)) tb mb n2 base fv2 P2 F2 ∧ (∀ g, fv2.ownBlock = some g → TrS tb mb fv g ∨ B + 6 ≤ g) ∧
    (Boxed ((w2.setCell ⟨B + 3, 0, none⟩ (.int .i64 (j : Nat))).setCell ⟨B + 4, 0, none⟩ (.bool b)) B 44 (.pointer (some ⟨tb, 0, none⟩)) ∧ Boxed ((w2.setCell ⟨B + 3, 0, none⟩ (.int .i64 (j : Nat))).setCell ⟨B + 4, 0, none⟩ (.bool b)) (B + 1) 9 (.string S) ∧ Boxed ((w2.setCell ⟨B + 3, 0, none⟩ (.int .i64 (j : Nat))).setCell ⟨B + 4, 0, none⟩ (.bool b)) (B + 2) 27 v ∧
      Boxed ((w2.setCell ⟨B + 3, 0, none⟩ (.int .i64 (j : Nat))).setCell ⟨B + 4, 0, none⟩ (.bool b)) (B + 3) 3 (.int .i64 (j : Nat)) ∧ Boxed ((w2.setCell ⟨B + 3, 0, none⟩ (.int .i64 (j : Nat))).setCell ⟨B + 4, 0, none⟩ (.bool b)) (B + 4) 4 (.bool b)) ∧
    ((w2.setCell ⟨B + 3, 0, none⟩ (.int .i64 (j : Nat))).setCell ⟨B + 4, 0, none⟩ (.bool b)).ownsRow (B + 6) 9 1 v Yn xs ∧ B + 6 ≤ ((w2.setCell ⟨B + 3, 0, none⟩ (.int .i64 (j : Nat))).setCell ⟨B + 4, 0, none⟩ (.bool b)).heap.size ∧
    Touch (TrS tb mb fv) w ((w2.setCell ⟨B + 3, 0, none⟩ (.int .i64 (j : Nat))).setCell ⟨B + 4, 0, none⟩ (.bool b)) := by
  obtain ⟨c0, c1, c2, ⟨v3, c3⟩, ⟨v4, c4⟩⟩ := hC
  have hfc : ∀ k, TrS tb mb fvc k → k < B ∨ B + 6 ≤ k := fun k hk => by
    rcases hk with rfl | rfl | hg
    · exact .inl (hFR _ (.inl rfl))
    · exact .inl (hFR _ (.inr (.inl rfl)))
    · rcases ho k hg with h | h
      · exact .inl (hFR _ h)
      · exact .inr h
  have hno : ∀ i, i < 6 → ¬ TrS tb mb fvc (B + i) := fun i hi h => by
    rcases hfc _ h with h | h <;> omega
  have hX : Touch (fun k => k = B + 3 ∨ k = B + 4) w2 ((w2.setCell ⟨B + 3, 0, none⟩ (.int .i64 (j : Nat))).setCell ⟨B + 4, 0, none⟩ (.bool b)) :=
    ((Touch.refl (fun k => k = B + 3 ∨ k = B + 4) w2).setCell (p := ⟨B + 3, 0, none⟩) (.inl (.inl rfl)) _).setCell (p := ⟨B + 4, 0, none⟩) (.inl (.inr rfl)) _
  have hAll : Touch (fun k => TrS tb mb fvc k ∨ k = B + 3 ∨ k = B + 4) W ((w2.setCell ⟨B + 3, 0, none⟩ (.int .i64 (j : Nat))).setCell ⟨B + 4, 0, none⟩ (.bool b)) := (h2.mono (fun _ h => .inl h)).trans (hX.mono (fun _ h => .inr h))
  have hown2 : ∀ g, fv2.ownBlock = some g → TrS tb mb fv g ∨ B + 6 ≤ g := fun g hg => by
    rcases ho2 with e | ⟨g', e, hg'⟩
    · exact ho g (e ▸ hg)
    · rw [e] at hg
      have := Option.some.inj hg
      omega
  have k0 := boxed_touch c0 h2 (hno 0 (by omega))
  have k1 := boxed_touch c1 h2 (hno 1 (by omega))
  have k2 := boxed_touch c2 h2 (hno 2 (by omega))
  have k3 := boxed_touch c3 h2 (hno 3 (by omega))
  have k4 := boxed_touch c4 h2 (hno 4 (by omega))
  have htb := hFR tb (.inl rfl)
  have hmb := hFR mb (.inr (.inl rfl))
  have hvb : ∀ g, v.ownBlock = some g → B + 6 ≤ g := fun g hg => by
    rcases hr.2 with ⟨rfl, _⟩ | ⟨g', cap, cur, rfl, h3, _⟩
    · simp [Value.ownBlock] at hg
    · have : g' = g := by simpa [Value.ownBlock] using hg
      omega
  refine ⟨keeps_touch hT hAll (fun k hk => ?_) hmN, fun h => hAll.cell (p := ⟨B + 5, 0, none⟩) h (fun e => ?_), hT2.kept hX (fun e => ?_) (fun e => ?_) (fun g hg e => ?_), hown2, ⟨(k0.other (by omega) _).other (by omega) _, (k1.other (by omega) _).other (by omega) _, (k2.other (by omega) _).other (by omega) _, (k3.set _).other (by omega) _, (k4.other (by omega) _).set _⟩, ownsRow_touch hr hAll (fun g hg e => ?_), ?_, hW.trans' hAll (fun i hi => ?_)⟩
  · rcases hk with hk | rfl | rfl
    · exact .inl hk
    · exact .inr ⟨_, c3, rfl⟩
    · exact .inr ⟨_, c4, rfl⟩
  · rcases e with e | e | e
    · exact hno 5 (by omega) e
    · have : B + 5 = B + 3 := e
      omega
    · have : B + 5 = B + 4 := e
      omega
  · rcases e with e | e <;> omega
  · rcases e with e | e <;> omega
  · rcases hown2 g hg with h | h
    · have := hFR g h
      rcases e with e | e <;> omega
    · rcases e with e | e <;> omega
  · have h6 := hvb g hg
    rcases e with e | e | e
    · exact row_apart hT hr hg e
    · omega
    · omega
  · have := hAll.size
    omega
  · rcases hi with (rfl | rfl | hg) | rfl | rfl
    · exact .inl (.inl rfl)
    · exact .inl (.inr (.inl rfl))
    · rcases ho i hg with h | h
      · exact .inl h
      · exact .inr (by omega)
    · exact .inr (by omega)
    · exact .inr (by omega)

set_option maxHeartbeats 4000000 in
theorem newDirs_calls (S : ByteArray) {w : World} {tb mb n base : Nat} {fv : Value} {P : List Path} {F : List Bool} (hTr : TrAt w tb mb n base fv P F) (hS : S.size ≤ 65535) (hb : P.length ≤ 900000000) :
    Calls Tryd.prog 29 #[.pointer (some ⟨tb, 0, none⟩), .string S] w fun e w' => Touch (TrS tb mb fv) w w' ∧
      ∃ (v : Value) (Z : List ByteArray) (n' : Nat) (fv' : Value) (P' : List Path) (F' : List Bool), e = .returned v ∧ w'.ownsRow (w.heap.size + 6) 9 1 v Z.length (strs Z) ∧ Z.length ≤ S.size + 1 ∧ TrAt w' tb mb n' base fv' P' F' ∧
        P' = P ++ Z.map (fun d => spl d.data.toList) ∧ (∀ d ∈ Z, belowB S d = true) ∧ (∀ d, belowB S d = true → spl d.data.toList ∈ P') ∧ P'.length ≤ P.length + S.size + 1 ∧ (∀ g, fv'.ownBlock = some g → TrS tb mb fv g ∨ w.heap.size ≤ g) := by
  obtain ⟨i0, hi, hz0, hz1, hz2⟩ := info_parts Tryd.infoSD
  have hlt := hTr.lt
  refine (callsIn_wide (n := 3)).1 ?_
  refine callsIn_of_wp_marks Tryd.func29 rfl trivial ?_ rfl
  simp only [Tryd.ntmps29, List.size_toArray, List.length_cons, List.length_nil, Nat.reduceAdd, Nat.reduceSub, Array.replicate_succ, Array.replicate_zero, List.push_toArray, List.append_toArray, List.nil_append, List.cons_append]
  gi_wp2_with (first
    | (refine ⟨trivial, ?_⟩; gi_at_call 23; refine (parts_in _ S).mono ?_; rintro e w3 ⟨rfl, rfl⟩))
  obtain ⟨B, hB⟩ : ∃ B, w.heap.size = B := ⟨_, rfl⟩
  obtain ⟨W0, hW0⟩ : ∃ W0, ((((((w.alloc (.cells #[.pointer (some ⟨tb, 0, none⟩)] 44)).alloc (.cells #[.string S] 9)).alloc (.cells #[.slice none 0 0] 27)).alloc (.cells #[.int .i64 0] 3)).alloc (.cells #[.bool false] 4)).alloc (.cells #[.string S] 9)) = W0 := ⟨_, rfl⟩
  have hWs : W0.heap.size = B + 6 := by rw [← hW0]; simp [hB]
  have hTW : Touch (fun _ => False) w W0 := by rw [← hW0]; exact ((((((Touch.refl _ _).alloc _).alloc _).alloc _).alloc _).alloc _).alloc _
  have b0 : Boxed W0 B 44 (.pointer (some ⟨tb, 0, none⟩)) := by rw [← hW0, ← hB]; exact ((((((Boxed.new w _ _).alloc _).alloc _).alloc _).alloc _).alloc _)
  have b1 : Boxed W0 (B + 1) 9 (.string S) := by
    rw [← hW0, ← hB, show w.heap.size + 1 = (w.alloc (.cells #[.pointer (some ⟨tb, 0, none⟩)] 44)).heap.size by simp]; exact (((((Boxed.new _ _ _).alloc _).alloc _).alloc _).alloc _)
  have b2 : Boxed W0 (B + 2) 27 (.slice none 0 0) := by
    rw [← hW0, ← hB, show w.heap.size + 2 = ((w.alloc (.cells #[.pointer (some ⟨tb, 0, none⟩)] 44)).alloc (.cells #[.string S] 9)).heap.size by simp]; exact ((((Boxed.new _ _ _).alloc _).alloc _).alloc _)
  have b3 : Boxed W0 (B + 3) 3 (.int .i64 0) := by
    rw [← hW0, ← hB, show w.heap.size + 3 = (((w.alloc (.cells #[.pointer (some ⟨tb, 0, none⟩)] 44)).alloc (.cells #[.string S] 9)).alloc (.cells #[.slice none 0 0] 27)).heap.size by simp]; exact (((Boxed.new _ _ _).alloc _).alloc _)
  have b4 : Boxed W0 (B + 4) 4 (.bool false) := by
    rw [← hW0, ← hB, show w.heap.size + 4 = ((((w.alloc (.cells #[.pointer (some ⟨tb, 0, none⟩)] 44)).alloc (.cells #[.string S] 9)).alloc (.cells #[.slice none 0 0] 27)).alloc (.cells #[.int .i64 0] 3)).heap.size by simp]; exact ((Boxed.new _ _ _).alloc _)
  have b5 : Boxed W0 (B + 5) 9 (.string S) := by
    rw [← hW0, ← hB, show w.heap.size + 5 = (((((w.alloc (.cells #[.pointer (some ⟨tb, 0, none⟩)] 44)).alloc (.cells #[.string S] 9)).alloc (.cells #[.slice none 0 0] 27)).alloc (.cells #[.int .i64 0] 3)).alloc (.cells #[.bool false] 4)).heap.size by simp]; exact (Boxed.new _ _ _)
  rw [hB] at hlt ⊢
  rw [show ((((((w.alloc (.cells #[.pointer (some ⟨tb, 0, none⟩)] 44)).alloc (.cells #[.string S] 9)).alloc (.cells #[.slice none 0 0] 27)).alloc (.cells #[.int .i64 0] 3)).alloc (.cells #[.bool false] 4)).alloc (.cells #[.string S] 9)) = W0 from hW0]
  have HB := Lib.hid hB
  have hfree : ∀ g, TrS tb mb fv g → g < B := fun g hg => by
    rcases hg with rfl | rfl | hg
    · exact hlt.1
    · exact hlt.2.1
    · exact hlt.2.2 g hg
  have HFR := Lib.hid hfree
  have HTR := Lib.hid hTr
  have hI0 : DaI S w tb mb base fv P B [] W0 := ⟨n, 0, fv, P, F, [], .slice none 0 0, false, hTr.still hTW, by simp, fun y hy => (by cases hy), hTr.tree.top, fun x hx => (by cases hx), Nat.le_refl _, Nat.le_refl _, fun g hg => .inl (.inr (.inr hg)), ⟨b0, b1, b2, b3, b4⟩, ⟨rfl, .inl ⟨rfl, rfl⟩⟩, by omega, hTW.mono (fun _ e => e.elim)⟩
  clear hW0 hB hfree hTr
  refine wpIn_rangeFunc_ownG (α := Pt S) rfl (by omega) (gf := 33) (lb := #[.pointer (some ⟨B + 5, 0, none⟩)]) rfl trivial (enters_of Tryd.func33 (by kernel_rfl) rfl)
    (parts_stops (3 - 1) (by omega) S (by omega) (B + 5) W0 (fun A C => A.cell? ⟨B + 5, 0, none⟩ = some (.string S) → C.cell? ⟨B + 5, 0, none⟩ = some (.string S)) (fun A C h hc => h hc) (by omega) b5.cell)
    (fun h k hc => k (h hc)) (fun W l o o' hl h hc hw hs => cell_kept hs (grownBy_putObj' W l o') (fun r e => by cases e; exact ⟨o, h, hc⟩)) (Below.refl _ _) (fun _ => rfl)
    (DaI S w tb mb base fv P B) (DaX S w tb mb base fv P B)
    ?own ?ownx hI0
    (fun x => { tmps := #[.pointer (some ⟨tb, 0, none⟩), .string S, .pointer (some ⟨B, 0, none⟩), .pointer (some ⟨B + 1, 0, none⟩), .slice none 0 0, .pointer (some ⟨B + 2, 0, none⟩), .pointer (some ⟨B + 3, 0, none⟩), .pointer (some ⟨B + 4, 0, none⟩), .int .i64 (x.e : Nat), .string x.t, .string S, .func (.func 33) #[] #[.pointer (some ⟨B + 5, 0, none⟩)], .int .i64 (x.e : Nat), .string x.t, undef, undef, undef, undef, undef, undef, undef, undef, undef, undef, undef, undef, undef, undef, undef, undef, undef, undef, undef, undef], defers := [] }) ?assign ?body ?done ?stop
  case own => exact DaI_own S w tb mb base fv P B _ (by have := HB.out; omega) (by omega) hlt.2.1
  case ownx => exact fun c => DaX_own S w tb mb base fv P B _ (by have := HB.out; omega) (by omega) hlt.2.1 c
  case assign =>
    intro l x W K hK
    dsimp only [ptV]
    gi_wp2
    exact hK
  case body =>
    rintro l pre x W ⟨n', k, fv', P', F', Y, v, bn, hT, hP, hY, hk, hne, hl, hyl, ho, ⟨c0, c1, c2, c3, c4⟩, hr, hz, hW⟩ hpN
    by_cases he : x.e = S.size
    · have heI : ((x.e : Nat) : Int) = (S.size : Int) := by omega
      have d1 := c1.cell
      have HX : DaX S w tb mb base fv P B (.exit 0) (pre ++ [x]) W := ⟨rfl, pre, x, rfl, he, n', k, fv', P', F', Y, v, bn, hT, hP, hY, hk, hne, hl, hyl, ho, ⟨c0, c1, c2, c3, c4⟩, hr, hz, hW⟩
      have HXX := Lib.hid HX
      clear hT hP hY hk hne hl hyl ho c0 c1 c2 c3 c4 hr hz hW HX b0 b1 b2 b3 b4 b5 hTW hI0
      gi_wp2
      exact ⟨KeepsFrom.refl _ _, HXX.out⟩
    · have heI : ¬ (((x.e : Nat) : Int) = (S.size : Int)) := by omega
      have heB : (((x.e : Nat) : Int) == (S.size : Int)) = false := beq_eq_false_iff_ne.2 heI
      have hBw := HB.out
      obtain ⟨t, ht⟩ : ∃ t, x.t = t := ⟨_, rfl⟩
      have hts : t.size ≤ 65535 := by rw [← ht]; have := x.hs; omega
      have hx : pth (pre ++ [x]) = pth pre ++ [t.data.toList] := by rw [pth_snoc, ht]
      have hne2 : ∀ x' ∈ pre ++ [x], x'.e ≠ S.size := fun x' hx' => by
        rw [List.mem_append] at hx'
        rcases hx' with h | h
        · exact hne x' h
        · rw [List.mem_singleton.1 h]; exact he
      obtain ⟨va, vc, hve, hvc, hvm⟩ := (Row.of_own hr).form
      rw [strs_length, List.length_map] at hve hvc
      subst hve
      have d0 := c0.cell
      have d1 := c1.cell
      have d2 := c2.cell
      have d3 := c3.cell
      have d4 := c4.cell
      have g3 := c3.frozen
      have g4 := c4.frozen
      have hbnd : P'.length ≤ 999999999 := by omega
      have HC := Lib.hid (And.intro c0 (And.intro c1 (And.intro c2 (And.intro c3 c4))))
      have HT := Lib.hid hT
      have HO := Lib.hid ho
      have HW := Lib.hid hW
      have HL := Lib.hid hl
      have HX := Lib.hid hx
      have HP := Lib.hid hP
      have HY := Lib.hid hY
      have HK := Lib.hid hk
      have HNE := Lib.hid hne2
      have HR := Lib.hid hr
      have HYL := Lib.hid hyl
      have hxe : x.e ≤ S.size := x.he
      have HTT := Lib.hid ht
      simp only [ht]
      clear c0 c1 c2 c3 c4 hT ho hW hl hx hP hY hk hne hne2 hr hyl b0 b1 b2 b3 b4 b5 hTW hI0 ht
      by_cases hm : pth pre ++ [t.data.toList] ∈ P'
      · obtain ⟨j, hj⟩ := List.mem_iff_getElem?.1 hm
        have hE : Calls Tryd.prog 35 #[.pointer (some ⟨tb, 0, none⟩), .agg #[.int .i64 (k : Nat), .string t]] W _ := enter_old HT.out (by omega) hts HK.out hj
        have HE := Lib.hid hE
        have HJ := Lib.hid hj
        clear hE hj hm
        gi_wp2_with (refine ⟨trivial, ?_⟩; gi_at_call 35; refine (callsIn_wide.2 HE.out).mono ?_; rintro e w2 ⟨rfl, hT2⟩; have e3 := hT2.cell d3 id; have e4 := hT2.cell d4 id; have u3 := (hT2.frozen (p := ⟨B + 3, 0, none⟩) (World.block_lt_of_cell? W _ d3) id).trans g3; have u4 := (hT2.frozen (p := ⟨B + 4, 0, none⟩) (World.block_lt_of_cell? W _ d4) id).trans g4)
        obtain ⟨r1, r2, r3, r4, r5, r6, r7, r8⟩ := da_step (j := j) (b := false) (N := W0.heap.size) hBw HFR.out (by omega) HT.out HO.out HW.out hz ⟨HC.out.1, HC.out.2.1, HC.out.2.2.1, ⟨_, HC.out.2.2.2.1⟩, ⟨_, HC.out.2.2.2.2⟩⟩ HR.out (hT2.mono (fun _ e => e.elim)) (HT.out.still hT2) (.inl rfl)
        exact ⟨r1, r2, n', j, fv', P', F', Y, _, false, r3, HP.out, fun y hy => ⟨(HY.out y hy).1.trans (List.prefix_append _ _), (HY.out y hy).2⟩, by rw [HX.out]; exact HJ.out, HNE.out, by have := HL.out; simp; omega, by have := HYL.out; simp; omega, r4, r5, r6, r7, r8⟩
      · have hE : Calls Tryd.prog 35 #[.pointer (some ⟨tb, 0, none⟩), .agg #[.int .i64 (k : Nat), .string t]] W _ := enter_new HT.out (by omega) hts HK.out hm
        have HE := Lib.hid hE
        have HM := Lib.hid hm
        have hno : ∀ i, i < 6 → ¬ TrS tb mb fv' (B + i) := fun i hi e => by
          rcases e with e | e | e
          · have := hlt.1; omega
          · have := hlt.2.1; omega
          · rcases HO.out _ e with h | h
            · have := HFR.out _ h; omega
            · omega
        have HN3 := Lib.hid (hno 3 (by omega))
        have HN4 := Lib.hid (hno 4 (by omega))
        clear hE hm hno
        gi_wp2_with (refine ⟨trivial, ?_⟩; gi_at_call 35; refine (callsIn_wide.2 HE.out).mono ?_; rintro e w2 ⟨rfl, fv2, hTr2, hown2, hT2⟩; have e3 := hT2.cell d3 HN3.out; have e4 := hT2.cell d4 HN4.out; have u3 := (hT2.frozen (p := ⟨B + 3, 0, none⟩) (World.block_lt_of_cell? W _ d3) HN3.out).trans g3; have u4 := (hT2.frozen (p := ⟨B + 4, 0, none⟩) (World.block_lt_of_cell? W _ d4) HN4.out).trans g4; have HTr2 := Lib.hid hTr2; have HOw2 := Lib.hid hown2; have HT2 := Lib.hid hT2; clear hTr2 hown2 hT2)
        have hD := da_step (j := P'.length) (b := true) (N := W0.heap.size) hBw HFR.out (by omega) HT.out HO.out HW.out hz ⟨HC.out.1, HC.out.2.1, HC.out.2.2.1, ⟨_, HC.out.2.2.2.1⟩, ⟨_, HC.out.2.2.2.2⟩⟩ HR.out HT2.out HTr2.out HOw2.out
        obtain ⟨W3, hW3⟩ : ∃ W3, (w2.setCell ⟨B + 3, 0, none⟩ (.int .i64 (P'.length : Nat))).setCell ⟨B + 4, 0, none⟩ (.bool true) = W3 := ⟨_, rfl⟩
        rw [hW3] at hD ⊢
        obtain ⟨r1, r2, r3, r4, ⟨q0, q1, q2, q3, q4⟩, r6, r7, r8⟩ := hD
        obtain ⟨s', hs'⟩ : ∃ s', S.extract 0 x.e = s' := ⟨_, rfl⟩
        have hT4 : Touch (fun _ => False) W3 ((W3.alloc (.cells #[.string s'] 9)).drew) := ((Touch.refl _ W3).alloc _).drew
        obtain ⟨v', w4, hrun, hown4, hg4, _⟩ := run_append_own (P := Tryd.prog) (w := (W3.alloc (.cells #[.string s'] 9)).drew) (B + 6) 27 27 9 i0 (.string ⟨#[]⟩) 1 16 Tryd.underlying27 hi hz0 hz1 hz2 rfl (by decide) (.slice va Y.length vc) Y.length (strs (Y.map txtOf)) (ownsRow_touch r6 hT4 (fun _ _ => id)) ⟨W3.heap.size, 0, none⟩ 1 1 [.string s'] rfl (cell_one_new _ _ _) (by simp [Value.oneCell']) (by have := HYL.out; unfold maxLen; omega) (by have := HYL.out; omega) (by simp; omega)
        obtain ⟨g2, cap2, rfl⟩ := ownsRow_succ hown4
        have hrun2 : (Builtin.append_ #[27, 27] 27 #[.slice va Y.length vc, .slice (some ⟨W3.heap.size, 0, none⟩) 1 1]).run Tryd.prog (W3.drew.alloc (.cells #[.string s'] 9)) = .ok _ w4 := hrun
        have p1 := q1.cell
        have p2 := q2.cell
        have p1' : (W3.alloc (.cells #[.string s'] 9)).cell? ⟨B + 1, 0, none⟩ = some (.string S) := ((Touch.refl (fun _ => False) W3).alloc _).cell (p := ⟨B + 1, 0, none⟩) p1 id
        have p2' : (W3.alloc (.cells #[.string s'] 9)).cell? ⟨B + 2, 0, none⟩ = some (.slice va Y.length vc) := ((Touch.refl (fun _ => False) W3).alloc _).cell (p := ⟨B + 2, 0, none⟩) p2 id
        have hs0 : (0 : Int) ≤ ((x.e : Nat) : Int) := by omega
        have hs1 : ((x.e : Nat) : Int) ≤ (S.size : Int) := by omega
        have hsx : S.extract 0 x.e = s' := hs'
        have HGG := Lib.hid hg4
        have HOO := Lib.hid hown4
        have HRR := Lib.hid (And.intro r1 (And.intro r2 (And.intro r3 (And.intro r4 (And.intro r7 r8)))))
        have HQ := Lib.hid (And.intro q0 (And.intro q1 (And.intro q2 (And.intro q3 q4))))
        have HR6 := Lib.hid r6
        clear r1 r2 r3 r4 r6 r7 r8 q0 q1 q2 q3 q4 hg4 hown4 hT4 hW3 hs' d0 d1 d2 d3 d4 e3 e4 u3 u4 g3 g4
        obtain ⟨nY, hnY⟩ : ∃ nY, Y.length = nY := ⟨_, rfl⟩
        obtain ⟨W4, hW4⟩ : ∃ W4, (W3.alloc (.cells #[.string s'] 9)).drew = W4 := ⟨_, rfl⟩
        have c3a : W3.drew.cell? ⟨B + 1, 0, none⟩ = some (.string S) := p1
        have c3b : W3.drew.cell? ⟨B + 2, 0, none⟩ = some (.slice va nY vc) := by rw [← hnY]; exact p2
        have c4b : W4.cell? ⟨B + 2, 0, none⟩ = some (.slice va nY vc) := by rw [← hW4, ← hnY]; exact p2'
        have hb4 : W3.drew.alloc (.cells #[.string s'] 9) = W4 := hW4
        rw [hW4] at hrun
        rw [hnY] at hrun
        have hvb : ∀ g, (Value.slice va Y.length vc).ownBlock = some g → B + 6 ≤ g ∧ ¬ TrS tb mb fv2 g := fun g hg => by
          refine ⟨?_, row_apart HRR.out.2.2.1 HR6.out hg⟩
          rcases HR6.out.2 with ⟨e, _⟩ | ⟨g', cap, cur, e, h3, _⟩
          · rw [e] at hg; simp [Value.ownBlock] at hg
          · rw [e] at hg
            have : g' = g := by simpa [Value.ownBlock] using hg
            omega
        have hT34 : Touch (fun k => (Value.slice va Y.length vc).ownBlock = some k) W3 w4 := (((Touch.refl (fun k => (Value.slice va Y.length vc).ownBlock = some k) W3).alloc (.cells #[.string s'] 9)).drew).grown HGG.out (fun k hk => .inl hk)
        have z2 : Boxed w4 (B + 2) 27 (.slice va Y.length vc) := boxed_touch HQ.out.2.2.1 hT34 (fun e => by have := (hvb _ e).1; omega)
        have HZ2 := Lib.hid z2
        have HVB := Lib.hid hvb
        have HT34 := Lib.hid hT34
        have k5 : w4.cell? ⟨B + 2, 0, none⟩ = some (.slice va nY vc) := by rw [← hnY]; exact z2.cell
        have f5 : w4.frozen? ⟨B + 2, 0, none⟩ = false := z2.frozen
        clear z2 hvb hT34
        refine wpIn_region_inv3 (fun ls W => W = (if ls.getD 6 true = true then w4.setCell ⟨B + 2, 0, none⟩ (.slice (some ⟨g2, 0, none⟩) (nY + 1) cap2) else if ls.getD 5 true = true then w4 else if ls.getD 4 true = true then W4 else W3.drew)) (daI9 va nY vc S x.e s' W3.heap.size g2 cap2) (by kernel_rfl) (by kernel_rfl) (by kernel_rfl) (by simp) ?_ ?_
        · intro i o hio ls a W hun hcl hdl hC hbase hdone
          have hlt := op_lt hio
          obtain ⟨hbd, hbs, hbb⟩ := hbase
          have b5 : a.tmps[5]?.getD undef = .pointer (some ⟨B + 2, 0, none⟩) := by rw [(hbb 5 (noDst_spec (by kernel_rfl)))]; rfl
          have b3 : a.tmps[3]?.getD undef = .pointer (some ⟨B + 1, 0, none⟩) := by rw [(hbb 3 (noDst_spec (by kernel_rfl)))]; rfl
          have b8 : a.tmps[8]?.getD undef = .int .i64 (x.e : Nat) := by rw [(hbb 8 (noDst_spec (by kernel_rfl)))]; rfl
          have h65 : ls.getD 6 true = true → ls.getD 5 true = true := closed_step' 6 5 (by kernel_rfl) hcl
          have h54 : ls.getD 5 true = true → ls.getD 4 true = true := closed_step' 5 4 (by kernel_rfl) hcl
          have h50 : ls.getD 5 true = true → ls.getD 0 true = true := closed_step' 5 0 (by kernel_rfl) hcl
          have h43 : ls.getD 4 true = true → ls.getD 3 true = true := closed_step' 4 3 (by kernel_rfl) hcl
          have h31 : ls.getD 3 true = true → ls.getD 1 true = true := closed_step' 3 1 (by kernel_rfl) hcl
          rcases (by simp at hlt; omega : i = 0 ∨ i = 1 ∨ i = 2 ∨ i = 3 ∨ i = 4 ∨ i = 5 ∨ i = 6) with rfl | rfl | rfl | rfl | rfl | rfl | rfl
          · simp only [List.getElem?_toArray, List.getElem?_cons_zero, Option.some.injEq] at hio
            subst hio
            have n5 : ls.getD 5 true = false := by cases h : ls.getD 5 true; rfl; rw [h50 h] at hun; cases hun
            have n6 : ls.getD 6 true = false := by cases h : ls.getD 6 true; rfl; rw [h65 h] at n5; cases n5
            refine ⟨rfl, in_val (v := .slice va nY vc) (w' := W) (fun _ => trivial) (fun c h => by cases h) ?_ ⟨_, rfl, rfl, by simpa only [getD_set3, Bool.or_false, show (0 == 4) = false from rfl, show (0 == 5) = false from rfl, show (0 == 6) = false from rfl] using hC⟩⟩
            rw [n6, n5] at hC
            simp only [Bool.false_eq_true, if_false] at hC
            cases h4 : ls.getD 4 true
            · rw [h4] at hC
              simp only [Bool.false_eq_true, if_false] at hC
              subst hC
              simp [execOp, Act.eval, b5]
              go_simp
            · rw [h4] at hC
              simp only [if_true] at hC
              subst hC
              simp [execOp, Act.eval, b5]
              go_simp
          · simp only [List.getElem?_toArray, List.getElem?_cons_zero, List.getElem?_cons_succ, Option.some.injEq] at hio
            subst hio
            have n4 : ls.getD 4 true = false := by cases h : ls.getD 4 true; rfl; rw [h31 (h43 h)] at hun; cases hun
            have n5 : ls.getD 5 true = false := by cases h : ls.getD 5 true; rfl; rw [h54 h] at n4; cases n4
            have n6 : ls.getD 6 true = false := by cases h : ls.getD 6 true; rfl; rw [h65 h] at n5; cases n5
            refine ⟨rfl, in_val (v := .string S) (w' := W) (fun _ => trivial) (fun c h => by cases h) ?_ ⟨_, rfl, rfl, by simpa only [getD_set3, Bool.or_false, show (1 == 4) = false from rfl, show (1 == 5) = false from rfl, show (1 == 6) = false from rfl] using hC⟩⟩
            rw [n6, n5, n4] at hC
            simp only [Bool.false_eq_true, if_false] at hC
            subst hC
            simp [execOp, Act.eval, b3]
            go_simp
          · simp only [List.getElem?_toArray, List.getElem?_cons_zero, List.getElem?_cons_succ, Option.some.injEq] at hio
            subst hio
            refine ⟨rfl, in_val (v := .int .i64 (x.e : Nat)) (w' := W) (fun _ => trivial) (fun c h => by cases h) ?_ ⟨_, rfl, rfl, by simpa only [getD_set3, Bool.or_false, show (2 == 4) = false from rfl, show (2 == 5) = false from rfl, show (2 == 6) = false from rfl] using hC⟩⟩
            simp [execOp, Act.eval, b8]
          · simp only [List.getElem?_toArray, List.getElem?_cons_zero, List.getElem?_cons_succ, Option.some.injEq] at hio
            subst hio
            have t28 : a.tmps[28]?.getD undef = .string S := by simpa [valOf, daI9] using hdone 1 _ rfl (edge_of' 1 (by kernel_rfl) hdl)
            have t29 : a.tmps[29]?.getD undef = .int .i64 (x.e : Nat) := by simpa [valOf, daI9] using hdone 2 _ rfl (edge_of' 2 (by kernel_rfl) hdl)
            refine ⟨rfl, in_val (v := .string s') (w' := W) (fun _ => trivial) (fun c h => by cases h) ?_ ⟨_, rfl, rfl, by simpa only [getD_set3, Bool.or_false, show (3 == 4) = false from rfl, show (3 == 5) = false from rfl, show (3 == 6) = false from rfl] using hC⟩⟩
            simp [execOp, Act.eval, t28, t29]
            go_simp
          · simp only [List.getElem?_toArray, List.getElem?_cons_zero, List.getElem?_cons_succ, Option.some.injEq] at hio
            subst hio
            have n5 : ls.getD 5 true = false := by cases h : ls.getD 5 true; rfl; rw [h54 h] at hun; cases hun
            have n6 : ls.getD 6 true = false := by cases h : ls.getD 6 true; rfl; rw [h65 h] at n5; cases n5
            have t30 : a.tmps[30]?.getD undef = .string s' := by simpa [valOf, daI9] using hdone 3 _ rfl (edge_of' 3 (by kernel_rfl) hdl)
            rw [n6, n5, hun] at hC
            simp only [Bool.false_eq_true, if_false] at hC
            subst hC
            refine ⟨rfl, in_val (v := .slice (some ⟨W3.heap.size, 0, none⟩) 1 1) (w' := W4) (fun _ => trivial) (fun c h => by cases h) ?_ ⟨_, rfl, rfl, by rw [getD_set3, getD_set3, getD_set3, n6, n5, hun]; rfl⟩⟩
            simp [execOp, Act.eval, t30]
            go_simp
          · simp only [List.getElem?_toArray, List.getElem?_cons_zero, List.getElem?_cons_succ, Option.some.injEq] at hio
            subst hio
            have n6 : ls.getD 6 true = false := by cases h : ls.getD 6 true; rfl; rw [h65 h] at hun; cases hun
            have y4 : ls.getD 4 true = true := edge_of' 4 (by kernel_rfl) hdl
            have t27 : a.tmps[27]?.getD undef = .slice va nY vc := by simpa [valOf, daI9] using hdone 0 _ rfl (edge_of' 0 (by kernel_rfl) hdl)
            have t31 : a.tmps[31]?.getD undef = .slice (some ⟨W3.heap.size, 0, none⟩) 1 1 := by simpa [valOf, daI9] using hdone 4 _ rfl y4
            rw [n6, hun, y4] at hC
            simp only [Bool.false_eq_true, if_false, if_true] at hC
            subst hC
            refine ⟨rfl, in_val (v := .slice (some ⟨g2, 0, none⟩) (nY + 1) cap2) (w' := w4) (fun _ => trivial) (fun c h => by cases h) ?_ ⟨_, rfl, rfl, by simp only [getD_set3, n6, Bool.false_or, show (5 == 6) = false from rfl, show (5 == 5) = true from rfl, Bool.or_true, Bool.false_eq_true, if_false, if_true]⟩⟩
            simp [execOp, resolve, invoke, builtin, Act.eval, t27, t31, hrun, Result.andThen]
          · simp only [List.getElem?_toArray, List.getElem?_cons_zero, List.getElem?_cons_succ, Option.some.injEq] at hio
            subst hio
            have y5 : ls.getD 5 true = true := edge_of' 5 (by kernel_rfl) hdl
            have t32 : a.tmps[32]?.getD undef = .slice (some ⟨g2, 0, none⟩) (nY + 1) cap2 := by simpa [valOf, daI9] using hdone 5 _ rfl y5
            rw [hun, y5] at hC
            simp only [Bool.false_eq_true, if_false, if_true] at hC
            have hC' := hC.symm
            subst hC'
            refine ⟨rfl, in_skip (w' := w4.setCell ⟨B + 2, 0, none⟩ (.slice (some ⟨g2, 0, none⟩) (nY + 1) cap2)) (fun _ => trivial) (fun c h => by cases h) ?_ ⟨_, rfl, rfl, by rw [getD_set3]; simp⟩⟩
            simp [execOp, Act.eval, b5, t32]
            go_simp
        · intro ls a W9 hall hC hbase hdone
          have hW6 : ls.getD 6 true = true := hall 6 (by simp)
          rw [hW6] at hC
          simp only [if_true] at hC
          subst hC
          subst hnY
          obtain ⟨r1, r2, r3, r4, r7, r8⟩ := HRR.out
          obtain ⟨q0, q1, q2, q3, q4⟩ := HQ.out
          have h45 : Touch (fun k => k = B + 2) w4 (w4.setCell ⟨B + 2, 0, none⟩ (.slice (some ⟨g2, 0, none⟩) (Y.length + 1) cap2)) := (Touch.refl (fun k => k = B + 2) w4).setCell (p := ⟨B + 2, 0, none⟩) (.inl rfl) _
          have hAll : Touch (fun k => (Value.slice va Y.length vc).ownBlock = some k ∨ k = B + 2) W3 (w4.setCell ⟨B + 2, 0, none⟩ (.slice (some ⟨g2, 0, none⟩) (Y.length + 1) cap2)) := (HT34.out.mono (fun _ h => .inl h)).trans (h45.mono (fun _ h => .inr h))
          have hg2 : B + 6 ≤ g2 := by
            rcases HOO.out.2 with ⟨e, _⟩ | ⟨g', cap, cur, e, h3, _⟩
            · cases e
            · injection e with e1 _ _
              injection e1 with e1
              injection e1 with e1
              omega
          have hk2 : KeepsFrom W0.heap.size W3 (w4.setCell ⟨B + 2, 0, none⟩ (.slice (some ⟨g2, 0, none⟩) (Y.length + 1) cap2)) := keeps_touch r3 hAll (fun k hk => by
            rcases hk with hk | rfl
            · exact .inr ((Row.of_own HR6.out).cellsAt hk)
            · exact .inr ⟨_, q2, rfl⟩) (by have := hlt.2.1; omega)
          have hsz := hAll.size
          refine (⟨⟨Nat.le_trans r1.size hk2.size, fun k o hB ho hc => hk2.same k o hB (r1.same k o hB ho hc) hc⟩, fun h => hAll.cell (p := ⟨B + 5, 0, none⟩) (r2 h) (fun e => ?_), ⟨n' + 1, P'.length, fv2, P' ++ [pth pre ++ [t.data.toList]], F' ++ [false], Y ++ [pre ++ [x]], _, true, r3.kept hAll (fun e => ?_) (fun e => ?_) (fun g hg e => ?_), ?_, fun y hy => ?_, ?_, HNE.out, ?_, ?_, r4, ⟨boxed_touch q0 hAll (fun e => ?_), boxed_touch q1 hAll (fun e => ?_), HZ2.out.set _, boxed_touch q3 hAll (fun e => ?_), boxed_touch q4 hAll (fun e => ?_)⟩, ?_, by omega, r8.trans' hAll (fun i hi => ?_)⟩⟩ : KeepsFrom _ _ _ ∧ _ ∧ DaI S w tb mb base fv P B (pre ++ [x]) _)
          · rcases e with e | e
            · have h1 : B + 6 ≤ B + 5 := (HVB.out _ e).1
              omega
            · have h1 : B + 5 = B + 2 := e
              omega
          · rcases e with e | e
            · exact (HVB.out _ e).2 (.inl rfl)
            · have := hlt.1; omega
          · rcases e with e | e
            · exact (HVB.out _ e).2 (.inr (.inl rfl))
            · have := hlt.2.1; omega
          · rcases e with e | e
            · exact (HVB.out _ e).2 (.inr (.inr hg))
            · rcases r4 g hg with h | h
              · have := HFR.out g h; omega
              · omega
          · rw [HP.out, List.map_append, List.append_assoc, List.map_cons, List.map_nil, HX.out]
          · rw [List.mem_append] at hy
            rcases hy with hy | hy
            · exact ⟨(HY.out y hy).1.trans (List.prefix_append _ _), (HY.out y hy).2⟩
            · rw [List.mem_singleton.1 hy]
              exact ⟨List.prefix_refl _, by simp⟩
          · rw [HX.out]; simp
          · have := HL.out
            simp
            omega
          · have := HYL.out
            simp
            omega
          · rcases e with e | e
            · have := (HVB.out _ e).1; omega
            · omega
          · rcases e with e | e
            · have := (HVB.out _ e).1; omega
            · omega
          · rcases e with e | e
            · have := (HVB.out _ e).1; omega
            · omega
          · rcases e with e | e
            · have := (HVB.out _ e).1; omega
            · omega
          · have e1 : strs ((Y ++ [pre ++ [x]]).map txtOf) = strs (Y.map txtOf) ++ [.string s'] := by
              rw [List.map_append, List.map_cons, List.map_nil, txtOf_snoc, hsx]
              simp [strs]
            rw [e1, List.length_append, List.length_singleton]
            exact ownsRow_touch HOO.out h45 (fun g hg e => by
              have : g2 = g := by simpa [Value.ownBlock] using hg
              omega)
          · rcases hi with hi | rfl
            · exact .inr (by have := (HVB.out _ hi).1; omega)
            · exact .inr (by omega)
  case done =>
    rintro D ys W hD hys ⟨n', k, fv', P', F', Y, v, bn, hT, hP, hY, hk, hne, _⟩ hK
    subst hys
    exact (pts_end S hne).elim
  case stop =>
    rintro D c pre W hD hpre ⟨rfl, pr, x, rfl, he, n', k, fv', P', F', Y, v, bn, hT, hP, hY, hk, hne, hl, hyl, ho, ⟨c0, c1, c2, c3, c4⟩, hr, hz, hW⟩ hK
    have hwhole := pts_last hpre he
    obtain ⟨va, vc, hve, hvc, hvm⟩ := (Row.of_own hr).form
    rw [strs_length, List.length_map] at hve hvc
    subst hve
    have d2 := c2.cell
    have HT := Lib.hid hT
    have HP := Lib.hid hP
    have HY := Lib.hid hY
    have HK := Lib.hid hk
    have HL := Lib.hid hl
    have HYL := Lib.hid hyl
    have HO := Lib.hid ho
    have HR := Lib.hid hr
    have HW := Lib.hid hW
    have HWH := Lib.hid hwhole
    have HDK := Lib.hid hK
    clear hT hP hY hk hne hl hyl ho c0 c1 c2 c3 c4 hr hW hwhole hK b0 b1 b2 b3 b4 b5 hTW hI0 hpre
    gi_wp2
    have hBw := HB.out
    have hgb := grownBy_putObj' W D (.deferred none)
    have hgr : ∀ r, some D = some r → B + 6 ≤ r ∧ ∃ o : Obj, W.heap[r]? = some o ∧ o.isCells = false := fun r e => by cases e; exact ⟨by omega, _, HDK.out, rfl⟩
    have hwl := congrArg List.length HWH.out
    have hspl : (spl S.data.toList).length = (ptsA S 0).length := by rw [← pth_all, pth_length]
    have hsl := spl_len S.data.toList
    have hSl : S.data.toList.length = S.size := by simp
    rw [List.length_append, List.length_singleton] at hwl
    have hy2 : ∀ y ∈ Y, spl (txtOf y).data.toList = pth y := fun y hy => txtOf_spl (HY.out y hy).2 ((HY.out y hy).1.trans (by rw [← HWH.out]; exact List.prefix_append _ _))
    have hpref : ∀ (a b : List (Pt S)), a <+: b → pth a <+: pth b := fun a b h => by
      obtain ⟨r, rfl⟩ := h
      exact ⟨pth r, by simp [pth]⟩
    have hmap : Y.map pth = (Y.map txtOf).map (fun d => spl d.data.toList) := by
      rw [List.map_map]
      exact List.map_congr_left (fun y hy => (hy2 y hy).symm)
    refine ⟨by simp, .inl ⟨_, _, rfl, run_takeDeferred HDK.out, ?_⟩⟩
    refine ⟨_, results_tmp rfl _ _ _, HW.out.grown hgb (fun r e => .inr (by cases e; omega)), _, Y.map txtOf, n', fv', P', F', rfl, ?_, ?_, HT.out.grown (B := B + 6) hgb hgr (by have := hlt.2.1; omega), by rw [← hmap]; exact HP.out, fun d hd => ?_, fun d hd => ?_, ?_, fun g hg => ?_⟩
    · rw [List.length_map, hBw]
      exact ownsRow_grownC HR.out hgb hgr
    · rw [List.length_map]
      have := HYL.out
      omega
    · obtain ⟨y, hy, rfl⟩ := List.mem_map.1 hd
      rw [below_spl, hy2 y hy, ← pth_all, ← HWH.out]
      refine ⟨hpref _ _ ((HY.out y hy).1.trans (List.prefix_append _ _)), fun e => ?_⟩
      have h1 := (HY.out y hy).1.length_le
      have h2 := congrArg List.length e
      rw [pth_length, pth_length, List.length_append, List.length_singleton] at h2
      omega
    · rw [below_spl, ← pth_all S, ← HWH.out, pth_snoc] at hd
      obtain ⟨h1, h2⟩ := hd
      have h3 : spl d.data.toList <+: pth pr := by
        rcases List.prefix_concat_iff.1 h1 with h | h
        · exact absurd h h2
        · exact h
      exact HT.out.tree.prefix (List.mem_of_getElem? HK.out) h3
    · have := HL.out
      omega
    · rcases HO.out g hg with h | h
      · exact .inl h
      · exact .inr (by omega)
end Go.Proofs.YtmhigecchligcaaDoor

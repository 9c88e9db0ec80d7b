/- Contracts of package dgram: a body read. -/
import Derived.Test.YtmjahbdengnoeaaDgG
import Derived.Test.YtmjahbdengnoeaaDgC
import Derived.Test.YtmjahbdengnoeaaDosQ
namespace Go.Proofs.Ytmjahbdengnoeaa
open Go Go.RowKit
set_option maxRecDepth 100000
set_option linter.unusedSimpArgs false

/-- A byte, a number of some bytes. -/
def byteAt (s : ByteArray) (i : Nat) : Nat := (s.data.toList.getD i 0).toNat
def rd (s : ByteArray) (i k : Nat) : Nat := getN ((s.data.toList.drop i).take k)
theorem byte_get (s : ByteArray) (i : Nat) (h : i < s.size) : (s[i]).toNat = byteAt s i := by
  unfold byteAt
  have hl : i < s.data.toList.length := by rw [Array.length_toList]; exact h
  rw [List.getD_eq_getElem?_getD, List.getElem?_eq_getElem hl, Option.getD_some, Array.getElem_toList]
  rfl
theorem byteAt_lt (s : ByteArray) (i : Nat) : byteAt s i < 256 := UInt8.toNat_lt _
theorem rd_lt (s : ByteArray) (i k : Nat) : rd s i k < 256 ^ k := by
  unfold rd
  have h := getN_lt ((s.data.toList.drop i).take k)
  exact Nat.lt_of_lt_of_le h (Nat.pow_le_pow_right (by decide) (List.length_take_le _ _))
theorem ex_list (s : ByteArray) (i j : Nat) : (s.extract i j).data.toList = (s.data.toList.drop i).take (j - i) := by
  rw [ByteArray.data_extract, Array.toList_extract, List.extract]
theorem rd_ex (s : ByteArray) (i k : Nat) (h : i + k ≤ s.size) : rd (s.extract i s.size) 0 k = rd s i k := by
  unfold rd
  rw [ex_list, List.drop_zero, List.take_take, Nat.min_eq_left (by omega)]
theorem get_ex (s : ByteArray) (i j : Nat) : getN (s.extract i j).data.toList = rd s i (j - i) := by
  unfold rd; rw [ex_list]

set_option maxHeartbeats 400000 in
theorem word_calls (S : ByteArray) (h : 4 ≤ S.size) (h2 : S.size ≤ 1000000) (w : World) : Calls Try.prog 48 #[.string S] w fun e w' => e = .returned (.int .u32 (rd S 0 4 : Nat)) ∧ w = w' := by
  have hx : (S.extract 0 4).size = 4 := by simp; omega
  have hr := rd_lt S 0 4
  have HG := Lib.hid (fun W => get_small (S.extract 0 4) W (by omega))
  rw [get_ex] at HG
  generalize rd S 0 4 = n at HG hr ⊢
  obtain ⟨X, hX⟩ : ∃ X, S.extract 0 4 = X := ⟨_, rfl⟩
  rw [hX] at HG
  clear hx
  go_enter Try.func48, Try.ntmps48
  go_wp2_with (go_at_call 49; refine (HG.out _).mono ?_; rintro e w' ⟨rfl, rfl⟩)
  go_ret
  exact ⟨rfl, rfl⟩

/-- What a body tells, read as it stands. -/
def readD (s : ByteArray) : Dg := ⟨(byteAt s 2 : Nat), rd s 4 4, rd s 8 4, rd s 12 4, rd s 16 8, rd s 24 4, rd s 28 4, decide (byteAt s 3 = 1), s.extract 34 s.size⟩
def Dg.zero : Dg := ⟨0, 0, 0, 0, 0, 0, 0, false, ⟨#[]⟩⟩
def DBox (w : World) (nb : Nat) (d : Dg) : Prop := Block w nb 42 d.cells.toList
theorem DBox.kept {S : Nat → Prop} {w w' : World} {nb : Nat} {d : Dg} (h : DBox w nb d) (ht : Touch S w w') (hn : ¬ S nb) : DBox w' nb d := Block.kept h ht hn
theorem DBox.cells {w : World} {nb se ep sq pos sm mp : Nat} {k : Int} {la : Bool} {tx : ByteArray} (h : DBox w nb ⟨k, se, ep, sq, pos, sm, mp, la, tx⟩) :
    w.cell? ⟨nb, 0, none⟩ = some (.int .i64 k) ∧ w.cell? ⟨nb, 1, none⟩ = some (.int .u32 (se : Nat)) ∧ w.cell? ⟨nb, 2, none⟩ = some (.int .u32 (ep : Nat)) ∧ w.cell? ⟨nb, 3, none⟩ = some (.int .u32 (sq : Nat)) ∧ w.cell? ⟨nb, 4, none⟩ = some (.int .u64 (pos : Nat)) ∧
      w.cell? ⟨nb, 5, none⟩ = some (.int .u32 (sm : Nat)) ∧ w.cell? ⟨nb, 6, none⟩ = some (.int .u32 (mp : Nat)) ∧ w.cell? ⟨nb, 7, none⟩ = some (.bool la) ∧ w.cell? ⟨nb, 8, none⟩ = some (.string tx) :=
  ⟨Block.cell h 0, Block.cell h 1, Block.cell h 2, Block.cell h 3, Block.cell h 4, Block.cell h 5, Block.cell h 6, Block.cell h 7, Block.cell h 8⟩
def put9 (w : World) (nb : Nat) (d : Dg) : World := (((((((((w.setCell ⟨nb, 0, none⟩ (.int .i64 d.kind)).setCell ⟨nb, 1, none⟩ (.int .u32 (d.se : Int))).setCell ⟨nb, 2, none⟩ (.int .u32 (d.ep : Int))).setCell ⟨nb, 3, none⟩ (.int .u32 (d.sq : Int))).setCell ⟨nb, 4, none⟩ (.int .u64 (d.pos : Int))).setCell ⟨nb, 5, none⟩ (.int .u32 (d.sm : Int))).setCell ⟨nb, 6, none⟩ (.int .u32 (d.mp : Int))).setCell ⟨nb, 7, none⟩ (.bool d.last)).setCell ⟨nb, 8, none⟩ (.string d.text))
theorem DBox.put9 {w : World} {nb : Nat} {d0 : Dg} (h : DBox w nb d0) (d : Dg) : DBox (put9 w nb d) nb d := Block.set (Block.set (Block.set (Block.set (Block.set (Block.set (Block.set (Block.set (Block.set h 0 _) 1 _) 2 _) 3 _) 4 _) 5 _) 6 _) 7 _) 8 _
theorem put9_touch (w : World) (nb : Nat) (d : Dg) : Touch (fun k => k = nb) w (put9 w nb d) :=
  (((((((((Touch.refl (fun k => k = nb) w).setCell (p := ⟨nb, 0, none⟩) (.inl rfl) _).setCell (p := ⟨nb, 1, none⟩) (.inl rfl) _).setCell (p := ⟨nb, 2, none⟩) (.inl rfl) _).setCell (p := ⟨nb, 3, none⟩) (.inl rfl) _).setCell (p := ⟨nb, 4, none⟩) (.inl rfl) _).setCell (p := ⟨nb, 5, none⟩) (.inl rfl) _).setCell (p := ⟨nb, 6, none⟩) (.inl rfl) _).setCell (p := ⟨nb, 7, none⟩) (.inl rfl) _).setCell (p := ⟨nb, 8, none⟩) (.inl rfl) _
theorem Try.sizeDg : (Try.prog.info? 42).map (·.size) = some 9 := by kernel_rfl
theorem dg_new (w : World) (x0 x1 x2 x3 x4 x5 x6 x7 x8 : Value) : Block (w.alloc (.cells #[x0, x1, x2, x3, x4, x5, x6, x7, x8] 42)) w.heap.size 42 [x0, x1, x2, x3, x4, x5, x6, x7, x8] := Block.new w 42 _
theorem str_eqD {a b : ByteArray} : (a.toList == b.toList) = decide (a = b) := by
  rw [ByteArray.toList_eq, ByteArray.toList_eq]
  by_cases h : a = b
  · subst h; simp
  · rw [decide_eq_false h]
    rw [beq_eq_false_iff_ne]
    intro h'
    exact h (ByteArray.ext (Array.toList_inj.1 h'))
theorem kp_val2 {P : Program} {o : Oper} {a : Act} {w w' : World} {K : Act → World → Prop} {Q : Exit → Act → World → Prop} {v : Value} (h : (execOp a.eval o).run P w = .ok (.value v) w') (hk : K (a.put o.dst v) w') : o.wp P a w K Q := by
  unfold Oper.wp
  rw [h]
  exact hk
theorem kp_call0 {P : Program} {o : Oper} {a : Act} {w : World} {K : Act → World → Prop} {Q : Exit → Act → World → Prop} {f : FuncId} {args : Array Value} {v : Value} (h : (execOp a.eval o).run P w = .ok (.enter f args) w)
    (hc : Calls P f args w fun e w' => e = .returned v ∧ w = w') (hk : K (a.put o.dst v) w) : o.wp P a w K Q := by
  unfold Oper.wp
  rw [h]
  exact hc.mono fun e w' ⟨he, ht⟩ => by subst he; subst ht; exact hk

/-- What each operation of a body that is read leaves. -/
def tdI (G k l se ep sq pos sm mp : Nat) (la : Bool) (S tx x0 x1 x2 x3 x4 x5 : ByteArray) (i : Nat) (v : Value) (W : World) : Prop := match i with
  | 0 => v = .string S
  | 1 => v = .int .u8 (k : Nat)
  | 2 => v = .int .i64 (k : Nat)
  | 3 => v = .string S
  | 4 => v = .string x0
  | 5 => v = .int .u32 (se : Nat)
  | 6 => v = .string S
  | 7 => v = .string x1
  | 8 => v = .int .u32 (ep : Nat)
  | 9 => v = .string S
  | 10 => v = .string x2
  | 11 => v = .int .u32 (sq : Nat)
  | 12 => v = .string S
  | 13 => v = .string x3
  | 14 => v = .int .u64 (pos : Nat)
  | 15 => v = .string S
  | 16 => v = .string x4
  | 17 => v = .int .u32 (sm : Nat)
  | 18 => v = .string S
  | 19 => v = .string x5
  | 20 => v = .int .u32 (mp : Nat)
  | 21 => v = .string S
  | 22 => v = .int .u8 (l : Nat)
  | 23 => v = .bool la
  | 24 => v = .string S
  | 25 => v = .string tx
  | 26 => v = .agg #[.int .i64 (k : Nat), .int .u32 (se : Nat), .int .u32 (ep : Nat), .int .u32 (sq : Nat), .int .u64 (pos : Nat), .int .u32 (sm : Nat), .int .u32 (mp : Nat), .bool la, .string tx]
  | 27 => v = .pointer (some ⟨G, 0, none⟩) ∧ ∃ cs : Array Value, cs.size = 9 ∧ W.heap[G]? = some (.cells cs 42)
  | 28 => W.heap[G]? = some (.cells #[.int .i64 (k : Nat), .int .u32 (se : Nat), .int .u32 (ep : Nat), .int .u32 (sq : Nat), .int .u64 (pos : Nat), .int .u32 (sm : Nat), .int .u32 (mp : Nat), .bool la, .string tx] 42)
  | _ => True

theorem tdI_alloc {G k l se ep sq pos sm mp : Nat} {la : Bool} {S tx x0 x1 x2 x3 x4 x5 : ByteArray} {W : World} (o : Obj) (hG : W.heap.size = G) : ∀ j u, tdI G k l se ep sq pos sm mp la S tx x0 x1 x2 x3 x4 x5 j u W → tdI G k l se ep sq pos sm mp la S tx x0 x1 x2 x3 x4 x5 j u (W.alloc o) := by
  have hn : W.heap[G]? = none := Array.getElem?_eq_none (by omega)
  intro j u h
  by_cases h20 : j = 27
  · subst h20
    obtain ⟨_, cs, _, h2⟩ := h
    rw [hn] at h2; cases h2
  by_cases h21 : j = 28
  · subst h21
    have h2 : W.heap[G]? = _ := h
    rw [hn] at h2; cases h2
  unfold tdI at h ⊢
  split at h <;> first | exact h | omega | trivial
theorem tdI_row {G k l se ep sq pos sm mp : Nat} {la : Bool} {S tx x0 x1 x2 x3 x4 x5 : ByteArray} {W : World} {cs0 : Array Value} (hG : W.heap[G]? = some (.cells cs0 42)) : ∀ j u, tdI G k l se ep sq pos sm mp la S tx x0 x1 x2 x3 x4 x5 j u W → tdI G k l se ep sq pos sm mp la S tx x0 x1 x2 x3 x4 x5 j u (W.setRow G (#[.int .i64 (k : Nat), .int .u32 (se : Nat), .int .u32 (ep : Nat), .int .u32 (sq : Nat), .int .u64 (pos : Nat), .int .u32 (sm : Nat), .int .u32 (mp : Nat), .bool la, .string tx])) := by
  have hn := heap_setRow W G cs0 (#[.int .i64 (k : Nat), .int .u32 (se : Nat), .int .u32 (ep : Nat), .int .u32 (sq : Nat), .int .u64 (pos : Nat), .int .u32 (sm : Nat), .int .u32 (mp : Nat), .bool la, .string tx]) 42 hG
  intro j u h
  by_cases h20 : j = 27
  · subst h20
    obtain ⟨h1, _⟩ := h
    exact ⟨h1, _, rfl, hn⟩
  by_cases h21 : j = 28
  · subst h21
    exact hn
  unfold tdI at h ⊢
  split at h <;> first | exact h | omega | trivial

set_option maxHeartbeats 2000000 in
theorem told_short (S : ByteArray) (h : S.size < 34) (w : World) : Calls Try.prog 36 #[.string S] w fun e w' => e = .returned (.tuple #[Dg.zero.v, .bool false]) ∧ Touch (fun _ => False) w w' := by
  have hI : (S.size : Int) < 34 := by omega
  go_enter Try.func36, Try.ntmps36
  go_upto_region 1 with fail
  have hTa := (Touch.refl (fun _ => False) w).alloc (.cells #[.int .i64 0, .int .u32 0, .int .u32 0, .int .u32 0, .int .u64 0, .int .u32 0, .int .u32 0, .bool false, .string ⟨#[]⟩] 42)
  have hz5 : DBox (w.alloc (.cells #[.int .i64 0, .int .u32 0, .int .u32 0, .int .u32 0, .int .u64 0, .int .u32 0, .int .u32 0, .bool false, .string ⟨#[]⟩] 42)) w.heap.size Dg.zero := dg_new w _ _ _ _ _ _ _ _ _
  generalize w.alloc (.cells #[.int .i64 0, .int .u32 0, .int .u32 0, .int .u32 0, .int .u64 0, .int .u32 0, .int .u32 0, .bool false, .string ⟨#[]⟩] 42) = w4 at hTa hz5 ⊢
  generalize hG0 : w.heap.size = Z at hz5 ⊢
  obtain ⟨k0, k1, k2, k3, k4, k5, k6, k7, k8⟩ := hz5.cells
  have f0 := Block.free hz5 0
  have f1 := Block.free hz5 1
  have f2 := Block.free hz5 2
  have f3 := Block.free hz5 3
  have f4 := Block.free hz5 4
  have f5 := Block.free hz5 5
  have f6 := Block.free hz5 6
  have f7 := Block.free hz5 7
  have f8 := Block.free hz5 8
  have HZ5 := Lib.hid hz5
  have HT5 := Lib.hid hTa
  have HZ0 := Lib.hid hG0
  clear hz5 hTa hG0
  go_wp2_with fail
  have hr : DBox (put9 w4 Z Dg.zero) Z Dg.zero := HZ5.out.put9 _
  have hTp := put9_touch w4 Z Dg.zero
  exact bodyPost_ret (results_cell_slot rfl _ _ Z _ _ _ _ rfl hr Try.underlying42 rfl Try.sizeDg) rfl ⟨rfl, HT5.out.trans' hTp (fun i hi => .inr (by rw [HZ0.out]; exact Nat.le_of_eq hi.symm))⟩

def toldB (S : ByteArray) : Bool := goodD (readD S) && decide (bodyB (readD S) = S)
def toldD (S : ByteArray) : Dg := if toldB S = true then readD S else Dg.zero

set_option maxHeartbeats 8000000 in
theorem told_calls (S : ByteArray) (h34 : 34 ≤ S.size) (hmax : S.size ≤ 1000000) (w : World) : Calls Try.prog 36 #[.string S] w fun e w' => e = .returned (.tuple #[(toldD S).v, .bool (toldB S)]) ∧ Touch (fun _ => False) w w' := by
  have hkl := byteAt_lt S 2
  have hll := byteAt_lt S 3
  have hgk := byte_get S 2 (by omega)
  have hgl := byte_get S 3 (by omega)
  have l0 := rd_lt S 4 4
  have l1 := rd_lt S 8 4
  have l2 := rd_lt S 12 4
  have l3 := rd_lt S 16 8
  have l4 := rd_lt S 24 4
  have l5 := rd_lt S 28 4
  have g0 := fun W => word_calls (S.extract 4 S.size) (by simp; omega) (by simp; omega) W
  have g1 := fun W => word_calls (S.extract 8 S.size) (by simp; omega) (by simp; omega) W
  have g2 := fun W => word_calls (S.extract 12 S.size) (by simp; omega) (by simp; omega) W
  have g3 := fun W => get_small (S.extract 16 24) W (by simp; omega)
  have g4 := fun W => word_calls (S.extract 24 S.size) (by simp; omega) (by simp; omega) W
  have g5 := fun W => word_calls (S.extract 28 S.size) (by simp; omega) (by simp; omega) W
  rw [rd_ex S 4 4 (by omega)] at g0
  rw [rd_ex S 8 4 (by omega)] at g1
  rw [rd_ex S 12 4 (by omega)] at g2
  rw [get_ex] at g3
  rw [rd_ex S 24 4 (by omega)] at g4
  rw [rd_ex S 28 4 (by omega)] at g5
  have htz : (S.extract 34 S.size).size ≤ 1000000 := by simp; omega
  have hrd : readD S = ⟨(byteAt S 2 : Nat), rd S 4 4, rd S 8 4, rd S 12 4, rd S 16 8, rd S 24 4, rd S 28 4, decide (byteAt S 3 = 1), S.extract 34 S.size⟩ := rfl
  have hT1 : toldB S = (goodD (readD S) && decide (bodyB (readD S) = S)) := rfl
  have hT2 : toldD S = if toldB S = true then readD S else Dg.zero := rfl
  rw [hrd] at hT1 hT2
  have hla : ((byteAt S 3 : Int) == 1) = decide (byteAt S 3 = 1) := by
    by_cases h : byteAt S 3 = 1
    · rw [h]; rfl
    · rw [decide_eq_false h]; exact beq_eq_false_iff_ne.2 (by omega)
  obtain ⟨x0, hx0⟩ : ∃ x, S.extract 4 S.size = x := ⟨_, rfl⟩
  obtain ⟨x1, hx1⟩ : ∃ x, S.extract 8 S.size = x := ⟨_, rfl⟩
  obtain ⟨x2, hx2⟩ : ∃ x, S.extract 12 S.size = x := ⟨_, rfl⟩
  obtain ⟨x3, hx3⟩ : ∃ x, S.extract 16 24 = x := ⟨_, rfl⟩
  obtain ⟨x4, hx4⟩ : ∃ x, S.extract 24 S.size = x := ⟨_, rfl⟩
  obtain ⟨x5, hx5⟩ : ∃ x, S.extract 28 S.size = x := ⟨_, rfl⟩
  obtain ⟨tx, htx⟩ : ∃ x, S.extract 34 S.size = x := ⟨_, rfl⟩
  rw [hx0] at g0
  rw [hx1] at g1
  rw [hx2] at g2
  rw [hx3] at g3
  rw [hx4] at g4
  rw [hx5] at g5
  rw [htx] at hT1 hT2 htz
  generalize byteAt S 2 = k at *
  generalize byteAt S 3 = l at *
  generalize rd S 4 4 = se at *
  generalize rd S 8 4 = ep at *
  generalize rd S 12 4 = sq at *
  have hp8 : rd S 16 (24 - 16) = rd S 16 8 := rfl
  rw [hp8] at g3
  clear hp8
  generalize rd S 16 8 = pos at *
  generalize rd S 24 4 = sm at *
  generalize rd S 28 4 = mp at *
  clear hrd
  generalize decide (l = 1) = la at *
  have G0 := Lib.hid g0
  have G1 := Lib.hid g1
  have G2 := Lib.hid g2
  have G3 := Lib.hid g3
  have G4 := Lib.hid g4
  have G5 := Lib.hid g5
  clear g0 g1 g2 g3 g4 g5
  have hwk : IntKind.i64.wrap (k : Int) = (k : Int) := IntWalk.i64_in _ (by omega)
  have hgd := fun W => dgood_calls ⟨(k : Nat), se, ep, sq, pos, sm, mp, la, tx⟩ W
  have hbo := fun W => body_k k se ep sq pos sm mp la tx hkl (by simpa using l0) (by simpa using l1) (by simpa using l2) (by simpa using l3) (by simpa using l4) (by simpa using l5) htz W
  have heq := str_eqD (a := bodyB ⟨(k : Nat), se, ep, sq, pos, sm, mp, la, tx⟩) (b := S)
  generalize bodyB ⟨(k : Nat), se, ep, sq, pos, sm, mp, la, tx⟩ = BB at hT1 hbo heq
  generalize goodD ⟨(k : Nat), se, ep, sq, pos, sm, mp, la, tx⟩ = gd at hT1 hgd
  generalize decide (BB = S) = eqb at hT1 heq
  generalize toldB S = tb at hT1 hT2 ⊢
  generalize toldD S = td at hT2 ⊢
  unfold Dg.v Dg.cells at hgd hbo
  simp only at hgd hbo
  have HGD := Lib.hid hgd
  have HBO := Lib.hid hbo
  have HTD : td = if (gd && eqb) = true then ⟨(k : Nat), se, ep, sq, pos, sm, mp, la, tx⟩ else Dg.zero := by rw [← hT1]; exact hT2
  subst hT1
  subst HTD
  clear hgd hbo hT2 l0 l1 l2 l3 l4 l5 htz
  have hI : (34 : Int) ≤ (S.size : Int) := by omega
  have hI2 : (S.size : Int) ≤ 1000000 := by omega
  go_enter Try.func36, Try.ntmps36
  go_upto_region 3 with fail
  have hTa := (Touch.refl (fun _ => False) w).alloc (.cells #[.int .i64 0, .int .u32 0, .int .u32 0, .int .u32 0, .int .u64 0, .int .u32 0, .int .u32 0, .bool false, .string ⟨#[]⟩] 42)
  have hbx : DBox (w.alloc (.cells #[.int .i64 0, .int .u32 0, .int .u32 0, .int .u32 0, .int .u64 0, .int .u32 0, .int .u32 0, .bool false, .string ⟨#[]⟩] 42)) w.heap.size Dg.zero := dg_new w _ _ _ _ _ _ _ _ _
  generalize w.alloc (.cells #[.int .i64 0, .int .u32 0, .int .u32 0, .int .u32 0, .int .u64 0, .int .u32 0, .int .u32 0, .bool false, .string ⟨#[]⟩] 42) = w1 at hTa hbx ⊢
  generalize hG0 : w.heap.size = Z at hbx ⊢
  have HBX := Lib.hid hbx
  obtain ⟨G, hG⟩ : ∃ G, w1.heap.size = G := ⟨_, rfl⟩
  clear hbx
  refine wp_region_inv2 27 (fun b W => Touch (fun _ => False) w1 W ∧ (b = false → W.heap.size = G)) (tdI G k l se ep sq pos sm mp la S tx x0 x1 x2 x3 x4 x5) (by kernel_rfl) (by kernel_rfl) (by kernel_rfl) (by decide) ⟨(Touch.refl _ _).drew, fun _ => hG⟩ ?_ ?_
  · intro i o hi a W b hbf hC hbase hdep
    have hlt := op_lt hi
    obtain ⟨hbd, hbs, hbb⟩ := hbase
    have b0 : a.tmps[0]? = some (.string S) := (hbb 0 (noDst_spec (by kernel_rfl))).trans rfl
    rcases (by simp at hlt; omega : i = 0 ∨ i = 1 ∨ i = 2 ∨ i = 3 ∨ i = 4 ∨ i = 5 ∨ i = 6 ∨ i = 7 ∨ i = 8 ∨ i = 9 ∨ i = 10 ∨ i = 11 ∨ i = 12 ∨ i = 13 ∨ i = 14 ∨ i = 15 ∨ i = 16 ∨ i = 17 ∨ i = 18 ∨ i = 19 ∨ i = 20 ∨ i = 21 ∨ i = 22 ∨ i = 23 ∨ i = 24 ∨ i = 25 ∨ i = 26 ∨ i = 27 ∨ i = 28) with rfl | rfl | rfl | rfl | rfl | rfl | rfl | rfl | rfl | rfl | rfl | rfl | rfl | rfl | rfl | rfl | rfl | rfl | rfl | rfl | rfl | rfl | rfl | rfl | rfl | rfl | rfl | rfl | rfl
    · simp only [List.getElem?_toArray, List.getElem?_cons_zero, Option.some.injEq] at hi
      subst hi
      clear hdep
      refine kp_val (v := .string S) ?_ ⟨_, rfl, rfl, by simpa using hC, fun _ _ h => h⟩
      simp [execOp, Act.eval, b0]
    · simp only [List.getElem?_toArray, List.getElem?_cons_zero, List.getElem?_cons_succ, Option.some.injEq] at hi
      subst hi
      simp [Region.binds, valOf, tdI] at hdep
      refine kp_val (v := .int .u8 (k : Nat)) ?_ ⟨_, rfl, rfl, by simpa using hC, fun _ _ h => h⟩
      simp [execOp, Act.eval, hdep]
      go_simp
      try (intro h9; exfalso; omega)
    · simp only [List.getElem?_toArray, List.getElem?_cons_zero, List.getElem?_cons_succ, Option.some.injEq] at hi
      subst hi
      simp [Region.binds, valOf, tdI] at hdep
      refine kp_val (v := .int .i64 (k : Nat)) ?_ ⟨_, rfl, rfl, by simpa using hC, fun _ _ h => h⟩
      simp [execOp, Act.eval, hdep]
      go_simp
    · simp only [List.getElem?_toArray, List.getElem?_cons_zero, List.getElem?_cons_succ, Option.some.injEq] at hi
      subst hi
      clear hdep
      refine kp_val (v := .string S) ?_ ⟨_, rfl, rfl, by simpa using hC, fun _ _ h => h⟩
      simp [execOp, Act.eval, b0]
    · simp only [List.getElem?_toArray, List.getElem?_cons_zero, List.getElem?_cons_succ, Option.some.injEq] at hi
      subst hi
      simp [Region.binds, valOf, tdI] at hdep
      refine kp_val (v := .string x0) ?_ ⟨_, rfl, rfl, by simpa using hC, fun _ _ h => h⟩
      simp [execOp, Act.eval, hdep]
      go_simp
      try (intro h9; exfalso; omega)
    · simp only [List.getElem?_toArray, List.getElem?_cons_zero, List.getElem?_cons_succ, Option.some.injEq] at hi
      subst hi
      simp [Region.binds, valOf, tdI] at hdep
      refine kp_call0 (f := 48) (args := #[.string x0]) (v := .int .u32 (se : Nat)) ?_ (G0.out W) ⟨_, rfl, rfl, by simpa using hC, fun _ _ h => h⟩
      simp [execOp, resolve, invoke, Act.eval, hdep]
      try rfl
    · simp only [List.getElem?_toArray, List.getElem?_cons_zero, List.getElem?_cons_succ, Option.some.injEq] at hi
      subst hi
      clear hdep
      refine kp_val (v := .string S) ?_ ⟨_, rfl, rfl, by simpa using hC, fun _ _ h => h⟩
      simp [execOp, Act.eval, b0]
    · simp only [List.getElem?_toArray, List.getElem?_cons_zero, List.getElem?_cons_succ, Option.some.injEq] at hi
      subst hi
      simp [Region.binds, valOf, tdI] at hdep
      refine kp_val (v := .string x1) ?_ ⟨_, rfl, rfl, by simpa using hC, fun _ _ h => h⟩
      simp [execOp, Act.eval, hdep]
      go_simp
      try (intro h9; exfalso; omega)
    · simp only [List.getElem?_toArray, List.getElem?_cons_zero, List.getElem?_cons_succ, Option.some.injEq] at hi
      subst hi
      simp [Region.binds, valOf, tdI] at hdep
      refine kp_call0 (f := 48) (args := #[.string x1]) (v := .int .u32 (ep : Nat)) ?_ (G1.out W) ⟨_, rfl, rfl, by simpa using hC, fun _ _ h => h⟩
      simp [execOp, resolve, invoke, Act.eval, hdep]
      try rfl
    · simp only [List.getElem?_toArray, List.getElem?_cons_zero, List.getElem?_cons_succ, Option.some.injEq] at hi
      subst hi
      clear hdep
      refine kp_val (v := .string S) ?_ ⟨_, rfl, rfl, by simpa using hC, fun _ _ h => h⟩
      simp [execOp, Act.eval, b0]
    · simp only [List.getElem?_toArray, List.getElem?_cons_zero, List.getElem?_cons_succ, Option.some.injEq] at hi
      subst hi
      simp [Region.binds, valOf, tdI] at hdep
      refine kp_val (v := .string x2) ?_ ⟨_, rfl, rfl, by simpa using hC, fun _ _ h => h⟩
      simp [execOp, Act.eval, hdep]
      go_simp
      try (intro h9; exfalso; omega)
    · simp only [List.getElem?_toArray, List.getElem?_cons_zero, List.getElem?_cons_succ, Option.some.injEq] at hi
      subst hi
      simp [Region.binds, valOf, tdI] at hdep
      refine kp_call0 (f := 48) (args := #[.string x2]) (v := .int .u32 (sq : Nat)) ?_ (G2.out W) ⟨_, rfl, rfl, by simpa using hC, fun _ _ h => h⟩
      simp [execOp, resolve, invoke, Act.eval, hdep]
      try rfl
    · simp only [List.getElem?_toArray, List.getElem?_cons_zero, List.getElem?_cons_succ, Option.some.injEq] at hi
      subst hi
      clear hdep
      refine kp_val (v := .string S) ?_ ⟨_, rfl, rfl, by simpa using hC, fun _ _ h => h⟩
      simp [execOp, Act.eval, b0]
    · simp only [List.getElem?_toArray, List.getElem?_cons_zero, List.getElem?_cons_succ, Option.some.injEq] at hi
      subst hi
      simp [Region.binds, valOf, tdI] at hdep
      refine kp_val (v := .string x3) ?_ ⟨_, rfl, rfl, by simpa using hC, fun _ _ h => h⟩
      simp [execOp, Act.eval, hdep]
      go_simp
      try (intro h9; exfalso; omega)
    · simp only [List.getElem?_toArray, List.getElem?_cons_zero, List.getElem?_cons_succ, Option.some.injEq] at hi
      subst hi
      simp [Region.binds, valOf, tdI] at hdep
      refine kp_call0 (f := 49) (args := #[.string x3]) (v := .int .u64 (pos : Nat)) ?_ (G3.out W) ⟨_, rfl, rfl, by simpa using hC, fun _ _ h => h⟩
      simp [execOp, resolve, invoke, Act.eval, hdep]
      try rfl
    · simp only [List.getElem?_toArray, List.getElem?_cons_zero, List.getElem?_cons_succ, Option.some.injEq] at hi
      subst hi
      clear hdep
      refine kp_val (v := .string S) ?_ ⟨_, rfl, rfl, by simpa using hC, fun _ _ h => h⟩
      simp [execOp, Act.eval, b0]
    · simp only [List.getElem?_toArray, List.getElem?_cons_zero, List.getElem?_cons_succ, Option.some.injEq] at hi
      subst hi
      simp [Region.binds, valOf, tdI] at hdep
      refine kp_val (v := .string x4) ?_ ⟨_, rfl, rfl, by simpa using hC, fun _ _ h => h⟩
      simp [execOp, Act.eval, hdep]
      go_simp
      try (intro h9; exfalso; omega)
    · simp only [List.getElem?_toArray, List.getElem?_cons_zero, List.getElem?_cons_succ, Option.some.injEq] at hi
      subst hi
      simp [Region.binds, valOf, tdI] at hdep
      refine kp_call0 (f := 48) (args := #[.string x4]) (v := .int .u32 (sm : Nat)) ?_ (G4.out W) ⟨_, rfl, rfl, by simpa using hC, fun _ _ h => h⟩
      simp [execOp, resolve, invoke, Act.eval, hdep]
      try rfl
    · simp only [List.getElem?_toArray, List.getElem?_cons_zero, List.getElem?_cons_succ, Option.some.injEq] at hi
      subst hi
      clear hdep
      refine kp_val (v := .string S) ?_ ⟨_, rfl, rfl, by simpa using hC, fun _ _ h => h⟩
      simp [execOp, Act.eval, b0]
    · simp only [List.getElem?_toArray, List.getElem?_cons_zero, List.getElem?_cons_succ, Option.some.injEq] at hi
      subst hi
      simp [Region.binds, valOf, tdI] at hdep
      refine kp_val (v := .string x5) ?_ ⟨_, rfl, rfl, by simpa using hC, fun _ _ h => h⟩
      simp [execOp, Act.eval, hdep]
      go_simp
      try (intro h9; exfalso; omega)
    · simp only [List.getElem?_toArray, List.getElem?_cons_zero, List.getElem?_cons_succ, Option.some.injEq] at hi
      subst hi
      simp [Region.binds, valOf, tdI] at hdep
      refine kp_call0 (f := 48) (args := #[.string x5]) (v := .int .u32 (mp : Nat)) ?_ (G5.out W) ⟨_, rfl, rfl, by simpa using hC, fun _ _ h => h⟩
      simp [execOp, resolve, invoke, Act.eval, hdep]
      try rfl
    · simp only [List.getElem?_toArray, List.getElem?_cons_zero, List.getElem?_cons_succ, Option.some.injEq] at hi
      subst hi
      clear hdep
      refine kp_val (v := .string S) ?_ ⟨_, rfl, rfl, by simpa using hC, fun _ _ h => h⟩
      simp [execOp, Act.eval, b0]
    · simp only [List.getElem?_toArray, List.getElem?_cons_zero, List.getElem?_cons_succ, Option.some.injEq] at hi
      subst hi
      simp [Region.binds, valOf, tdI] at hdep
      refine kp_val (v := .int .u8 (l : Nat)) ?_ ⟨_, rfl, rfl, by simpa using hC, fun _ _ h => h⟩
      simp [execOp, Act.eval, hdep]
      go_simp
      try (intro h9; exfalso; omega)
    · simp only [List.getElem?_toArray, List.getElem?_cons_zero, List.getElem?_cons_succ, Option.some.injEq] at hi
      subst hi
      simp [Region.binds, valOf, tdI] at hdep
      refine kp_val (v := .bool la) ?_ ⟨_, rfl, rfl, by simpa using hC, fun _ _ h => h⟩
      simp [execOp, Act.eval, hdep]
      go_simp
    · simp only [List.getElem?_toArray, List.getElem?_cons_zero, List.getElem?_cons_succ, Option.some.injEq] at hi
      subst hi
      clear hdep
      refine kp_val (v := .string S) ?_ ⟨_, rfl, rfl, by simpa using hC, fun _ _ h => h⟩
      simp [execOp, Act.eval, b0]
    · simp only [List.getElem?_toArray, List.getElem?_cons_zero, List.getElem?_cons_succ, Option.some.injEq] at hi
      subst hi
      simp [Region.binds, valOf, tdI] at hdep
      refine kp_val (v := .string tx) ?_ ⟨_, rfl, rfl, by simpa using hC, fun _ _ h => h⟩
      simp [execOp, Act.eval, hdep]
      go_simp
      try (intro h9; exfalso; omega)
    · simp only [List.getElem?_toArray, List.getElem?_cons_zero, List.getElem?_cons_succ, Option.some.injEq] at hi
      subst hi
      simp [Region.binds, valOf, tdI] at hdep
      have ev : ((#[(0, Operand.tmp 11), (1, Operand.tmp 14), (2, Operand.tmp 17), (3, Operand.tmp 20), (4, Operand.tmp 23), (5, Operand.tmp 26), (6, Operand.tmp 29), (7, Operand.tmp 32), (8, Operand.tmp 34)] : Array (Nat × Operand)).map fun (i, x) => (i, a.eval x)).toList = [(0, .int .i64 (k : Nat)), (1, .int .u32 (se : Nat)), (2, .int .u32 (ep : Nat)), (3, .int .u32 (sq : Nat)), (4, .int .u64 (pos : Nat)), (5, .int .u32 (sm : Nat)), (6, .int .u32 (mp : Nat)), (7, .bool la), (8, .string tx)] := by simp [Act.eval, hdep]
      refine wp_build 42 #[(0, Operand.tmp 11), (1, Operand.tmp 14), (2, Operand.tmp 17), (3, Operand.tmp 20), (4, Operand.tmp 23), (5, Operand.tmp 26), (6, Operand.tmp 29), (7, Operand.tmp 32), (8, Operand.tmp 34)] rfl (by rw [ev]; kernel_rfl) ⟨_, rfl, ?_, by simpa using hC, fun _ _ h => h⟩
      show Value.agg _ = Value.agg _
      rw [ev]
      kernel_rfl
    · simp only [List.getElem?_toArray, List.getElem?_cons_zero, List.getElem?_cons_succ, Option.some.injEq] at hi
      subst hi
      clear hdep
      have hG : W.heap.size = G := hC.2 (hbf rfl)
      refine kp_val2 (v := .pointer (some ⟨G, 0, none⟩)) (w' := W.alloc (.cells #[.int .i64 0, .int .u32 0, .int .u32 0, .int .u32 0, .int .u64 0, .int .u32 0, .int .u32 0, .bool false, .string ⟨#[]⟩] 42)) ?_ ⟨_, rfl, ⟨rfl, _, rfl, by rw [← hG]; exact heap_alloc_new W _⟩, ⟨hC.1.alloc _, fun h => by simp at h⟩, tdI_alloc _ hG⟩
      rw [← hG]
      simp [execOp, Act.eval]
      go_simp
    · simp only [List.getElem?_toArray, List.getElem?_cons_zero, List.getElem?_cons_succ, Option.some.injEq] at hi
      subst hi
      simp [Region.binds, valOf, tdI] at hdep
      have hdp : a.tmps[4]?.getD undef = .pointer (some ⟨G, 0, none⟩) ∧ a.tmps[35]?.getD undef = .agg #[.int .i64 (k : Nat), .int .u32 (se : Nat), .int .u32 (ep : Nat), .int .u32 (sq : Nat), .int .u64 (pos : Nat), .int .u32 (sm : Nat), .int .u32 (mp : Nat), .bool la, .string tx] ∧ ∃ cs : Array Value, cs.size = 9 ∧ W.heap[G]? = some (.cells cs 42) := by
        obtain ⟨⟨q1, q2⟩, q3, _⟩ := hdep
        exact ⟨q1, q3, q2⟩
      obtain ⟨hd4, hd35, cs, hcs, hcell⟩ := hdp
      have hx : a.eval (.tmp 35) = .agg #[.int .i64 (k : Nat), .int .u32 (se : Nat), .int .u32 (ep : Nat), .int .u32 (sq : Nat), .int .u64 (pos : Nat), .int .u32 (sm : Nat), .int .u32 (mp : Nat), .bool la, .string tx] := by simp [Act.eval, hd35]
      refine wp_store_row 42 (.tmp 4) (.tmp 35) rfl G (#[.int .i64 (k : Nat), .int .u32 (se : Nat), .int .u32 (ep : Nat), .int .u32 (sq : Nat), .int .u64 (pos : Nat), .int .u32 (sm : Nat), .int .u32 (mp : Nat), .bool la, .string tx]) (by simp [Act.eval, hd4]) hx _ cs hcell Try.sizeDg (by rw [hcs]; rfl) (by simp [Value.oneCell']) ⟨undef, rfl, heap_setRow _ _ _ _ _ hcell, ⟨hC.1.setRow (.inr (by omega)) _, fun h => by simpa using hC.2 (by simpa using h)⟩, tdI_row hcell⟩
  · intro a W hC hbase hall
    have hx4 := hall 27 _ rfl
    have hx21 : DBox W G ⟨(k : Nat), se, ep, sq, pos, sm, mp, la, tx⟩ := hall 28 _ rfl
    obtain ⟨hbd, hbs, hbb⟩ := hbase
    clear hall
    obtain ⟨⟨l9⟩, df⟩ := a
    have hl : l9.length = 47 := hbs
    clear hbs
    obtain ⟨y0, q0, rfl, hl0⟩ := dg_cons (n := 46) hl
    clear hl
    obtain ⟨y1, q1, rfl, hl1⟩ := dg_cons (n := 45) hl0
    clear hl0
    obtain ⟨y2, q2, rfl, hl2⟩ := dg_cons (n := 44) hl1
    clear hl1
    obtain ⟨y3, q3, rfl, hl3⟩ := dg_cons (n := 43) hl2
    clear hl2
    obtain ⟨y4, q4, rfl, hl4⟩ := dg_cons (n := 42) hl3
    clear hl3
    obtain ⟨y5, q5, rfl, hl5⟩ := dg_cons (n := 41) hl4
    clear hl4
    obtain ⟨y6, q6, rfl, hl6⟩ := dg_cons (n := 40) hl5
    clear hl5
    obtain ⟨y7, q7, rfl, hl7⟩ := dg_cons (n := 39) hl6
    clear hl6
    obtain ⟨y8, q8, rfl, hl8⟩ := dg_cons (n := 38) hl7
    clear hl7
    obtain ⟨y9, q9, rfl, hl9⟩ := dg_cons (n := 37) hl8
    clear hl8
    obtain ⟨y10, q10, rfl, hl10⟩ := dg_cons (n := 36) hl9
    clear hl9
    obtain ⟨y11, q11, rfl, hl11⟩ := dg_cons (n := 35) hl10
    clear hl10
    obtain ⟨y12, q12, rfl, hl12⟩ := dg_cons (n := 34) hl11
    clear hl11
    obtain ⟨y13, q13, rfl, hl13⟩ := dg_cons (n := 33) hl12
    clear hl12
    obtain ⟨y14, q14, rfl, hl14⟩ := dg_cons (n := 32) hl13
    clear hl13
    obtain ⟨y15, q15, rfl, hl15⟩ := dg_cons (n := 31) hl14
    clear hl14
    obtain ⟨y16, q16, rfl, hl16⟩ := dg_cons (n := 30) hl15
    clear hl15
    obtain ⟨y17, q17, rfl, hl17⟩ := dg_cons (n := 29) hl16
    clear hl16
    obtain ⟨y18, q18, rfl, hl18⟩ := dg_cons (n := 28) hl17
    clear hl17
    obtain ⟨y19, q19, rfl, hl19⟩ := dg_cons (n := 27) hl18
    clear hl18
    obtain ⟨y20, q20, rfl, hl20⟩ := dg_cons (n := 26) hl19
    clear hl19
    obtain ⟨y21, q21, rfl, hl21⟩ := dg_cons (n := 25) hl20
    clear hl20
    obtain ⟨y22, q22, rfl, hl22⟩ := dg_cons (n := 24) hl21
    clear hl21
    obtain ⟨y23, q23, rfl, hl23⟩ := dg_cons (n := 23) hl22
    clear hl22
    obtain ⟨y24, q24, rfl, hl24⟩ := dg_cons (n := 22) hl23
    clear hl23
    obtain ⟨y25, q25, rfl, hl25⟩ := dg_cons (n := 21) hl24
    clear hl24
    obtain ⟨y26, q26, rfl, hl26⟩ := dg_cons (n := 20) hl25
    clear hl25
    obtain ⟨y27, q27, rfl, hl27⟩ := dg_cons (n := 19) hl26
    clear hl26
    obtain ⟨y28, q28, rfl, hl28⟩ := dg_cons (n := 18) hl27
    clear hl27
    obtain ⟨y29, q29, rfl, hl29⟩ := dg_cons (n := 17) hl28
    clear hl28
    obtain ⟨y30, q30, rfl, hl30⟩ := dg_cons (n := 16) hl29
    clear hl29
    obtain ⟨y31, q31, rfl, hl31⟩ := dg_cons (n := 15) hl30
    clear hl30
    obtain ⟨y32, q32, rfl, hl32⟩ := dg_cons (n := 14) hl31
    clear hl31
    obtain ⟨y33, q33, rfl, hl33⟩ := dg_cons (n := 13) hl32
    clear hl32
    obtain ⟨y34, q34, rfl, hl34⟩ := dg_cons (n := 12) hl33
    clear hl33
    obtain ⟨y35, q35, rfl, hl35⟩ := dg_cons (n := 11) hl34
    clear hl34
    obtain ⟨y36, q36, rfl, hl36⟩ := dg_cons (n := 10) hl35
    clear hl35
    obtain ⟨y37, q37, rfl, hl37⟩ := dg_cons (n := 9) hl36
    clear hl36
    obtain ⟨y38, q38, rfl, hl38⟩ := dg_cons (n := 8) hl37
    clear hl37
    obtain ⟨y39, q39, rfl, hl39⟩ := dg_cons (n := 7) hl38
    clear hl38
    obtain ⟨y40, q40, rfl, hl40⟩ := dg_cons (n := 6) hl39
    clear hl39
    obtain ⟨y41, q41, rfl, hl41⟩ := dg_cons (n := 5) hl40
    clear hl40
    obtain ⟨y42, q42, rfl, hl42⟩ := dg_cons (n := 4) hl41
    clear hl41
    obtain ⟨y43, q43, rfl, hl43⟩ := dg_cons (n := 3) hl42
    clear hl42
    obtain ⟨y44, q44, rfl, hl44⟩ := dg_cons (n := 2) hl43
    clear hl43
    obtain ⟨y45, q45, rfl, hl45⟩ := dg_cons (n := 1) hl44
    clear hl44
    obtain ⟨y46, q46, rfl, hl46⟩ := dg_cons (n := 0) hl45
    clear hl45
    obtain rfl := List.eq_nil_of_length_eq_zero hl46
    clear hl46
    have hx4' : y4 = .pointer (some ⟨G, 0, none⟩) := hx4.1
    subst hx4'
    clear hx4
    have eq0 := hbb 0 (noDst_spec (by kernel_rfl))
    simp only [List.getElem?_toArray, List.getElem?_cons_zero, Option.some.injEq] at eq0
    subst eq0
    have eq2 := hbb 2 (noDst_spec (by kernel_rfl))
    simp only [List.getElem?_toArray, List.getElem?_cons_zero, List.getElem?_cons_succ, Option.some.injEq] at eq2
    subst eq2
    have eq3 := hbb 3 (noDst_spec (by kernel_rfl))
    simp only [List.getElem?_toArray, List.getElem?_cons_zero, List.getElem?_cons_succ, Option.some.injEq] at eq3
    subst eq3
    obtain rfl : df = [] := hbd
    clear hbb
    have hzW := DBox.kept HBX.out hC.1 id
    have HXG := Lib.hid hx21
    have HZW := Lib.hid hzW
    have HT := Lib.hid (hTa.trans hC.1)
    have HZ0 := Lib.hid hG0
    obtain ⟨c0, c1, c2, c3, c4, c5, c6, c7, c8⟩ := hx21.cells
    clear hx21 hzW hC hTa hG hG0
    rename_i hK
    refine hK _ W ?_
    go_wp2_with fail
    refine (HGD.out W).mono ?_
    rintro e w4 ⟨rfl, hT4⟩
    have hg4 := DBox.kept HXG.out hT4 id
    have hz4 := DBox.kept HZW.out hT4 id
    have HT4 := Lib.hid (HT.out.trans hT4)
    clear hT4 c0 c1 c2 c3 c4 c5 c6 c7 c8
    cases gd
    · have hz5 := hz4
      obtain ⟨k0, k1, k2, k3, k4, k5, k6, k7, k8⟩ := hz5.cells
      have f0 := Block.free hz5 0
      have f1 := Block.free hz5 1
      have f2 := Block.free hz5 2
      have f3 := Block.free hz5 3
      have f4 := Block.free hz5 4
      have f5 := Block.free hz5 5
      have f6 := Block.free hz5 6
      have f7 := Block.free hz5 7
      have f8 := Block.free hz5 8
      have HZ5 := Lib.hid hz5
      have HT5 := HT4
      clear hz5 hz4 hg4
      go_wp2_with fail
      have hr : DBox (put9 w4 Z Dg.zero) Z Dg.zero := HZ5.out.put9 _
      have hTp := put9_touch w4 Z Dg.zero
      exact bodyPost_ret (results_cell_slot rfl _ _ Z _ _ _ _ rfl hr Try.underlying42 rfl Try.sizeDg) rfl ⟨rfl, HT5.out.trans' hTp (fun i hi => .inr (by rw [HZ0.out]; exact Nat.le_of_eq hi.symm))⟩
    · have HG4 := Lib.hid hg4
      have HZ4 := Lib.hid hz4
      obtain ⟨c0, c1, c2, c3, c4, c5, c6, c7, c8⟩ := hg4.cells
      clear hz4 hg4
      go_wp2_with fail
      refine (HBO.out _).mono ?_
      rintro e w5 ⟨rfl, hT5⟩
      have hg5 := DBox.kept HG4.out hT5 id
      have hz5 := DBox.kept HZ4.out hT5 id
      obtain ⟨k0, k1, k2, k3, k4, k5, k6, k7, k8⟩ := hz5.cells
      have f0 := Block.free hz5 0
      have f1 := Block.free hz5 1
      have f2 := Block.free hz5 2
      have f3 := Block.free hz5 3
      have f4 := Block.free hz5 4
      have f5 := Block.free hz5 5
      have f6 := Block.free hz5 6
      have f7 := Block.free hz5 7
      have f8 := Block.free hz5 8
      clear c0 c1 c2 c3 c4 c5 c6 c7 c8
      obtain ⟨c0, c1, c2, c3, c4, c5, c6, c7, c8⟩ := hg5.cells
      have HZ5 := Lib.hid hz5
      have HT5 := Lib.hid (HT4.out.trans hT5)
      clear hz5 hg5 hT5
      cases eqb
      · go_wp2_with fail
        have hr : DBox (put9 w5 Z Dg.zero) Z Dg.zero := HZ5.out.put9 _
        have hTp := put9_touch w5 Z Dg.zero
        exact bodyPost_ret (results_cell_slot rfl _ _ Z _ _ _ _ rfl hr Try.underlying42 rfl Try.sizeDg) rfl ⟨rfl, HT5.out.trans' hTp (fun i hi => .inr (by rw [HZ0.out]; exact Nat.le_of_eq hi.symm))⟩
      · go_wp2_with fail
        have hr : DBox (put9 w5 Z ⟨(k : Nat), se, ep, sq, pos, sm, mp, la, tx⟩) Z ⟨(k : Nat), se, ep, sq, pos, sm, mp, la, tx⟩ := HZ5.out.put9 _
        have hTp := put9_touch w5 Z ⟨(k : Nat), se, ep, sq, pos, sm, mp, la, tx⟩
        exact bodyPost_ret (results_cell_slot rfl _ _ Z _ _ _ _ rfl hr Try.underlying42 rfl Try.sizeDg) rfl ⟨rfl, HT5.out.trans' hTp (fun i hi => .inr (by rw [HZ0.out]; exact Nat.le_of_eq hi.symm))⟩
end Go.Proofs.Ytmjahbdengnoeaa

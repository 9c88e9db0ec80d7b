/- Layer 13's statements: the document's answer which heads may be; a head that the statements make. -/
import Derived.Test.YtdohhmaggeocjaaDoorZipL
import Derived.Test.YtdohhmaggeocjaaDoorRegInv
import Derived.StillTailTactics
namespace Go.Proofs.YtdohhmaggeocjaaDoor
open Go Go.RowKit
set_option maxRecDepth 100000

theorem z7 (a1 a2 a3 a4 a5 a6 _a7 : Bool) : (a1 = false) ∨ (a1 = true ∧ a2 = false) ∨ (a1 = true ∧ a2 = true ∧ a3 = false) ∨ (a1 = true ∧ a2 = true ∧ a3 = true ∧ a4 = false) ∨ (a1 = true ∧ a2 = true ∧ a3 = true ∧ a4 = true ∧ a5 = false) ∨ (a1 = true ∧ a2 = true ∧ a3 = true ∧ a4 = true ∧ a5 = true ∧ a6 = false) ∨ (a1 = true ∧ a2 = true ∧ a3 = true ∧ a4 = true ∧ a5 = true ∧ a6 = true) := by
  cases a1 <;> cases a2 <;> cases a3 <;> cases a4 <;> cases a5 <;> cases a6 <;> simp
theorem int_t {M : Int} (h : decide (M < 4611686018427387904) = true) : M < 4611686018427387904 := of_decide_eq_true h
theorem good13_in (N p z a : Nat) (k : Bool) (hN : 2 * N ≤ 18446744073709551616) : (decide (max (max p z) a < N) && (!k || (p == 0 && z == 0))) =
    (decide ((p : Int) < (N : Int)) && (decide ((z : Int) < (N : Int)) && (decide ((a : Int) < (N : Int)) && (!k || ((((p + z) % 18446744073709551616 : Nat) : Int) == 0))))) := by
  by_cases h1 : p < N
  · by_cases h2 : z < N
    · by_cases h3 : a < N
      · rw [decide_eq_true (by omega : max (max p z) a < N), decide_eq_true (by omega : (p : Int) < (N : Int)), decide_eq_true (by omega : (z : Int) < (N : Int)), decide_eq_true (by omega : (a : Int) < (N : Int))]
        simp only [Bool.true_and]
        congr 1
        rw [Bool.eq_iff_iff]
        simp only [Bool.and_eq_true, beq_iff_eq]
        omega
      · rw [decide_eq_false (by omega : ¬ max (max p z) a < N), decide_eq_false (by omega : ¬ (a : Int) < (N : Int))]
        simp
    · rw [decide_eq_false (by omega : ¬ max (max p z) a < N), decide_eq_false (by omega : ¬ (z : Int) < (N : Int))]
      simp
  · rw [decide_eq_false (by omega : ¬ max (max p z) a < N), decide_eq_false (by omega : ¬ (p : Int) < (N : Int))]
    simp
theorem good13_eq (h : Hd) : goodH h = (checkB h.n && (goodB h.t && (decide ((h.p : Int) < 4611686018427387904) && (decide ((h.z : Int) < 4611686018427387904) && (decide ((h.a : Int) < 4611686018427387904) && (!h.k || ((((h.p + h.z) % 18446744073709551616 : Nat) : Int) == 0))))))) := by
  unfold goodH
  rw [good13_in 4611686018427387904 h.p h.z h.a h.k (by omega)]
  rfl

set_option maxHeartbeats 2000000 in
theorem refGood13_calls (h : Hd) (ho : HdOk h) (w : World) : Calls Tryd.prog 28 #[h.v] w fun e w' => e = .returned (.bool (goodH h)) ∧ Touch (fun _ => False) w w' := by
  rw [good13_eq]
  obtain ⟨n, t, p, z, s, a, k⟩ := h
  obtain ⟨hn, hp, hz, hs, ha⟩ := ho
  simp only at hn hp hz hs ha ⊢
  have HC0 := fun b (h : checkB n = b) W => (by have := refCheck_calls n W hn; rwa [h] at this : Calls Tryd.prog 14 #[.string n] W fun e w' => e = .returned (.bool b) ∧ W = w')
  have HG0 := fun b (h : goodB t = b) W => (by have := refgood_calls t W; rwa [h] at this : Calls Tryd.prog 56 #[t.v] W fun e w' => e = .returned (.bool b) ∧ Touch (fun _ => False) W w')
  have hwr : IntKind.u64.wrap ((p : Int) + (z : Int)) = (((p + z) % 18446744073709551616 : Nat) : Int) := by rw [IntKind.wrap_u64]; omega
  generalize (((p + z) % 18446744073709551616 : Nat) : Int) = SI at *
  generalize hcb : checkB n = cb at HC0 ⊢
  generalize hgb : goodB t = gb at HG0 ⊢
  have HC := Lib.hid (HC0 cb rfl)
  have HG := Lib.hid (HG0 gb rfl)
  clear HC0 HG0 hcb hgb hp hz hs ha
  obtain ⟨y, mo, d, hh, mi, ss⟩ := t
  unfold Hd.v Hd.cs
  unfold Tim.v at HG
  simp only at HG ⊢
  generalize (p : Int) = pI at *
  generalize (z : Int) = zI at *
  generalize (a : Int) = aI at *
  obtain ⟨L1, hL1⟩ : ∃ L, decide (pI < 4611686018427387904) = L := ⟨_, rfl⟩
  obtain ⟨L2, hL2⟩ : ∃ L, decide (zI < 4611686018427387904) = L := ⟨_, rfl⟩
  obtain ⟨L3, hL3⟩ : ∃ L, decide (aI < 4611686018427387904) = L := ⟨_, rfl⟩
  obtain ⟨E1, hE1⟩ : ∃ E, (SI == 0) = E := ⟨_, rfl⟩
  rw [hL1, hL2, hL3, hE1]
  rcases z7 cb gb L1 L2 L3 k E1 with rfl | ⟨rfl, rfl⟩ | ⟨rfl, rfl, rfl⟩ | ⟨rfl, rfl, rfl, rfl⟩ | ⟨rfl, rfl, rfl, rfl, rfl⟩ | ⟨rfl, rfl, rfl, rfl, rfl, rfl⟩ | ⟨rfl, rfl, rfl, rfl, rfl, rfl⟩
  all_goals
    first | (have q1 := int_t hL1; clear hL1) | skip
    first | (have q2 := int_t hL2; clear hL2) | skip
    first | (have q3 := int_t hL3; clear hL3) | skip
    go_enter Tryd.func28, Tryd.ntmps28
    go_wp2_with (first
      | (go_at_call 14; refine (HC.out _).mono ?_; rintro e w1 ⟨rfl, rfl⟩)
      | (go_at_call 56; refine (HG.out _).mono ?_; rintro e w2 ⟨rfl, ht2⟩; have hb2 := ht2.held (heap_alloc_new w _) id; obtain ⟨⟨c0, c1, c2, c3, c4, c5⟩, c6, c7, c8, c9, c10, c11⟩ := row12 hb2; have hT2 := Lib.hid (((Touch.refl (fun _ => False) w).alloc _).trans ht2); clear hb2 ht2))
    go_ret
    refine ⟨ret_bool (by simp), ?_⟩
    first | exact hT2.out | exact (Touch.refl _ _).alloc _

theorem Tryd.size13 : (Tryd.prog.info? 51).map (·.size) = some 12 := by kernel_rfl

theorem wp_val {P : Program} {o : Oper} {a : Act} {w : World} {K : Act → World → Prop} {Q : Exit → Act → World → Prop} {v : Value} (h : (execOp a.eval o).run P w = .ok (.value v) w) (hk : K (a.put o.dst v) w) : o.wp P a w K Q := by
  unfold Oper.wp
  rw [h]
  exact hk
theorem results_cell_cell {P : Program} {fn : Func} {p q : Tmp} {ty ty' : TypeId} (h : fn.results = #[.cell p ty, .cell q ty']) (tmps : Array Value) (w : World) (g g' : Nat) (t t' : TypeId) (cs cs' : Array Value) (fr fr' : Nat × Nat) (d d' : TypeDesc)
    (hp : tmps.getD p undef = .pointer (some ⟨g, 0, none⟩)) (hq : tmps.getD q undef = .pointer (some ⟨g', 0, none⟩)) (hg : w.heap[g]? = some (.cells cs t fr)) (hg' : w.heap[g']? = some (.cells cs' t' fr'))
    (hu : P.underlying ty = some d) (hd : (match d with | .struct _ | .array _ _ => true | _ => false) = true) (hi : (P.info? ty).map (·.size) = some cs.size)
    (hu' : P.underlying ty' = some d') (hd' : (match d' with | .struct _ | .array _ _ => true | _ => false) = true) (hi' : (P.info? ty').map (·.size) = some cs'.size) :
    (results fn tmps).run P w = .ok (.tuple #[.agg cs, .agg cs']) w := by
  have hp' : tmps[p]?.getD undef = .pointer (some ⟨g, 0, none⟩) := by simpa using hp
  have hq' : tmps[q]?.getD undef = .pointer (some ⟨g', 0, none⟩) := by simpa using hq
  simp [results, h, hp', hq', asAddr, run_loadVar_row w g t ty cs fr d hg hu hd hi, run_loadVar_row w g' t' ty' cs' fr' d' hg' hu' hd' hi']
theorem row7 {w : World} {b : Nat} {x0 x1 x2 x3 x4 x5 x6 : Value} {t : TypeId} (h : w.heap[b]? = some (.cells #[x0, x1, x2, x3, x4, x5, x6] t)) :
    w.cell? ⟨b, 0, none⟩ = some x0 ∧ w.cell? ⟨b, 1, none⟩ = some x1 ∧ w.cell? ⟨b, 2, none⟩ = some x2 ∧ w.cell? ⟨b, 3, none⟩ = some x3 ∧ w.cell? ⟨b, 4, none⟩ = some x4 ∧ w.cell? ⟨b, 5, none⟩ = some x5 ∧ w.cell? ⟨b, 6, none⟩ = some x6 := by
  refine ⟨?_, ?_, ?_, ?_, ?_, ?_, ?_⟩
  all_goals (rw [cell_of_row _ _ _ _ _ _ h]; rfl)
theorem rows3 (w : World) (o0 o1 o2 : Obj) : (((w.alloc o0).alloc o1).alloc o2).heap[w.heap.size]? = some o0 ∧ (((w.alloc o0).alloc o1).alloc o2).heap[w.heap.size + 1]? = some o1 ∧ (((w.alloc o0).alloc o1).alloc o2).heap[w.heap.size + 1 + 1]? = some o2 := by
  have h0 := heap_alloc_new w o0
  have h1 := heap_alloc_new (w.alloc o0) o1
  have h2 := heap_alloc_new ((w.alloc o0).alloc o1) o2
  rw [alloc_size] at h1
  rw [alloc_size, alloc_size] at h2
  exact ⟨((((Touch.refl (fun _ => False) (w.alloc o0)).alloc o1).alloc o2).held h0 id), (((Touch.refl (fun _ => False) _).alloc o2).held h1 id), h2⟩

/-- A head that the statements make, as their argument. -/
def argV (n : ByteArray) (tm : Int) (p z s a : Nat) (k : Bool) : Value := .agg #[.string n, .int .i64 tm, .int .u64 p, .int .u64 z, .int .u32 s, .int .u64 a, .bool k]

set_option maxHeartbeats 600000 in
theorem made_calls (n : ByteArray) (tm : Int) (p z s a : Nat) (k b : Bool) (t : Tim) (hn : n.size ≤ 9223372036854775807) (hOf : ∀ W, Calls Tryd.prog 55 #[.int .i64 tm] W fun e w' => e = .returned (.tuple #[t.v, .bool b]) ∧ Touch (fun _ => False) W w') (w : World) :
    Calls Tryd.prog 27 #[argV n tm p z s a k] w fun e w' => e = .returned (.tuple #[(Hd.mk (n.extract 0 (min n.size 300)) t p z s a k).v, (Hd.mk (n.extract 0 (min n.size 300)) t p z s a k).v]) ∧ Touch (fun _ => False) w w' := by
  obtain ⟨q, hq⟩ : ∃ q, q = min n.size 300 := ⟨_, rfl⟩
  have hq1 : min (n.size : Int) 300 = (q : Int) := by omega
  have hq0 : (0 : Int) ≤ (q : Int) := by omega
  have hql : (q : Int) ≤ (n.size : Int) := by omega
  rw [← hq]
  have HOf := Lib.hid hOf
  clear hq hOf
  obtain ⟨nm, hnm⟩ : ∃ m, n.extract 0 q = m := ⟨_, rfl⟩
  rw [hnm]
  unfold Hd.v Hd.cs argV
  obtain ⟨y, mo, dd, hh, mi, ss⟩ := t
  unfold Tim.v at HOf
  simp only at HOf ⊢
  generalize (p : Int) = pI at *
  generalize (z : Int) = zI at *
  generalize (s : Int) = sI at *
  generalize (a : Int) = aI at *
  go_enter Tryd.func27, Tryd.ntmps27
  obtain ⟨r0, r1, r2⟩ := rows3 w (.cells #[.string n, .int .i64 tm, .int .u64 pI, .int .u64 zI, .int .u32 sI, .int .u64 aI, .bool k] 44) (.cells #[.string ⟨#[]⟩, .int .i64 0, .int .i64 0, .int .i64 0, .int .i64 0, .int .i64 0, .int .i64 0, .int .u64 0, .int .u64 0, .int .u32 0, .int .u64 0, .bool false] 48) (.cells #[.string ⟨#[]⟩, .int .i64 0, .int .i64 0, .int .i64 0, .int .i64 0, .int .i64 0, .int .i64 0, .int .u64 0, .int .u64 0, .int .u32 0, .int .u64 0, .bool false] 51)
  have R0 := Lib.hid r0
  have R1 := Lib.hid r1
  have R2 := Lib.hid r2
  clear r0 r1 r2
  go_wp2_with fail
  refine (HOf.out _).mono ?_
  rintro e w1 ⟨rfl, ht1⟩
  refine ?_
  have hr0 := ht1.held R0.out id
  have hr1 := ht1.held R1.out id
  have hr2 := ht1.held R2.out id
  have hl2 := row_lt hr2
  have hl1 := row_lt hr1
  have hl0 := row_lt hr0
  have htt := ((((Touch.refl (fun _ => False) w).alloc _).alloc _).alloc _).trans ht1
  have HR0 := Lib.hid hr0
  have HR1 := Lib.hid hr1
  have HR2 := Lib.hid hr2
  have HTT := Lib.hid htt
  obtain ⟨a0, a1, a2, a3, a4, a5, a6⟩ := row7 hr0
  clear hr0 hr1 hr2 htt ht1 R0 R1 R2
  go_wp2_with fail
  refine wp_abs (fun wx => wx.heap[w.heap.size]? = some (.cells #[.string n, .int .i64 tm, .int .u64 pI, .int .u64 zI, .int .u32 sI, .int .u64 aI, .bool k] 44) ∧ wx.heap[w.heap.size + 1]? = some (.cells #[.string ⟨#[]⟩, .int .i64 0, .int .i64 0, .int .i64 0, .int .i64 0, .int .i64 0, .int .i64 0, .int .u64 0, .int .u64 0, .int .u32 0, .int .u64 0, .bool false] 48) ∧ wx.heap[w.heap.size + 1 + 1]? = some (.cells #[.string ⟨#[]⟩, .int .i64 0, .int .i64 0, .int .i64 0, .int .i64 0, .int .i64 0, .int .i64 0, .int .u64 0, .int .u64 0, .int .u32 0, .int .u64 0, .bool false] 51) ∧ wx.heap[w1.heap.size]? = some (.cells #[.int .i64 y, .int .i64 mo, .int .i64 dd, .int .i64 hh, .int .i64 mi, .int .i64 ss] 46) ∧ Touch (fun _ => False) w wx)
    ⟨((Touch.refl (fun _ => False) w1).alloc _).held HR0.out id, ((Touch.refl (fun _ => False) w1).alloc _).held HR1.out id, ((Touch.refl (fun _ => False) w1).alloc _).held HR2.out id, heap_alloc_new w1 _, HTT.out.alloc _⟩ ?_
  clear a0 a1 a2 a3 a4 a5 a6 HR0 HR1 HR2 HTT
  rintro wx ⟨hr0, hr1, hr2, hr3, htt⟩
  obtain ⟨a0, a1, a2, a3, a4, a5, a6⟩ := row7 hr0
  obtain ⟨⟨c0, c1, c2, c3, c4, c5⟩, c6, c7, c8, c9, c10, c11⟩ := row12 hr1
  obtain ⟨⟨d0, d1, d2, d3, d4, d5⟩, d6, d7, d8, d9, d10, d11⟩ := row12 hr2
  obtain ⟨e0, e1, e2, e3, e4, e5⟩ := row6 hr3
  have f1 := box_free hr1
  have f2 := box_free hr2
  have l1 := row_lt hr1
  have l2 := row_lt hr2
  have HR0 := Lib.hid hr0
  have HR1 := Lib.hid hr1
  have HR2 := Lib.hid hr2
  have HR3 := Lib.hid hr3
  have HTT := Lib.hid htt
  clear hr0 hr1 hr2 hr3 htt
  --REGION
  clear a0 a1 a2 a3 a4 a5 a6 c0 c1 c2 c3 c4 c5 c6 c7 c8 c9 c10 c11 d0 d1 d2 d3 d4 d5 d6 d7 d8 d9 d10 d11 e0 e1 e2 e3 e4 e5 f1 f2
  refine wp_region_inv (fun W => W.heap[w.heap.size]? = some (.cells #[.string n, .int .i64 tm, .int .u64 pI, .int .u64 zI, .int .u32 sI, .int .u64 aI, .bool k] 44) ∧ W.heap[w1.heap.size]? = some (.cells #[.int .i64 y, .int .i64 mo, .int .i64 dd, .int .i64 hh, .int .i64 mi, .int .i64 ss] 46) ∧ (∃ cs : Array Value, cs.size = 12 ∧ W.heap[w.heap.size + 1]? = some (.cells cs 48)) ∧ (∃ cs : Array Value, cs.size = 12 ∧ W.heap[w.heap.size + 1 + 1]? = some (.cells cs 51)) ∧ Touch (fun _ => False) w W) (fun i v W => match i with | 0 => v = .string nm | 1 => v = .agg #[.int .i64 y, .int .i64 mo, .int .i64 dd, .int .i64 hh, .int .i64 mi, .int .i64 ss] | 2 => v = .pointer (some ⟨w.heap.size, 2, none⟩) | 3 => v = .int .u64 pI | 4 => v = .pointer (some ⟨w.heap.size, 3, none⟩) | 5 => v = .int .u64 zI | 6 => v = .pointer (some ⟨w.heap.size, 4, none⟩) | 7 => v = .int .u32 sI | 8 => v = .pointer (some ⟨w.heap.size, 5, none⟩) | 9 => v = .int .u64 aI | 10 => v = .pointer (some ⟨w.heap.size, 6, none⟩) | 11 => v = .bool k | 12 => v = .agg #[.string nm, .int .i64 y, .int .i64 mo, .int .i64 dd, .int .i64 hh, .int .i64 mi, .int .i64 ss, .int .u64 pI, .int .u64 zI, .int .u32 sI, .int .u64 aI, .bool k] | 13 => v = .string nm | 14 => v = .agg #[.int .i64 y, .int .i64 mo, .int .i64 dd, .int .i64 hh, .int .i64 mi, .int .i64 ss] | 15 => v = .pointer (some ⟨w.heap.size, 2, none⟩) | 16 => v = .int .u64 pI | 17 => v = .pointer (some ⟨w.heap.size, 3, none⟩) | 18 => v = .int .u64 zI | 19 => v = .pointer (some ⟨w.heap.size, 4, none⟩) | 20 => v = .int .u32 sI | 21 => v = .pointer (some ⟨w.heap.size, 5, none⟩) | 22 => v = .int .u64 aI | 23 => v = .pointer (some ⟨w.heap.size, 6, none⟩) | 24 => v = .bool k | 25 => v = .agg #[.string nm, .int .i64 y, .int .i64 mo, .int .i64 dd, .int .i64 hh, .int .i64 mi, .int .i64 ss, .int .u64 pI, .int .u64 zI, .int .u32 sI, .int .u64 aI, .bool k] | 26 => W.heap[w.heap.size + 1]? = some (.cells #[.string nm, .int .i64 y, .int .i64 mo, .int .i64 dd, .int .i64 hh, .int .i64 mi, .int .i64 ss, .int .u64 pI, .int .u64 zI, .int .u32 sI, .int .u64 aI, .bool k] 48) | 27 => W.heap[w.heap.size + 1 + 1]? = some (.cells #[.string nm, .int .i64 y, .int .i64 mo, .int .i64 dd, .int .i64 hh, .int .i64 mi, .int .i64 ss, .int .u64 pI, .int .u64 zI, .int .u32 sI, .int .u64 aI, .bool k] 51) | _ => True) (by kernel_rfl) (by kernel_rfl) (by kernel_rfl) ⟨HR0.out, HR3.out, ⟨_, rfl, HR1.out⟩, ⟨_, rfl, HR2.out⟩, HTT.out.drew⟩ ?_ ?_
  · intro i o hi a W hC hbase hdep
    obtain ⟨hc0, hc3, ⟨cs1, hs1, hc1⟩, ⟨cs2, hs2, hc2⟩, hcT⟩ := hC
    have hlt := op_lt hi
    obtain ⟨hbd, hbs, hbb⟩ := hbase
    have b1 : a.tmps[1]? = some (.pointer (some ⟨w.heap.size, 0, none⟩)) := (hbb 1 (noDst_spec (by kernel_rfl))).trans rfl
    have b2 : a.tmps[2]? = some (.pointer (some ⟨w.heap.size + 1, 0, none⟩)) := (hbb 2 (noDst_spec (by kernel_rfl))).trans rfl
    have b3 : a.tmps[3]? = some (.pointer (some ⟨w.heap.size + 1 + 1, 0, none⟩)) := (hbb 3 (noDst_spec (by kernel_rfl))).trans rfl
    have b4 : a.tmps[4]? = some (.pointer (some ⟨w1.heap.size, 0, none⟩)) := (hbb 4 (noDst_spec (by kernel_rfl))).trans rfl
    have b6 : a.tmps[6]? = some (.string nm) := (hbb 6 (noDst_spec (by kernel_rfl))).trans rfl
    obtain ⟨q0, q1, q2, q3, q4, q5, q6⟩ := row7 hc0
    rcases (by simp at hlt; omega : i = 0 ∨ i = 1 ∨ i = 2 ∨ i = 3 ∨ i = 4 ∨ i = 5 ∨ i = 6 ∨ i = 7 ∨ i = 8 ∨ i = 9 ∨ i = 10 ∨ i = 11 ∨ i = 12 ∨ i = 13 ∨ i = 14 ∨ i = 15 ∨ i = 16 ∨ i = 17 ∨ i = 18 ∨ i = 19 ∨ i = 20 ∨ i = 21 ∨ i = 22 ∨ i = 23 ∨ i = 24 ∨ i = 25 ∨ i = 26 ∨ i = 27) with rfl | rfl | rfl | rfl | rfl | rfl | rfl | rfl | rfl | rfl | rfl | rfl | rfl | rfl | rfl | rfl | rfl | rfl | rfl | rfl | rfl | rfl | rfl | rfl | rfl | rfl | rfl | rfl
    · simp only [List.getElem?_toArray, List.getElem?_cons_zero, List.getElem?_cons_succ, Option.some.injEq] at hi
      subst hi
      clear hdep
      refine wp_val (v := .string nm) ?_ ⟨_, rfl, rfl, ⟨hc0, hc3, ⟨cs1, hs1, hc1⟩, ⟨cs2, hs2, hc2⟩, hcT⟩, fun _ _ h => h⟩
      simp [execOp, Act.eval, b6]
    · simp only [List.getElem?_toArray, List.getElem?_cons_zero, List.getElem?_cons_succ, Option.some.injEq] at hi
      subst hi
      clear hdep
      refine wp_val (v := .agg #[.int .i64 y, .int .i64 mo, .int .i64 dd, .int .i64 hh, .int .i64 mi, .int .i64 ss]) ?_ ⟨_, rfl, rfl, ⟨hc0, hc3, ⟨cs1, hs1, hc1⟩, ⟨cs2, hs2, hc2⟩, hcT⟩, fun _ _ h => h⟩
      simp [execOp, Act.eval, b4, Instr.loadAt, Instr.sureAddr, run_loadVar_row W w1.heap.size _ _ _ _ _ hc3 Tryd.underlying46 rfl Tryd.sizeT]
    · simp only [List.getElem?_toArray, List.getElem?_cons_zero, List.getElem?_cons_succ, Option.some.injEq] at hi
      subst hi
      clear hdep
      refine wp_val (v := .pointer (some ⟨w.heap.size, 2, none⟩)) ?_ ⟨_, rfl, rfl, ⟨hc0, hc3, ⟨cs1, hs1, hc1⟩, ⟨cs2, hs2, hc2⟩, hcT⟩, fun _ _ h => h⟩
      simp [execOp, Act.eval, b1]
      go_simp
    · simp only [List.getElem?_toArray, List.getElem?_cons_zero, List.getElem?_cons_succ, Option.some.injEq] at hi
      subst hi
      simp [Region.binds, valOf] at hdep
      refine wp_val (v := .int .u64 pI) ?_ ⟨_, rfl, rfl, ⟨hc0, hc3, ⟨cs1, hs1, hc1⟩, ⟨cs2, hs2, hc2⟩, hcT⟩, fun _ _ h => h⟩
      simp [execOp, Act.eval, hdep]
      go_simp
    · simp only [List.getElem?_toArray, List.getElem?_cons_zero, List.getElem?_cons_succ, Option.some.injEq] at hi
      subst hi
      clear hdep
      refine wp_val (v := .pointer (some ⟨w.heap.size, 3, none⟩)) ?_ ⟨_, rfl, rfl, ⟨hc0, hc3, ⟨cs1, hs1, hc1⟩, ⟨cs2, hs2, hc2⟩, hcT⟩, fun _ _ h => h⟩
      simp [execOp, Act.eval, b1]
      go_simp
    · simp only [List.getElem?_toArray, List.getElem?_cons_zero, List.getElem?_cons_succ, Option.some.injEq] at hi
      subst hi
      simp [Region.binds, valOf] at hdep
      refine wp_val (v := .int .u64 zI) ?_ ⟨_, rfl, rfl, ⟨hc0, hc3, ⟨cs1, hs1, hc1⟩, ⟨cs2, hs2, hc2⟩, hcT⟩, fun _ _ h => h⟩
      simp [execOp, Act.eval, hdep]
      go_simp
    · simp only [List.getElem?_toArray, List.getElem?_cons_zero, List.getElem?_cons_succ, Option.some.injEq] at hi
      subst hi
      clear hdep
      refine wp_val (v := .pointer (some ⟨w.heap.size, 4, none⟩)) ?_ ⟨_, rfl, rfl, ⟨hc0, hc3, ⟨cs1, hs1, hc1⟩, ⟨cs2, hs2, hc2⟩, hcT⟩, fun _ _ h => h⟩
      simp [execOp, Act.eval, b1]
      go_simp
    · simp only [List.getElem?_toArray, List.getElem?_cons_zero, List.getElem?_cons_succ, Option.some.injEq] at hi
      subst hi
      simp [Region.binds, valOf] at hdep
      refine wp_val (v := .int .u32 sI) ?_ ⟨_, rfl, rfl, ⟨hc0, hc3, ⟨cs1, hs1, hc1⟩, ⟨cs2, hs2, hc2⟩, hcT⟩, fun _ _ h => h⟩
      simp [execOp, Act.eval, hdep]
      go_simp
    · simp only [List.getElem?_toArray, List.getElem?_cons_zero, List.getElem?_cons_succ, Option.some.injEq] at hi
      subst hi
      clear hdep
      refine wp_val (v := .pointer (some ⟨w.heap.size, 5, none⟩)) ?_ ⟨_, rfl, rfl, ⟨hc0, hc3, ⟨cs1, hs1, hc1⟩, ⟨cs2, hs2, hc2⟩, hcT⟩, fun _ _ h => h⟩
      simp [execOp, Act.eval, b1]
      go_simp
    · simp only [List.getElem?_toArray, List.getElem?_cons_zero, List.getElem?_cons_succ, Option.some.injEq] at hi
      subst hi
      simp [Region.binds, valOf] at hdep
      refine wp_val (v := .int .u64 aI) ?_ ⟨_, rfl, rfl, ⟨hc0, hc3, ⟨cs1, hs1, hc1⟩, ⟨cs2, hs2, hc2⟩, hcT⟩, fun _ _ h => h⟩
      simp [execOp, Act.eval, hdep]
      go_simp
    · simp only [List.getElem?_toArray, List.getElem?_cons_zero, List.getElem?_cons_succ, Option.some.injEq] at hi
      subst hi
      clear hdep
      refine wp_val (v := .pointer (some ⟨w.heap.size, 6, none⟩)) ?_ ⟨_, rfl, rfl, ⟨hc0, hc3, ⟨cs1, hs1, hc1⟩, ⟨cs2, hs2, hc2⟩, hcT⟩, fun _ _ h => h⟩
      simp [execOp, Act.eval, b1]
      go_simp
    · simp only [List.getElem?_toArray, List.getElem?_cons_zero, List.getElem?_cons_succ, Option.some.injEq] at hi
      subst hi
      simp [Region.binds, valOf] at hdep
      refine wp_val (v := .bool k) ?_ ⟨_, rfl, rfl, ⟨hc0, hc3, ⟨cs1, hs1, hc1⟩, ⟨cs2, hs2, hc2⟩, hcT⟩, fun _ _ h => h⟩
      simp [execOp, Act.eval, hdep]
      go_simp
    · simp only [List.getElem?_toArray, List.getElem?_cons_zero, List.getElem?_cons_succ, Option.some.injEq] at hi
      subst hi
      simp [Region.binds, valOf] at hdep
      have ev : ((#[(0, Operand.tmp 20), (1, Operand.tmp 21), (2, Operand.tmp 23), (3, Operand.tmp 25), (4, Operand.tmp 27), (5, Operand.tmp 29), (6, Operand.tmp 31)] : Array (Nat × Operand)).map fun (i, x) => (i, a.eval x)).toList = [(0, Value.string nm), (1, Value.agg #[.int .i64 y, .int .i64 mo, .int .i64 dd, .int .i64 hh, .int .i64 mi, .int .i64 ss]), (2, Value.int .u64 pI), (3, Value.int .u64 zI), (4, Value.int .u32 sI), (5, Value.int .u64 aI), (6, Value.bool k)] := by simp [Act.eval, hdep]
      refine wp_build 48 #[(0, Operand.tmp 20), (1, Operand.tmp 21), (2, Operand.tmp 23), (3, Operand.tmp 25), (4, Operand.tmp 27), (5, Operand.tmp 29), (6, Operand.tmp 31)] rfl (by rw [ev]; kernel_rfl) ⟨_, rfl, ?_, ⟨hc0, hc3, ⟨cs1, hs1, hc1⟩, ⟨cs2, hs2, hc2⟩, hcT⟩, fun _ _ h => h⟩
      show Value.agg _ = Value.agg _
      rw [ev]
      kernel_rfl
    · simp only [List.getElem?_toArray, List.getElem?_cons_zero, List.getElem?_cons_succ, Option.some.injEq] at hi
      subst hi
      clear hdep
      refine wp_val (v := .string nm) ?_ ⟨_, rfl, rfl, ⟨hc0, hc3, ⟨cs1, hs1, hc1⟩, ⟨cs2, hs2, hc2⟩, hcT⟩, fun _ _ h => h⟩
      simp [execOp, Act.eval, b6]
    · simp only [List.getElem?_toArray, List.getElem?_cons_zero, List.getElem?_cons_succ, Option.some.injEq] at hi
      subst hi
      clear hdep
      refine wp_val (v := .agg #[.int .i64 y, .int .i64 mo, .int .i64 dd, .int .i64 hh, .int .i64 mi, .int .i64 ss]) ?_ ⟨_, rfl, rfl, ⟨hc0, hc3, ⟨cs1, hs1, hc1⟩, ⟨cs2, hs2, hc2⟩, hcT⟩, fun _ _ h => h⟩
      simp [execOp, Act.eval, b4, Instr.loadAt, Instr.sureAddr, run_loadVar_row W w1.heap.size _ _ _ _ _ hc3 Tryd.underlying46 rfl Tryd.sizeT]
    · simp only [List.getElem?_toArray, List.getElem?_cons_zero, List.getElem?_cons_succ, Option.some.injEq] at hi
      subst hi
      clear hdep
      refine wp_val (v := .pointer (some ⟨w.heap.size, 2, none⟩)) ?_ ⟨_, rfl, rfl, ⟨hc0, hc3, ⟨cs1, hs1, hc1⟩, ⟨cs2, hs2, hc2⟩, hcT⟩, fun _ _ h => h⟩
      simp [execOp, Act.eval, b1]
      go_simp
    · simp only [List.getElem?_toArray, List.getElem?_cons_zero, List.getElem?_cons_succ, Option.some.injEq] at hi
      subst hi
      simp [Region.binds, valOf] at hdep
      refine wp_val (v := .int .u64 pI) ?_ ⟨_, rfl, rfl, ⟨hc0, hc3, ⟨cs1, hs1, hc1⟩, ⟨cs2, hs2, hc2⟩, hcT⟩, fun _ _ h => h⟩
      simp [execOp, Act.eval, hdep]
      go_simp
    · simp only [List.getElem?_toArray, List.getElem?_cons_zero, List.getElem?_cons_succ, Option.some.injEq] at hi
      subst hi
      clear hdep
      refine wp_val (v := .pointer (some ⟨w.heap.size, 3, none⟩)) ?_ ⟨_, rfl, rfl, ⟨hc0, hc3, ⟨cs1, hs1, hc1⟩, ⟨cs2, hs2, hc2⟩, hcT⟩, fun _ _ h => h⟩
      simp [execOp, Act.eval, b1]
      go_simp
    · simp only [List.getElem?_toArray, List.getElem?_cons_zero, List.getElem?_cons_succ, Option.some.injEq] at hi
      subst hi
      simp [Region.binds, valOf] at hdep
      refine wp_val (v := .int .u64 zI) ?_ ⟨_, rfl, rfl, ⟨hc0, hc3, ⟨cs1, hs1, hc1⟩, ⟨cs2, hs2, hc2⟩, hcT⟩, fun _ _ h => h⟩
      simp [execOp, Act.eval, hdep]
      go_simp
    · simp only [List.getElem?_toArray, List.getElem?_cons_zero, List.getElem?_cons_succ, Option.some.injEq] at hi
      subst hi
      clear hdep
      refine wp_val (v := .pointer (some ⟨w.heap.size, 4, none⟩)) ?_ ⟨_, rfl, rfl, ⟨hc0, hc3, ⟨cs1, hs1, hc1⟩, ⟨cs2, hs2, hc2⟩, hcT⟩, fun _ _ h => h⟩
      simp [execOp, Act.eval, b1]
      go_simp
    · simp only [List.getElem?_toArray, List.getElem?_cons_zero, List.getElem?_cons_succ, Option.some.injEq] at hi
      subst hi
      simp [Region.binds, valOf] at hdep
      refine wp_val (v := .int .u32 sI) ?_ ⟨_, rfl, rfl, ⟨hc0, hc3, ⟨cs1, hs1, hc1⟩, ⟨cs2, hs2, hc2⟩, hcT⟩, fun _ _ h => h⟩
      simp [execOp, Act.eval, hdep]
      go_simp
    · simp only [List.getElem?_toArray, List.getElem?_cons_zero, List.getElem?_cons_succ, Option.some.injEq] at hi
      subst hi
      clear hdep
      refine wp_val (v := .pointer (some ⟨w.heap.size, 5, none⟩)) ?_ ⟨_, rfl, rfl, ⟨hc0, hc3, ⟨cs1, hs1, hc1⟩, ⟨cs2, hs2, hc2⟩, hcT⟩, fun _ _ h => h⟩
      simp [execOp, Act.eval, b1]
      go_simp
    · simp only [List.getElem?_toArray, List.getElem?_cons_zero, List.getElem?_cons_succ, Option.some.injEq] at hi
      subst hi
      simp [Region.binds, valOf] at hdep
      refine wp_val (v := .int .u64 aI) ?_ ⟨_, rfl, rfl, ⟨hc0, hc3, ⟨cs1, hs1, hc1⟩, ⟨cs2, hs2, hc2⟩, hcT⟩, fun _ _ h => h⟩
      simp [execOp, Act.eval, hdep]
      go_simp
    · simp only [List.getElem?_toArray, List.getElem?_cons_zero, List.getElem?_cons_succ, Option.some.injEq] at hi
      subst hi
      clear hdep
      refine wp_val (v := .pointer (some ⟨w.heap.size, 6, none⟩)) ?_ ⟨_, rfl, rfl, ⟨hc0, hc3, ⟨cs1, hs1, hc1⟩, ⟨cs2, hs2, hc2⟩, hcT⟩, fun _ _ h => h⟩
      simp [execOp, Act.eval, b1]
      go_simp
    · simp only [List.getElem?_toArray, List.getElem?_cons_zero, List.getElem?_cons_succ, Option.some.injEq] at hi
      subst hi
      simp [Region.binds, valOf] at hdep
      refine wp_val (v := .bool k) ?_ ⟨_, rfl, rfl, ⟨hc0, hc3, ⟨cs1, hs1, hc1⟩, ⟨cs2, hs2, hc2⟩, hcT⟩, fun _ _ h => h⟩
      simp [execOp, Act.eval, hdep]
      go_simp
    · simp only [List.getElem?_toArray, List.getElem?_cons_zero, List.getElem?_cons_succ, Option.some.injEq] at hi
      subst hi
      simp [Region.binds, valOf] at hdep
      have ev : ((#[(0, Operand.tmp 33), (1, Operand.tmp 34), (2, Operand.tmp 36), (3, Operand.tmp 38), (4, Operand.tmp 40), (5, Operand.tmp 42), (6, Operand.tmp 44)] : Array (Nat × Operand)).map fun (i, x) => (i, a.eval x)).toList = [(0, Value.string nm), (1, Value.agg #[.int .i64 y, .int .i64 mo, .int .i64 dd, .int .i64 hh, .int .i64 mi, .int .i64 ss]), (2, Value.int .u64 pI), (3, Value.int .u64 zI), (4, Value.int .u32 sI), (5, Value.int .u64 aI), (6, Value.bool k)] := by simp [Act.eval, hdep]
      refine wp_build 51 #[(0, Operand.tmp 33), (1, Operand.tmp 34), (2, Operand.tmp 36), (3, Operand.tmp 38), (4, Operand.tmp 40), (5, Operand.tmp 42), (6, Operand.tmp 44)] rfl (by rw [ev]; kernel_rfl) ⟨_, rfl, ?_, ⟨hc0, hc3, ⟨cs1, hs1, hc1⟩, ⟨cs2, hs2, hc2⟩, hcT⟩, fun _ _ h => h⟩
      show Value.agg _ = Value.agg _
      rw [ev]
      kernel_rfl
    · simp only [List.getElem?_toArray, List.getElem?_cons_zero, List.getElem?_cons_succ, Option.some.injEq] at hi
      subst hi
      simp [Region.binds, valOf] at hdep
      have hx : a.eval (.tmp 32) = .agg #[.string nm, .int .i64 y, .int .i64 mo, .int .i64 dd, .int .i64 hh, .int .i64 mi, .int .i64 ss, .int .u64 pI, .int .u64 zI, .int .u32 sI, .int .u64 aI, .bool k] := by simp [Act.eval, hdep]
      refine wp_store_row 48 (.tmp 2) (.tmp 32) rfl (w.heap.size + 1) #[.string nm, .int .i64 y, .int .i64 mo, .int .i64 dd, .int .i64 hh, .int .i64 mi, .int .i64 ss, .int .u64 pI, .int .u64 zI, .int .u32 sI, .int .u64 aI, .bool k] (by simp [Act.eval, b2]) hx _ cs1 hc1 Tryd.sizeH (by rw [hs1]; rfl) (by simp [Value.oneCell']) ⟨undef, rfl, heap_setRow _ _ _ _ _ hc1, ⟨(setRow_other _ _ _ _ (by omega)).trans hc0, (setRow_other _ _ _ _ (by omega)).trans hc3, ⟨_, rfl, heap_setRow _ _ _ _ _ hc1⟩, ⟨cs2, hs2, (setRow_other _ _ _ _ (by omega)).trans hc2⟩, hcT.setRow (by omega) _⟩, ?_⟩
      intro j u h
      rcases (by omega : j = 0 ∨ j = 1 ∨ j = 2 ∨ j = 3 ∨ j = 4 ∨ j = 5 ∨ j = 6 ∨ j = 7 ∨ j = 8 ∨ j = 9 ∨ j = 10 ∨ j = 11 ∨ j = 12 ∨ j = 13 ∨ j = 14 ∨ j = 15 ∨ j = 16 ∨ j = 17 ∨ j = 18 ∨ j = 19 ∨ j = 20 ∨ j = 21 ∨ j = 22 ∨ j = 23 ∨ j = 24 ∨ j = 25 ∨ j = 26 ∨ j = 27 ∨ 28 ≤ j) with rfl | rfl | rfl | rfl | rfl | rfl | rfl | rfl | rfl | rfl | rfl | rfl | rfl | rfl | rfl | rfl | rfl | rfl | rfl | rfl | rfl | rfl | rfl | rfl | rfl | rfl | rfl | rfl | hj
      · exact h
      · exact h
      · exact h
      · exact h
      · exact h
      · exact h
      · exact h
      · exact h
      · exact h
      · exact h
      · exact h
      · exact h
      · exact h
      · exact h
      · exact h
      · exact h
      · exact h
      · exact h
      · exact h
      · exact h
      · exact h
      · exact h
      · exact h
      · exact h
      · exact h
      · exact h
      · exact heap_setRow _ _ _ _ _ hc1
      · exact (setRow_other _ _ _ _ (by omega)).trans h
      · obtain ⟨m, rfl⟩ : ∃ m, j = m + 28 := ⟨j - 28, by omega⟩
        exact trivial
    · simp only [List.getElem?_toArray, List.getElem?_cons_zero, List.getElem?_cons_succ, Option.some.injEq] at hi
      subst hi
      simp [Region.binds, valOf] at hdep
      have hx : a.eval (.tmp 45) = .agg #[.string nm, .int .i64 y, .int .i64 mo, .int .i64 dd, .int .i64 hh, .int .i64 mi, .int .i64 ss, .int .u64 pI, .int .u64 zI, .int .u32 sI, .int .u64 aI, .bool k] := by simp [Act.eval, hdep]
      refine wp_store_row 51 (.tmp 3) (.tmp 45) rfl (w.heap.size + 1 + 1) #[.string nm, .int .i64 y, .int .i64 mo, .int .i64 dd, .int .i64 hh, .int .i64 mi, .int .i64 ss, .int .u64 pI, .int .u64 zI, .int .u32 sI, .int .u64 aI, .bool k] (by simp [Act.eval, b3]) hx _ cs2 hc2 Tryd.size13 (by rw [hs2]; rfl) (by simp [Value.oneCell']) ⟨undef, rfl, heap_setRow _ _ _ _ _ hc2, ⟨(setRow_other _ _ _ _ (by omega)).trans hc0, (setRow_other _ _ _ _ (by omega)).trans hc3, ⟨cs1, hs1, (setRow_other _ _ _ _ (by omega)).trans hc1⟩, ⟨_, rfl, heap_setRow _ _ _ _ _ hc2⟩, hcT.setRow (by omega) _⟩, ?_⟩
      intro j u h
      rcases (by omega : j = 0 ∨ j = 1 ∨ j = 2 ∨ j = 3 ∨ j = 4 ∨ j = 5 ∨ j = 6 ∨ j = 7 ∨ j = 8 ∨ j = 9 ∨ j = 10 ∨ j = 11 ∨ j = 12 ∨ j = 13 ∨ j = 14 ∨ j = 15 ∨ j = 16 ∨ j = 17 ∨ j = 18 ∨ j = 19 ∨ j = 20 ∨ j = 21 ∨ j = 22 ∨ j = 23 ∨ j = 24 ∨ j = 25 ∨ j = 26 ∨ j = 27 ∨ 28 ≤ j) with rfl | rfl | rfl | rfl | rfl | rfl | rfl | rfl | rfl | rfl | rfl | rfl | rfl | rfl | rfl | rfl | rfl | rfl | rfl | rfl | rfl | rfl | rfl | rfl | rfl | rfl | rfl | rfl | hj
      · exact h
      · exact h
      · exact h
      · exact h
      · exact h
      · exact h
      · exact h
      · exact h
      · exact h
      · exact h
      · exact h
      · exact h
      · exact h
      · exact h
      · exact h
      · exact h
      · exact h
      · exact h
      · exact h
      · exact h
      · exact h
      · exact h
      · exact h
      · exact h
      · exact h
      · exact h
      · exact (setRow_other _ _ _ _ (by omega)).trans h
      · exact heap_setRow _ _ _ _ _ hc2
      · obtain ⟨m, rfl⟩ : ∃ m, j = m + 28 := ⟨j - 28, by omega⟩
        exact trivial
  · intro a W hC hbase hall
    obtain ⟨hbd, hbs, hbb⟩ := hbase
    have b2 : a.tmps[2]? = some (.pointer (some ⟨w.heap.size + 1, 0, none⟩)) := (hbb 2 (noDst_spec (by kernel_rfl))).trans rfl
    have b3 : a.tmps[3]? = some (.pointer (some ⟨w.heap.size + 1 + 1, 0, none⟩)) := (hbb 3 (noDst_spec (by kernel_rfl))).trans rfl
    have r1 : W.heap[w.heap.size + 1]? = some (.cells #[.string nm, .int .i64 y, .int .i64 mo, .int .i64 dd, .int .i64 hh, .int .i64 mi, .int .i64 ss, .int .u64 pI, .int .u64 zI, .int .u32 sI, .int .u64 aI, .bool k] 48) := hall 26 _ rfl
    have r2 : W.heap[w.heap.size + 1 + 1]? = some (.cells #[.string nm, .int .i64 y, .int .i64 mo, .int .i64 dd, .int .i64 hh, .int .i64 mi, .int .i64 ss, .int .u64 pI, .int .u64 zI, .int .u32 sI, .int .u64 aI, .bool k] 51) := hall 27 _ rfl
    have hT := hC.2.2.2.2
    have hdf : a.defers = [] := hbd
    clear hall hbb hbs hC hbd
    rename_i hK
    refine hK a W ?_
    go_wp2_with fail
    exact bodyPost_ret (results_cell_cell (fn := Tryd.f27) (p := 2) (q := 3) (ty := 48) (ty' := 51) rfl a.tmps W (w.heap.size + 1) (w.heap.size + 1 + 1) _ _ _ _ _ _ _ _ (by simp [b2]) (by simp [b3]) r1 r2 Tryd.underlying48 rfl Tryd.sizeH Tryd.underlying51 rfl Tryd.size13) hdf ⟨rfl, hT⟩
end Go.Proofs.YtdohhmaggeocjaaDoor

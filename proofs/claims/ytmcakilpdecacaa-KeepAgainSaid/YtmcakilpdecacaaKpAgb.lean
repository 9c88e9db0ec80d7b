/- The statement KeepAgain over the translated program. -/
import Derived.Test.YtmcakilpdecacaaKpX
import Derived.Test.YtmcakilpdecacaaRegInv2
import Derived.Test.YtmcakilpdecacaaBase
import Derived.Test.YtmcakilpdecacaaOpen
import Derived.ProofKit
import Derived.Deep.RegionWith
import Derived.Deep.CutBlock
namespace Go.Proofs.Ytmcakilpdecacaa
open Go Go.RowKit Go.Maps
set_option maxRecDepth 100000

theorem ag_and7 (n : Int) : bits .and .i64 n 7 = n % 8 := by
  have hk : (BitVec.ofInt 64 7).toNat = 2 ^ 3 - 1 := by decide
  have key : (BitVec.ofInt 64 n &&& BitVec.ofInt 64 7).toNat = (n % ((2 ^ 64 : Nat) : Int)).toNat % 2 ^ 3 := by
    rw [BitVec.toNat_and, BitVec.toNat_ofInt, hk, Nat.and_two_pow_sub_one_eq_mod]
  show IntKind.i64.wrap ((BitVec.ofInt 64 n &&& BitVec.ofInt 64 7).toNat : Nat) = n % 8
  rw [key, IntKind.wrap_i64]
  omega
def u32V (l : List Nat) : List Value := l.map fun (n : Nat) => Value.int .u32 (n : Int)

theorem wf_u32' {i : Int} (h : (Lit.int .u32 i).wf = true) : 0 ≤ i ∧ i < 4294967296 := by
  simp [Lit.wf, IntKind.min, IntKind.max, IntKind.signed, IntKind.bits] at h; omega
section
open Go.WideShapes Go.ChangeShapes Go.ChangeMaps
theorem Try.cellsU32 : Try.prog.cellsOf 67 = 1 := by kernel_rfl
theorem open_u32s {H : Type} {enc : TypeId × Value → H} {P : Program} {w : World} {r : Reach} {b0 : Nat} {t e : TypeId} {v : Value} {d : DataW H} {p : List MemPlace}
    (ht : P.underlying t = some (.slice e)) (he : P.underlying e = some (.int .u32)) (hC : P.cellsOf e = 1) (hval : Value.okWide P w r b0 t v) (h : DataW.Trod enc P w 0 (fun _ => true) true t v d p) :
    ∃ l : List Nat, Reads w v (u32V l) ∧ ∀ n ∈ l, n < 4294967296 := by
  obtain ⟨a, n, cap, rfl, h1, h2, h3⟩ := open_slice_any ht hC (by omega) hval h
  rcases h3 with rfl | ⟨g, off, rfl, _, h3⟩
  · exact ⟨[], ⟨a, cap, rfl, h1, h2, .inl rfl⟩, fun s hs => by cases hs⟩
  · have h4 : ∀ i, i < n → ∃ s : Nat, w.cell? ⟨g, off + i, none⟩ = some (.int .u32 (s : Int)) ∧ s < 4294967296 := fun i hi => by
      obtain ⟨cs, f, y, c1, c2, c3⟩ := h3 i hi
      match cs, c1 with
      | [c0], _ =>
        obtain ⟨s, e0, _, w0⟩ := DataW.trod_int he c3
        injection e0 with e0 _
        subst e0
        have := c2 0 (by omega)
        rw [Nat.mul_one, Nat.add_zero] at this
        obtain ⟨q1, q2⟩ := wf_u32' w0
        exact ⟨s.toNat, by rw [Int.toNat_of_nonneg q1]; exact this, by omega⟩
    have hF : ∃ F : Nat → Nat, ∀ i, i < n → w.cell? ⟨g, off + i, none⟩ = some (.int .u32 (F i : Int)) ∧ F i < 4294967296 :=
      ⟨fun i => if h : i < n then (h4 i h).choose else 0, fun i hi => by simp only [dif_pos hi]; exact (h4 i hi).choose_spec⟩
    obtain ⟨F, hF⟩ := hF
    have hlen : (u32V ((List.range n).map F)).length = n := by simp [u32V]
    refine ⟨(List.range n).map F, ⟨some ⟨g, off, none⟩, cap, by rw [hlen], by omega, h2, .inr ⟨g, off, rfl, fun j u hu => ?_⟩⟩, fun s hs => ?_⟩
    · have hj : j < n := by
        have := (List.getElem?_eq_some_iff.1 hu).1
        omega
      simp [u32V, hj] at hu
      rw [← hu]
      exact (hF j hj).1
    · obtain ⟨i, hi, rfl⟩ := List.mem_map.1 hs
      exact (hF i (by simpa using hi)).2
end

/-- A disk with a log whose last note is a state's. -/
structure Kd (w : World) (b lb mb : Nat) (L : List UInt8) (t N : Nat) (nt : ByteArray) (ep : Nat) : Prop where
  disk : DkAt w b lb mb (12 * 64) 12 L [] t (-1) true
  secs : LogSecs (secsOf L 0 8) N nt.data.toList
  note : NoteOf N nt 0 ep [] false
theorem kd_open {w : World} {b lb mb t N ep : Nat} {L : List UInt8} {nt : ByteArray} (h : Kd w b lb mb L t N nt ep) (hN : N < 1000000) (hep : ep < 4294967296) :
    Calls Try.prog 40 #[.pointer (some ⟨b, 0, none⟩)] w fun e w' => ∃ gb fb kb, e = .returned (.tuple #[.pointer (some ⟨kb, 0, none⟩), .int .i64 0]) ∧ Kp w' b lb mb (12 * 64) 12 t gb fb kb N nt L 0 ep [] false ∧ (w.heap.size ≤ gb ∧ w.heap.size ≤ fb ∧ w.heap.size ≤ kb) ∧ Touch (fun _ => False) w w' :=
  kopen_calls h.disk (by omega) hN h.secs (holds_nil _ _ _) (by simp) (by omega) hep h.note (fun W gb hL => lastOf_any hL hN h.note (by omega) hep (by simp))

/-- No edge to a later operation. -/
def lexOk3 (ops : Array Oper) : Bool := (List.range ops.size).all fun i => match ops[i]? with | some o => o.after.all (fun e => !(Region.binds .any e) || decide (e.on < i)) | none => true
theorem lexOk3_spec {ops : Array Oper} (h : lexOk3 ops = true) {i : Nat} {o : Oper} (hi : ops[i]? = some o) : ∀ e ∈ o.after, Region.binds .any e = true → e.on < i := by
  have := List.all_eq_true.1 h i (List.mem_range.2 (op_lt hi))
  simp only [hi, Array.all_eq_true'] at this
  intro e he hb
  have h2 := this e he
  rw [hb] at h2
  simpa using h2
/-- What is listed is closed under the edges. -/
def closedL (ops : Array Oper) (l : Array Bool) : Prop := ∀ (i : Nat) (o : Oper), ops[i]? = some o → l.getD i true = true → ∀ e ∈ o.after, Region.binds .any e = true → l.getD e.on true = true
structure RI3 (ops : Array Oper) (a0 : Act) (C : Array Bool → World → Prop) (I : Nat → Value → Prop) (listed : Array Bool) (a : Act) (w : World) : Prop where
  c : C listed w
  base : baseOk ops a0 a
  closed : closedL ops listed
  done : ∀ (i : Nat) (o : Oper), ops[i]? = some o → listed.getD i true = true → I i (valOf o a)
theorem getD_set3 (listed : Array Bool) (i j : Nat) : (listed.setIfInBounds i true).getD j true = (listed.getD j true || i == j) := by
  by_cases h : i = j
  · subst h; rw [getD_set_self]; simp
  · rw [getD_set_ne true h]; simp [h]

theorem wpAny_inv3 {P : Program} {ops : Array Oper} {Q : Exit → Act → World → Prop} {a0 : Act} (C : Array Bool → World → Prop) (I : Nat → Value → Prop) (hl : lexOk3 ops = true) (hd : dstOk ops a0.tmps.size = true)
    (hob : ∀ (i : Nat) (o : Oper), ops[i]? = some o → ∀ listed a w, listed.getD i true = false → closedL ops listed → (∀ e ∈ o.after, Region.binds .any e = true → listed.getD e.on true = true) → C listed w → baseOk ops a0 a → (∀ j oj, ops[j]? = some oj → listed.getD j true = true → I j (valOf oj a)) →
      Region.wanted o (yielded ops a.tmps) = true ∧ o.wp P a w (fun a' w' => ∃ v, a' = a.put o.dst v ∧ I i (if o.dst.isSome = true then v else undef) ∧ C (listed.setIfInBounds i true) w') Q)
    (hQ : ∀ listed a w, (∀ i, i < ops.size → listed.getD i true = true) → C listed w → baseOk ops a0 a → (∀ (i : Nat) (o : Oper), ops[i]? = some o → I i (valOf o a)) → Q .normal a w) :
    ∀ fuel listed a w, RI3 ops a0 C I listed a w → cu listed ops.size ≤ fuel → wpAny P .any ops Q fuel listed a w := by
  intro fuel
  induction fuel with
  | zero =>
    intro listed a w h hc
    have hall := cu_zero listed ops.size (by omega)
    refine ⟨List.eq_nil_iff_forall_not_mem.2 fun i hi => ?_, hQ listed a w hall h.c h.base fun i o hi => h.done i o hi (hall i (op_lt hi))⟩
    obtain ⟨hun, o, ho, _⟩ := mem_ready.1 hi
    rw [hall i (op_lt ho)] at hun
    cases hun
  | succ fuel ih =>
    intro listed a w h hc
    refine ⟨fun h0 => ?_, fun i hi => ?_⟩
    · have hall : ∀ n i, i < n → i < ops.size → listed.getD i true = true := by
        intro n
        induction n with
        | zero => intro i hi; omega
        | succ n ihn =>
          intro i hin his
          cases hb : listed.getD i true
          · obtain ⟨o, ho⟩ : ∃ o, ops[i]? = some o := ⟨_, Array.getElem?_eq_getElem his⟩
            have hm : i ∈ Region.ready .any ops listed := mem_ready.2 ⟨hb, o, ho, fun e he hbe => by
              have hlt := lexOk3_spec hl ho e he hbe
              have h1 := ihn e.on (by omega) (by omega)
              cases hf : listed.getD e.on false
              · exfalso
                rcases Nat.lt_or_ge e.on listed.size with h' | h'
                · simp [h'] at hf h1; rw [hf] at h1; cases h1
                · rcases Nat.lt_or_ge i listed.size with h'' | h''
                  · omega
                  · simp [Array.getElem?_eq_none h''] at hb
              · rfl⟩
            rw [h0] at hm
            cases hm
          · rfl
      exact hQ listed a w (fun i hi => hall (i + 1) i (by omega) hi) h.c h.base fun i o hi => h.done i o hi (hall (i + 1) i (by omega) (op_lt hi))
    · obtain ⟨hun, o, ho, hdep⟩ := mem_ready.1 hi
      have hdl : ∀ e ∈ o.after, Region.binds .any e = true → listed.getD e.on true = true := fun e he hb => getD_ft (hdep e he hb)
      obtain ⟨hw, hwp⟩ := hob i o ho listed a w hun h.closed hdl h.c h.base h.done
      unfold wpOp
      simp only [ho]
      rw [if_pos hw]
      refine .inl (Oper.wp_mono (fun a' w' hk => ?_) hwp)
      obtain ⟨v, rfl, hI, hC⟩ := hk
      refine ih _ _ _ ⟨hC, h.base.put ho v, fun j oj hj hlj e he hb => ?_, fun j oj hj hlj => ?_⟩ (by have := cu_in listed i hun ops.size (op_lt ho); omega)
      · rw [getD_set3] at hlj ⊢
        by_cases hji : i = j
        · subst hji
          obtain rfl : oj = o := Option.some.inj (hj.symm.trans ho)
          rw [hdl e he hb]; rfl
        · have : listed.getD j true = true := by simpa [hji] using hlj
          rw [h.closed j oj hj this e he hb]; rfl
      · by_cases hji : i = j
        · subst hji
          obtain rfl : oj = o := Option.some.inj (hj.symm.trans ho)
          rw [valOf_put_self (fun d hdd => by have := (dstOk_spec hd ho hdd).1; rw [h.base.2.1]; exact this)]
          exact hI
        · rw [valOf_put_ne (fun d hdd e => hji ((dstOk_spec hd hj hdd).2 i o ho e))]
          exact h.done j oj hj (by rwa [getD_set_ne true hji] at hlj)

theorem wp_region_inv3 {P : Program} {id : Nat} {l : List Oper} {Q : Exit → Act → World → Prop} {a0 : Act} {w0 : World} (C : Array Bool → World → Prop) (I : Nat → Value → Prop) (hm : P.follows .mixedOrders = true) (hl : lexOk3 l.toArray = true) (hd : dstOk l.toArray a0.tmps.size = true)
    (hC : C (Array.replicate l.toArray.size false) w0.drew)
    (hob : ∀ (i : Nat) (o : Oper), l.toArray[i]? = some o → ∀ listed a w, listed.getD i true = false → closedL l.toArray listed → (∀ e ∈ o.after, Region.binds .any e = true → listed.getD e.on true = true) → C listed w → baseOk l.toArray a0 a → (∀ j oj, l.toArray[j]? = some oj → listed.getD j true = true → I j (valOf oj a)) →
      Region.wanted o (yielded l.toArray a.tmps) = true ∧ o.wp P a w (fun a' w' => ∃ v, a' = a.put o.dst v ∧ I i (if o.dst.isSome = true then v else undef) ∧ C (listed.setIfInBounds i true) w') Q)
    (hQ : ∀ listed a w, (∀ i, i < l.toArray.size → listed.getD i true = true) → C listed w → baseOk l.toArray a0 a → (∀ (i : Nat) (o : Oper), l.toArray[i]? = some o → I i (valOf o a)) → Q .normal a w) : (Code.region id l.toArray true).wp P Q a0 w0 := by
  have hno : ∀ i, i < l.toArray.size → (Array.replicate l.toArray.size false).getD i true = false := fun i hi => by simp at hi; simp [hi]
  refine wp_region_any hm (wpAny_inv3 C I hl hd hob hQ _ _ _ _ ⟨hC, ⟨rfl, rfl, fun _ _ => rfl⟩, fun i o hi hli => ?_, fun i o hi hli => ?_⟩ (cu_all _ _))
  · rw [hno i (op_lt hi)] at hli; cases hli
  · rw [hno i (op_lt hi)] at hli; cases hli
theorem kp_callw {P : Program} {o : Oper} {a : Act} {w : World} {K : Act → World → Prop} {Q : Exit → Act → World → Prop} {f : FuncId} {args : Array Value} {v : Value} {R : Ending → World → Prop} (h : (execOp a.eval o).run P w = .ok (.enter f args) w)
    (hc : Calls P f args w fun e w' => e = .returned v ∧ R e w') (hk : ∀ w', R (.returned v) w' → K (a.put o.dst v) w') : o.wp P a w K Q := by
  unfold Oper.wp
  rw [h]
  exact hc.mono fun e w' ⟨he, ht⟩ => by subst he; exact hk w' ht
theorem get_bool {o : Option Value} {b : Bool} (h : o.getD undef = .bool b) : o = some (.bool b) := by
  cases o with
  | none => exact absurd h (by intro h; cases h)
  | some v => rw [Option.getD_some] at h; rw [h]
theorem edge_of {o : Oper} {l : Array Bool} (j : Nat) (h : o.after.any (fun e => Region.binds .any e && e.on == j) = true) (hdl : ∀ e ∈ o.after, Region.binds .any e = true → l.getD e.on true = true) : l.getD j true = true := by
  obtain ⟨i, hi, h2⟩ := Array.any_eq_true.1 h
  simp only [Bool.and_eq_true, beq_iff_eq] at h2
  rw [← h2.2]
  exact hdl _ (Array.getElem_mem hi) h2.1
theorem closed_step {ops : Array Oper} {l : Array Bool} (i j : Nat) (h : (match ops[i]? with | some o => o.after.any (fun e => Region.binds .any e && e.on == j) | none => false) = true) (hc : closedL ops l) (hi : l.getD i true = true) : l.getD j true = true := by
  cases ho : ops[i]? with
  | none => rw [ho] at h; cases h
  | some o => rw [ho] at h; exact edge_of j h (hc i o ho hi)
/-- What each operation of the second loop's condition leaves. -/
def agI (kb g off ln cap j z N k m : Nat) (T : ByteArray) (i : Nat) (v : Value) : Prop := match i with
  | 0 => v = .pointer (some ⟨kb, 0, none⟩)
  | 1 => v = .slice (some ⟨g, off, none⟩) ln cap
  | 2 => v = .int .i64 (j : Nat)
  | 3 => v = .pointer (some ⟨g, off + j, none⟩)
  | 4 => v = .int .u32 (z : Nat)
  | 5 => v = .int .i64 0
  | 6 => v = .bool false
  | 7 => v = .bool false
  | 8 => v = .pointer (some ⟨kb, 0, none⟩)
  | 9 => v = .agg #[.int .u32 (z : Nat), .int .u32 (N : Nat), .int .i64 (0 : Nat), .int .u32 (0 : Nat), .bool false]
  | 10 => v = .slice (some ⟨g, off, none⟩) ln cap
  | 11 => v = .int .i64 (j : Nat)
  | 12 => v = .pointer (some ⟨g, off + j, none⟩)
  | 13 => v = .int .u32 (z : Nat)
  | 14 => v = .int .i64 (N : Nat)
  | 15 => v = .int .u32 (N : Nat)
  | 16 => v = .agg #[.int .u32 (z : Nat), .int .u32 (N : Nat), .int .i64 (0 : Nat), .int .u32 (0 : Nat), .bool false]
  | 17 => v = .bool false
  | 18 => v = .bool false
  | 19 => v = .bool false
  | 20 => v = .pointer (some ⟨kb, 0, none⟩)
  | 21 => v = .string T
  | 22 => v = .int .i64 0
  | 23 => v = .bool false
  | 24 => v = .bool false
  | 25 => v = .bool false
  | 26 => v = .pointer (some ⟨kb, 0, none⟩)
  | 27 => v = .agg #[.int .u32 (z : Nat), .int .u32 (N : Nat), .int .i64 (k : Nat), .int .u32 (m : Nat), .bool false]
  | 28 => v = .int .i64 (k : Nat)
  | 29 => v = .string T
  | 30 => v = .int .i64 (k : Nat)
  | 31 => v = .bool false
  | 32 => v = .bool false
  | _ => True

set_option maxHeartbeats 4000000 in
theorem kagain_calls (l : List Nat) (zs : Int) (s0 : ByteArray) (v0 : Value) (w : World) (hl : Reads w v0 (u32V l)) (hlu : ∀ n ∈ l, n < 4294967296) (hs0 : s0.size ≤ 9223372036854775807) :
    Calls Try.prog 10 #[v0, .int .i64 zs, .string s0] w fun e w' => e = .returned (.bool true) ∧ Touch (fun _ => False) w w' := by
  obtain ⟨a, cap, hv, hc1, hc2⟩ := hl.form
  rw [show (u32V l).length = l.length from List.length_map ..] at hv hc1
  unfold maxLen at hc2
  have HL := Lib.hid hl
  have HLU := Lib.hid hlu
  clear hl hlu
  subst hv
  obtain ⟨k, hk⟩ : ∃ k, k = min s0.size 60 := ⟨_, rfl⟩
  obtain ⟨T, hT⟩ : ∃ T, s0.extract 0 k = T := ⟨_, rfl⟩
  have hTs : T.size = k := by rw [← hT, ByteArray.size_extract]; omega
  have hk1 : min (s0.size : Int) 60 = (k : Int) := by omega
  have hk3 : (if (60 : Int) < (s0.size : Int) then (60 : Int) else (s0.size : Int)) = (k : Int) := by split <;> omega
  have hk2 : (k : Int) ≤ (s0.size : Int) := by omega
  have hk0 : (0 : Int) ≤ (k : Int) := by omega
  have hk60 : k ≤ 60 := by omega
  obtain ⟨st, hst⟩ : ∃ st : Nat, zs % 8 = (st : Int) := ⟨(zs % 8).toNat, by omega⟩
  have hst8 : st < 8 := by omega
  have h7 : bits .and .i64 zs 7 = (st : Int) := by rw [ag_and7, hst]
  clear hst hk
  go_enter Try.func10, Try.ntmps10
  go_wp2_with fail
  refine (speaks20_calls w).mono ?_
  rintro e w0 ⟨rfl, hT0⟩
  go_wp2_with fail
  refine (new_calls 12 w0 (by omega) (by omega)).mono ?_
  rintro e w1 ⟨b, lb, mb, rfl, hD1, hN, hT1⟩
  have HD1 : Hid (Kd w1 b lb mb (List.replicate (12 * 64) 0) 0 0 ⟨#[]⟩ 0) := Lib.hid ⟨hD1, by rw [secsOf_zero (by omega)]; exact LogSecs.start 8, ⟨fun _ => ⟨rfl, rfl, rfl, rfl⟩, fun h => absurd rfl h⟩⟩
  have HNB : Hid (∀ k, DkS b lb mb k → w.heap.size ≤ k) := Lib.hid (fun k hk => by
    have := hN; have := hT0.size
    rcases hk with h | h | h <;> omega)
  have HT1 := Lib.hid (hT0.trans hT1)
  clear hD1 hN hT0 hT1
  go_wp2_with fail
  go_loopw [9] (fun v9 wr => ∃ (N t : Nat) (L : List UInt8) (nt : ByteArray), v9 = .int .i64 ((N + 1 : Nat) : Int) ∧ N ≤ st ∧ t ≤ N ∧ Kd wr b lb mb L t N nt N ∧ Touch (fun _ => False) w wr) (fun v9 _ => st + 1 - (Go.RowKit.intOf v9).toNat)
  case atStart => exact ⟨0, 0, _, _, rfl, by omega, by omega, HD1.out, HT1.out⟩
  case round =>
    obtain ⟨N, t, L, nt, rfl, hNs, htN, hK, hT⟩ := hrel
    have HK := Lib.hid hK
    have HT := Lib.hid hT
    clear hK hT
    obtain ⟨M, hM⟩ : ∃ M : Nat, N + 1 = M := ⟨_, rfl⟩
    rw [hM]
    by_cases hlt : M ≤ st
    · have hltI : (M : Int) ≤ (st : Int) := by omega
      have hwM : IntKind.u32.wrap (M : Int) = (M : Int) := by rw [IntKind.wrap_u32]; omega
      go_wp2_with fail
      refine (kd_open HK.out (by omega) (by omega)).mono ?_
      rintro e w2 ⟨gb, fb, kb, rfl, hK2, hgs, hT2⟩
      have HS : Hid (∀ k, DkS b lb mb k ∨ k = gb ∨ k = fb ∨ k = kb → w.heap.size ≤ k) := Lib.hid (fun k hk => by
        have := HT.out.size
        rcases hk with h | h | h | h
        · exact HNB.out k h
        · omega
        · omega
        · omega)
      have HT2 := Lib.hid (HT.out.trans hT2)
      have hks := kstart_calls hK2 (by omega) (by omega)
      rw [Nat.mod_eq_of_lt (show N + 1 < 4294967296 by omega), hM] at hks
      have HKS := Lib.hid hks
      clear hK2 hgs hT2 hks
      have g1 := fieldK1
      go_wp2_with (first
        | (go_at_call 44; refine HKS.out.mono ?_; rintro e w3 ⟨rfl, ⟨L3, t3, ht3, hK3⟩, hT3⟩; have HK3 := Lib.hid hK3; have HT3 := Lib.hid (HT2.out.from hT3 HS.out); clear hK3 hT3)
        | (go_at_call 48; refine (kstate_calls HK3.out.box).mono ?_; rintro e w4 ⟨rfl, hT4⟩; unfold stV; have HK4 := Lib.hid (HK3.out.still hT4); have HT4 := Lib.hid (HT3.out.trans hT4); clear hT4))
      go_roundw
      case rel => exact ⟨M, t3, L3, _, by go_num, hlt, by omega, ⟨HK4.out.duo.live.disk, by rw [← hM]; exact HK4.out.duo.live.secs, by have := HK4.out.note; rwa [hM] at this⟩, HT4.out⟩
      case measure => simp [Go.RowKit.intOf]; omega
    · have hltI : ¬ (M : Int) ≤ (st : Int) := by omega
      obtain rfl : N = st := by omega
      go_wp2_with fail
      refine (kd_open HK.out (by omega) (by omega)).mono ?_
      rintro e w2 ⟨gb, fb, kb, rfl, hK2, hgs, hT2⟩
      have HS : Hid (∀ k, DkS b lb mb k ∨ k = gb ∨ k = fb ∨ k = kb → w.heap.size ≤ k) := Lib.hid (fun k hk => by
        have := HT.out.size
        rcases hk with h | h | h | h
        · exact HNB.out k h
        · omega
        · omega
        · omega)
      have HT2 := Lib.hid (HT.out.trans hT2)
      have HK2 := Lib.hid hK2
      clear hK2 hgs hT2
      have hwst : IntKind.u32.wrap (N : Int) = (N : Int) := by rw [IntKind.wrap_u32]; omega
      go_wp2_with fail
      go_loopw [14] (fun v14 wr => ∃ (j N' t' se : Nat) (L' : List UInt8) (nt' : ByteArray) (A : List UInt8), v14 = .int .i64 (j : Int) ∧ j ≤ 8 ∧ j ≤ l.length ∧ N' ≤ 8 + 2 * j ∧ t' ≤ 8 + 62 * j ∧ Kp wr b lb mb (12 * 64) 12 t' gb fb kb N' nt' L' se N A false ∧ Touch (fun _ => False) w wr) (fun v14 _ => l.length - (Go.RowKit.intOf v14).toNat)
      case atStart => exact ⟨0, N, t, 0, L, nt, [], rfl, by omega, by omega, by omega, by omega, HK2.out, HT2.out⟩
      case round =>
        obtain ⟨j, N', t', se, L', nt', A, rfl, hj8, hjl, hN', ht', hK, hT⟩ := hrel
        have HK := Lib.hid hK
        have HT := Lib.hid hT
        clear hK hT
        by_cases hlt2 : j < l.length ∧ j < 8
        · obtain ⟨hlt2, hlt8⟩ := hlt2
          have hI1 : (j : Int) < (l.length : Int) := by omega
          have hI2 : (j : Int) < 8 := by omega
          go_upto_region 16 with fail
          obtain ⟨z, hz⟩ : ∃ z, l[j]? = some z := ⟨_, List.getElem?_eq_getElem (by omega)⟩
          have hzu : z < 4294967296 := HLU.out z (List.mem_of_getElem? hz)
          obtain ⟨g, off, cap', hga, hu1, hu2, hu3, hcell⟩ := HL.out.addr (by rw [show (u32V l).length = l.length from List.length_map ..]; omega)
          injection hga with hga hq1 hq2
          clear hq1 hq2
          subst hga
          have pw : w.cell? ⟨g, off + j, none⟩ = some (.int .u32 (z : Int)) := hcell j _ (by unfold u32V; rw [List.getElem?_map, hz]; rfl)
          have hgw : g < w.heap.size := World.block_lt_of_cell? w _ pw
          have p0 := HT.out.cell pw id
          have HG : Hid (¬ (DkS b lb mb g ∨ g = gb ∨ g = fb ∨ g = kb)) := Lib.hid (fun h => by have := HS.out g h; omega)
          have HBG := Lib.hid (fun W (hW : Touch (fun _ => False) wr W) => kbegin_calls (HK.out.still hW) z hzu (by omega) (by omega))
          clear hcell hz hgw hu1 hu2 hu3
          have g2 := fieldK2
          obtain ⟨m, hm⟩ : ∃ m, moreN 0 T.data.toList = m := ⟨_, rfl⟩
          obtain ⟨ln, hln⟩ : ∃ ln, l.length = ln := ⟨_, rfl⟩
          rw [hln] at hI1 ⊢
          have HK0 := HK.out
          have HT0 := HT.out
          refine wp_region_inv3 (fun ls W => Touch (fun _ => False) w W ∧ (ls.getD 5 true = false → Kp W b lb mb (12 * 64) 12 t' gb fb kb N' nt' L' se N A false) ∧ (ls.getD 5 true = true → ls.getD 22 true = false → ∃ L3 t3, t3 ≤ t' + 1 ∧ Kp W b lb mb (12 * 64) 12 t3 gb fb kb (N' + 1) (ntB z N [] false) L3 z N [] false) ∧ (ls.getD 22 true = true → ∃ L5 t5, t5 ≤ t' + 62 ∧ Kp W b lb mb (12 * 64) 12 t5 gb fb kb (N' + 2) (ntB z N T.data.toList false) L5 z N T.data.toList false)) (agI kb g off ln cap j z N k m T) (by kernel_rfl) (by kernel_rfl) (by kernel_rfl) ⟨HT0.drew, fun _ => HK0.still (Touch.refl (fun _ => False) wr).drew, fun h => by simp at h, fun h => by simp at h⟩ ?_ ?_
          · intro i o hi ls a W hun hcl hdl hC hbase hdone
            have hlt := op_lt hi
            obtain ⟨hbd, hbs, hbb⟩ := hbase
            have b12 : a.tmps[12]?.getD undef = .pointer (some ⟨kb, 0, none⟩) := by rw [(hbb 12 (noDst_spec (by kernel_rfl)))]; rfl
            have b0 : a.tmps[0]?.getD undef = .slice (some ⟨g, off, none⟩) ln cap := by rw [(hbb 0 (noDst_spec (by kernel_rfl)))]; rfl
            have b14 : a.tmps[14]?.getD undef = .int .i64 (j : Nat) := by rw [(hbb 14 (noDst_spec (by kernel_rfl)))]; rfl
            have b1 : a.tmps[1]?.getD undef = .int .i64 (N : Nat) := by rw [(hbb 1 (noDst_spec (by kernel_rfl)))]; rfl
            have b2 : a.tmps[2]?.getD undef = .string T := by rw [(hbb 2 (noDst_spec (by kernel_rfl)))]; rfl
            rcases (by simp at hlt; omega : i = 0 ∨ i = 1 ∨ i = 2 ∨ i = 3 ∨ i = 4 ∨ i = 5 ∨ i = 6 ∨ i = 7 ∨ i = 8 ∨ i = 9 ∨ i = 10 ∨ i = 11 ∨ i = 12 ∨ i = 13 ∨ i = 14 ∨ i = 15 ∨ i = 16 ∨ i = 17 ∨ i = 18 ∨ i = 19 ∨ i = 20 ∨ i = 21 ∨ i = 22 ∨ i = 23 ∨ i = 24 ∨ i = 25 ∨ i = 26 ∨ i = 27 ∨ i = 28 ∨ i = 29 ∨ i = 30 ∨ i = 31 ∨ i = 32) with rfl | rfl | rfl | rfl | rfl | rfl | rfl | rfl | rfl | rfl | rfl | rfl | rfl | rfl | rfl | rfl | rfl | rfl | rfl | rfl | rfl | rfl | rfl | rfl | rfl | rfl | rfl | rfl | rfl | rfl | rfl | rfl | rfl
            · simp only [List.getElem?_toArray, List.getElem?_cons_zero, Option.some.injEq] at hi
              subst hi
              refine ⟨rfl, ?_⟩
              refine kp_val (v := .pointer (some ⟨kb, 0, none⟩)) ?_ ⟨_, rfl, rfl, by simpa only [getD_set3, Bool.or_false, show (0 == 5) = false from rfl, show (0 == 22) = false from rfl] using hC⟩
              simp [execOp, Act.eval, b12]
            · simp only [List.getElem?_toArray, List.getElem?_cons_zero, List.getElem?_cons_succ, Option.some.injEq] at hi
              subst hi
              refine ⟨rfl, ?_⟩
              refine kp_val (v := .slice (some ⟨g, off, none⟩) ln cap) ?_ ⟨_, rfl, rfl, by simpa only [getD_set3, Bool.or_false, show (1 == 5) = false from rfl, show (1 == 22) = false from rfl] using hC⟩
              simp [execOp, Act.eval, b0]
            · simp only [List.getElem?_toArray, List.getElem?_cons_zero, List.getElem?_cons_succ, Option.some.injEq] at hi
              subst hi
              refine ⟨rfl, ?_⟩
              refine kp_val (v := .int .i64 (j : Nat)) ?_ ⟨_, rfl, rfl, by simpa only [getD_set3, Bool.or_false, show (2 == 5) = false from rfl, show (2 == 22) = false from rfl] using hC⟩
              simp [execOp, Act.eval, b14]
            · simp only [List.getElem?_toArray, List.getElem?_cons_zero, List.getElem?_cons_succ, Option.some.injEq] at hi
              subst hi
              have t71 : a.tmps[71]?.getD undef = .slice (some ⟨g, off, none⟩) ln cap := by simpa [valOf, agI] using hdone 1 _ rfl (edge_of 1 (by kernel_rfl) hdl)
              have t72 : a.tmps[72]?.getD undef = .int .i64 (j : Nat) := by simpa [valOf, agI] using hdone 2 _ rfl (edge_of 2 (by kernel_rfl) hdl)
              refine ⟨rfl, ?_⟩
              refine kp_val (v := .pointer (some ⟨g, off + j, none⟩)) ?_ ⟨_, rfl, rfl, by simpa only [getD_set3, Bool.or_false, show (3 == 5) = false from rfl, show (3 == 22) = false from rfl] using hC⟩
              simp [execOp, Act.eval, t71, t72]
              try go_simp
            · simp only [List.getElem?_toArray, List.getElem?_cons_zero, List.getElem?_cons_succ, Option.some.injEq] at hi
              subst hi
              have t73 : a.tmps[73]?.getD undef = .pointer (some ⟨g, off + j, none⟩) := by simpa [valOf, agI] using hdone 3 _ rfl (edge_of 3 (by kernel_rfl) hdl)
              refine ⟨rfl, ?_⟩
              have pW := hC.1.cell pw id
              refine kp_val (v := .int .u32 (z : Nat)) ?_ ⟨_, rfl, rfl, by simpa only [getD_set3, Bool.or_false, show (4 == 5) = false from rfl, show (4 == 22) = false from rfl] using hC⟩
              simp [execOp, Act.eval, t73]
              try go_simp
            · simp only [List.getElem?_toArray, List.getElem?_cons_zero, List.getElem?_cons_succ, Option.some.injEq] at hi
              subst hi
              have t70 : a.tmps[70]?.getD undef = .pointer (some ⟨kb, 0, none⟩) := by simpa [valOf, agI] using hdone 0 _ rfl (edge_of 0 (by kernel_rfl) hdl)
              have t74 : a.tmps[74]?.getD undef = .int .u32 (z : Nat) := by simpa [valOf, agI] using hdone 4 _ rfl (edge_of 4 (by kernel_rfl) hdl)
              refine ⟨rfl, ?_⟩
              have h22 : ls.getD 22 true = false := by
                cases hh : ls.getD 22 true
                · rfl
                · have := closed_step 6 5 (by kernel_rfl) hcl (closed_step 7 6 (by kernel_rfl) hcl (closed_step 18 7 (by kernel_rfl) hcl (closed_step 19 18 (by kernel_rfl) hcl (closed_step 22 19 (by kernel_rfl) hcl hh))))
                  rw [hun] at this; cases this
              refine kp_callw (f := 45) (args := #[.pointer (some ⟨kb, 0, none⟩), .int .u32 (z : Nat)]) (v := .int .i64 0) ?_ (kbegin_calls (hC.2.1 hun) z hzu (by omega) (by omega)) (fun W' hw => ⟨_, rfl, rfl, hC.1.from hw.2 HS.out, fun h => absurd h (by rw [getD_set3]; simp), fun _ _ => hw.1, fun h => absurd h (by rw [getD_set3, h22]; decide)⟩)
              simp [execOp, resolve, invoke, Act.eval, t70, t74]
              try rfl
            · simp only [List.getElem?_toArray, List.getElem?_cons_zero, List.getElem?_cons_succ, Option.some.injEq] at hi
              subst hi
              have t75 : a.tmps[75]?.getD undef = .int .i64 0 := by simpa [valOf, agI] using hdone 5 _ rfl (edge_of 5 (by kernel_rfl) hdl)
              refine ⟨rfl, ?_⟩
              refine kp_val (v := .bool false) ?_ ⟨_, rfl, rfl, by simpa only [getD_set3, Bool.or_false, show (6 == 5) = false from rfl, show (6 == 22) = false from rfl] using hC⟩
              simp [execOp, Act.eval, t75]
              try go_simp
            · simp only [List.getElem?_toArray, List.getElem?_cons_zero, List.getElem?_cons_succ, Option.some.injEq] at hi
              subst hi
              have t76 : a.tmps[76]?.getD undef = .bool false := by simpa [valOf, agI] using hdone 6 _ rfl (edge_of 6 (by kernel_rfl) hdl)
              refine ⟨rfl, ?_⟩
              refine kp_val (v := .bool false) ?_ ⟨_, rfl, rfl, by simpa only [getD_set3, Bool.or_false, show (7 == 5) = false from rfl, show (7 == 22) = false from rfl] using hC⟩
              simp [execOp, Act.eval, t76]
              try go_simp
            · simp only [List.getElem?_toArray, List.getElem?_cons_zero, List.getElem?_cons_succ, Option.some.injEq] at hi
              subst hi
              have t77 : a.tmps[77]?.getD undef = .bool false := by simpa [valOf, agI] using hdone 7 _ rfl (edge_of 7 (by kernel_rfl) hdl)
              refine ⟨by simp [Region.wanted, yielded, get_bool t77], ?_⟩
              refine kp_val (v := .pointer (some ⟨kb, 0, none⟩)) ?_ ⟨_, rfl, rfl, by simpa only [getD_set3, Bool.or_false, show (8 == 5) = false from rfl, show (8 == 22) = false from rfl] using hC⟩
              simp [execOp, Act.eval, b12]
            · simp only [List.getElem?_toArray, List.getElem?_cons_zero, List.getElem?_cons_succ, Option.some.injEq] at hi
              subst hi
              have t78 : a.tmps[78]?.getD undef = .pointer (some ⟨kb, 0, none⟩) := by simpa [valOf, agI] using hdone 8 _ rfl (edge_of 8 (by kernel_rfl) hdl)
              have t77 : a.tmps[77]?.getD undef = .bool false := by simpa [valOf, agI] using hdone 7 _ rfl (edge_of 7 (by kernel_rfl) hdl)
              refine ⟨by simp [Region.wanted, yielded, get_bool t77], ?_⟩
              have h5 : ls.getD 5 true = true := closed_step 6 5 (by kernel_rfl) hcl (closed_step 7 6 (by kernel_rfl) hcl (edge_of 7 (by kernel_rfl) hdl))
              have h22 : ls.getD 22 true = false := by
                cases hh : ls.getD 22 true
                · rfl
                · have := closed_step 17 9 (by kernel_rfl) hcl (closed_step 18 17 (by kernel_rfl) hcl (closed_step 19 18 (by kernel_rfl) hcl (closed_step 22 19 (by kernel_rfl) hcl hh)))
                  rw [hun] at this; cases this
              obtain ⟨L3, t3, ht3, hK3⟩ := hC.2.2.1 h5 h22
              have hst := kstate_calls hK3.box
              rw [moreN_nil] at hst
              refine kp_call (f := 48) (args := #[.pointer (some ⟨kb, 0, none⟩)]) (v := .agg #[.int .u32 (z : Nat), .int .u32 (N : Nat), .int .i64 (0 : Nat), .int .u32 (0 : Nat), .bool false]) ?_ hst (fun W' hT => ⟨_, rfl, rfl, hC.1.trans hT, fun h => absurd h (by rw [getD_set3, h5]; decide), fun _ _ => ⟨L3, t3, ht3, hK3.still hT⟩, fun h => absurd h (by rw [getD_set3, h22]; decide)⟩)
              simp [execOp, resolve, invoke, Act.eval, t78]
              try rfl
            · simp only [List.getElem?_toArray, List.getElem?_cons_zero, List.getElem?_cons_succ, Option.some.injEq] at hi
              subst hi
              have t77 : a.tmps[77]?.getD undef = .bool false := by simpa [valOf, agI] using hdone 7 _ rfl (edge_of 7 (by kernel_rfl) hdl)
              refine ⟨by simp [Region.wanted, yielded, get_bool t77], ?_⟩
              refine kp_val (v := .slice (some ⟨g, off, none⟩) ln cap) ?_ ⟨_, rfl, rfl, by simpa only [getD_set3, Bool.or_false, show (10 == 5) = false from rfl, show (10 == 22) = false from rfl] using hC⟩
              simp [execOp, Act.eval, b0]
            · simp only [List.getElem?_toArray, List.getElem?_cons_zero, List.getElem?_cons_succ, Option.some.injEq] at hi
              subst hi
              have t77 : a.tmps[77]?.getD undef = .bool false := by simpa [valOf, agI] using hdone 7 _ rfl (edge_of 7 (by kernel_rfl) hdl)
              refine ⟨by simp [Region.wanted, yielded, get_bool t77], ?_⟩
              refine kp_val (v := .int .i64 (j : Nat)) ?_ ⟨_, rfl, rfl, by simpa only [getD_set3, Bool.or_false, show (11 == 5) = false from rfl, show (11 == 22) = false from rfl] using hC⟩
              simp [execOp, Act.eval, b14]
            · simp only [List.getElem?_toArray, List.getElem?_cons_zero, List.getElem?_cons_succ, Option.some.injEq] at hi
              subst hi
              have t80 : a.tmps[80]?.getD undef = .slice (some ⟨g, off, none⟩) ln cap := by simpa [valOf, agI] using hdone 10 _ rfl (edge_of 10 (by kernel_rfl) hdl)
              have t81 : a.tmps[81]?.getD undef = .int .i64 (j : Nat) := by simpa [valOf, agI] using hdone 11 _ rfl (edge_of 11 (by kernel_rfl) hdl)
              have t77 : a.tmps[77]?.getD undef = .bool false := by simpa [valOf, agI] using hdone 7 _ rfl (edge_of 7 (by kernel_rfl) hdl)
              refine ⟨by simp [Region.wanted, yielded, get_bool t77], ?_⟩
              refine kp_val (v := .pointer (some ⟨g, off + j, none⟩)) ?_ ⟨_, rfl, rfl, by simpa only [getD_set3, Bool.or_false, show (12 == 5) = false from rfl, show (12 == 22) = false from rfl] using hC⟩
              simp [execOp, Act.eval, t80, t81]
              try go_simp
            · simp only [List.getElem?_toArray, List.getElem?_cons_zero, List.getElem?_cons_succ, Option.some.injEq] at hi
              subst hi
              have t82 : a.tmps[82]?.getD undef = .pointer (some ⟨g, off + j, none⟩) := by simpa [valOf, agI] using hdone 12 _ rfl (edge_of 12 (by kernel_rfl) hdl)
              have t77 : a.tmps[77]?.getD undef = .bool false := by simpa [valOf, agI] using hdone 7 _ rfl (edge_of 7 (by kernel_rfl) hdl)
              refine ⟨by simp [Region.wanted, yielded, get_bool t77], ?_⟩
              have pW := hC.1.cell pw id
              refine kp_val (v := .int .u32 (z : Nat)) ?_ ⟨_, rfl, rfl, by simpa only [getD_set3, Bool.or_false, show (13 == 5) = false from rfl, show (13 == 22) = false from rfl] using hC⟩
              simp [execOp, Act.eval, t82]
              try go_simp
            · simp only [List.getElem?_toArray, List.getElem?_cons_zero, List.getElem?_cons_succ, Option.some.injEq] at hi
              subst hi
              have t77 : a.tmps[77]?.getD undef = .bool false := by simpa [valOf, agI] using hdone 7 _ rfl (edge_of 7 (by kernel_rfl) hdl)
              refine ⟨by simp [Region.wanted, yielded, get_bool t77], ?_⟩
              refine kp_val (v := .int .i64 (N : Nat)) ?_ ⟨_, rfl, rfl, by simpa only [getD_set3, Bool.or_false, show (14 == 5) = false from rfl, show (14 == 22) = false from rfl] using hC⟩
              simp [execOp, Act.eval, b1]
            · simp only [List.getElem?_toArray, List.getElem?_cons_zero, List.getElem?_cons_succ, Option.some.injEq] at hi
              subst hi
              have t84 : a.tmps[84]?.getD undef = .int .i64 (N : Nat) := by simpa [valOf, agI] using hdone 14 _ rfl (edge_of 14 (by kernel_rfl) hdl)
              have t77 : a.tmps[77]?.getD undef = .bool false := by simpa [valOf, agI] using hdone 7 _ rfl (edge_of 7 (by kernel_rfl) hdl)
              refine ⟨by simp [Region.wanted, yielded, get_bool t77], ?_⟩
              refine kp_val (v := .int .u32 (N : Nat)) ?_ ⟨_, rfl, rfl, by simpa only [getD_set3, Bool.or_false, show (15 == 5) = false from rfl, show (15 == 22) = false from rfl] using hC⟩
              simp [execOp, Act.eval, t84]
              try go_simp
            · simp only [List.getElem?_toArray, List.getElem?_cons_zero, List.getElem?_cons_succ, Option.some.injEq] at hi
              subst hi
              have t83 : a.tmps[83]?.getD undef = .int .u32 (z : Nat) := by simpa [valOf, agI] using hdone 13 _ rfl (edge_of 13 (by kernel_rfl) hdl)
              have t85 : a.tmps[85]?.getD undef = .int .u32 (N : Nat) := by simpa [valOf, agI] using hdone 15 _ rfl (edge_of 15 (by kernel_rfl) hdl)
              have t77 : a.tmps[77]?.getD undef = .bool false := by simpa [valOf, agI] using hdone 7 _ rfl (edge_of 7 (by kernel_rfl) hdl)
              refine ⟨by simp [Region.wanted, yielded, get_bool t77], ?_⟩
              have ev : ((#[(0, Operand.tmp 83), (1, Operand.tmp 85)] : Array (Nat × Operand)).map fun (i, x) => (i, a.eval x)).toList = [(0, .int .u32 (z : Nat)), (1, .int .u32 (N : Nat))] := by simp [Act.eval, t83, t85]
              refine wp_build 82 #[(0, Operand.tmp 83), (1, Operand.tmp 85)] rfl (by rw [ev]; kernel_rfl) ⟨_, rfl, ?_, by simpa only [getD_set3, Bool.or_false, show (16 == 5) = false from rfl, show (16 == 22) = false from rfl] using hC⟩
              show Value.agg _ = Value.agg _
              rw [ev]
              kernel_rfl
            · simp only [List.getElem?_toArray, List.getElem?_cons_zero, List.getElem?_cons_succ, Option.some.injEq] at hi
              subst hi
              have t79 : a.tmps[79]?.getD undef = .agg #[.int .u32 (z : Nat), .int .u32 (N : Nat), .int .i64 (0 : Nat), .int .u32 (0 : Nat), .bool false] := by simpa [valOf, agI] using hdone 9 _ rfl (edge_of 9 (by kernel_rfl) hdl)
              have t86 : a.tmps[86]?.getD undef = .agg #[.int .u32 (z : Nat), .int .u32 (N : Nat), .int .i64 (0 : Nat), .int .u32 (0 : Nat), .bool false] := by simpa [valOf, agI] using hdone 16 _ rfl (edge_of 16 (by kernel_rfl) hdl)
              have t77 : a.tmps[77]?.getD undef = .bool false := by simpa [valOf, agI] using hdone 7 _ rfl (edge_of 7 (by kernel_rfl) hdl)
              refine ⟨by simp [Region.wanted, yielded, get_bool t77], ?_⟩
              refine kp_val (v := .bool false) ?_ ⟨_, rfl, rfl, by simpa only [getD_set3, Bool.or_false, show (17 == 5) = false from rfl, show (17 == 22) = false from rfl] using hC⟩
              simp [execOp, Act.eval, t79, t86]
              try go_simp
            · simp only [List.getElem?_toArray, List.getElem?_cons_zero, List.getElem?_cons_succ, Option.some.injEq] at hi
              subst hi
              have t77 : a.tmps[77]?.getD undef = .bool false := by simpa [valOf, agI] using hdone 7 _ rfl (edge_of 7 (by kernel_rfl) hdl)
              have t87 : a.tmps[87]?.getD undef = .bool false := by simpa [valOf, agI] using hdone 17 _ rfl (edge_of 17 (by kernel_rfl) hdl)
              refine ⟨rfl, ?_⟩
              refine kp_val (v := .bool false) ?_ ⟨_, rfl, rfl, by simpa only [getD_set3, Bool.or_false, show (18 == 5) = false from rfl, show (18 == 22) = false from rfl] using hC⟩
              simp [execOp, Act.eval, t77, t87]
              try go_simp
            · simp only [List.getElem?_toArray, List.getElem?_cons_zero, List.getElem?_cons_succ, Option.some.injEq] at hi
              subst hi
              have t88 : a.tmps[88]?.getD undef = .bool false := by simpa [valOf, agI] using hdone 18 _ rfl (edge_of 18 (by kernel_rfl) hdl)
              refine ⟨rfl, ?_⟩
              refine kp_val (v := .bool false) ?_ ⟨_, rfl, rfl, by simpa only [getD_set3, Bool.or_false, show (19 == 5) = false from rfl, show (19 == 22) = false from rfl] using hC⟩
              simp [execOp, Act.eval, t88]
              try go_simp
            · simp only [List.getElem?_toArray, List.getElem?_cons_zero, List.getElem?_cons_succ, Option.some.injEq] at hi
              subst hi
              have t89 : a.tmps[89]?.getD undef = .bool false := by simpa [valOf, agI] using hdone 19 _ rfl (edge_of 19 (by kernel_rfl) hdl)
              refine ⟨by simp [Region.wanted, yielded, get_bool t89], ?_⟩
              refine kp_val (v := .pointer (some ⟨kb, 0, none⟩)) ?_ ⟨_, rfl, rfl, by simpa only [getD_set3, Bool.or_false, show (20 == 5) = false from rfl, show (20 == 22) = false from rfl] using hC⟩
              simp [execOp, Act.eval, b12]
            · simp only [List.getElem?_toArray, List.getElem?_cons_zero, List.getElem?_cons_succ, Option.some.injEq] at hi
              subst hi
              have t89 : a.tmps[89]?.getD undef = .bool false := by simpa [valOf, agI] using hdone 19 _ rfl (edge_of 19 (by kernel_rfl) hdl)
              refine ⟨by simp [Region.wanted, yielded, get_bool t89], ?_⟩
              refine kp_val (v := .string T) ?_ ⟨_, rfl, rfl, by simpa only [getD_set3, Bool.or_false, show (21 == 5) = false from rfl, show (21 == 22) = false from rfl] using hC⟩
              simp [execOp, Act.eval, b2]
            · simp only [List.getElem?_toArray, List.getElem?_cons_zero, List.getElem?_cons_succ, Option.some.injEq] at hi
              subst hi
              have t90 : a.tmps[90]?.getD undef = .pointer (some ⟨kb, 0, none⟩) := by simpa [valOf, agI] using hdone 20 _ rfl (edge_of 20 (by kernel_rfl) hdl)
              have t91 : a.tmps[91]?.getD undef = .string T := by simpa [valOf, agI] using hdone 21 _ rfl (edge_of 21 (by kernel_rfl) hdl)
              have t89 : a.tmps[89]?.getD undef = .bool false := by simpa [valOf, agI] using hdone 19 _ rfl (edge_of 19 (by kernel_rfl) hdl)
              refine ⟨by simp [Region.wanted, yielded, get_bool t89], ?_⟩
              have h9 : ls.getD 7 true = true := closed_step 18 7 (by kernel_rfl) hcl (closed_step 19 18 (by kernel_rfl) hcl (edge_of 19 (by kernel_rfl) hdl))
              have h5 : ls.getD 5 true = true := closed_step 6 5 (by kernel_rfl) hcl (closed_step 7 6 (by kernel_rfl) hcl h9)
              obtain ⟨L3, t3, ht3, hK3⟩ := hC.2.2.1 h5 hun
              refine kp_callw (f := 41) (args := #[.pointer (some ⟨kb, 0, none⟩), .string T]) (v := .int .i64 0) ?_ (kappend_calls hK3 T (by simp; omega) (by omega) (by omega)) (fun W' hw => ⟨_, rfl, rfl, hC.1.from hw.2 HS.out, fun h => absurd h (by rw [getD_set3, h5]; decide), fun _ h => absurd h (by rw [getD_set3]; simp), fun _ => by
                obtain ⟨L5, t5, ht5, hK5⟩ := hw.1
                rw [List.nil_append] at hK5
                exact ⟨L5, t5, by omega, hK5⟩⟩)
              simp [execOp, resolve, invoke, Act.eval, t90, t91]
              try rfl
            · simp only [List.getElem?_toArray, List.getElem?_cons_zero, List.getElem?_cons_succ, Option.some.injEq] at hi
              subst hi
              have t92 : a.tmps[92]?.getD undef = .int .i64 0 := by simpa [valOf, agI] using hdone 22 _ rfl (edge_of 22 (by kernel_rfl) hdl)
              have t89 : a.tmps[89]?.getD undef = .bool false := by simpa [valOf, agI] using hdone 19 _ rfl (edge_of 19 (by kernel_rfl) hdl)
              refine ⟨by simp [Region.wanted, yielded, get_bool t89], ?_⟩
              refine kp_val (v := .bool false) ?_ ⟨_, rfl, rfl, by simpa only [getD_set3, Bool.or_false, show (23 == 5) = false from rfl, show (23 == 22) = false from rfl] using hC⟩
              simp [execOp, Act.eval, t92]
              try go_simp
            · simp only [List.getElem?_toArray, List.getElem?_cons_zero, List.getElem?_cons_succ, Option.some.injEq] at hi
              subst hi
              have t89 : a.tmps[89]?.getD undef = .bool false := by simpa [valOf, agI] using hdone 19 _ rfl (edge_of 19 (by kernel_rfl) hdl)
              have t93 : a.tmps[93]?.getD undef = .bool false := by simpa [valOf, agI] using hdone 23 _ rfl (edge_of 23 (by kernel_rfl) hdl)
              refine ⟨rfl, ?_⟩
              refine kp_val (v := .bool false) ?_ ⟨_, rfl, rfl, by simpa only [getD_set3, Bool.or_false, show (24 == 5) = false from rfl, show (24 == 22) = false from rfl] using hC⟩
              simp [execOp, Act.eval, t89, t93]
              try go_simp
            · simp only [List.getElem?_toArray, List.getElem?_cons_zero, List.getElem?_cons_succ, Option.some.injEq] at hi
              subst hi
              have t94 : a.tmps[94]?.getD undef = .bool false := by simpa [valOf, agI] using hdone 24 _ rfl (edge_of 24 (by kernel_rfl) hdl)
              refine ⟨rfl, ?_⟩
              refine kp_val (v := .bool false) ?_ ⟨_, rfl, rfl, by simpa only [getD_set3, Bool.or_false, show (25 == 5) = false from rfl, show (25 == 22) = false from rfl] using hC⟩
              simp [execOp, Act.eval, t94]
              try go_simp
            · simp only [List.getElem?_toArray, List.getElem?_cons_zero, List.getElem?_cons_succ, Option.some.injEq] at hi
              subst hi
              have t95 : a.tmps[95]?.getD undef = .bool false := by simpa [valOf, agI] using hdone 25 _ rfl (edge_of 25 (by kernel_rfl) hdl)
              refine ⟨by simp [Region.wanted, yielded, get_bool t95], ?_⟩
              refine kp_val (v := .pointer (some ⟨kb, 0, none⟩)) ?_ ⟨_, rfl, rfl, by simpa only [getD_set3, Bool.or_false, show (26 == 5) = false from rfl, show (26 == 22) = false from rfl] using hC⟩
              simp [execOp, Act.eval, b12]
            · simp only [List.getElem?_toArray, List.getElem?_cons_zero, List.getElem?_cons_succ, Option.some.injEq] at hi
              subst hi
              have t96 : a.tmps[96]?.getD undef = .pointer (some ⟨kb, 0, none⟩) := by simpa [valOf, agI] using hdone 26 _ rfl (edge_of 26 (by kernel_rfl) hdl)
              have t95 : a.tmps[95]?.getD undef = .bool false := by simpa [valOf, agI] using hdone 25 _ rfl (edge_of 25 (by kernel_rfl) hdl)
              refine ⟨by simp [Region.wanted, yielded, get_bool t95], ?_⟩
              have h22 : ls.getD 22 true = true := closed_step 23 22 (by kernel_rfl) hcl (closed_step 24 23 (by kernel_rfl) hcl (closed_step 25 24 (by kernel_rfl) hcl (edge_of 25 (by kernel_rfl) hdl)))
              have h5 : ls.getD 5 true = true := closed_step 6 5 (by kernel_rfl) hcl (closed_step 7 6 (by kernel_rfl) hcl (closed_step 18 7 (by kernel_rfl) hcl (closed_step 19 18 (by kernel_rfl) hcl (closed_step 22 19 (by kernel_rfl) hcl h22))))
              obtain ⟨L5, t5, ht5, hK5⟩ := hC.2.2.2 h22
              have hst := kstate_calls hK5.box
              rw [ba_len, hTs, hm] at hst
              refine kp_call (f := 48) (args := #[.pointer (some ⟨kb, 0, none⟩)]) (v := .agg #[.int .u32 (z : Nat), .int .u32 (N : Nat), .int .i64 (k : Nat), .int .u32 (m : Nat), .bool false]) ?_ hst (fun W' hT => ⟨_, rfl, rfl, hC.1.trans hT, fun h => absurd h (by rw [getD_set3, h5]; decide), fun _ h => absurd h (by rw [getD_set3, h22]; decide), fun _ => ⟨L5, t5, ht5, hK5.still hT⟩⟩)
              simp [execOp, resolve, invoke, Act.eval, t96]
              try rfl
            · simp only [List.getElem?_toArray, List.getElem?_cons_zero, List.getElem?_cons_succ, Option.some.injEq] at hi
              subst hi
              have t97 : a.tmps[97]?.getD undef = .agg #[.int .u32 (z : Nat), .int .u32 (N : Nat), .int .i64 (k : Nat), .int .u32 (m : Nat), .bool false] := by simpa [valOf, agI] using hdone 27 _ rfl (edge_of 27 (by kernel_rfl) hdl)
              have t95 : a.tmps[95]?.getD undef = .bool false := by simpa [valOf, agI] using hdone 25 _ rfl (edge_of 25 (by kernel_rfl) hdl)
              refine ⟨by simp [Region.wanted, yielded, get_bool t95], ?_⟩
              refine kp_val (v := .int .i64 (k : Nat)) ?_ ⟨_, rfl, rfl, by simpa only [getD_set3, Bool.or_false, show (28 == 5) = false from rfl, show (28 == 22) = false from rfl] using hC⟩
              simp [execOp, Act.eval, t97]
              try go_simp
            · simp only [List.getElem?_toArray, List.getElem?_cons_zero, List.getElem?_cons_succ, Option.some.injEq] at hi
              subst hi
              have t95 : a.tmps[95]?.getD undef = .bool false := by simpa [valOf, agI] using hdone 25 _ rfl (edge_of 25 (by kernel_rfl) hdl)
              refine ⟨by simp [Region.wanted, yielded, get_bool t95], ?_⟩
              refine kp_val (v := .string T) ?_ ⟨_, rfl, rfl, by simpa only [getD_set3, Bool.or_false, show (29 == 5) = false from rfl, show (29 == 22) = false from rfl] using hC⟩
              simp [execOp, Act.eval, b2]
            · simp only [List.getElem?_toArray, List.getElem?_cons_zero, List.getElem?_cons_succ, Option.some.injEq] at hi
              subst hi
              have t99 : a.tmps[99]?.getD undef = .string T := by simpa [valOf, agI] using hdone 29 _ rfl (edge_of 29 (by kernel_rfl) hdl)
              have t95 : a.tmps[95]?.getD undef = .bool false := by simpa [valOf, agI] using hdone 25 _ rfl (edge_of 25 (by kernel_rfl) hdl)
              refine ⟨by simp [Region.wanted, yielded, get_bool t95], ?_⟩
              have w99 : ∀ h : 99 < a.tmps.size, a.tmps[99] = .string T := fun h => by
                have h2 := t99
                rw [Array.getElem?_eq_getElem h] at h2
                exact h2
              refine kp_val (v := .int .i64 (k : Nat)) ?_ ⟨_, rfl, rfl, by simpa only [getD_set3, Bool.or_false, show (30 == 5) = false from rfl, show (30 == 22) = false from rfl] using hC⟩
              simp [execOp, w99]
              try go_simp
            · simp only [List.getElem?_toArray, List.getElem?_cons_zero, List.getElem?_cons_succ, Option.some.injEq] at hi
              subst hi
              have t98 : a.tmps[98]?.getD undef = .int .i64 (k : Nat) := by simpa [valOf, agI] using hdone 28 _ rfl (edge_of 28 (by kernel_rfl) hdl)
              have t100 : a.tmps[100]?.getD undef = .int .i64 (k : Nat) := by simpa [valOf, agI] using hdone 30 _ rfl (edge_of 30 (by kernel_rfl) hdl)
              have t95 : a.tmps[95]?.getD undef = .bool false := by simpa [valOf, agI] using hdone 25 _ rfl (edge_of 25 (by kernel_rfl) hdl)
              refine ⟨by simp [Region.wanted, yielded, get_bool t95], ?_⟩
              refine kp_val (v := .bool false) ?_ ⟨_, rfl, rfl, by simpa only [getD_set3, Bool.or_false, show (31 == 5) = false from rfl, show (31 == 22) = false from rfl] using hC⟩
              simp [execOp, Act.eval, t98, t100]
              try go_simp
            · simp only [List.getElem?_toArray, List.getElem?_cons_zero, List.getElem?_cons_succ, Option.some.injEq] at hi
              subst hi
              have t95 : a.tmps[95]?.getD undef = .bool false := by simpa [valOf, agI] using hdone 25 _ rfl (edge_of 25 (by kernel_rfl) hdl)
              have t101 : a.tmps[101]?.getD undef = .bool false := by simpa [valOf, agI] using hdone 31 _ rfl (edge_of 31 (by kernel_rfl) hdl)
              refine ⟨rfl, ?_⟩
              refine kp_val (v := .bool false) ?_ ⟨_, rfl, rfl, by simpa only [getD_set3, Bool.or_false, show (32 == 5) = false from rfl, show (32 == 22) = false from rfl] using hC⟩
              simp [execOp, Act.eval, t95, t101]
              try go_simp
          · intro ls a W hall hC hbase hdone
            have h22 : ls.getD 22 true = true := hall 22 (by decide)
            obtain ⟨L5, t5, ht5, hK5⟩ := hC.2.2.2 h22
            have hTW := hC.1
            have hx : a.tmps.getD 102 undef = .bool false := hdone 32 _ rfl
            obtain ⟨hbd, hbs, hbb⟩ := hbase
            clear hall hdone hC h22
            obtain ⟨⟨lst⟩, df⟩ := a
            have hl : lst.length = 117 := hbs
            clear hbs
            obtain ⟨y0, l0, rfl, hl0⟩ := kp_cons (n := 116) hl
            clear hl
            obtain ⟨y1, l1, rfl, hl1⟩ := kp_cons (n := 115) hl0
            clear hl0
            obtain ⟨y2, l2, rfl, hl2⟩ := kp_cons (n := 114) hl1
            clear hl1
            obtain ⟨y3, l3, rfl, hl3⟩ := kp_cons (n := 113) hl2
            clear hl2
            obtain ⟨y4, l4, rfl, hl4⟩ := kp_cons (n := 112) hl3
            clear hl3
            obtain ⟨y5, l5, rfl, hl5⟩ := kp_cons (n := 111) hl4
            clear hl4
            obtain ⟨y6, l6, rfl, hl6⟩ := kp_cons (n := 110) hl5
            clear hl5
            obtain ⟨y7, l7, rfl, hl7⟩ := kp_cons (n := 109) hl6
            clear hl6
            obtain ⟨y8, l8, rfl, hl8⟩ := kp_cons (n := 108) hl7
            clear hl7
            obtain ⟨y9, l9, rfl, hl9⟩ := kp_cons (n := 107) hl8
            clear hl8
            obtain ⟨y10, l10, rfl, hl10⟩ := kp_cons (n := 106) hl9
            clear hl9
            obtain ⟨y11, l11, rfl, hl11⟩ := kp_cons (n := 105) hl10
            clear hl10
            obtain ⟨y12, l12, rfl, hl12⟩ := kp_cons (n := 104) hl11
            clear hl11
            obtain ⟨y13, l13, rfl, hl13⟩ := kp_cons (n := 103) hl12
            clear hl12
            obtain ⟨y14, l14, rfl, hl14⟩ := kp_cons (n := 102) hl13
            clear hl13
            obtain ⟨y15, l15, rfl, hl15⟩ := kp_cons (n := 101) hl14
            clear hl14
            obtain ⟨y16, l16, rfl, hl16⟩ := kp_cons (n := 100) hl15
            clear hl15
            obtain ⟨y17, l17, rfl, hl17⟩ := kp_cons (n := 99) hl16
            clear hl16
            obtain ⟨y18, l18, rfl, hl18⟩ := kp_cons (n := 98) hl17
            clear hl17
            obtain ⟨y19, l19, rfl, hl19⟩ := kp_cons (n := 97) hl18
            clear hl18
            obtain ⟨y20, l20, rfl, hl20⟩ := kp_cons (n := 96) hl19
            clear hl19
            obtain ⟨y21, l21, rfl, hl21⟩ := kp_cons (n := 95) hl20
            clear hl20
            obtain ⟨y22, l22, rfl, hl22⟩ := kp_cons (n := 94) hl21
            clear hl21
            obtain ⟨y23, l23, rfl, hl23⟩ := kp_cons (n := 93) hl22
            clear hl22
            obtain ⟨y24, l24, rfl, hl24⟩ := kp_cons (n := 92) hl23
            clear hl23
            obtain ⟨y25, l25, rfl, hl25⟩ := kp_cons (n := 91) hl24
            clear hl24
            obtain ⟨y26, l26, rfl, hl26⟩ := kp_cons (n := 90) hl25
            clear hl25
            obtain ⟨y27, l27, rfl, hl27⟩ := kp_cons (n := 89) hl26
            clear hl26
            obtain ⟨y28, l28, rfl, hl28⟩ := kp_cons (n := 88) hl27
            clear hl27
            obtain ⟨y29, l29, rfl, hl29⟩ := kp_cons (n := 87) hl28
            clear hl28
            obtain ⟨y30, l30, rfl, hl30⟩ := kp_cons (n := 86) hl29
            clear hl29
            obtain ⟨y31, l31, rfl, hl31⟩ := kp_cons (n := 85) hl30
            clear hl30
            obtain ⟨y32, l32, rfl, hl32⟩ := kp_cons (n := 84) hl31
            clear hl31
            obtain ⟨y33, l33, rfl, hl33⟩ := kp_cons (n := 83) hl32
            clear hl32
            obtain ⟨y34, l34, rfl, hl34⟩ := kp_cons (n := 82) hl33
            clear hl33
            obtain ⟨y35, l35, rfl, hl35⟩ := kp_cons (n := 81) hl34
            clear hl34
            obtain ⟨y36, l36, rfl, hl36⟩ := kp_cons (n := 80) hl35
            clear hl35
            obtain ⟨y37, l37, rfl, hl37⟩ := kp_cons (n := 79) hl36
            clear hl36
            obtain ⟨y38, l38, rfl, hl38⟩ := kp_cons (n := 78) hl37
            clear hl37
            obtain ⟨y39, l39, rfl, hl39⟩ := kp_cons (n := 77) hl38
            clear hl38
            obtain ⟨y40, l40, rfl, hl40⟩ := kp_cons (n := 76) hl39
            clear hl39
            obtain ⟨y41, l41, rfl, hl41⟩ := kp_cons (n := 75) hl40
            clear hl40
            obtain ⟨y42, l42, rfl, hl42⟩ := kp_cons (n := 74) hl41
            clear hl41
            obtain ⟨y43, l43, rfl, hl43⟩ := kp_cons (n := 73) hl42
            clear hl42
            obtain ⟨y44, l44, rfl, hl44⟩ := kp_cons (n := 72) hl43
            clear hl43
            obtain ⟨y45, l45, rfl, hl45⟩ := kp_cons (n := 71) hl44
            clear hl44
            obtain ⟨y46, l46, rfl, hl46⟩ := kp_cons (n := 70) hl45
            clear hl45
            obtain ⟨y47, l47, rfl, hl47⟩ := kp_cons (n := 69) hl46
            clear hl46
            obtain ⟨y48, l48, rfl, hl48⟩ := kp_cons (n := 68) hl47
            clear hl47
            obtain ⟨y49, l49, rfl, hl49⟩ := kp_cons (n := 67) hl48
            clear hl48
            obtain ⟨y50, l50, rfl, hl50⟩ := kp_cons (n := 66) hl49
            clear hl49
            obtain ⟨y51, l51, rfl, hl51⟩ := kp_cons (n := 65) hl50
            clear hl50
            obtain ⟨y52, l52, rfl, hl52⟩ := kp_cons (n := 64) hl51
            clear hl51
            obtain ⟨y53, l53, rfl, hl53⟩ := kp_cons (n := 63) hl52
            clear hl52
            obtain ⟨y54, l54, rfl, hl54⟩ := kp_cons (n := 62) hl53
            clear hl53
            obtain ⟨y55, l55, rfl, hl55⟩ := kp_cons (n := 61) hl54
            clear hl54
            obtain ⟨y56, l56, rfl, hl56⟩ := kp_cons (n := 60) hl55
            clear hl55
            obtain ⟨y57, l57, rfl, hl57⟩ := kp_cons (n := 59) hl56
            clear hl56
            obtain ⟨y58, l58, rfl, hl58⟩ := kp_cons (n := 58) hl57
            clear hl57
            obtain ⟨y59, l59, rfl, hl59⟩ := kp_cons (n := 57) hl58
            clear hl58
            obtain ⟨y60, l60, rfl, hl60⟩ := kp_cons (n := 56) hl59
            clear hl59
            obtain ⟨y61, l61, rfl, hl61⟩ := kp_cons (n := 55) hl60
            clear hl60
            obtain ⟨y62, l62, rfl, hl62⟩ := kp_cons (n := 54) hl61
            clear hl61
            obtain ⟨y63, l63, rfl, hl63⟩ := kp_cons (n := 53) hl62
            clear hl62
            obtain ⟨y64, l64, rfl, hl64⟩ := kp_cons (n := 52) hl63
            clear hl63
            obtain ⟨y65, l65, rfl, hl65⟩ := kp_cons (n := 51) hl64
            clear hl64
            obtain ⟨y66, l66, rfl, hl66⟩ := kp_cons (n := 50) hl65
            clear hl65
            obtain ⟨y67, l67, rfl, hl67⟩ := kp_cons (n := 49) hl66
            clear hl66
            obtain ⟨y68, l68, rfl, hl68⟩ := kp_cons (n := 48) hl67
            clear hl67
            obtain ⟨y69, l69, rfl, hl69⟩ := kp_cons (n := 47) hl68
            clear hl68
            obtain ⟨y70, l70, rfl, hl70⟩ := kp_cons (n := 46) hl69
            clear hl69
            obtain ⟨y71, l71, rfl, hl71⟩ := kp_cons (n := 45) hl70
            clear hl70
            obtain ⟨y72, l72, rfl, hl72⟩ := kp_cons (n := 44) hl71
            clear hl71
            obtain ⟨y73, l73, rfl, hl73⟩ := kp_cons (n := 43) hl72
            clear hl72
            obtain ⟨y74, l74, rfl, hl74⟩ := kp_cons (n := 42) hl73
            clear hl73
            obtain ⟨y75, l75, rfl, hl75⟩ := kp_cons (n := 41) hl74
            clear hl74
            obtain ⟨y76, l76, rfl, hl76⟩ := kp_cons (n := 40) hl75
            clear hl75
            obtain ⟨y77, l77, rfl, hl77⟩ := kp_cons (n := 39) hl76
            clear hl76
            obtain ⟨y78, l78, rfl, hl78⟩ := kp_cons (n := 38) hl77
            clear hl77
            obtain ⟨y79, l79, rfl, hl79⟩ := kp_cons (n := 37) hl78
            clear hl78
            obtain ⟨y80, l80, rfl, hl80⟩ := kp_cons (n := 36) hl79
            clear hl79
            obtain ⟨y81, l81, rfl, hl81⟩ := kp_cons (n := 35) hl80
            clear hl80
            obtain ⟨y82, l82, rfl, hl82⟩ := kp_cons (n := 34) hl81
            clear hl81
            obtain ⟨y83, l83, rfl, hl83⟩ := kp_cons (n := 33) hl82
            clear hl82
            obtain ⟨y84, l84, rfl, hl84⟩ := kp_cons (n := 32) hl83
            clear hl83
            obtain ⟨y85, l85, rfl, hl85⟩ := kp_cons (n := 31) hl84
            clear hl84
            obtain ⟨y86, l86, rfl, hl86⟩ := kp_cons (n := 30) hl85
            clear hl85
            obtain ⟨y87, l87, rfl, hl87⟩ := kp_cons (n := 29) hl86
            clear hl86
            obtain ⟨y88, l88, rfl, hl88⟩ := kp_cons (n := 28) hl87
            clear hl87
            obtain ⟨y89, l89, rfl, hl89⟩ := kp_cons (n := 27) hl88
            clear hl88
            obtain ⟨y90, l90, rfl, hl90⟩ := kp_cons (n := 26) hl89
            clear hl89
            obtain ⟨y91, l91, rfl, hl91⟩ := kp_cons (n := 25) hl90
            clear hl90
            obtain ⟨y92, l92, rfl, hl92⟩ := kp_cons (n := 24) hl91
            clear hl91
            obtain ⟨y93, l93, rfl, hl93⟩ := kp_cons (n := 23) hl92
            clear hl92
            obtain ⟨y94, l94, rfl, hl94⟩ := kp_cons (n := 22) hl93
            clear hl93
            obtain ⟨y95, l95, rfl, hl95⟩ := kp_cons (n := 21) hl94
            clear hl94
            obtain ⟨y96, l96, rfl, hl96⟩ := kp_cons (n := 20) hl95
            clear hl95
            obtain ⟨y97, l97, rfl, hl97⟩ := kp_cons (n := 19) hl96
            clear hl96
            obtain ⟨y98, l98, rfl, hl98⟩ := kp_cons (n := 18) hl97
            clear hl97
            obtain ⟨y99, l99, rfl, hl99⟩ := kp_cons (n := 17) hl98
            clear hl98
            obtain ⟨y100, l100, rfl, hl100⟩ := kp_cons (n := 16) hl99
            clear hl99
            obtain ⟨y101, l101, rfl, hl101⟩ := kp_cons (n := 15) hl100
            clear hl100
            obtain ⟨y102, l102, rfl, hl102⟩ := kp_cons (n := 14) hl101
            clear hl101
            obtain ⟨y103, l103, rfl, hl103⟩ := kp_cons (n := 13) hl102
            clear hl102
            obtain ⟨y104, l104, rfl, hl104⟩ := kp_cons (n := 12) hl103
            clear hl103
            obtain ⟨y105, l105, rfl, hl105⟩ := kp_cons (n := 11) hl104
            clear hl104
            obtain ⟨y106, l106, rfl, hl106⟩ := kp_cons (n := 10) hl105
            clear hl105
            obtain ⟨y107, l107, rfl, hl107⟩ := kp_cons (n := 9) hl106
            clear hl106
            obtain ⟨y108, l108, rfl, hl108⟩ := kp_cons (n := 8) hl107
            clear hl107
            obtain ⟨y109, l109, rfl, hl109⟩ := kp_cons (n := 7) hl108
            clear hl108
            obtain ⟨y110, l110, rfl, hl110⟩ := kp_cons (n := 6) hl109
            clear hl109
            obtain ⟨y111, l111, rfl, hl111⟩ := kp_cons (n := 5) hl110
            clear hl110
            obtain ⟨y112, l112, rfl, hl112⟩ := kp_cons (n := 4) hl111
            clear hl111
            obtain ⟨y113, l113, rfl, hl113⟩ := kp_cons (n := 3) hl112
            clear hl112
            obtain ⟨y114, l114, rfl, hl114⟩ := kp_cons (n := 2) hl113
            clear hl113
            obtain ⟨y115, l115, rfl, hl115⟩ := kp_cons (n := 1) hl114
            clear hl114
            obtain ⟨y116, l116, rfl, hl116⟩ := kp_cons (n := 0) hl115
            clear hl115
            obtain rfl := List.eq_nil_of_length_eq_zero hl116
            have hx2 : y102 = .bool false := hx
            subst hx2
            clear hx hl116
            have eq0 := hbb 0 (noDst_spec (by kernel_rfl))
            simp only [List.getElem?_toArray, List.getElem?_cons_zero, Option.some.injEq] at eq0
            subst eq0
            have eq1 := hbb 1 (noDst_spec (by kernel_rfl))
            simp only [List.getElem?_toArray, List.getElem?_cons_zero, List.getElem?_cons_succ, Option.some.injEq] at eq1
            subst eq1
            have eq2 := hbb 2 (noDst_spec (by kernel_rfl))
            simp only [List.getElem?_toArray, List.getElem?_cons_zero, List.getElem?_cons_succ, Option.some.injEq] at eq2
            subst eq2
            have eq3 := hbb 3 (noDst_spec (by kernel_rfl))
            simp only [List.getElem?_toArray, List.getElem?_cons_zero, List.getElem?_cons_succ, Option.some.injEq] at eq3
            subst eq3
            have eq4 := hbb 4 (noDst_spec (by kernel_rfl))
            simp only [List.getElem?_toArray, List.getElem?_cons_zero, List.getElem?_cons_succ, Option.some.injEq] at eq4
            subst eq4
            have eq5 := hbb 5 (noDst_spec (by kernel_rfl))
            simp only [List.getElem?_toArray, List.getElem?_cons_zero, List.getElem?_cons_succ, Option.some.injEq] at eq5
            subst eq5
            have eq6 := hbb 6 (noDst_spec (by kernel_rfl))
            simp only [List.getElem?_toArray, List.getElem?_cons_zero, List.getElem?_cons_succ, Option.some.injEq] at eq6
            subst eq6
            have eq7 := hbb 7 (noDst_spec (by kernel_rfl))
            simp only [List.getElem?_toArray, List.getElem?_cons_zero, List.getElem?_cons_succ, Option.some.injEq] at eq7
            subst eq7
            have eq8 := hbb 8 (noDst_spec (by kernel_rfl))
            simp only [List.getElem?_toArray, List.getElem?_cons_zero, List.getElem?_cons_succ, Option.some.injEq] at eq8
            subst eq8
            have eq9 := hbb 9 (noDst_spec (by kernel_rfl))
            simp only [List.getElem?_toArray, List.getElem?_cons_zero, List.getElem?_cons_succ, Option.some.injEq] at eq9
            subst eq9
            have eq10 := hbb 10 (noDst_spec (by kernel_rfl))
            simp only [List.getElem?_toArray, List.getElem?_cons_zero, List.getElem?_cons_succ, Option.some.injEq] at eq10
            subst eq10
            have eq11 := hbb 11 (noDst_spec (by kernel_rfl))
            simp only [List.getElem?_toArray, List.getElem?_cons_zero, List.getElem?_cons_succ, Option.some.injEq] at eq11
            subst eq11
            have eq12 := hbb 12 (noDst_spec (by kernel_rfl))
            simp only [List.getElem?_toArray, List.getElem?_cons_zero, List.getElem?_cons_succ, Option.some.injEq] at eq12
            subst eq12
            have eq13 := hbb 13 (noDst_spec (by kernel_rfl))
            simp only [List.getElem?_toArray, List.getElem?_cons_zero, List.getElem?_cons_succ, Option.some.injEq] at eq13
            subst eq13
            have eq14 := hbb 14 (noDst_spec (by kernel_rfl))
            simp only [List.getElem?_toArray, List.getElem?_cons_zero, List.getElem?_cons_succ, Option.some.injEq] at eq14
            subst eq14
            have eq15 := hbb 15 (noDst_spec (by kernel_rfl))
            simp only [List.getElem?_toArray, List.getElem?_cons_zero, List.getElem?_cons_succ, Option.some.injEq] at eq15
            subst eq15
            have eq16 := hbb 16 (noDst_spec (by kernel_rfl))
            simp only [List.getElem?_toArray, List.getElem?_cons_zero, List.getElem?_cons_succ, Option.some.injEq] at eq16
            subst eq16
            have eq17 := hbb 17 (noDst_spec (by kernel_rfl))
            simp only [List.getElem?_toArray, List.getElem?_cons_zero, List.getElem?_cons_succ, Option.some.injEq] at eq17
            subst eq17
            have eq18 := hbb 18 (noDst_spec (by kernel_rfl))
            simp only [List.getElem?_toArray, List.getElem?_cons_zero, List.getElem?_cons_succ, Option.some.injEq] at eq18
            subst eq18
            have eq19 := hbb 19 (noDst_spec (by kernel_rfl))
            simp only [List.getElem?_toArray, List.getElem?_cons_zero, List.getElem?_cons_succ, Option.some.injEq] at eq19
            subst eq19
            have eq20 := hbb 20 (noDst_spec (by kernel_rfl))
            simp only [List.getElem?_toArray, List.getElem?_cons_zero, List.getElem?_cons_succ, Option.some.injEq] at eq20
            subst eq20
            have eq21 := hbb 21 (noDst_spec (by kernel_rfl))
            simp only [List.getElem?_toArray, List.getElem?_cons_zero, List.getElem?_cons_succ, Option.some.injEq] at eq21
            subst eq21
            have eq22 := hbb 22 (noDst_spec (by kernel_rfl))
            simp only [List.getElem?_toArray, List.getElem?_cons_zero, List.getElem?_cons_succ, Option.some.injEq] at eq22
            subst eq22
            have eq23 := hbb 23 (noDst_spec (by kernel_rfl))
            simp only [List.getElem?_toArray, List.getElem?_cons_zero, List.getElem?_cons_succ, Option.some.injEq] at eq23
            subst eq23
            have eq24 := hbb 24 (noDst_spec (by kernel_rfl))
            simp only [List.getElem?_toArray, List.getElem?_cons_zero, List.getElem?_cons_succ, Option.some.injEq] at eq24
            subst eq24
            have eq25 := hbb 25 (noDst_spec (by kernel_rfl))
            simp only [List.getElem?_toArray, List.getElem?_cons_zero, List.getElem?_cons_succ, Option.some.injEq] at eq25
            subst eq25
            have eq26 := hbb 26 (noDst_spec (by kernel_rfl))
            simp only [List.getElem?_toArray, List.getElem?_cons_zero, List.getElem?_cons_succ, Option.some.injEq] at eq26
            subst eq26
            have eq27 := hbb 27 (noDst_spec (by kernel_rfl))
            simp only [List.getElem?_toArray, List.getElem?_cons_zero, List.getElem?_cons_succ, Option.some.injEq] at eq27
            subst eq27
            have eq28 := hbb 28 (noDst_spec (by kernel_rfl))
            simp only [List.getElem?_toArray, List.getElem?_cons_zero, List.getElem?_cons_succ, Option.some.injEq] at eq28
            subst eq28
            have eq29 := hbb 29 (noDst_spec (by kernel_rfl))
            simp only [List.getElem?_toArray, List.getElem?_cons_zero, List.getElem?_cons_succ, Option.some.injEq] at eq29
            subst eq29
            have eq30 := hbb 30 (noDst_spec (by kernel_rfl))
            simp only [List.getElem?_toArray, List.getElem?_cons_zero, List.getElem?_cons_succ, Option.some.injEq] at eq30
            subst eq30
            have eq31 := hbb 31 (noDst_spec (by kernel_rfl))
            simp only [List.getElem?_toArray, List.getElem?_cons_zero, List.getElem?_cons_succ, Option.some.injEq] at eq31
            subst eq31
            have eq32 := hbb 32 (noDst_spec (by kernel_rfl))
            simp only [List.getElem?_toArray, List.getElem?_cons_zero, List.getElem?_cons_succ, Option.some.injEq] at eq32
            subst eq32
            have eq33 := hbb 33 (noDst_spec (by kernel_rfl))
            simp only [List.getElem?_toArray, List.getElem?_cons_zero, List.getElem?_cons_succ, Option.some.injEq] at eq33
            subst eq33
            have eq34 := hbb 34 (noDst_spec (by kernel_rfl))
            simp only [List.getElem?_toArray, List.getElem?_cons_zero, List.getElem?_cons_succ, Option.some.injEq] at eq34
            subst eq34
            have eq35 := hbb 35 (noDst_spec (by kernel_rfl))
            simp only [List.getElem?_toArray, List.getElem?_cons_zero, List.getElem?_cons_succ, Option.some.injEq] at eq35
            subst eq35
            have eq36 := hbb 36 (noDst_spec (by kernel_rfl))
            simp only [List.getElem?_toArray, List.getElem?_cons_zero, List.getElem?_cons_succ, Option.some.injEq] at eq36
            subst eq36
            have eq37 := hbb 37 (noDst_spec (by kernel_rfl))
            simp only [List.getElem?_toArray, List.getElem?_cons_zero, List.getElem?_cons_succ, Option.some.injEq] at eq37
            subst eq37
            have eq38 := hbb 38 (noDst_spec (by kernel_rfl))
            simp only [List.getElem?_toArray, List.getElem?_cons_zero, List.getElem?_cons_succ, Option.some.injEq] at eq38
            subst eq38
            have eq39 := hbb 39 (noDst_spec (by kernel_rfl))
            simp only [List.getElem?_toArray, List.getElem?_cons_zero, List.getElem?_cons_succ, Option.some.injEq] at eq39
            subst eq39
            have eq40 := hbb 40 (noDst_spec (by kernel_rfl))
            simp only [List.getElem?_toArray, List.getElem?_cons_zero, List.getElem?_cons_succ, Option.some.injEq] at eq40
            subst eq40
            have eq41 := hbb 41 (noDst_spec (by kernel_rfl))
            simp only [List.getElem?_toArray, List.getElem?_cons_zero, List.getElem?_cons_succ, Option.some.injEq] at eq41
            subst eq41
            have eq42 := hbb 42 (noDst_spec (by kernel_rfl))
            simp only [List.getElem?_toArray, List.getElem?_cons_zero, List.getElem?_cons_succ, Option.some.injEq] at eq42
            subst eq42
            have eq43 := hbb 43 (noDst_spec (by kernel_rfl))
            simp only [List.getElem?_toArray, List.getElem?_cons_zero, List.getElem?_cons_succ, Option.some.injEq] at eq43
            subst eq43
            have eq44 := hbb 44 (noDst_spec (by kernel_rfl))
            simp only [List.getElem?_toArray, List.getElem?_cons_zero, List.getElem?_cons_succ, Option.some.injEq] at eq44
            subst eq44
            have eq45 := hbb 45 (noDst_spec (by kernel_rfl))
            simp only [List.getElem?_toArray, List.getElem?_cons_zero, List.getElem?_cons_succ, Option.some.injEq] at eq45
            subst eq45
            have eq46 := hbb 46 (noDst_spec (by kernel_rfl))
            simp only [List.getElem?_toArray, List.getElem?_cons_zero, List.getElem?_cons_succ, Option.some.injEq] at eq46
            subst eq46
            have eq47 := hbb 47 (noDst_spec (by kernel_rfl))
            simp only [List.getElem?_toArray, List.getElem?_cons_zero, List.getElem?_cons_succ, Option.some.injEq] at eq47
            subst eq47
            have eq48 := hbb 48 (noDst_spec (by kernel_rfl))
            simp only [List.getElem?_toArray, List.getElem?_cons_zero, List.getElem?_cons_succ, Option.some.injEq] at eq48
            subst eq48
            have eq49 := hbb 49 (noDst_spec (by kernel_rfl))
            simp only [List.getElem?_toArray, List.getElem?_cons_zero, List.getElem?_cons_succ, Option.some.injEq] at eq49
            subst eq49
            have eq50 := hbb 50 (noDst_spec (by kernel_rfl))
            simp only [List.getElem?_toArray, List.getElem?_cons_zero, List.getElem?_cons_succ, Option.some.injEq] at eq50
            subst eq50
            have eq51 := hbb 51 (noDst_spec (by kernel_rfl))
            simp only [List.getElem?_toArray, List.getElem?_cons_zero, List.getElem?_cons_succ, Option.some.injEq] at eq51
            subst eq51
            have eq52 := hbb 52 (noDst_spec (by kernel_rfl))
            simp only [List.getElem?_toArray, List.getElem?_cons_zero, List.getElem?_cons_succ, Option.some.injEq] at eq52
            subst eq52
            have eq53 := hbb 53 (noDst_spec (by kernel_rfl))
            simp only [List.getElem?_toArray, List.getElem?_cons_zero, List.getElem?_cons_succ, Option.some.injEq] at eq53
            subst eq53
            have eq54 := hbb 54 (noDst_spec (by kernel_rfl))
            simp only [List.getElem?_toArray, List.getElem?_cons_zero, List.getElem?_cons_succ, Option.some.injEq] at eq54
            subst eq54
            have eq55 := hbb 55 (noDst_spec (by kernel_rfl))
            simp only [List.getElem?_toArray, List.getElem?_cons_zero, List.getElem?_cons_succ, Option.some.injEq] at eq55
            subst eq55
            have eq56 := hbb 56 (noDst_spec (by kernel_rfl))
            simp only [List.getElem?_toArray, List.getElem?_cons_zero, List.getElem?_cons_succ, Option.some.injEq] at eq56
            subst eq56
            have eq57 := hbb 57 (noDst_spec (by kernel_rfl))
            simp only [List.getElem?_toArray, List.getElem?_cons_zero, List.getElem?_cons_succ, Option.some.injEq] at eq57
            subst eq57
            have eq58 := hbb 58 (noDst_spec (by kernel_rfl))
            simp only [List.getElem?_toArray, List.getElem?_cons_zero, List.getElem?_cons_succ, Option.some.injEq] at eq58
            subst eq58
            have eq59 := hbb 59 (noDst_spec (by kernel_rfl))
            simp only [List.getElem?_toArray, List.getElem?_cons_zero, List.getElem?_cons_succ, Option.some.injEq] at eq59
            subst eq59
            have eq60 := hbb 60 (noDst_spec (by kernel_rfl))
            simp only [List.getElem?_toArray, List.getElem?_cons_zero, List.getElem?_cons_succ, Option.some.injEq] at eq60
            subst eq60
            have eq61 := hbb 61 (noDst_spec (by kernel_rfl))
            simp only [List.getElem?_toArray, List.getElem?_cons_zero, List.getElem?_cons_succ, Option.some.injEq] at eq61
            subst eq61
            have eq62 := hbb 62 (noDst_spec (by kernel_rfl))
            simp only [List.getElem?_toArray, List.getElem?_cons_zero, List.getElem?_cons_succ, Option.some.injEq] at eq62
            subst eq62
            have eq63 := hbb 63 (noDst_spec (by kernel_rfl))
            simp only [List.getElem?_toArray, List.getElem?_cons_zero, List.getElem?_cons_succ, Option.some.injEq] at eq63
            subst eq63
            have eq64 := hbb 64 (noDst_spec (by kernel_rfl))
            simp only [List.getElem?_toArray, List.getElem?_cons_zero, List.getElem?_cons_succ, Option.some.injEq] at eq64
            subst eq64
            have eq65 := hbb 65 (noDst_spec (by kernel_rfl))
            simp only [List.getElem?_toArray, List.getElem?_cons_zero, List.getElem?_cons_succ, Option.some.injEq] at eq65
            subst eq65
            have eq66 := hbb 66 (noDst_spec (by kernel_rfl))
            simp only [List.getElem?_toArray, List.getElem?_cons_zero, List.getElem?_cons_succ, Option.some.injEq] at eq66
            subst eq66
            have eq67 := hbb 67 (noDst_spec (by kernel_rfl))
            simp only [List.getElem?_toArray, List.getElem?_cons_zero, List.getElem?_cons_succ, Option.some.injEq] at eq67
            subst eq67
            have eq68 := hbb 68 (noDst_spec (by kernel_rfl))
            simp only [List.getElem?_toArray, List.getElem?_cons_zero, List.getElem?_cons_succ, Option.some.injEq] at eq68
            subst eq68
            have eq69 := hbb 69 (noDst_spec (by kernel_rfl))
            simp only [List.getElem?_toArray, List.getElem?_cons_zero, List.getElem?_cons_succ, Option.some.injEq] at eq69
            subst eq69
            have eq103 := hbb 103 (noDst_spec (by kernel_rfl))
            simp only [List.getElem?_toArray, List.getElem?_cons_zero, List.getElem?_cons_succ, Option.some.injEq] at eq103
            subst eq103
            have eq104 := hbb 104 (noDst_spec (by kernel_rfl))
            simp only [List.getElem?_toArray, List.getElem?_cons_zero, List.getElem?_cons_succ, Option.some.injEq] at eq104
            subst eq104
            have eq105 := hbb 105 (noDst_spec (by kernel_rfl))
            simp only [List.getElem?_toArray, List.getElem?_cons_zero, List.getElem?_cons_succ, Option.some.injEq] at eq105
            subst eq105
            have eq106 := hbb 106 (noDst_spec (by kernel_rfl))
            simp only [List.getElem?_toArray, List.getElem?_cons_zero, List.getElem?_cons_succ, Option.some.injEq] at eq106
            subst eq106
            have eq107 := hbb 107 (noDst_spec (by kernel_rfl))
            simp only [List.getElem?_toArray, List.getElem?_cons_zero, List.getElem?_cons_succ, Option.some.injEq] at eq107
            subst eq107
            have eq108 := hbb 108 (noDst_spec (by kernel_rfl))
            simp only [List.getElem?_toArray, List.getElem?_cons_zero, List.getElem?_cons_succ, Option.some.injEq] at eq108
            subst eq108
            have eq109 := hbb 109 (noDst_spec (by kernel_rfl))
            simp only [List.getElem?_toArray, List.getElem?_cons_zero, List.getElem?_cons_succ, Option.some.injEq] at eq109
            subst eq109
            have eq110 := hbb 110 (noDst_spec (by kernel_rfl))
            simp only [List.getElem?_toArray, List.getElem?_cons_zero, List.getElem?_cons_succ, Option.some.injEq] at eq110
            subst eq110
            have eq111 := hbb 111 (noDst_spec (by kernel_rfl))
            simp only [List.getElem?_toArray, List.getElem?_cons_zero, List.getElem?_cons_succ, Option.some.injEq] at eq111
            subst eq111
            have eq112 := hbb 112 (noDst_spec (by kernel_rfl))
            simp only [List.getElem?_toArray, List.getElem?_cons_zero, List.getElem?_cons_succ, Option.some.injEq] at eq112
            subst eq112
            have eq113 := hbb 113 (noDst_spec (by kernel_rfl))
            simp only [List.getElem?_toArray, List.getElem?_cons_zero, List.getElem?_cons_succ, Option.some.injEq] at eq113
            subst eq113
            have eq114 := hbb 114 (noDst_spec (by kernel_rfl))
            simp only [List.getElem?_toArray, List.getElem?_cons_zero, List.getElem?_cons_succ, Option.some.injEq] at eq114
            subst eq114
            have eq115 := hbb 115 (noDst_spec (by kernel_rfl))
            simp only [List.getElem?_toArray, List.getElem?_cons_zero, List.getElem?_cons_succ, Option.some.injEq] at eq115
            subst eq115
            have eq116 := hbb 116 (noDst_spec (by kernel_rfl))
            simp only [List.getElem?_toArray, List.getElem?_cons_zero, List.getElem?_cons_succ, Option.some.injEq] at eq116
            subst eq116
            obtain rfl : df = [] := hbd
            clear hbb
            have hK5 := Lib.hid hK5
            have hTW := Lib.hid hTW
            rename_i hKK
            refine hKK _ W ?_
            have ht : ∀ q : List Value, Array.mk q = List.toArray q := fun _ => rfl
            rw [ht]
            go_wp2_with fail
            go_roundw
            case rel => exact ⟨j + 1, by omega, by omega, by omega, N' + 2, by omega, t5, by omega, z, L5, _, T.data.toList, hK5.out⟩
            case measure => simp [Go.RowKit.intOf]; omega
        · have hcase : ¬ ((j : Int) < (l.length : Int)) ∨ ((j : Int) < (l.length : Int) ∧ ¬ ((j : Int) < 8)) := by omega
          have HOA := Lib.hid (kopen_again HK.out (by omega))
          obtain ⟨aa, haa⟩ : ∃ aa, A.length = aa := ⟨_, rfl⟩
          obtain ⟨mm, hmm⟩ : ∃ mm, moreN 0 A = mm := ⟨_, rfl⟩
          rcases hcase with hA' | ⟨hA', hA2⟩
          all_goals
            go_wp2_with fail
            refine HOA.out.mono ?_
            rintro e w3 ⟨gb2, fb2, kb2, rfl, hK3, _, hT3⟩
            have hs1 := kstate_calls hK3.box
            have HST := Lib.hid (fun W (hW : Touch (fun _ => False) w3 W) => kstate_calls ((HK.out.still (hT3.trans hW)).box))
            rw [haa, hmm] at hs1 HST
            have HS1 := Lib.hid hs1
            have HT3 := Lib.hid (HT.out.trans hT3)
            clear hs1 hK3 hT3
            unfold stV at HS1 HST
            go_wp2_with fail
            refine HS1.out.mono ?_
            rintro e w4 ⟨rfl, hT4⟩
            go_wp2_with fail
            refine (HST.out _ hT4).mono ?_
            rintro e w5 ⟨rfl, hT5⟩
            go_wp2_with fail
            go_ret
            exact ⟨rfl, (HT3.out.trans hT4).trans hT5⟩

end Go.Proofs.Ytmcakilpdecacaa

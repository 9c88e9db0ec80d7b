
/- Tools: a region that draws its order, with guards that are all met, and calls that write: what holds by what has been listed. No program is named here. -/
import Derived.Test.YtoaeffinjpkahaaDoorRegInv2
namespace Go.Proofs.YtoaeffinjpkahaaDoor
set_option linter.unusedSimpArgs false
set_option linter.unusedVariables false
open Go Go.RowKit
set_option maxRecDepth 100000

/-- No edge to a later operation. -/
def lexOk4 (ops : Array Oper) : Bool := (List.range ops.size).all fun i => match ops[i]? with | some o => o.after.all (fun e => !(Region.binds .any e) || decide (e.on < i)) | none => true
theorem lexOk4_spec {ops : Array Oper} (h : lexOk4 ops = true) {i : Nat} {o : Oper} (hi : ops[i]? = some o) : ∀ e ∈ o.after, Region.binds .any e = true → e.on < i := by
  have := List.all_eq_true.1 h i (List.mem_range.2 (op_lt hi))
  simp only [hi, Array.all_eq_true'] at this
  intro e he hb
  have h2 := this e he
  rw [hb] at h2
  simpa using h2
/-- What is listed is closed under the edges. -/
def closedM (ops : Array Oper) (l : Array Bool) : Prop := ∀ (i : Nat) (o : Oper), ops[i]? = some o → l.getD i true = true → ∀ e ∈ o.after, Region.binds .any e = true → l.getD e.on true = true
structure RI4 (ops : Array Oper) (a0 : Act) (C : Array Bool → World → Prop) (I : Nat → Value → World → Prop) (listed : Array Bool) (a : Act) (w : World) : Prop where
  c : C listed w
  base : baseOk ops a0 a
  closed : closedM ops listed
  done : ∀ (i : Nat) (o : Oper), ops[i]? = some o → listed.getD i true = true → I i (valOf o a) w
theorem getD_set4 (listed : Array Bool) (i j : Nat) : (listed.setIfInBounds i true).getD j true = (listed.getD j true || i == j) := by
  by_cases h : i = j
  · subst h; rw [getD_set_self]; simp
  · rw [getD_set_ne true h]; simp [h]

theorem wpAny_inv4 {P : Program} {ops : Array Oper} {Q : Exit → Act → World → Prop} {a0 : Act} (C : Array Bool → World → Prop) (I : Nat → Value → World → Prop) (hl : lexOk4 ops = true) (hd : dstOk ops a0.tmps.size = true)
    (hob : ∀ (i : Nat) (o : Oper), ops[i]? = some o → ∀ listed a w, listed.getD i true = false → closedM ops listed → (∀ e ∈ o.after, Region.binds .any e = true → listed.getD e.on true = true) → C listed w → baseOk ops a0 a → (∀ j oj, ops[j]? = some oj → listed.getD j true = true → I j (valOf oj a) w) →
      Region.wanted o (yielded ops a.tmps) = true ∧ o.wp P a w (fun a' w' => ∃ v, a' = a.put o.dst v ∧ I i (if o.dst.isSome = true then v else undef) w' ∧ C (listed.setIfInBounds i true) w' ∧ ∀ j u, I j u w → I j u w') Q)
    (hQ : ∀ listed a w, (∀ i, i < ops.size → listed.getD i true = true) → C listed w → baseOk ops a0 a → (∀ (i : Nat) (o : Oper), ops[i]? = some o → I i (valOf o a) w) → Q .normal a w) :
    ∀ fuel listed a w, RI4 ops a0 C I listed a w → cu listed ops.size ≤ fuel → wpAny P .any ops Q fuel listed a w := by
  intro fuel
  induction fuel with
  | zero =>
    intro listed a w h hc
    have hall := cu_zero listed ops.size (by omega)
    refine ⟨List.eq_nil_iff_forall_not_mem.2 fun i hi => ?_, hQ listed a w hall h.c h.base fun i o hi => h.done i o hi (hall i (op_lt hi))⟩
    obtain ⟨hun, o, ho, _⟩ := mem_ready.1 hi
    rw [hall i (op_lt ho)] at hun
    cases hun
  | succ fuel ih =>
    intro listed a w h hc
    refine ⟨fun h0 => ?_, fun i hi => ?_⟩
    · have hall : ∀ n i, i < n → i < ops.size → listed.getD i true = true := by
        intro n
        induction n with
        | zero => intro i hi; omega
        | succ n ihn =>
          intro i hin his
          cases hb : listed.getD i true
          · obtain ⟨o, ho⟩ : ∃ o, ops[i]? = some o := ⟨_, Array.getElem?_eq_getElem his⟩
            have hm : i ∈ Region.ready .any ops listed := mem_ready.2 ⟨hb, o, ho, fun e he hbe => by
              have hlt := lexOk4_spec hl ho e he hbe
              have h1 := ihn e.on (by omega) (by omega)
              cases hf : listed.getD e.on false
              · exfalso
                rcases Nat.lt_or_ge e.on listed.size with h' | h'
                · simp [h'] at hf h1; rw [hf] at h1; cases h1
                · rcases Nat.lt_or_ge i listed.size with h'' | h''
                  · omega
                  · simp [Array.getElem?_eq_none h''] at hb
              · rfl⟩
            rw [h0] at hm
            cases hm
          · rfl
      exact hQ listed a w (fun i hi => hall (i + 1) i (by omega) hi) h.c h.base fun i o hi => h.done i o hi (hall (i + 1) i (by omega) (op_lt hi))
    · obtain ⟨hun, o, ho, hdep⟩ := mem_ready.1 hi
      have hdl : ∀ e ∈ o.after, Region.binds .any e = true → listed.getD e.on true = true := fun e he hb => getD_ft (hdep e he hb)
      obtain ⟨hw, hwp⟩ := hob i o ho listed a w hun h.closed hdl h.c h.base h.done
      unfold wpOp
      simp only [ho]
      rw [if_pos hw]
      refine .inl (Oper.wp_mono (fun a' w' hk => ?_) hwp)
      obtain ⟨v, rfl, hI, hC, hM⟩ := hk
      refine ih _ _ _ ⟨hC, h.base.put ho v, fun j oj hj hlj e he hb => ?_, fun j oj hj hlj => ?_⟩ (by have := cu_in listed i hun ops.size (op_lt ho); omega)
      · rw [getD_set4] at hlj ⊢
        by_cases hji : i = j
        · subst hji
          obtain rfl : oj = o := Option.some.inj (hj.symm.trans ho)
          rw [hdl e he hb]; rfl
        · have : listed.getD j true = true := by simpa [hji] using hlj
          rw [h.closed j oj hj this e he hb]; rfl
      · by_cases hji : i = j
        · subst hji
          obtain rfl : oj = o := Option.some.inj (hj.symm.trans ho)
          rw [valOf_put_self (fun d hdd => by have := (dstOk_spec hd ho hdd).1; rw [h.base.2.1]; exact this)]
          exact hI
        · rw [valOf_put_ne (fun d hdd e => hji ((dstOk_spec hd hj hdd).2 i o ho e))]
          exact hM _ _ (h.done j oj hj (by rwa [getD_set_ne true hji] at hlj))

theorem wp_region_inv4 {P : Program} {id : Nat} {l : List Oper} {Q : Exit → Act → World → Prop} {a0 : Act} {w0 : World} (C : Array Bool → World → Prop) (I : Nat → Value → World → Prop) (hm : P.follows .mixedOrders = true) (hl : lexOk4 l.toArray = true) (hd : dstOk l.toArray a0.tmps.size = true)
    (hC : C (Array.replicate l.toArray.size false) w0.drew)
    (hob : ∀ (i : Nat) (o : Oper), l.toArray[i]? = some o → ∀ listed a w, listed.getD i true = false → closedM l.toArray listed → (∀ e ∈ o.after, Region.binds .any e = true → listed.getD e.on true = true) → C listed w → baseOk l.toArray a0 a → (∀ j oj, l.toArray[j]? = some oj → listed.getD j true = true → I j (valOf oj a) w) →
      Region.wanted o (yielded l.toArray a.tmps) = true ∧ o.wp P a w (fun a' w' => ∃ v, a' = a.put o.dst v ∧ I i (if o.dst.isSome = true then v else undef) w' ∧ C (listed.setIfInBounds i true) w' ∧ ∀ j u, I j u w → I j u w') Q)
    (hQ : ∀ listed a w, (∀ i, i < l.toArray.size → listed.getD i true = true) → C listed w → baseOk l.toArray a0 a → (∀ (i : Nat) (o : Oper), l.toArray[i]? = some o → I i (valOf o a) w) → Q .normal a w) : (Code.region id l.toArray true).wp P Q a0 w0 := by
  have hno : ∀ i, i < l.toArray.size → (Array.replicate l.toArray.size false).getD i true = false := fun i hi => by simp at hi; simp [hi]
  refine wp_region_any hm (wpAny_inv4 C I hl hd hob hQ _ _ _ _ ⟨hC, ⟨rfl, rfl, fun _ _ => rfl⟩, fun i o hi hli => ?_, fun i o hi hli => ?_⟩ (cu_all _ _))
  · rw [hno i (op_lt hi)] at hli; cases hli
  · rw [hno i (op_lt hi)] at hli; cases hli
theorem r4_val {P : Program} {o : Oper} {a : Act} {w : World} {K : Act → World → Prop} {Q : Exit → Act → World → Prop} {v : Value} (h : (execOp a.eval o).run P w = .ok (.value v) w) (hk : K (a.put o.dst v) w) : o.wp P a w K Q := by
  unfold Oper.wp
  rw [h]
  exact hk
theorem r4_call {P : Program} {o : Oper} {a : Act} {w : World} {K : Act → World → Prop} {Q : Exit → Act → World → Prop} {f : FuncId} {args : Array Value} {R : Value → World → Prop} (h : (execOp a.eval o).run P w = .ok (.enter f args) w)
    (hc : Calls P f args w fun e w' => ∃ v, e = .returned v ∧ R v w') (hk : ∀ v w', R v w' → K (a.put o.dst v) w') : o.wp P a w K Q := by
  unfold Oper.wp
  rw [h]
  exact hc.mono fun e w' ⟨v, he, ht⟩ => by subst he; exact hk v w' ht
theorem r4_bool {o : Option Value} {b : Bool} (h : o.getD undef = .bool b) : o = some (.bool b) := by
  cases o with
  | none => exact absurd h (by intro h; cases h)
  | some v => rw [Option.getD_some] at h; rw [h]
theorem r4_edge {o : Oper} {l : Array Bool} (j : Nat) (h : o.after.any (fun e => Region.binds .any e && e.on == j) = true) (hdl : ∀ e ∈ o.after, Region.binds .any e = true → l.getD e.on true = true) : l.getD j true = true := by
  obtain ⟨i, hi, h2⟩ := Array.any_eq_true.1 h
  simp only [Bool.and_eq_true, beq_iff_eq] at h2
  rw [← h2.2]
  exact hdl _ (Array.getElem_mem hi) h2.1
theorem r4_cons {l : List Value} {n : Nat} (h : l.length = n + 1) : ∃ x l', l = x :: l' ∧ l'.length = n := by
  cases l with
  | nil => simp at h
  | cons x l => exact ⟨x, l, rfl, by simpa using h⟩
end Go.Proofs.YtoaeffinjpkahaaDoor

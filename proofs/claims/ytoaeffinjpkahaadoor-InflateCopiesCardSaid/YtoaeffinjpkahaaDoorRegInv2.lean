
/- Tools: a region that draws its order, by what each operation leaves behind it, whatever order is drawn. No program is named here. -/
import Derived.Test.YtoaeffinjpkahaaDoorDosQ
import Derived.Orders
namespace Go.Proofs.YtoaeffinjpkahaaDoor
set_option linter.unusedSimpArgs false
set_option linter.unusedVariables false
open Go Go.RowKit
set_option maxRecDepth 100000

/-- What an operation has left in its slot. -/
def valOf (o : Oper) (a : Act) : Value := match o.dst with | some d => a.tmps.getD d undef | none => undef
/-- No guard, and no edge to a later operation. -/
def lexOk (ops : Array Oper) : Bool := (List.range ops.size).all fun i => match ops[i]? with | some o => o.guard.isNone && o.after.all (fun e => !(Region.binds .any e) || decide (e.on < i)) | none => true
/-- No slot is written twice. -/
def dstOk (ops : Array Oper) (n : Nat) : Bool := (List.range ops.size).all fun i => match ops[i]? with
  | some o => (match o.dst with | some d => decide (d < n) && (List.range ops.size).all (fun j => j == i || (match ops[j]? with | some oj => oj.dst != some d | none => true)) | none => true)
  | none => true

theorem op_lt {ops : Array Oper} {i : Nat} {o : Oper} (h : ops[i]? = some o) : i < ops.size := (Array.getElem?_eq_some_iff.1 h).1
theorem lexOk_spec {ops : Array Oper} (h : lexOk ops = true) {i : Nat} {o : Oper} (hi : ops[i]? = some o) : o.guard = none ∧ ∀ e ∈ o.after, Region.binds .any e = true → e.on < i := by
  have := List.all_eq_true.1 h i (List.mem_range.2 (op_lt hi))
  simp only [hi, Bool.and_eq_true, Array.all_eq_true'] at this
  refine ⟨by simpa using this.1, fun e he hb => ?_⟩
  have h2 := this.2 e he
  rw [hb] at h2
  simpa using h2
theorem dstOk_spec {ops : Array Oper} {n : Nat} (h : dstOk ops n = true) {i : Nat} {o : Oper} {d : Nat} (hi : ops[i]? = some o) (hd : o.dst = some d) : d < n ∧ ∀ j oj, ops[j]? = some oj → oj.dst = some d → j = i := by
  have := List.all_eq_true.1 h i (List.mem_range.2 (op_lt hi))
  simp only [hi, hd, Bool.and_eq_true, decide_eq_true_eq] at this
  refine ⟨this.1, fun j oj hj hdj => ?_⟩
  have h2 := List.all_eq_true.1 this.2 j (List.mem_range.2 (op_lt hj))
  simp only [hj, hdj] at h2
  simpa using h2

theorem noDst_spec {ops : Array Oper} {d : Nat} (h : (ops.all fun o => o.dst != some d) = true) : ∀ (i : Nat) (o : Oper), ops[i]? = some o → o.dst ≠ some d := fun i o hi => by
  have := Array.all_eq_true'.1 h o (Array.mem_of_getElem? hi)
  simpa using this
/-- How many of the first are not listed yet. -/
def cu (listed : Array Bool) : Nat → Nat
  | 0 => 0
  | k + 1 => (if listed.getD k true = true then 0 else 1) + cu listed k
theorem cu_out (listed : Array Bool) (i : Nat) : ∀ k, k ≤ i → cu (listed.setIfInBounds i true) k = cu listed k
  | 0, _ => rfl
  | k + 1, h => by
    unfold cu
    rw [getD_set_ne true (by omega), cu_out listed i k (by omega)]
theorem getD_set_self (listed : Array Bool) (i : Nat) : (listed.setIfInBounds i true).getD i true = true := by
  rcases Nat.lt_or_ge i listed.size with h | h
  · simp [h]
  · simp [Array.getElem?_eq_none h]
theorem cu_in (listed : Array Bool) (i : Nat) (hi : listed.getD i true = false) : ∀ k, i < k → cu (listed.setIfInBounds i true) k + 1 = cu listed k
  | 0, h => by omega
  | k + 1, h => by
    unfold cu
    by_cases hk : i = k
    · subst hk
      rw [getD_set_self, hi, cu_out listed i i (Nat.le_refl _)]
      simp
      omega
    · rw [getD_set_ne true hk, ← cu_in listed i hi k (by omega)]
      omega
theorem cu_zero (listed : Array Bool) : ∀ k, cu listed k = 0 → ∀ i, i < k → listed.getD i true = true
  | 0, _, i, h => by omega
  | k + 1, h, i, hi => by
    unfold cu at h
    by_cases hk : i = k
    · subst hk
      cases hb : listed.getD i true
      · rw [hb] at h; simp at h
      · rfl
    · exact cu_zero listed k (by omega) i (by omega)
theorem cu_all (n : Nat) : ∀ k, cu (Array.replicate n false) k ≤ k
  | 0 => Nat.le_refl _
  | k + 1 => by
    unfold cu
    have := cu_all n k
    split <;> omega
theorem getD_ft {listed : Array Bool} {j : Nat} (h : listed.getD j false = true) : listed.getD j true = true := by
  rcases Nat.lt_or_ge j listed.size with h' | h'
  · simp [h'] at h ⊢; exact h
  · simp [Array.getElem?_eq_none h'] at h

/-- The frame's slots that no operation writes are as they were. -/
def baseOk (ops : Array Oper) (a0 a : Act) : Prop := a.defers = a0.defers ∧ a.tmps.size = a0.tmps.size ∧ ∀ d, (∀ (i : Nat) (o : Oper), ops[i]? = some o → o.dst ≠ some d) → a.tmps[d]? = a0.tmps[d]?
structure RI (ops : Array Oper) (a0 : Act) (C : World → Prop) (I : Nat → Value → World → Prop) (listed : Array Bool) (a : Act) (w : World) : Prop where
  c : C w
  base : baseOk ops a0 a
  done : ∀ (i : Nat) (o : Oper), ops[i]? = some o → listed.getD i true = true → I i (valOf o a) w

theorem valOf_put_self {o : Oper} {a : Act} {v : Value} (h : ∀ d, o.dst = some d → d < a.tmps.size) : valOf o (a.put o.dst v) = if o.dst.isSome = true then v else undef := by
  unfold valOf Act.put
  cases hd : o.dst with
  | none => rfl
  | some d => simp [h d hd]
theorem valOf_put_ne {o oi : Oper} {a : Act} {v : Value} (h : ∀ d, o.dst = some d → oi.dst ≠ some d) : valOf o (a.put oi.dst v) = valOf o a := by
  unfold valOf Act.put
  cases hd : o.dst with
  | none => rfl
  | some d =>
    have := h d hd
    cases hi : oi.dst with
    | none => rfl
    | some d' =>
      have hne : d' ≠ d := fun e => this (by rw [hi, e])
      simp [Array.getElem?_setIfInBounds_ne hne]
theorem baseOk.put {ops : Array Oper} {a0 a : Act} (h : baseOk ops a0 a) {i : Nat} {o : Oper} (hi : ops[i]? = some o) (v : Value) : baseOk ops a0 (a.put o.dst v) := by
  obtain ⟨h1, h2, h3⟩ := h
  unfold Act.put
  cases hd : o.dst with
  | none => exact ⟨h1, h2, h3⟩
  | some d =>
    refine ⟨h1, by simpa using h2, fun d' hd' => ?_⟩
    have hne : d ≠ d' := fun e => hd' i o hi (by rw [hd, e])
    simp only [Array.getElem?_setIfInBounds_ne hne]
    exact h3 d' hd'

theorem wpAny_inv {P : Program} {ops : Array Oper} {Q : Exit → Act → World → Prop} {a0 : Act} (C : World → Prop) (I : Nat → Value → World → Prop) (hl : lexOk ops = true) (hd : dstOk ops a0.tmps.size = true)
    (hob : ∀ (i : Nat) (o : Oper), ops[i]? = some o → ∀ a w, C w → baseOk ops a0 a → (∀ e ∈ o.after, Region.binds .any e = true → ∀ oj, ops[e.on]? = some oj → I e.on (valOf oj a) w) →
      o.wp P a w (fun a' w' => ∃ v, a' = a.put o.dst v ∧ I i (if o.dst.isSome = true then v else undef) w' ∧ C w' ∧ ∀ j u, I j u w → I j u w') Q)
    (hQ : ∀ a w, C w → baseOk ops a0 a → (∀ (i : Nat) (o : Oper), ops[i]? = some o → I i (valOf o a) w) → Q .normal a w) :
    ∀ fuel listed a w, RI ops a0 C I listed a w → cu listed ops.size ≤ fuel → wpAny P .any ops Q fuel listed a w := by
  intro fuel
  induction fuel with
  | zero =>
    intro listed a w h hc
    have hall := cu_zero listed ops.size (by omega)
    refine ⟨List.eq_nil_iff_forall_not_mem.2 fun i hi => ?_, hQ a w h.c h.base fun i o hi => h.done i o hi (hall i (op_lt hi))⟩
    obtain ⟨hun, o, ho, _⟩ := mem_ready.1 hi
    rw [hall i (op_lt ho)] at hun
    cases hun
  | succ fuel ih =>
    intro listed a w h hc
    refine ⟨fun h0 => ?_, fun i hi => ?_⟩
    · have hall : ∀ n i, i < n → i < ops.size → listed.getD i true = true := by
        intro n
        induction n with
        | zero => intro i hi; omega
        | succ n ihn =>
          intro i hin his
          cases hb : listed.getD i true
          · obtain ⟨o, ho⟩ : ∃ o, ops[i]? = some o := ⟨_, Array.getElem?_eq_getElem his⟩
            have hm : i ∈ Region.ready .any ops listed := mem_ready.2 ⟨hb, o, ho, fun e he hbe => by
              have hlt := (lexOk_spec hl ho).2 e he hbe
              have h1 := ihn e.on (by omega) (by omega)
              cases hf : listed.getD e.on false
              · exfalso
                rcases Nat.lt_or_ge e.on listed.size with h' | h'
                · simp [h'] at hf h1; rw [hf] at h1; cases h1
                · rcases Nat.lt_or_ge i listed.size with h'' | h''
                  · omega
                  · simp [Array.getElem?_eq_none h''] at hb
              · rfl⟩
            rw [h0] at hm
            cases hm
          · rfl
      exact hQ a w h.c h.base fun i o hi => h.done i o hi (hall (i + 1) i (by omega) (op_lt hi))
    · obtain ⟨hun, o, ho, hdep⟩ := mem_ready.1 hi
      unfold wpOp
      simp only [ho]
      have hg := (lexOk_spec hl ho).1
      rw [if_pos (by simp [Region.wanted, hg])]
      refine .inl (Oper.wp_mono (fun a' w' hk => ?_) (hob i o ho a w h.c h.base fun e he hb oj hj => h.done e.on oj hj (getD_ft (hdep e he hb))))
      obtain ⟨v, rfl, hI, hC, hst⟩ := hk
      refine ih _ _ _ ⟨hC, h.base.put ho v, fun j oj hj hlj => ?_⟩ (by have := cu_in listed i hun ops.size (op_lt ho); omega)
      by_cases hji : i = j
      · subst hji
        obtain rfl : oj = o := Option.some.inj (hj.symm.trans ho)
        rw [valOf_put_self (fun d hdd => by have := (dstOk_spec hd ho hdd).1; rw [h.base.2.1]; exact this)]
        exact hI
      · rw [valOf_put_ne (fun d hdd e => hji ((dstOk_spec hd hj hdd).2 i o ho e))]
        exact hst j _ (h.done j oj hj (by rwa [getD_set_ne true hji] at hlj))

theorem wp_region_inv {P : Program} {id : Nat} {l : List Oper} {Q : Exit → Act → World → Prop} {a0 : Act} {w0 : World} (C : World → Prop) (I : Nat → Value → World → Prop) (hm : P.follows .mixedOrders = true) (hl : lexOk l.toArray = true) (hd : dstOk l.toArray a0.tmps.size = true)
    (hC : C w0.drew)
    (hob : ∀ (i : Nat) (o : Oper), l.toArray[i]? = some o → ∀ a w, C w → baseOk l.toArray a0 a → (∀ e ∈ o.after, Region.binds .any e = true → ∀ oj, l.toArray[e.on]? = some oj → I e.on (valOf oj a) w) →
      o.wp P a w (fun a' w' => ∃ v, a' = a.put o.dst v ∧ I i (if o.dst.isSome = true then v else undef) w' ∧ C w' ∧ ∀ j u, I j u w → I j u w') Q)
    (hQ : ∀ a w, C w → baseOk l.toArray a0 a → (∀ (i : Nat) (o : Oper), l.toArray[i]? = some o → I i (valOf o a) w) → Q .normal a w) : (Code.region id l.toArray true).wp P Q a0 w0 := by
  refine wp_region_any hm (wpAny_inv C I hl hd hob hQ _ _ _ _ ⟨hC, ⟨rfl, rfl, fun _ _ => rfl⟩, fun i o hi hli => ?_⟩ (cu_all _ _))
  have hlt : i < l.length := by simpa using op_lt hi
  rw [show (Array.replicate l.toArray.size false).getD i true = false by simp [hlt]] at hli
  cases hli

structure RI2 (ops : Array Oper) (a0 : Act) (k : Nat) (C : Bool → World → Prop) (I : Nat → Value → World → Prop) (listed : Array Bool) (a : Act) (w : World) : Prop where
  c : C (listed.getD k true) w
  base : baseOk ops a0 a
  done : ∀ (i : Nat) (o : Oper), ops[i]? = some o → listed.getD i true = true → I i (valOf o a) w

theorem flag_set (listed : Array Bool) {i k : Nat} (_hi : listed.getD i true = false) : (listed.setIfInBounds i true).getD k true = (listed.getD k true || i == k) := by
  by_cases h : i = k
  · subst h; rw [getD_set_self]; simp
  · rw [getD_set_ne true h]; simp [h]
theorem wpAny_inv2 {P : Program} {ops : Array Oper} {Q : Exit → Act → World → Prop} {a0 : Act} (k : Nat) (C : Bool → World → Prop) (I : Nat → Value → World → Prop) (hk : k < ops.size) (hl : lexOk ops = true) (hd : dstOk ops a0.tmps.size = true)
    (hob : ∀ (i : Nat) (o : Oper), ops[i]? = some o → ∀ a w b, (i = k → b = false) → C b w → baseOk ops a0 a → (∀ e ∈ o.after, Region.binds .any e = true → ∀ oj, ops[e.on]? = some oj → I e.on (valOf oj a) w) →
      o.wp P a w (fun a' w' => ∃ v, a' = a.put o.dst v ∧ I i (if o.dst.isSome = true then v else undef) w' ∧ C (b || i == k) w' ∧ ∀ j u, I j u w → I j u w') Q)
    (hQ : ∀ a w, C true w → baseOk ops a0 a → (∀ (i : Nat) (o : Oper), ops[i]? = some o → I i (valOf o a) w) → Q .normal a w) :
    ∀ fuel listed a w, RI2 ops a0 k C I listed a w → cu listed ops.size ≤ fuel → wpAny P .any ops Q fuel listed a w := by
  intro fuel
  induction fuel with
  | zero =>
    intro listed a w h hc
    have hall := cu_zero listed ops.size (by omega)
    have hall2 : ∀ i, i < ops.size → listed.getD i true = true := hall
    refine ⟨List.eq_nil_iff_forall_not_mem.2 fun i hi => ?_, hQ a w (by have := h.c; rwa [hall2 k hk] at this) h.base fun i o hi => h.done i o hi (hall i (op_lt hi))⟩
    obtain ⟨hun, o, ho, _⟩ := mem_ready.1 hi
    rw [hall i (op_lt ho)] at hun
    cases hun
  | succ fuel ih =>
    intro listed a w h hc
    refine ⟨fun h0 => ?_, fun i hi => ?_⟩
    · have hall : ∀ n i, i < n → i < ops.size → listed.getD i true = true := by
        intro n
        induction n with
        | zero => intro i hi; omega
        | succ n ihn =>
          intro i hin his
          cases hb : listed.getD i true
          · obtain ⟨o, ho⟩ : ∃ o, ops[i]? = some o := ⟨_, Array.getElem?_eq_getElem his⟩
            have hm : i ∈ Region.ready .any ops listed := mem_ready.2 ⟨hb, o, ho, fun e he hbe => by
              have hlt := (lexOk_spec hl ho).2 e he hbe
              have h1 := ihn e.on (by omega) (by omega)
              cases hf : listed.getD e.on false
              · exfalso
                rcases Nat.lt_or_ge e.on listed.size with h' | h'
                · simp [h'] at hf h1; rw [hf] at h1; cases h1
                · rcases Nat.lt_or_ge i listed.size with h'' | h''
                  · omega
                  · simp [Array.getElem?_eq_none h''] at hb
              · rfl⟩
            rw [h0] at hm
            cases hm
          · rfl
      have hall2 : ∀ i, i < ops.size → listed.getD i true = true := fun i h => hall (i + 1) i (by omega) h
      exact hQ a w (by have := h.c; rwa [hall2 k hk] at this) h.base fun i o hi => h.done i o hi (hall (i + 1) i (by omega) (op_lt hi))
    · obtain ⟨hun, o, ho, hdep⟩ := mem_ready.1 hi
      unfold wpOp
      simp only [ho]
      have hg := (lexOk_spec hl ho).1
      rw [if_pos (by simp [Region.wanted, hg])]
      refine .inl (Oper.wp_mono (fun a' w' hk => ?_) (hob i o ho a w _ (fun e => by rw [← e]; exact hun) h.c h.base fun e he hb oj hj => h.done e.on oj hj (getD_ft (hdep e he hb))))
      obtain ⟨v, rfl, hI, hC, hst⟩ := hk
      refine ih _ _ _ ⟨by rw [flag_set listed hun]; exact hC, h.base.put ho v, fun j oj hj hlj => ?_⟩ (by have := cu_in listed i hun ops.size (op_lt ho); omega)
      by_cases hji : i = j
      · subst hji
        obtain rfl : oj = o := Option.some.inj (hj.symm.trans ho)
        rw [valOf_put_self (fun d hdd => by have := (dstOk_spec hd ho hdd).1; rw [h.base.2.1]; exact this)]
        exact hI
      · rw [valOf_put_ne (fun d hdd e => hji ((dstOk_spec hd hj hdd).2 i o ho e))]
        exact hst j _ (h.done j oj hj (by rwa [getD_set_ne true hji] at hlj))

theorem wp_region_inv2 {P : Program} {id : Nat} {l : List Oper} {Q : Exit → Act → World → Prop} {a0 : Act} {w0 : World} (k : Nat) (C : Bool → World → Prop) (I : Nat → Value → World → Prop) (hm : P.follows .mixedOrders = true) (hl : lexOk l.toArray = true) (hd : dstOk l.toArray a0.tmps.size = true)
    (hk : k < l.length) (hC : C false w0.drew)
    (hob : ∀ (i : Nat) (o : Oper), l.toArray[i]? = some o → ∀ a w b, (i = k → b = false) → C b w → baseOk l.toArray a0 a → (∀ e ∈ o.after, Region.binds .any e = true → ∀ oj, l.toArray[e.on]? = some oj → I e.on (valOf oj a) w) →
      o.wp P a w (fun a' w' => ∃ v, a' = a.put o.dst v ∧ I i (if o.dst.isSome = true then v else undef) w' ∧ C (b || i == k) w' ∧ ∀ j u, I j u w → I j u w') Q)
    (hQ : ∀ a w, C true w → baseOk l.toArray a0 a → (∀ (i : Nat) (o : Oper), l.toArray[i]? = some o → I i (valOf o a) w) → Q .normal a w) : (Code.region id l.toArray true).wp P Q a0 w0 := by
  refine wp_region_any hm (wpAny_inv2 k C I (by simpa using hk) hl hd hob hQ _ _ _ _ ⟨by simpa [hk] using hC, ⟨rfl, rfl, fun _ _ => rfl⟩, fun i o hi hli => ?_⟩ (cu_all _ _))
  have hlt : i < l.length := by simpa using op_lt hi
  rw [show (Array.replicate l.toArray.size false).getD i true = false by simp [hlt]] at hli
  cases hli
end Go.Proofs.YtoaeffinjpkahaaDoor

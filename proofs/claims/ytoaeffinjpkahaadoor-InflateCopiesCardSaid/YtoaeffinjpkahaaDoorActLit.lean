
/- Tools: behind a region that was gone through by what each operation leaves, the frame is written out; more tools for such regions. No program is named here. -/
import Derived.Test.YtoaeffinjpkahaaDoorRegInv4
import Derived.Test.YtoaeffinjpkahaaDoorAppI
namespace Go.Proofs.YtoaeffinjpkahaaDoor
set_option linter.unusedSimpArgs false
set_option linter.unusedVariables false
open Go Go.RowKit
set_option maxRecDepth 100000

/-- Values laid over a list, at some places that rise. -/
def layL (f : Nat → Value) : Nat → List Value → List Nat → List Value
  | _, [], _ => []
  | _, x :: l, [] => x :: l
  | n, x :: l, k :: r => bif n == k then f n :: layL f (n + 1) l r else x :: layL f (n + 1) l (k :: r)
/-- Places that rise, from one on. -/
def ascL : Nat → List Nat → Bool
  | _, [] => true
  | n, k :: r => decide (n ≤ k) && ascL (k + 1) r
theorem ascL_ge : ∀ (r : List Nat) (n k : Nat), ascL n r = true → k ∈ r → n ≤ k
  | [], _, _, _, h => by cases h
  | m :: r, n, k, h, hk => by
    simp only [ascL, Bool.and_eq_true, decide_eq_true_eq] at h
    rcases List.mem_cons.1 hk with rfl | hk
    · exact h.1
    · have := ascL_ge r (m + 1) k h.2 hk; omega
theorem ascL_up : ∀ (r : List Nat) (n : Nat), ascL n r = true → n ∉ r → ascL (n + 1) r = true
  | [], _, _, _ => rfl
  | m :: r, n, h, hn => by
    simp only [ascL, Bool.and_eq_true, decide_eq_true_eq] at h ⊢
    exact ⟨by have : n ≠ m := fun e => hn (by rw [e]; exact List.mem_cons_self); omega, h.2⟩
theorem layL_get (f : Nat → Value) : ∀ (l : List Value) (n : Nat) (ks : List Nat), ascL n ks = true → ∀ j, (layL f n l ks)[j]? = if n + j ∈ ks then l[j]?.map (fun _ => f (n + j)) else l[j]?
  | [], n, ks, _, j => by simp [layL]
  | x :: l, n, [], _, j => by simp [layL]
  | x :: l, n, k :: r, h, j => by
    have h0 := h
    simp only [ascL, Bool.and_eq_true, decide_eq_true_eq] at h
    by_cases e : n = k
    · subst e
      simp only [layL, beq_self_eq_true, cond_true]
      cases j with
      | zero => simp
      | succ j =>
        have ih := layL_get f l (n + 1) r h.2 j
        rw [List.getElem?_cons_succ, ih, List.getElem?_cons_succ, show n + (j + 1) = n + 1 + j by omega]
        have : n + 1 + j ≠ n := by omega
        simp [List.mem_cons, this]
    · have e2 : (n == k) = false := by simpa using e
      simp only [layL, e2, cond_false]
      have hn : n ∉ k :: r := fun hm => by
        rcases List.mem_cons.1 hm with e3 | e3
        · exact e e3
        · have := ascL_ge r (k + 1) n h.2 e3; omega
      cases j with
      | zero => simp only [Nat.add_zero, if_neg hn, List.getElem?_cons_zero]
      | succ j =>
        have ih := layL_get f l (n + 1) (k :: r) (ascL_up _ _ h0 hn) j
        rw [List.getElem?_cons_succ, ih, List.getElem?_cons_succ, show n + (j + 1) = n + 1 + j by omega]
/-- Every slot that is written is one of these. -/
def coversL (ops : Array Oper) (ks : List Nat) : Bool := ops.all fun o => match o.dst with | some d => ks.any (· == d) | none => true
/-- The frame behind a region: the slots that it writes, the others as they were. -/
theorem act_lit {ops : Array Oper} {l : List Value} {df : List Deferred} {a : Act} (hb : baseOk ops ⟨l.toArray, df⟩ a) (ks : List Nat) (ha : ascL 0 ks = true) (hk : coversL ops ks = true) :
    a = ⟨(layL (fun k => a.tmps[k]?.getD undef) 0 l ks).toArray, df⟩ := by
  obtain ⟨h1, h2, h3⟩ := hb
  obtain ⟨⟨la⟩, da⟩ := a
  have hlen : la.length = l.length := by simpa using h2
  have hlist : la = layL (fun k => (Array.mk la)[k]?.getD undef) 0 l ks := by
    refine List.ext_getElem? fun j => ?_
    rw [layL_get _ l 0 ks ha j, Nat.zero_add]
    by_cases hj : j ∈ ks
    · rw [if_pos hj]
      by_cases hl : j < l.length
      · rw [List.getElem?_eq_getElem hl, List.getElem?_eq_getElem (by omega)]
        simp [show j < la.length by omega]
      · rw [List.getElem?_eq_none (by omega), List.getElem?_eq_none (by omega)]; rfl
    · rw [if_neg hj]
      have := h3 j (fun i o hi e => hj (by
        have h4 := Array.all_eq_true'.1 hk o (Array.mem_of_getElem? hi)
        rw [e] at h4
        obtain ⟨k, hk1, hk2⟩ := List.any_eq_true.1 h4
        have : k = j := by simpa using hk2
        rw [← this]; exact hk1))
      simpa using this
  have hd : da = df := h1
  subst hd
  rw [← hlist]
structure RI5 (ops : Array Oper) (a0 : Act) (C : Array Bool → World → Prop) (I : Nat → Value → World → Prop) (listed : Array Bool) (a : Act) (w : World) : Prop where
  c : C listed w
  base : baseOk ops a0 a
  closed : closedM ops listed
  done : ∀ (i : Nat) (o : Oper), ops[i]? = some o → listed.getD i true = true → I i (valOf o a) w
  keep : ∀ (i : Nat) (o : Oper) (d : Nat), ops[i]? = some o → listed.getD i true = false → o.dst = some d → a.tmps[d]? = a0.tmps[d]?

theorem put_other5 {a : Act} {x : Option Tmp} {v : Value} {d : Nat} (h : x ≠ some d) : (a.put x v).tmps[d]? = a.tmps[d]? := by
  cases x with
  | none => rfl
  | some k =>
    have : k ≠ d := fun e => h (by rw [e])
    simp [Act.put, Array.getElem?_setIfInBounds_ne this]
theorem wpAny_inv5 {P : Program} {ops : Array Oper} {Q : Exit → Act → World → Prop} {a0 : Act} (C : Array Bool → World → Prop) (I : Nat → Value → World → Prop) (hl : lexOk4 ops = true) (hd : dstOk ops a0.tmps.size = true)
    (hob : ∀ (i : Nat) (o : Oper), ops[i]? = some o → ∀ listed a w, listed.getD i true = false → closedM ops listed → (∀ e ∈ o.after, Region.binds .any e = true → listed.getD e.on true = true) → C listed w → baseOk ops a0 a → (∀ (j : Nat) (oj : Oper) (d : Nat), ops[j]? = some oj → listed.getD j true = false → oj.dst = some d → a.tmps[d]? = a0.tmps[d]?) → (∀ j oj, ops[j]? = some oj → listed.getD j true = true → I j (valOf oj a) w) →
      Region.wanted o (yielded ops a.tmps) = true ∧ o.wp P a w (fun a' w' => ∃ v, a' = a.put o.dst v ∧ I i (if o.dst.isSome = true then v else undef) w' ∧ C (listed.setIfInBounds i true) w' ∧ ∀ j u, I j u w → I j u w') Q)
    (hQ : ∀ listed a w, (∀ i, i < ops.size → listed.getD i true = true) → C listed w → baseOk ops a0 a → (∀ (i : Nat) (o : Oper), ops[i]? = some o → I i (valOf o a) w) → Q .normal a w) :
    ∀ fuel listed a w, RI5 ops a0 C I listed a w → cu listed ops.size ≤ fuel → wpAny P .any ops Q fuel listed a w := by
  intro fuel
  induction fuel with
  | zero =>
    intro listed a w h hc
    have hall := cu_zero listed ops.size (by omega)
    refine ⟨List.eq_nil_iff_forall_not_mem.2 fun i hi => ?_, hQ listed a w hall h.c h.base fun i o hi => h.done i o hi (hall i (op_lt hi))⟩
    obtain ⟨hun, o, ho, _⟩ := mem_ready.1 hi
    rw [hall i (op_lt ho)] at hun
    cases hun
  | succ fuel ih =>
    intro listed a w h hc
    refine ⟨fun h0 => ?_, fun i hi => ?_⟩
    · have hall : ∀ n i, i < n → i < ops.size → listed.getD i true = true := by
        intro n
        induction n with
        | zero => intro i hi; omega
        | succ n ihn =>
          intro i hin his
          cases hb : listed.getD i true
          · obtain ⟨o, ho⟩ : ∃ o, ops[i]? = some o := ⟨_, Array.getElem?_eq_getElem his⟩
            have hm : i ∈ Region.ready .any ops listed := mem_ready.2 ⟨hb, o, ho, fun e he hbe => by
              have hlt := lexOk4_spec hl ho e he hbe
              have h1 := ihn e.on (by omega) (by omega)
              cases hf : listed.getD e.on false
              · exfalso
                rcases Nat.lt_or_ge e.on listed.size with h' | h'
                · simp [h'] at hf h1; rw [hf] at h1; cases h1
                · rcases Nat.lt_or_ge i listed.size with h'' | h''
                  · omega
                  · simp [Array.getElem?_eq_none h''] at hb
              · rfl⟩
            rw [h0] at hm
            cases hm
          · rfl
      exact hQ listed a w (fun i hi => hall (i + 1) i (by omega) hi) h.c h.base fun i o hi => h.done i o hi (hall (i + 1) i (by omega) (op_lt hi))
    · obtain ⟨hun, o, ho, hdep⟩ := mem_ready.1 hi
      have hdl : ∀ e ∈ o.after, Region.binds .any e = true → listed.getD e.on true = true := fun e he hb => getD_ft (hdep e he hb)
      obtain ⟨hw, hwp⟩ := hob i o ho listed a w hun h.closed hdl h.c h.base h.keep h.done
      unfold wpOp
      simp only [ho]
      rw [if_pos hw]
      refine .inl (Oper.wp_mono (fun a' w' hk => ?_) hwp)
      obtain ⟨v, rfl, hI, hC, hM⟩ := hk
      refine ih _ _ _ ⟨hC, h.base.put ho v, fun j oj hj hlj e he hb => ?_, fun j oj hj hlj => ?_, fun j oj d hj hlj hdj => ?_⟩ (by have := cu_in listed i hun ops.size (op_lt ho); omega)
      · rw [getD_set4] at hlj ⊢
        by_cases hji : i = j
        · subst hji
          obtain rfl : oj = o := Option.some.inj (hj.symm.trans ho)
          rw [hdl e he hb]; rfl
        · have : listed.getD j true = true := by simpa [hji] using hlj
          rw [h.closed j oj hj this e he hb]; rfl
      · by_cases hji : i = j
        · subst hji
          obtain rfl : oj = o := Option.some.inj (hj.symm.trans ho)
          rw [valOf_put_self (fun d hdd => by have := (dstOk_spec hd ho hdd).1; rw [h.base.2.1]; exact this)]
          exact hI
        · rw [valOf_put_ne (fun d hdd e => hji ((dstOk_spec hd hj hdd).2 i o ho e))]
          exact hM _ _ (h.done j oj hj (by rwa [getD_set_ne true hji] at hlj))
      · by_cases hji : i = j
        · subst hji
          rw [getD_set4] at hlj
          simp at hlj
        · have hlj' : listed.getD j true = false := by rwa [getD_set_ne true hji] at hlj
          have hne : o.dst ≠ some d := fun e => hji ((dstOk_spec hd hj hdj).2 i o ho e)
          rw [put_other5 hne]
          exact h.keep j oj d hj hlj' hdj

theorem wp_region_inv5 {P : Program} {id : Nat} {l : List Oper} {Q : Exit → Act → World → Prop} {a0 : Act} {w0 : World} (C : Array Bool → World → Prop) (I : Nat → Value → World → Prop) (hm : P.follows .mixedOrders = true) (hl : lexOk4 l.toArray = true) (hd : dstOk l.toArray a0.tmps.size = true)
    (hC : C (Array.replicate l.toArray.size false) w0.drew)
    (hob : ∀ (i : Nat) (o : Oper), l.toArray[i]? = some o → ∀ listed a w, listed.getD i true = false → closedM l.toArray listed → (∀ e ∈ o.after, Region.binds .any e = true → listed.getD e.on true = true) → C listed w → baseOk l.toArray a0 a → (∀ (j : Nat) (oj : Oper) (d : Nat), l.toArray[j]? = some oj → listed.getD j true = false → oj.dst = some d → a.tmps[d]? = a0.tmps[d]?) → (∀ j oj, l.toArray[j]? = some oj → listed.getD j true = true → I j (valOf oj a) w) →
      Region.wanted o (yielded l.toArray a.tmps) = true ∧ o.wp P a w (fun a' w' => ∃ v, a' = a.put o.dst v ∧ I i (if o.dst.isSome = true then v else undef) w' ∧ C (listed.setIfInBounds i true) w' ∧ ∀ j u, I j u w → I j u w') Q)
    (hQ : ∀ listed a w, (∀ i, i < l.toArray.size → listed.getD i true = true) → C listed w → baseOk l.toArray a0 a → (∀ (i : Nat) (o : Oper), l.toArray[i]? = some o → I i (valOf o a) w) → Q .normal a w) : (Code.region id l.toArray true).wp P Q a0 w0 := by
  have hno : ∀ i, i < l.toArray.size → (Array.replicate l.toArray.size false).getD i true = false := fun i hi => by simp at hi; simp [hi]
  refine wp_region_any hm (wpAny_inv5 C I hl hd hob hQ _ _ _ _ ⟨hC, ⟨rfl, rfl, fun _ _ => rfl⟩, fun i o hi hli => ?_, fun i o hi hli => ?_, fun _ _ _ _ _ _ => rfl⟩ (cu_all _ _))
  · rw [hno i (op_lt hi)] at hli; cases hli
  · rw [hno i (op_lt hi)] at hli; cases hli
theorem new_touchL {w w' : World} (h : Touch (fun j => w.heap.size ≤ j) w w') : Touch (fun _ => False) w w' :=
  ⟨h.os, h.tape, h.output, h.size, fun k hk _ => h.block k hk (by omega)⟩
theorem ri_step {P : Program} {o : Oper} {a : Act} {w w' : World} {K : Act → World → Prop} {Q : Exit → Act → World → Prop} {v : Value} (h : (execOp a.eval o).run P w = .ok (.value v) w') (hk : K (a.put o.dst v) w') : o.wp P a w K Q := by
  unfold Oper.wp
  rw [h]
  exact hk
theorem ri_drop {W : World} {g off n k : Nat} {xs T : List Value} (hl : xs.length = n) (h1 : 1 ≤ n) (hk : n ≤ k) (hk2 : k ≤ maxLen) (hT : T = xs.drop 1) (hc : ∀ j u, xs[j]? = some u → W.cell? ⟨g, off + j, none⟩ = some u) :
    Reads W (.slice (if k = 1 then some ⟨g, off, none⟩ else some ⟨g, off + 1, none⟩) (n - 1) (k - 1)) T := by
  have hTl : T.length = n - 1 := by rw [hT, List.length_drop, hl]
  refine ⟨_, k - 1, by rw [hTl], by omega, by omega, ?_⟩
  by_cases e : k = 1
  · exact .inl (List.eq_nil_of_length_eq_zero (by omega))
  · refine .inr ⟨g, off + 1, by rw [if_neg e], fun j u hu => ?_⟩
    have := hc (1 + j) u (by rw [hT, List.getElem?_drop] at hu; exact hu)
    rw [show off + 1 + j = off + (1 + j) by omega]
    exact this
theorem ri_app {P : Program} {o : Oper} {a : Act} {w w' : World} {v : Value} (s x : Operand) (t tx : TypeId) (ho : o.op = .call { callee := .builtin .append, args := #[s, x], argTypes := #[t, tx] })
    (h : (Builtin.append_ #[t, tx] o.type #[a.eval s, a.eval x]).run P w = .ok v w') : (execOp a.eval o).run P w = .ok (.value v) w' := by
  have heq : execOp a.eval o = (Builtin.append_ #[t, tx] o.type #[a.eval s, a.eval x]).bind (fun v => Sem.pure (Next.value v)) := by
    unfold execOp
    simp only [ho, resolve, invoke, builtin, List.map_toArray, List.map_cons, List.map_nil]
    rfl
  rw [heq, Sem.run_bind' P _ _ w, h]
  rfl

section
variable {P : Program} {t tx T : TypeId} {i : TypeInfo} {z : Value}
/-- append to a slice of one element that was just made. -/
theorem app_from_one (ty : TypeId) (ht : P.underlying t = some (.slice T)) (hi : P.info? T = some i) (hz : i.zero = some z) (hs1 : i.size = 1) (hby : i.bytes ≤ 16) (hzs : z.cells.size = 1)
    {W : World} {N : Nat} {v x u : Value} {n : Nat} {news : List Value} (h : One W N T u v) (hs : Src P 1 tx x n news W) (hn : n ≤ 1000) (hN : N ≤ W.heap.size) :
    ∃ v' W', (Builtin.append_ #[t, tx] ty #[v, x]).run P W = .ok v' W' ∧ Pin W' N T (u :: news) v' ∧ Touch (fun _ => False) W W' := by
  obtain ⟨g, rfl, h2, h8⟩ := h
  have hnl : news.length = n := by have := hs.newsLen; omega
  have hs' : Src P i.size tx x n news W := by rw [hs1]; exact hs
  rcases Nat.eq_zero_or_pos n with hn0 | hn0
  · subst hn0
    obtain rfl : news = [] := List.eq_nil_of_length_eq_zero hnl
    exact ⟨_, _, run_append_nothing (P := P) W t tx ty T i ht hi (some ⟨g, 0, none⟩) 1 1 (Nat.le_refl _) x hs', ⟨g, 1, #[u], rfl, h2, Nat.le_refl _, by unfold maxLen; omega, Nat.le_refl _, fun e => absurd e (List.cons_ne_nil _ _), rfl, h8⟩, Touch.refl _ _⟩
  · have hcell : W.cell? ⟨g, 0, none⟩ = some u := by simp [World.cell?, h2]
    have hold : (Builtin.firstCells i.size 1 (.slice (some ⟨g, 0, none⟩) 1 1)).run P W.drew = .ok ([u] : List Value).toArray W.drew := by
      rw [hs1]
      refine run_firstCells_some W.drew 1 1 ⟨g, 0, none⟩ 1 1 [u] (by simp) (fun j u' hu => ?_)
      have hj : j = 0 := by
        rcases Nat.eq_zero_or_pos j with e | e
        · exact e
        · rw [List.getElem?_eq_none (by simp; omega)] at hu; cases hu
      subst hj
      have : u = u' := by simpa using hu
      subst this
      simpa [Addr.add] using hcell
    have hb : (1 + n) * i.bytes ≤ 1001 * 16 := Nat.mul_le_mul (by omega) hby
    have hr := run_append_grow_src (P := P) W t tx ty T i z ht hi hz (some ⟨g, 0, none⟩) 1 1 [u] hold x n news hs' (by omega) (by omega) (growslice_fits (by omega) (by omega))
    have hge := grownCap_ge W (1 + n) 1 T
    have hcm : grownCap W (1 + n) 1 T ≤ maxLen := grownCap_le_maxLen W (1 + n) 1 T (by unfold maxLen; omega)
    refine ⟨_, _, hr, ⟨W.heap.size, _, _, by rw [List.length_cons, hnl, Nat.add_comm], heap_alloc_new W.drew _, by rw [List.length_cons]; omega, hcm, ?_, fun e => absurd e (List.cons_ne_nil _ _), ?_, hN⟩, ?_⟩
    · simp only [Array.size_append, List.size_toArray, List.length_append, List.length_cons, List.length_nil, size_zeroCells, hzs, hnl]
      omega
    · simp only [Array.toList_append]
      exact List.take_left' (by simp)
    · exact ((Touch.refl (fun _ => False) W).drew).alloc _
end
end Go.Proofs.YtoaeffinjpkahaaDoor

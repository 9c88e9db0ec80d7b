/- A decoder by plain data: running, behind its end, or wrong; Feed as one function of these. -/
import Derived.Test.YtoaeffinjpkahaaDoorInfTm
namespace Go.Proofs.YtoaeffinjpkahaaDoor
set_option linter.unusedSimpArgs false
set_option linter.unusedVariables false
open Go Go.RowKit
set_option maxRecDepth 100000

/-- A decoder: running, behind its end (how many bytes came, were told, what is left), or wrong. -/
inductive DS
  | run (q : QS)
  | fin (came told : Nat) (rest : List UInt8)
  | bad (r told : Nat)
def fedS0 (q : QS) (t : List UInt8) : QS := { q with came := q.came + t.length, bits := q.bits ++ bitsL t }
noncomputable def runS (q : QS) : Nat × QS := runQ (msQ q + 1) q
def stopS (x : Nat × QS) : List UInt8 × Nat × DS :=
  if x.1 = 2 then (x.2.out, 0, .run { x.2 with out := [], told := x.2.told + x.2.out.length })
  else if x.1 = 0 then (x.2.out, 0, .fin x.2.came (x.2.told + x.2.out.length) (bytesL (x.2.bits.drop (x.2.bits.length % 8))))
  else (x.2.out, x.1, .bad x.1 (x.2.told + x.2.out.length))
/-- Feed: what it tells, what is wrong, the decoder behind it. -/
noncomputable def feedQ : DS → List UInt8 → List UInt8 × Nat × DS
  | .run q, t => stopS (runS (fedS0 q t))
  | .fin c t r, s => ([], 0, .fin (c + s.length) t (r ++ s))
  | .bad r t, _ => ([], r, .bad r t)
def toldD : DS → Nat
  | .run q => q.told
  | .fin _ t _ => t
  | .bad _ t => t
def OkD : DS → Prop
  | .run q => GoodQ q ∧ q.st < 11 ∧ q.out = [] ∧ (∀ x ∈ q.bits, x < 2) ∧ q.bits.length ≤ 8 * q.came
  | .fin c _ r => r.length ≤ c
  | .bad r _ => r ≠ 0 ∧ r ≠ 2
def szD : DS → Nat → Prop
  | .run q, B => q.all.length + 300 * msQ q ≤ B ∧ q.told + 300 * msQ q ≤ B ∧ q.came ≤ B
  | .fin c t r, B => c ≤ B ∧ t ≤ B ∧ r.length ≤ B
  | .bad _ t, B => t ≤ B

theorem GoodQ.fed {q : QS} (h : GoodQ q) (t : List UInt8) : GoodQ (fedS0 q t) :=
  ⟨h.st, fun e => by
    have := h.by8 e
    show (q.bits ++ bitsL t).length % 8 = 0
    rw [List.length_append, bitsL_length]; omega, h.left, h.trip, h.trip4, h.cnt, h.nil, h.tel, h.sym, h.cds, h.tlen, h.len, h.len9, h.dst⟩
theorem GoodQ.told {q : QS} (h : GoodQ q) (o : List UInt8) (n : Nat) : GoodQ { q with out := o, told := n } :=
  ⟨h.st, h.by8, h.left, h.trip, h.trip4, h.cnt, h.nil, h.tel, h.sym, h.cds, h.tlen, h.len, h.len9, h.dst⟩
theorem fed_two {q : QS} (h : ∀ x ∈ q.bits, x < 2) (t : List UInt8) : ∀ x ∈ (fedS0 q t).bits, x < 2 := fun x hx => by
  rcases List.mem_append.1 hx with e | e
  · exact h x e
  · exact bitsL_lt _ x e
theorem fed_ms (q : QS) (t : List UInt8) : msQ (fedS0 q t) = msQ q + 16 * t.length := by
  show 2 * (q.bits ++ bitsL t).length + rkQ q.st = 2 * q.bits.length + rkQ q.st + 16 * t.length
  rw [List.length_append, bitsL_length]; omega
theorem runS_facts {q : QS} (hg : GoodQ q) (h2 : ∀ x ∈ q.bits, x < 2) : RunQ q (runS q) := run_q _ q hg h2 (Nat.lt_succ_self _)

theorem feedQ_ok {d : DS} (h : OkD d) (t : List UInt8) : OkD (feedQ d t).2.2 ∧ toldD (feedQ d t).2.2 = toldD d + (feedQ d t).1.length ∧ ((feedQ d t).2.1 ≠ 0 → ∃ n, (feedQ d t).2.2 = .bad (feedQ d t).2.1 n) := by
  cases d with
  | run q =>
    obtain ⟨hg, hst, ho, h2, h8⟩ := h
    have hr := runS_facts (hg.fed t) (fed_two h2 t)
    show OkD (stopS (runS (fedS0 q t))).2.2 ∧ toldD (stopS (runS (fedS0 q t))).2.2 = q.told + (stopS (runS (fedS0 q t))).1.length ∧ ((stopS (runS (fedS0 q t))).2.1 ≠ 0 → _)
    have ht : (runS (fedS0 q t)).2.told = q.told := hr.told
    show OkD (stopS (runS (fedS0 q t))).2.2 ∧ toldD (stopS (runS (fedS0 q t))).2.2 = q.told + (stopS (runS (fedS0 q t))).1.length ∧ ((stopS (runS (fedS0 q t))).2.1 ≠ 0 → ∃ n, (stopS (runS (fedS0 q t))).2.2 = .bad (stopS (runS (fedS0 q t))).2.1 n)
    have hc : (runS (fedS0 q t)).2.came = q.came + t.length := hr.came
    have hbl : (runS (fedS0 q t)).2.bits.length ≤ 8 * (runS (fedS0 q t)).2.came := by
      obtain ⟨ext, _, _, hx⟩ := hr.tells
      have hm := fed_ms q t
      rw [hm] at hx
      have hb : 2 * (runS (fedS0 q t)).2.bits.length ≤ msQ (runS (fedS0 q t)).2 := by unfold msQ; omega
      have hq : msQ q ≤ 2 * q.bits.length + 1 := by unfold msQ; have := rk_le q.st; omega
      omega
    generalize runS (fedS0 q t) = x at hr ht hc hbl
    unfold stopS
    split
    · rename_i e
      exact ⟨⟨(hr.good (.inr e)).told _ _, hr.wait e, rfl, hr.two, hbl⟩, by show x.2.told + _ = _; rw [ht], fun e => absurd rfl e⟩
    · split
      · rename_i e1 e
        refine ⟨?_, by show x.2.told + _ = _; rw [ht], fun e => absurd rfl e⟩
        show (bytesK _ _).length ≤ x.2.came
        rw [bytesK_length, List.length_drop]; omega
      · rename_i e1 e2
        exact ⟨⟨e2, e1⟩, by show x.2.told + _ = _; rw [ht], fun _ => ⟨_, rfl⟩⟩
  | fin c n r =>
    refine ⟨?_, rfl, fun e => absurd rfl e⟩
    have h' : r.length ≤ c := h
    show (r ++ t).length ≤ c + t.length
    rw [List.length_append]; omega
  | bad r n => exact ⟨h, rfl, fun _ => ⟨_, rfl⟩⟩

theorem feedQ_sz {d : DS} (hk : OkD d) {B : Nat} (h : szD d B) (t : List UInt8) : szD (feedQ d t).2.2 (B + 4800 * t.length) := by
  cases d with
  | run q =>
    obtain ⟨hg, hst, ho, h2, h8⟩ := hk
    obtain ⟨z1, z2, z3⟩ := h
    have hr := runS_facts (hg.fed t) (fed_two h2 t)
    have hm := fed_ms q t
    show szD (stopS (runS (fedS0 q t))).2.2 (B + 4800 * t.length)
    have ht : (runS (fedS0 q t)).2.told = q.told := hr.told
    have hc : (runS (fedS0 q t)).2.came = q.came + t.length := hr.came
    obtain ⟨ext, x1, x2, x3⟩ := hr.tells
    have x1' : (runS (fedS0 q t)).2.out = ext := by rw [x1]; show q.out ++ ext = ext; rw [ho]; rfl
    have x2' : (runS (fedS0 q t)).2.all = q.all ++ ext := x2
    rw [hm] at x3
    clear x1 x2 hr
    generalize runS (fedS0 q t) = x at ht hc x1' x2' x3
    have hmx : msQ { x.2 with out := [], told := x.2.told + x.2.out.length } = msQ x.2 := rfl
    have hb : 2 * x.2.bits.length ≤ msQ x.2 := by unfold msQ; omega
    unfold stopS
    split
    · refine ⟨?_, ?_, ?_⟩
      · show x.2.all.length + 300 * msQ x.2 ≤ _
        rw [x2', List.length_append]; omega
      · show x.2.told + x.2.out.length + 300 * msQ x.2 ≤ _
        rw [ht, x1']; omega
      · show x.2.came ≤ _
        omega
    · split
      · refine ⟨by omega, by rw [ht, x1']; omega, ?_⟩
        have : (bytesL (x.2.bits.drop (x.2.bits.length % 8))).length ≤ x.2.bits.length := by
          show (bytesK _ _).length ≤ _
          rw [bytesK_length, List.length_drop]; omega
        omega
      · show x.2.told + x.2.out.length ≤ _
        rw [ht, x1']; omega
  | fin c n r =>
    obtain ⟨z1, z2, z3⟩ := h
    refine ⟨by omega, by omega, ?_⟩
    rw [List.length_append]; omega
  | bad r n =>
    have h' : n ≤ B := h
    show n ≤ _
    omega

/-- A decoder in memory, and the blocks that it may write to. -/
def DecD (F : Nat → Prop) (w : World) (b : Nat) : DS → Prop
  | .run q => DecQ F w w b q ∧ w.cell? ⟨b, 7, none⟩ = some (.slice none 0 0)
  | .fin c t r => DecE w b c t r ∧ F b ∧ ∀ j v, (j = 4 ∨ j = 5) → w.cell? ⟨b, j, none⟩ = some v → ∀ k, v.ownBlock = some k → F k
  | .bad r t => DecF w b r t ∧ F b ∧ ∀ v, w.cell? ⟨b, 5, none⟩ = some v → ∀ k, v.ownBlock = some k → F k
theorem DecQ.rebase {F F' : Nat → Prop} {w w' : World} {b : Nat} {q : QS} (h : DecQ F w w' b q) (hF : ∀ k, F k ∨ w.heap.size ≤ k → F' k) : DecQ F' w' w' b q ∧ Touch F w w' := by
  obtain ⟨v, p, ⟨⟨v5, g, v7, v8, p17, p18, hD, hown, hT⟩, hrow, h15⟩, hv⟩ := h
  exact ⟨⟨v, p, ⟨⟨v5, g, v7, v8, p17, p18, hD, fun k hk => .inl (hF k (hown k hk)), Touch.refl _ _⟩, hrow, fun k hk => .inl (hF k (h15 k hk))⟩, hv⟩, hT⟩
theorem DecX.touch {F : Nat → Prop} {w w' : World} {b : Nat} {x : Nat × QS} (h : DecX F w w' b x) : Touch F w w' := by
  obtain ⟨⟨v, p, v5, g, v7, v8, p17, p18, hD, hown, hT⟩, _⟩ := h
  exact hT
theorem DecQ.foot {F : Nat → Prop} {w : World} {b : Nat} {q : QS} (h : DecQ F w w b q) : F b := by
  obtain ⟨v, p, ⟨⟨v5, g, v7, v8, p17, p18, hD, hown, hT⟩, hrow, h15⟩, hv⟩ := h
  rcases hown b (.inl rfl) with e | e
  · exact e
  · have := hD.blk.lt
    omega
/-- What came of a run, settled. -/
def StopAt (F : Nat → Prop) (w : World) (b : Nat) (d : DS) (w' : World) : Prop := DecD (fun k => F k ∨ w.heap.size ≤ k) w' b d ∧ Touch F w w'
theorem StopAt.still {F : Nat → Prop} {w : World} {b : Nat} {d : DS} {w1 w2 : World} (h : StopAt F w b d w1) (ht : Touch (fun _ => False) w1 w2) : StopAt F w b d w2 := by
  obtain ⟨h1, h2⟩ := h
  refine ⟨?_, h2.trans' ht (fun k e => e.elim)⟩
  cases d with
  | run q =>
    obtain ⟨⟨v, p, hL, hv⟩, h7⟩ := h1
    refine ⟨?_, ht.cell h7 id⟩
    exact (DecQ.rebase (F := fun k => F k ∨ w.heap.size ≤ k) (w := w1) (w' := w2) ⟨v, p, hL.still ht, hv⟩ (fun k e => by
      rcases e with e | e
      · exact e
      · have := h2.size
        exact .inr (by omega))).1
  | fin c t r =>
    obtain ⟨⟨c0, c1, c2, c3, v4, c4, hB, hap, hf, hbk⟩, k1, k2⟩ := h1
    have hb : b < w1.heap.size := World.block_lt_of_cell? w1 ⟨b, 0, none⟩ c0
    have c5 : ∃ v5, w1.cell? ⟨b, 5, none⟩ = some v5 := by
      obtain ⟨v5, g, q, _⟩ := hbk
      exact ⟨v5, Block.cell q 5⟩
    obtain ⟨v5, c5⟩ := c5
    refine ⟨⟨ht.cell c0 id, ht.cell c1 id, ht.cell c2 id, ht.cell c3 id, v4, ht.cell c4 id, hB.kept ht (fun _ _ => id), hap, fun j => (ht.frozen (p := ⟨b, j, none⟩) hb id).trans (hf j), hbk.kept ht id (fun _ _ _ _ => id)⟩, k1, fun j v hj e4 => ?_⟩
    rcases hj with rfl | rfl
    · have := (ht.cell c4 id).symm.trans e4
      exact k2 4 v (.inl rfl) (by rw [← this]; exact c4)
    · have := (ht.cell c5 id).symm.trans e4
      exact k2 5 v (.inr rfl) (by rw [← this]; exact c5)
  | bad r t =>
    obtain ⟨h1, h2, h3⟩ := h1
    obtain ⟨v5, c5⟩ : ∃ v5, w1.cell? ⟨b, 5, none⟩ = some v5 := by
      obtain ⟨v5, g, q, _⟩ := h1
      exact ⟨v5, Block.cell q 5⟩
    refine ⟨h1.kept ht id (fun _ _ _ _ => id), h2, fun v e => ?_⟩
    have := (ht.cell c5 id).symm.trans e
    exact h3 v (by rw [← this]; exact c5)

set_option maxHeartbeats 1000000 in
theorem dfeed_run {F : Nat → Prop} {w : World} {b : Nat} {q : QS} (h : DecQ F w w b q) (hk : OkD (.run q)) {B : Nat} (hz : szD (.run q) B) (t : ByteArray) (hB : B + 4800 * t.size < 900000000) (hT : TabsI w) (hU1 : ¬ F 1) (hU2 : ¬ F 2) :
    Calls Tryd.prog 10 #[.pointer (some ⟨b, 0, none⟩), .string t] w fun e w' => e = .returned (.tuple #[.string ⟨(feedQ (.run q) t.data.toList).1.toArray⟩, .int .i64 ((feedQ (.run q) t.data.toList).2.1 : Nat)]) ∧ StopAt F w b (feedQ (.run q) t.data.toList).2.2 w' := by
  have htl := data_length t
  obtain ⟨hg, hst, ho, h2, h8⟩ := hk
  have hr := runS_facts (hg.fed t.data.toList) (fed_two h2 t.data.toList)
  have hm := fed_ms q t.data.toList
  rw [htl] at hm
  obtain ⟨z1, z2, z3⟩ := hz
  have hbq : 2 * q.bits.length ≤ msQ q := by unfold msQ; omega
  obtain ⟨ext, x1, x2, x3⟩ := hr.tells
  have x1' : (runS (fedS0 q t.data.toList)).2.out = ext := by rw [x1]; show q.out ++ ext = ext; rw [ho]; rfl
  have ht : (runS (fedS0 q t.data.toList)).2.told = q.told := hr.told
  rw [hm] at x3
  have hbad : ∀ W, DecQ F w W b { q with came := q.came + t.size, bits := q.bits ++ bitsL t.data.toList } → Calls Tryd.prog 36 #[.pointer (some ⟨b, 0, none⟩)] W fun e w' => e = .returned (.int .i64 ((runS (fedS0 q t.data.toList)).1 : Nat)) ∧ DecX F w w' b (runS (fedS0 q t.data.toList)) := fun W hW => by
    have e : ({ q with came := q.came + t.size, bits := q.bits ++ bitsL t.data.toList } : QS) = fedS0 q t.data.toList := by unfold fedS0; rw [htl]
    rw [e] at hW
    exact q_run hW (hg.fed _) _ (Nat.lt_succ_self _) ⟨by rw [hm]; show q.out.length + _ < _; rw [ho]; show 0 + _ < _; omega, by rw [hm]; show q.all.length + _ < _; omega⟩ hT hU1 hU2
  show Calls _ _ _ _ fun e w' => e = .returned (.tuple #[.string ⟨(stopS (runS (fedS0 q t.data.toList))).1.toArray⟩, .int .i64 ((stopS (runS (fedS0 q t.data.toList))).2.1 : Nat)]) ∧ StopAt F w b (stopS (runS (fedS0 q t.data.toList))).2.2 w'
  have hx3 : (runS (fedS0 q t.data.toList)).2.told + (runS (fedS0 q t.data.toList)).2.out.length < 1000000000 := by rw [ht, x1']; omega
  clear x1 x2 hm
  generalize runS (fedS0 q t.data.toList) = x at hr hbad hx3 x1' ht
  obtain ⟨r, q2⟩ := x
  have hF' : ∀ k, F k ∨ w.heap.size ≤ k → F k ∨ w.heap.size ≤ k := fun k e => e
  by_cases r2 : r = 2
  · subst r2
    have e : stopS (2, q2) = (q2.out, 0, .run { q2 with out := [], told := q2.told + q2.out.length }) := rfl
    rw [e]
    refine qfeed_gen h hst t 2 q2 (by omega) (by omega) hx3 hbad (StopAt F w b (.run { q2 with out := [], told := q2.told + q2.out.length })) 0 (fun W W' hW hT' => hW.still hT') (fun W hW h7 => ?_)
    have hq := hW.2 (.inr rfl)
    refine (settle_more _ W).mono ?_
    rintro e w' ⟨rfl, rfl⟩
    obtain ⟨v0, p0, hd⟩ := hq.dec
    exact ⟨rfl, ⟨⟨(DecQ.rebase hq hF').1, h7⟩, (DecQ.rebase hq hF').2⟩, hd.cells.1⟩
  · by_cases r0 : r = 0
    · subst r0
      have e : stopS (0, q2) = (q2.out, 0, .fin q2.came (q2.told + q2.out.length) (bytesL (q2.bits.drop (q2.bits.length % 8)))) := rfl
      rw [e]
      refine qfeed_gen h hst t 0 q2 (by omega) (by omega) hx3 hbad (StopAt F w b (.fin q2.came (q2.told + q2.out.length) (bytesL (q2.bits.drop (q2.bits.length % 8))))) 0 (fun W W' hW hT' => hW.still hT') (fun W hW h7 => ?_)
      obtain ⟨v0, p0, hd⟩ := hW.1
      have hTW : w.heap.size ≤ W.heap.size := hW.touch.size
      have hbF : F b ∨ w.heap.size ≤ b := by
        obtain ⟨v5, g, v7, v8, p17, p18, hD, hown, hT'⟩ := hd
        exact hown b (.inl rfl)
      refine (settle_ok hd).mono ?_
      rintro e w' ⟨rfl, hE, hT', h4⟩
      exact ⟨rfl, ⟨⟨hE, hbF, fun j v4 hj e4 k ek => .inr (by have := h4 j v4 hj e4 k ek; omega)⟩, hT'⟩, hE.2.1⟩
    · have e : stopS (r, q2) = (q2.out, r, .bad r (q2.told + q2.out.length)) := by unfold stopS; rw [if_neg r2, if_neg r0]
      rw [e]
      refine qfeed_gen h hst t r q2 (by omega) (by omega) hx3 hbad (StopAt F w b (.bad r (q2.told + q2.out.length))) r (fun W W' hW hT' => hW.still hT') (fun W hW h7 => ?_)
      obtain ⟨v0, p0, hd⟩ := hW.1
      have hbF : F b ∨ w.heap.size ≤ b := by
        obtain ⟨v5, g, v7, v8, p17, p18, hD, hown, hT'⟩ := hd
        exact hown b (.inl rfl)
      refine (settle_bad hd r r0 r2).mono ?_
      rintro e w' ⟨rfl, hE, hT', h5⟩
      exact ⟨rfl, ⟨⟨hE, hbF, fun v e k ek => by rw [h5] at e; cases e; simp [Value.ownBlock] at ek⟩, hT'⟩, hE.cell.2.1⟩

theorem dfeed_bad {F : Nat → Prop} {w : World} {b r n : Nat} (h : DecD F w b (.bad r n)) (hr : r ≠ 0) (t : ByteArray) :
    Calls Tryd.prog 10 #[.pointer (some ⟨b, 0, none⟩), .string t] w fun e w' => e = .returned (.tuple #[.string ⟨#[]⟩, .int .i64 (r : Nat)]) ∧ StopAt F w b (.bad r n) w' := by
  have c1 : w.cell? ⟨b, 1, none⟩ = some (.int .i64 (r : Nat)) := h.1.cell.2.1
  have HH := Lib.hid h
  have hr0 : ¬ (r : Int) = 0 := by omega
  clear h hr
  go_enter Tryd.func10, Tryd.ntmps10
  go_wp2_with fail
  go_region
  go_wp2_with fail
  go_ret2
  exact ⟨rfl, StopAt.still ⟨⟨HH.out.1, .inl HH.out.2.1, fun v e k ek => .inl (HH.out.2.2 v e k ek)⟩, Touch.refl _ _⟩ (Touch.refl _ _).drew⟩
end Go.Proofs.YtoaeffinjpkahaaDoor

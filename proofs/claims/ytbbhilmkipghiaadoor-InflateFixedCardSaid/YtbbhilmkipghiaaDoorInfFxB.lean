/- Plain: the tokens of the law as tokens with symbols; what they tell is what the reference's Expand tells. -/
import Derived.Test.YtbbhilmkipghiaaDoorInfZ
import Derived.Test.YtbbhilmkipghiaaDoorLzE
import Derived.Test.YtbbhilmkipghiaaDoorInfO
namespace Go.Proofs.YtbbhilmkipghiaaDoor
open Go Go.RowKit
set_option maxRecDepth 100000

def tkOf (t : Tok) : Tk := if t.n = 0 then .lit t.b else .mat t.n.toNat t.d.toNat (lenS t.n.toNat - 257) (symN 1 (t.d.toNat - 1))
theorem good_mat {t : Tok} (h : goodB t = true) (hn : ¬ t.n = 0) : 3 ≤ t.n ∧ t.n ≤ 258 ∧ 1 ≤ t.d ∧ t.d ≤ 32768 := by
  unfold goodB at h
  rw [if_neg hn] at h
  exact (of_decide_eq_true h).2
theorem tk_ok {t : Tok} {k : Nat} (h : goodB t = true) (hk : t.d ≤ (k : Int)) : (tkOf t).ok k := by
  unfold tkOf
  by_cases hn : t.n = 0
  · rw [if_pos hn]; trivial
  · rw [if_neg hn]
    obtain ⟨g1, g2, g3, g4⟩ := good_mat h hn
    obtain ⟨s, hs, e1, e2, e3, e4, _, _⟩ := len_facts t.n.toNat (by omega) (by omega)
    obtain ⟨r, hr, f1, f2, f3, f4, _⟩ := dist_facts t.d.toNat (by omega) (by omega)
    have es : lenS t.n.toNat - 257 = s := by omega
    rw [es, f1]
    refine ⟨hs, hr, by omega, ?_, by omega, by omega, ?_, by omega, by omega⟩
    · rw [e3]
      have : t.n.toNat - lenL s = lenV t.n.toNat := by omega
      rw [this]; exact e4
    · rw [f3]
      have : t.d.toNat - (leastN 1 r + 1) = valN 1 (t.d.toNat - 1) := by omega
      rw [this]; exact f4
theorem tk_next (t : Tok) (all : List UInt8) : (tkOf t).next all = tellL t all := by
  unfold tkOf tellL
  by_cases hn : t.n = 0
  · rw [if_pos hn, if_pos hn]; rfl
  · rw [if_neg hn, if_neg hn]; rfl
/-- Each token is good and goes back to what is there. -/
def GoodAll : List UInt8 → List Tok → Prop
  | _, [] => True
  | all, t :: l => goodB t = true ∧ t.d ≤ (all.length : Int) ∧ GoodAll (tellL t all) l
theorem tks_ok : ∀ (ts : List Tok) (all : List UInt8), GoodAll all ts → OkAll all (ts.map tkOf) ∧ expandL all ts = some (nextL all (ts.map tkOf))
  | [], _, _ => ⟨trivial, rfl⟩
  | t :: l, all, ⟨h1, h2, h3⟩ => by
    obtain ⟨k1, k2⟩ := tks_ok l (tellL t all) h3
    refine ⟨⟨tk_ok h1 h2, by rw [tk_next]; exact k1⟩, ?_⟩
    show (if goodB t = true ∧ t.d ≤ all.length then expandL (tellL t all) l else none) = some (nextL ((tkOf t).next all) (l.map tkOf))
    rw [if_pos ⟨h1, h2⟩, k2, tk_next]
theorem good_snoc : ∀ (ts : List Tok) (all : List UInt8) (t : Tok), GoodAll all ts → goodB t = true → t.d ≤ ((nextL all (ts.map tkOf)).length : Int) → GoodAll all (ts ++ [t])
  | [], _, _, _, h1, h2 => ⟨h1, h2, trivial⟩
  | x :: l, all, t, ⟨k1, k2, k3⟩, h1, h2 => ⟨k1, k2, good_snoc l (tellL x all) t k3 h1 (by rw [← tk_next]; exact h2)⟩
theorem next_snoc : ∀ (ts : List Tk) (all : List UInt8) (t : Tk), nextL all (ts ++ [t]) = t.next (nextL all ts)
  | [], _, _ => rfl
  | x :: l, all, t => next_snoc l (x.next all) t
theorem next_len {t : Tok} (h : goodB t = true) (all : List UInt8) : (tellL t all).length = all.length + max t.n.toNat 1 := by
  unfold tellL
  by_cases hn : t.n = 0
  · rw [if_pos hn, hn]; simp
  · rw [if_neg hn, copyL_length]
    have := good_mat h hn
    omega
end Go.Proofs.YtbbhilmkipghiaaDoor
/- A decoder that is fed a fixed block of tokens, piece by piece. -/
namespace Go.Proofs.YtbbhilmkipghiaaDoor
open Go Go.RowKit
set_option maxRecDepth 100000

theorem fixed_chain (ts : List Tok) (h : GoodAll [] ts) (hl : ts.length ≤ 60) : ∃ n c bs o, Chain n c bs o ∧ 0 < n ∧ c 0 = ps0 ∧ flat bs 0 n = [1, 1, 0] ++ (((ts.map tkOf).map Tk.bits).flatten ++ fw 256) ∧ tl o 0 n = nextL [] (ts.map tkOf) := by
  obtain ⟨hok, _⟩ := tks_ok ts [] h
  obtain ⟨L, cN, h1, h2, h3⟩ := tok_chain (ts.map tkOf) { ps0 with last := true, fixed := true, st := 7 } rfl rfl rfl hok (by show 0 + 258 * _ < _; rw [List.length_map]; omega)
  have hs : StepOk ps0 [1, 1, 0] { ps0 with last := true, fixed := true, st := 7 } [] := step_block (c := ps0) rfl rfl (x0 := 1)
  have hc := (ChainL.cons ps0 [1, 1, 0] [] _ L cN (by decide) hs (cut_block rfl) h1).chain
  refine ⟨_, _, _, _, hc, by simp, rfl, ?_, ?_⟩
  · rw [flat_all]
    simp only [List.map_cons, List.flatten_cons, h2]
  · rw [tl_all]
    simp only [List.map_cons, List.flatten_cons, List.nil_append]
    exact h3
theorem flat_add (bs : Nat → List Nat) : ∀ k i j, flat bs i (k + j) = flat bs i k ++ flat bs (i + k) j
  | 0, i, j => by simp [flat]
  | k + 1, i, j => by
    rw [Nat.add_right_comm]
    show bs i ++ flat bs (i + 1) (k + j) = (bs i ++ flat bs (i + 1) k) ++ flat bs (i + (k + 1)) j
    rw [flat_add bs k (i + 1) j, List.append_assoc, show i + 1 + k = i + (k + 1) by omega]
/-- A decoder that was fed so many bytes of a stream, or all of it. -/
def FedAt (n : Nat) (c : Nat → PS) (bs : Nat → List Nat) (o : Nat → List UInt8) (S : List UInt8) (w0 w : World) (b k : Nat) (got : List UInt8) : Prop :=
  (k < S.length ∧ ∃ i r, i < n ∧ flat bs 0 i ++ r = bitsL (S.take k) ∧ got = tl o 0 i ∧ DecR (fun _ => False) w0 w b (psAt (c i) k got.length [] r)) ∨
  (S.length ≤ k ∧ got = tl o 0 n ∧ DecE w b S.length got.length [] ∧ Touch (fun _ => False) w0 w)
theorem fed_first {n : Nat} {c : Nat → PS} {bs : Nat → List Nat} {o : Nat → List UInt8} {S : List UInt8} {w0 w : World} {b : Nat} (hn : 0 < n) (hc : c 0 = ps0) (hS : 0 < S.length) (h : DecR (fun _ => False) w0 w b ps0) : FedAt n c bs o S w0 w b 0 [] :=
  .inl ⟨hS, 0, [], hn, rfl, rfl, by rw [hc]; exact h⟩
theorem fed_round {n : Nat} {c : Nat → PS} {bs : Nat → List Nat} {o : Nat → List UInt8} (h : Chain n c bs o) {S : List UInt8} {pad : List Nat} (hl : bitsL S = flat bs 0 n ++ pad) (hp : pad.length < 8) (hS : S.length < 100000) (ho : ∀ k, k ≤ n → (tl o 0 k).length ≤ 20000)
    {w0 w : World} {b k m : Nat} {got : List UInt8} (hk : k < S.length) (hF : FedAt n c bs o S w0 w b k got) (t : ByteArray) (ht : t.data.toList = (S.drop k).take m) :
    Calls Tryd.prog 19 #[.pointer (some ⟨b, 0, none⟩), .string t] w fun e w' => ∃ out, e = .returned (.tuple #[.string ⟨out.toArray⟩, .int .i64 0]) ∧ FedAt n c bs o S w0 w' b (k + m) (got ++ out) ∧ (got ++ out).length ≤ 20000 := by
  rcases hF with ⟨_, i, r, hi, hr, hg, hD⟩ | ⟨h1, _⟩
  case inr => omega
  have hts : t.size = min m (S.length - k) := by
    have := congrArg List.length ht
    rw [List.length_take, List.length_drop, data_length] at this
    exact this
  have hsplit : bitsL (S.take k) ++ (bitsL t.data.toList ++ bitsL (S.drop (k + m))) = bitsL S := by
    rw [ht, ← bitsL_append, ← bitsL_append, ← List.drop_drop, List.take_append_drop, List.take_append_drop]
  have htk : bitsL (S.take (k + m)) = bitsL (S.take k) ++ bitsL t.data.toList := by
    rw [ht, ← bitsL_append, List.take_add]
  have hfn : flat bs 0 n = flat bs 0 i ++ flat bs i (n - i) := by
    have e := flat_add bs i 0 (n - i)
    rw [show i + (n - i) = n by omega, Nat.zero_add] at e
    exact e
  have hy : (r ++ bitsL t.data.toList) ++ bitsL (S.drop (k + m)) = flat bs i (n - i) ++ pad := by
    rw [← hr, hl, hfn, List.append_assoc, List.append_assoc] at hsplit
    rw [List.append_assoc]
    exact List.append_cancel_left hsplit
  have hta : ∀ j, tl o 0 (i + j) = tl o 0 i ++ tl o i j := fun j => by rw [tl_add, Nat.zero_add]
  have hoj : ∀ j, j ≤ n - i → (tl o i j).length ≤ 20000 ∧ (got ++ tl o i j).length ≤ 20000 := fun j hj => by
    have := ho (i + j) (by omega)
    rw [hta, ← hg] at this
    rw [List.length_append] at this ⊢
    omega
  have hgl : got.length ≤ 20000 := by rw [hg]; exact ho i (by omega)
  have hrl : r.length ≤ 8 * k := by
    have := congrArg List.length hr
    rw [List.length_append, bitsL_length, List.length_take] at this
    omega
  have hyl : (bitsL (S.drop (k + m))).length = 8 * (S.length - (k + m)) := by rw [bitsL_length, List.length_drop]
  refine (h.feed t hi (fun j hj => by have := hoj j hj; omega) hy (by omega) (by omega) (fun j hj => by have := hoj j hj; omega) hD).mono ?_
  rintro e w' (⟨j, r', q, hij, hB, hrq, hq, he, hD'⟩ | ⟨t', hB, hty, he, hE, hT⟩)
  · refine ⟨_, he, .inl ⟨?_, i + j, r', hij, ?_, by rw [hta, ← hg], ?_⟩, (hoj j (by omega)).2⟩
    · by_cases hlt : k + m < S.length
      · exact hlt
      · exfalso
        rw [hB] at hy
        have e1 := congrArg List.length hy
        have e2 := congrArg List.length hrq
        have e3 : flat bs i (n - i) = flat bs i j ++ flat bs (i + j) (n - i - j) := by
          have e := flat_add bs j i (n - i - j)
          rw [show j + (n - i - j) = n - i by omega] at e
          exact e
        have e4 : flat bs (i + j) (n - i - j) = bs (i + j) ++ flat bs (i + j + 1) (n - i - j - 1) := by
          rw [show n - i - j = (n - i - j - 1) + 1 by omega]
          rfl
        have e5 := List.length_pos_iff.2 hq
        rw [e3, e4] at e1
        simp only [List.length_append] at e1 e2
        omega
    · rw [flat_add, Nat.zero_add, List.append_assoc, ← hB, ← List.append_assoc, hr, htk]
    · by_cases hlt : k + m ≤ S.length
      · rw [hts, show min m (S.length - k) = m by omega] at hD'
        rw [List.length_append]
        exact hD'
      · exfalso
        rw [hB] at hy
        have e1 := congrArg List.length hy
        have e2 := congrArg List.length hrq
        have e3 : flat bs i (n - i) = flat bs i j ++ flat bs (i + j) (n - i - j) := by
          have e := flat_add bs j i (n - i - j)
          rw [show j + (n - i - j) = n - i by omega] at e
          exact e
        have e4 : flat bs (i + j) (n - i - j) = bs (i + j) ++ flat bs (i + j + 1) (n - i - j - 1) := by
          rw [show n - i - j = (n - i - j - 1) + 1 by omega]
          rfl
        have e5 := List.length_pos_iff.2 hq
        rw [e3, e4] at e1
        simp only [List.length_append] at e1 e2
        omega
  · have hz : S.length ≤ k + m := by
      have := congrArg List.length hty
      rw [List.length_append] at this
      omega
    have hp2 : t' = pad := by
      have : bitsL (S.drop (k + m)) = [] := by rw [List.drop_eq_nil_of_le hz]; rfl
      rw [this, List.append_nil] at hty
      exact hty
    refine ⟨_, he, .inr ⟨hz, by rw [hg, ← hta, show i + (n - i) = n by omega], ?_, hT⟩, (hoj _ (Nat.le_refl _)).2⟩
    rw [hp2, Nat.mod_eq_of_lt hp, List.drop_length, hts, show k + min m (S.length - k) = S.length by omega] at hE
    rw [List.length_append]
    exact hE
end Go.Proofs.YtbbhilmkipghiaaDoor
/- The law's own state while it writes a fixed block: the tokens' row, the writer, the boxes of a round. -/
namespace Go.Proofs.YtbbhilmkipghiaaDoor
open Go Go.RowKit
set_option maxRecDepth 100000

def hdrL : List Nat := [1, 1, 0]
def tkBits (ts : List Tok) : List Nat := ((ts.map tkOf).map Tk.bits).flatten
theorem tok_one (t : Tok) : ∀ u ∈ tokV t, u.oneCell' = true := by
  intro u hu
  simp only [tokV, List.mem_cons, List.not_mem_nil, or_false] at hu
  rcases hu with rfl | rfl | rfl <;> rfl
theorem tkBits_snoc (ts : List Tok) (t : Tok) : tkBits (ts ++ [t]) = tkBits ts ++ (tkOf t).bits := by simp [tkBits]

structure RS (w W : World) (wb : Nat) (v : Value) (n : Nat) (xs : List Value) (B : List (Nat × Obj)) (l : List Nat) : Prop where
  own : W.ownsRow w.heap.size 31 3 v n xs
  wr : ∃ row, WrAt W wb 0 l row ∧ (∀ k, row = some k → w.heap.size ≤ k ∧ v.ownBlock ≠ some k) ∧ ∀ x ∈ B, row ≠ some x.1
  box : ∀ x ∈ B, W.heap[x.1]? = some x.2 ∧ x.1 ≠ wb ∧ v.ownBlock ≠ some x.1
  ap : w.heap.size ≤ wb ∧ v.ownBlock ≠ some wb
  touch : Touch (fun _ => False) w W

theorem wr_lt {w : World} {b : Nat} {l : List Nat} {row : Option Nat} (h : WrAt w b 0 l row) : b < w.heap.size ∧ ∀ k, row = some k → k < w.heap.size := by
  obtain ⟨xs, p, s, v, hraw, hrow, _⟩ := h
  exact ⟨World.block_lt_of_cell? w _ hraw.cells.1, fun k hk => hraw.row.lt k (by rw [hrow]; exact hk)⟩
theorem wr_row {w : World} {b o : Nat} {l l' : List Nat} {row row' : Option Nat} (h : WrAt w b o l row) (h' : WrAt w b o l' row') : row = row' := by
  obtain ⟨_, _, _, v, hr, e, _⟩ := h
  obtain ⟨_, _, _, v', hr', e', _⟩ := h'
  have := hr.cells.c0.symm.trans hr'.cells.c0
  rw [← e, ← e', Option.some.inj this]
theorem own_same {w w' : World} {base : Nat} {e : TypeId} {k : Nat} {v : Value} {n : Nat} {xs : List Value} (h : w.ownsRow base e k v n xs) (hs : ∀ g, v.ownBlock = some g → w'.heap[g]? = w.heap[g]?) : w'.ownsRow base e k v n xs := by
  refine ⟨h.1, ?_⟩
  rcases h.2 with h2 | ⟨g, cap, cur, rfl, hb, hh, r⟩
  · exact .inl h2
  · exact .inr ⟨g, cap, cur, rfl, hb, by rw [hs g rfl]; exact hh, r⟩
section
variable {w W W' : World} {wb n : Nat} {v : Value} {xs : List Value} {B : List (Nat × Obj)} {l l' : List Nat}
theorem RS.lt (h : RS w W wb v n xs B l) : wb < W.heap.size := by
  obtain ⟨row, h1, _⟩ := h.wr
  exact (wr_lt h1).1
theorem RS.still (h : RS w W wb v n xs B l) (ht : Touch (fun _ => False) W W') : RS w W' wb v n xs B l := by
  obtain ⟨row, h1, h2, h3⟩ := h.wr
  exact ⟨own_still h.own ht (fun _ _ => id), ⟨row, h1.kept ht id (fun _ _ => id), h2, h3⟩, fun x hx => ⟨(ht.block x.1 (Array.getElem?_eq_some_iff.1 (h.box x hx).1).1 id).trans (h.box x hx).1, (h.box x hx).2⟩, h.ap, h.touch.trans ht⟩
theorem RS.add (h : RS w W wb v n xs B l) (ht : Touch (fun _ => False) W W') {q : Nat} {o : Obj} (ho : W'.heap[q]? = some o) (hq : W.heap.size ≤ q) : RS w W' wb v n xs ((q, o) :: B) l := by
  have h' := h.still ht
  obtain ⟨row, h1, h2, h3⟩ := h.wr
  have hl := wr_lt h1
  have hol := own_lt h.own
  refine ⟨h'.own, ⟨row, h1.kept ht id (fun _ _ => id), h2, fun x hx => ?_⟩, fun x hx => ?_, h.ap, h'.touch⟩
  · rcases List.mem_cons.1 hx with rfl | hx
    · intro e; have := hl.2 _ e; omega
    · exact h3 x hx
  · rcases List.mem_cons.1 hx with rfl | hx
    · exact ⟨ho, by have := hl.1; show q ≠ wb; omega, fun e => by have := hol _ e; omega⟩
    · exact h'.box x hx
theorem RS.move (h : RS w W wb v n xs B l) (hm : ∀ row, WrAt W wb 0 l row → WrG row W W' wb l') : RS w W' wb v n xs B l' := by
  obtain ⟨row, h1, h2, h3⟩ := h.wr
  obtain ⟨row', k1, k2, k3⟩ := hm row h1
  have hol := own_lt h.own
  have keep : ∀ x, x < W.heap.size → x ≠ wb → row ≠ some x → W'.heap[x]? = W.heap[x]? := fun x a b c => k3.block x a (fun e => e.elim b c)
  refine ⟨own_same h.own (fun g hg => keep g (hol g hg) (fun e => h.ap.2 (by rw [hg, e])) (fun e => (h2 g e).2 hg)), ⟨row', k1, fun k hk => ?_, fun x hx => ?_⟩, fun x hx => ?_, h.ap, h.touch.trans' k3 (fun k hk => ?_)⟩
  · rcases k2 with rfl | ⟨g, rfl, hg⟩
    · exact h2 k hk
    · have := Option.some.inj hk
      have := h.touch.size
      exact ⟨by omega, fun e => by have := hol _ e; omega⟩
  · exact k2.ne (h3 x hx) (Array.getElem?_eq_some_iff.1 (h.box x hx).1).1
  · exact ⟨(keep x.1 (Array.getElem?_eq_some_iff.1 (h.box x hx).1).1 (h.box x hx).2.1 (h3 x hx)).trans (h.box x hx).1, (h.box x hx).2⟩
  · rcases hk with rfl | hk
    · exact .inr h.ap.1
    · exact .inr (h2 k hk).1
theorem RS.bare (h : RS w W wb v n xs B l) : RS w W wb v n xs [] l := by
  obtain ⟨row, h1, h2, h3⟩ := h.wr
  exact ⟨h.own, ⟨row, h1, h2, fun x hx => by simp at hx⟩, fun x hx => by simp at hx, h.ap, h.touch⟩
theorem RS.append (h : RS w W wb v n xs B l) {ob : Obj} {v2 : Value} {m : Nat} {ys : List Value} (hg : (W.alloc ob).grownBy W' v.ownBlock) (hr : W'.ownsRow w.heap.size 31 3 v2 m ys) (ho : v2.ownBlock = v.ownBlock ∨ v2.ownBlock = some (W.alloc ob).heap.size) : RS w W' wb v2 m ys B l := by
  obtain ⟨row, h1, h2, h3⟩ := h.wr
  have T7 : Touch (fun k => v.ownBlock = some k) W W' := ((Touch.refl _ W).alloc ob).grown hg (fun k hk => .inl hk)
  have hl := wr_lt h1
  have hob := own_base h.own
  have hsz : W.heap.size < (W.alloc ob).heap.size := by rw [alloc_size]; omega
  have hv2 : ∀ k, k < W.heap.size → v.ownBlock ≠ some k → v2.ownBlock ≠ some k := fun k a b e => by
    rcases ho with ho | ho
    · exact b (by rw [← ho]; exact e)
    · rw [ho] at e
      have := Option.some.inj e
      omega
  refine ⟨hr, ⟨row, h1.kept T7 h.ap.2 (fun g hg => (h2 g hg).2), fun k hk => ⟨(h2 k hk).1, hv2 k (hl.2 k hk) (h2 k hk).2⟩, h3⟩, fun x hx => ?_, ⟨h.ap.1, hv2 wb hl.1 h.ap.2⟩, h.touch.trans' T7 (fun k hk => .inr (hob k hk))⟩
  have hx1 := (Array.getElem?_eq_some_iff.1 (h.box x hx).1).1
  exact ⟨(T7.block x.1 hx1 (h.box x hx).2.2).trans (h.box x hx).1, (h.box x hx).2.1, hv2 x.1 hx1 (h.box x hx).2.2⟩
theorem RS.write (h : RS w W wb v n xs B l) (vv m : Nat) (h2 : m ≤ 32) (hv : vv < 18446744073709551616) (hl : l.length < 1000000000) :
    Calls Tryd.prog 8 #[.pointer (some ⟨wb, 0, none⟩), .int .u64 vv, .int .i64 m] W fun e w' => e = .returned (.tuple #[]) ∧ RS w w' wb v n xs B (l ++ bitsN m vv) := by
  obtain ⟨row, h1, _⟩ := id h.wr
  refine ((WrG.refl h1).write vv m h2 hv (by omega)).mono ?_
  rintro e w' ⟨he, hG⟩
  refine ⟨he, h.move fun r hr => ?_⟩
  rw [wr_row hr h1]; exact hG
theorem RS.sym (h : RS w W wb v n xs B l) (t : Nat) (ht : t < 288) (hl : l.length < 1000000000) :
    Calls Tryd.prog 10 #[.pointer (some ⟨wb, 0, none⟩), .int .i64 t] W fun e w' => e = .returned (.tuple #[]) ∧ RS w w' wb v n xs B (l ++ fw t) := by
  obtain ⟨row, h1, _⟩ := id h.wr
  refine (symbol_calls (WrG.refl h1) t ht hl).mono ?_
  rintro e w' ⟨he, hG⟩
  refine ⟨he, h.move fun r hr => ?_⟩
  rw [wr_row hr h1]; exact hG
theorem RS.high (h : RS w W wb v n xs B l) (t : Nat) (ht : t < 1000) (hl : l.length < 1000000000) :
    Calls Tryd.prog 14 #[.pointer (some ⟨wb, 0, none⟩), .int .i64 t, .int .i64 5] W fun e w' => e = .returned (.tuple #[]) ∧ RS w w' wb v n xs B (l ++ msb 5 t) := by
  obtain ⟨row, h1, _⟩ := id h.wr
  refine (high_calls (WrG.refl h1) t 5 (by decide) (by decide) ht hl).mono ?_
  rintro e w' ⟨he, hG⟩
  refine ⟨he, h.move fun r hr => ?_⟩
  rw [wr_row hr h1]; exact hG
theorem RS.next {ts : List Tok} {t : Tok} {x : List Nat} (h : RS w W wb v (ts.length + 1) (toksV ts ++ tokV t) B ((hdrL ++ tkBits ts) ++ x)) (hx : x = (tkOf t).bits) : RS w W wb v (ts ++ [t]).length (toksV (ts ++ [t])) [] (hdrL ++ tkBits (ts ++ [t])) := by
  have e1 : (ts ++ [t]).length = ts.length + 1 := by simp
  have e2 : toksV (ts ++ [t]) = toksV ts ++ tokV t := by rw [toksV_append]; simp [toksV]
  rw [e1, e2, tkBits_snoc, ← hx, ← List.append_assoc]
  exact h.bare
end
theorem fw_len (t : Nat) : (fw t).length ≤ 9 := by
  unfold fw
  (repeat' split) <;> simp [msb_len]
theorem tk_lit {t : Tok} (hn : t.n = 0) : (tkOf t).bits = fw t.b.toNat := by
  unfold tkOf
  rw [if_pos hn]
  rfl
/-- A match's words. -/
theorem tk_mat {t : Tok} {n d : Nat} (hn : t.n = (n : Int)) (hd : t.d = (d : Int)) (h3 : 3 ≤ n) (h : n ≤ 258) (h1 : 1 ≤ d) (h2 : d ≤ 32768) :
    (tkOf t).bits = fw (lenS n) ++ bitsN (lenB n) (lenV n) ++ msb 5 (symN 1 (d - 1)) ++ bitsN (bitN 1 (d - 1)) (valN 1 (d - 1)) := by
  obtain ⟨s, hs, e1, e2, e3, e4, _, _⟩ := len_facts n h3 h
  obtain ⟨r, hr, f1, f2, f3, f4, _⟩ := dist_facts d h1 h2
  have k1 : t.n.toNat = n := by omega
  have k2 : t.d.toNat = d := by omega
  have g1 : lenS n - 257 = s := by omega
  have g2 : 257 + s = lenS n := by omega
  have g3 : n - lenL s = lenV n := by omega
  have g4 : d - (leastN 1 r + 1) = valN 1 (d - 1) := by omega
  unfold tkOf
  rw [if_neg (by omega), k1, k2, g1, f1]
  show fw (257 + s) ++ (bitsN (lenE s) (n - lenL s) ++ (fd r ++ bitsN (extN 1 r) (d - (leastN 1 r + 1)))) = _
  rw [g2, g3, g4, e3, f3]
  simp only [List.append_assoc]
  rfl
theorem tk_len {t : Tok} (h : goodB t = true) : (tkOf t).bits.length ≤ 60 := by
  by_cases hn : t.n = 0
  · rw [tk_lit hn]
    have := fw_len t.b.toNat
    omega
  · have hm := good_mat h hn
    have hn1 : t.n = ((t.n.toNat : Nat) : Int) := by omega
    have hd1 : t.d = ((t.d.toNat : Nat) : Int) := by omega
    obtain ⟨_, _, _, _, _, _, e5, _⟩ := len_facts t.n.toNat (by omega) (by omega)
    obtain ⟨_, _, _, _, _, _, f5⟩ := dist_facts t.d.toNat (by omega) (by omega)
    rw [tk_mat hn1 hd1 (by omega) (by omega) (by omega) (by omega)]
    have := fw_len (lenS t.n.toNat)
    simp only [List.length_append, bitsN_length, msb_len]
    omega
theorem xs_next {ts : List Tok} {t : Tok} {xs : List UInt8} {h : Nat} (hx : xs = nextL [] (ts.map tkOf) ∧ xs.length = h ∧ GoodAll [] ts) (hg : goodB t = true) (hd : t.d ≤ (h : Int)) : nextL [] ((ts ++ [t]).map tkOf) = nextL [] ((ts ++ [t]).map tkOf) ∧ (nextL [] ((ts ++ [t]).map tkOf)).length = h + max t.n.toNat 1 ∧ GoodAll [] (ts ++ [t]) := by
  obtain ⟨rfl, rfl, h3⟩ := hx
  refine ⟨rfl, ?_, good_snoc ts [] t h3 hg hd⟩
  rw [List.map_append]
  show (nextL [] (ts.map tkOf ++ [tkOf t])).length = _
  rw [next_snoc, tk_next, next_len hg]
theorem find_len_calls (w : World) (tv : Value) (nn : Nat) (h3 : 3 ≤ nn) (h : nn ≤ 258) (htr : Trs w tv lenTab) :
    Calls Tryd.prog 11 #[tv, .int .i64 (nn : Nat)] w fun e w' => e = .returned (.agg #[.int .i64 (lenS nn : Nat), .int .i64 (nn - lenV nn : Nat), .int .i64 (lenB nn : Nat)]) ∧ Touch (fun _ => False) w w' := by
  have hc := find_calls lenTab (nn : Nat) tv w htr (by decide) (by decide)
  rw [(find_len nn h3 h).1] at hc
  exact hc
theorem find_dist_calls (w : World) (tv : Value) (dd : Nat) (h3 : 1 ≤ dd) (h : dd ≤ 32768) (htr : Trs w tv distTab) :
    Calls Tryd.prog 11 #[tv, .int .i64 (dd : Nat)] w fun e w' => e = .returned (.agg #[.int .i64 (symN 1 (dd - 1) : Nat), .int .i64 (dd - valN 1 (dd - 1) : Nat), .int .i64 (bitN 1 (dd - 1) : Nat)]) ∧ Touch (fun _ => False) w w' := by
  have hc := find_calls distTab (dd : Nat) tv w htr (by decide) (by decide)
  rw [(find_dist dd h3 h).1] at hc
  exact hc
theorem box_set3b {w : World} {b : Nat} {x0 x1 x2 y0 y1 y2 : Value} {t : TypeId} (h : w.heap[b]? = some (.cells #[x0, x1, x2] t)) :
    (((w.setCell ⟨b, 0, none⟩ y0).setCell ⟨b, 1, none⟩ y1).setCell ⟨b, 2, none⟩ y2).heap[b]? = some (.cells #[y0, y1, y2] t) :=
  heap_setCell_same y2 (heap_setCell_same y1 (heap_setCell_same y0 h))
theorem Touch.set3 {S : Nat → Prop} {a w : World} (h : Touch S a w) {b : Nat} (hp : S b ∨ a.heap.size ≤ b) (y0 y1 y2 : Value) : Touch S a (((w.setCell ⟨b, 0, none⟩ y0).setCell ⟨b, 1, none⟩ y1).setCell ⟨b, 2, none⟩ y2) :=
  ((h.setCell hp y0).setCell hp y1).setCell hp y2
/-- A box of three cells that was laid ahead of a call is as it was behind it. -/
def Box3 (w2 : World) (q : Nat) (a b c : Value) (T : TypeId) : Prop := w2.cell? ⟨q, 0, none⟩ = some a ∧ w2.cell? ⟨q, 1, none⟩ = some b ∧ w2.cell? ⟨q, 2, none⟩ = some c ∧ w2.frozen? ⟨q, 0, none⟩ = false ∧ w2.frozen? ⟨q, 1, none⟩ = false ∧ w2.frozen? ⟨q, 2, none⟩ = false ∧ w2.heap[q]? = some (.cells #[a, b, c] T)
theorem alloc_box {w w2 : World} {a b c : Value} {T : TypeId} (ht : Touch (fun _ => False) (w.alloc (.cells #[a, b, c] T)) w2) : Box3 w2 w.heap.size a b c T := by
  have hb : w2.heap[w.heap.size]? = some (.cells #[a, b, c] T) := (ht.block _ (by rw [alloc_size]; omega) id).trans (heap_alloc_new w _)
  obtain ⟨c0, c1, c2, f0, f1, f2⟩ := box_cells hb
  exact ⟨c0, c1, c2, f0, f1, f2, hb⟩
theorem alloc_boxd {w w2 : World} {a b c : Value} {T : TypeId} (ht : Touch (fun _ => False) (w.drew.alloc (.cells #[a, b, c] T)) w2) : Box3 w2 w.heap.size a b c T := alloc_box (w := w.drew) ht
theorem alloc_boxe {w w2 : World} {a b c : Value} {T : TypeId} (ht : Touch (fun _ => False) (w.alloc (.cells #[a, b, c] T)).drew w2) : Box3 w2 w.heap.size a b c T := alloc_box (w := w) (((Touch.refl (fun _ => False) _).drew).trans ht)
theorem box_keep {w w2 : World} {q : Nat} {a b c : Value} {T : TypeId} (h : w.heap[q]? = some (.cells #[a, b, c] T)) (ht : Touch (fun _ => False) w w2) : Box3 w2 q a b c T := by
  have hb : w2.heap[q]? = some (.cells #[a, b, c] T) := (ht.block _ (Array.getElem?_eq_some_iff.1 h).1 id).trans h
  obtain ⟨c0, c1, c2, f0, f1, f2⟩ := box_cells hb
  exact ⟨c0, c1, c2, f0, f1, f2, hb⟩
theorem RS.align {w W : World} {wb n : Nat} {v : Value} {xs : List Value} {B : List (Nat × Obj)} {l : List Nat} (h : RS w W wb v n xs B l) (hl : l.length < 1000000000) :
    Calls Tryd.prog 15 #[.pointer (some ⟨wb, 0, none⟩)] W fun e w' => e = .returned (.tuple #[]) ∧ RS w w' wb v n xs B (l ++ List.replicate (padN l.length) 0) := by
  obtain ⟨row, h1, _⟩ := id h.wr
  refine (walign_calls wb 0 l row W h1 (by omega)).mono ?_
  rintro e w' ⟨he, row', k1, k2, k3⟩
  exact ⟨he, h.move fun r hr => by rw [wr_row hr h1]; exact ⟨row', k1, k2, k3⟩⟩
theorem RS.drain {w W : World} {wb n : Nat} {v : Value} {xs : List Value} {B : List (Nat × Obj)} {l : List Nat} (h : RS w W wb v n xs B (l ++ List.replicate (padN l.length) 0)) :
    Calls Tryd.prog 16 #[.pointer (some ⟨wb, 0, none⟩)] W fun e w' => ∃ T : ByteArray, e = .returned (.string T) ∧ bitsL T.data.toList = l ++ List.replicate (padN l.length) 0 ∧ w'.ownsRow w.heap.size 31 3 v n xs ∧ Touch (fun _ => False) w w' := by
  obtain ⟨row, h1, _⟩ := id h.wr
  refine (drain_calls wb 0 _ row W h1).mono ?_
  rintro e w' ⟨he, _, k3⟩
  obtain ⟨ys, p, s, u, _, _, hs, hp, he2⟩ := h1
  have hln := congrArg List.length he2
  rw [List.length_append, List.length_append, List.length_replicate, bitsL_length, bitsN_length] at hln
  unfold padN at hln
  obtain rfl : s = 0 := by omega
  have hb : bitsL ys = l ++ List.replicate (padN l.length) 0 := by rw [he2]; simp [bitsN]
  refine ⟨⟨ys.toArray⟩, ?_, hb, own_still h.own k3 (fun g hg => ?_), h.touch.trans' k3 (fun k hk => .inr (by subst hk; exact h.ap.1))⟩
  · have e2 : bytesL (l ++ List.replicate (padN l.length) 0) = ys := by
      have := bytesL_bits ys [] (by decide)
      rw [List.append_nil, hb] at this
      exact this
    rw [he, e2]
  · intro e
    exact h.ap.2 (by rw [hg, e])
theorem ex_list (s : ByteArray) (i j : Nat) : (s.extract i j).data.toList = (s.data.toList.drop i).take (j - i) := by
  rw [ByteArray.data_extract, Array.toList_extract, List.extract_eq_take_drop]
theorem piece_list (s : ByteArray) (k m j : Nat) (hj : (j : Int) = min ((k : Int) + (m : Int)) (s.size : Int)) : (s.extract k j).data.toList = (s.data.toList.drop k).take m := by
  rw [ex_list]
  have hl := data_length s
  by_cases h : k + m ≤ s.size
  · rw [show j - k = m by omega]
  · rw [List.take_of_length_le (by rw [List.length_drop]; omega), List.take_of_length_le (by rw [List.length_drop]; omega)]
theorem i64_and7 (n : Int) : bits .and .i64 n 7 = n % 8 := by
  have hk : (BitVec.ofInt 64 7).toNat = 2 ^ 3 - 1 := by decide
  have key : (BitVec.ofInt 64 n &&& BitVec.ofInt 64 7).toNat = (n % ((2 ^ 64 : Nat) : Int)).toNat % 2 ^ 3 := by
    rw [BitVec.toNat_and, BitVec.toNat_ofInt, hk, Nat.and_two_pow_sub_one_eq_mod]
  show IntKind.i64.wrap ((BitVec.ofInt 64 n &&& BitVec.ofInt 64 7).toNat : Nat) = n % 8
  rw [key, IntKind.wrap_i64]
  omega
/-- What is told of a chain's parts is a beginning of what all of them tell. -/
theorem tl_le {o : Nat → List UInt8} {n N : Nat} (h : (tl o 0 n).length ≤ N) : ∀ k, k ≤ n → (tl o 0 k).length ≤ N := fun k hk => by
  have e := tl_add o 0 k (n - k)
  rw [show k + (n - k) = n by omega] at e
  rw [e, List.length_append] at h
  omega
end Go.Proofs.YtbbhilmkipghiaaDoor

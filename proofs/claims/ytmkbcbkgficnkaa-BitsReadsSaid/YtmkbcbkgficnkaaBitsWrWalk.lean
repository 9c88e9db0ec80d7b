/- The walk of the statement BitsWrites over the translated program. -/
import Derived.Test.YtmkbcbkgficnkaaBitsNumbersWalk
namespace Go.Proofs.Ytmkbcbkgficnkaa
open Go Go.RowKit

theorem and3_i64 (x : Int) : bits .and .i64 x 3 = x % 4 := by
  show IntKind.i64.wrap ((BitVec.ofInt 64 x &&& BitVec.ofInt 64 ((3 : Nat) : Int)).toNat : Int) = _
  rw [BitVec.toNat_and, ofInt_u64 3 (by decide), BitVec.toNat_ofInt, show (3 : Nat) = 2 ^ 2 - 1 from rfl, Nat.and_two_pow_sub_one_eq_mod]
  simp [IntKind.wrap, IntKind.bits, IntKind.signed]
  omega
theorem and15_i64 (x : Int) : bits .and .i64 x 15 = x % 16 := by
  show IntKind.i64.wrap ((BitVec.ofInt 64 x &&& BitVec.ofInt 64 ((15 : Nat) : Int)).toNat : Int) = _
  rw [BitVec.toNat_and, ofInt_u64 15 (by decide), BitVec.toNat_ofInt, show (15 : Nat) = 2 ^ 4 - 1 from rfl, Nat.and_two_pow_sub_one_eq_mod]
  simp [IntKind.wrap, IntKind.bits, IntKind.signed]
  omega

/-- Two rows of unlike elements lie apart. -/
theorem Row.apart {w : World} {e e' : TypeId} {v v' : Value} {xs ys : List Value} (h : Row w e v xs) (h' : Row w e' v' ys) (he : e ≠ e') {g : Nat} (hv : v.ownBlock = some g) : v'.ownBlock ≠ some g := by
  intro hv'
  rcases h with ⟨rfl, _⟩ | ⟨g1, _, _, _, rfl, hh, _⟩
  · cases hv
  · rcases h' with ⟨rfl, _⟩ | ⟨g2, _, _, _, rfl, hh', _⟩
    · cases hv'
    · simp [Value.ownBlock] at hv hv'
      subst hv; subst hv'
      rw [hh] at hh'
      injection hh' with hh'
      injection hh' with _ h3
      exact he h3
theorem WrAt.apart {w : World} {b o : Nat} {l : List Nat} {row : Option Nat} (h : WrAt w b o l row) {v : Value} {ys : List Value} (h' : Row w 3 v ys) {g : Nat} (hv : v.ownBlock = some g) : row ≠ some g := by
  obtain ⟨xs, p, s, v', hraw, rfl, _⟩ := h
  exact h'.apart hraw.row (by decide) hv

theorem WrAt.row_lt {w : World} {b o : Nat} {l : List Nat} {row : Option Nat} (h : WrAt w b o l row) {g : Nat} (hr : row = some g) : g < w.heap.size := by
  obtain ⟨xs, p, s, v', hraw, rfl, _⟩ := h
  exact hraw.row.lt g hr
/-- What is appended out of a row. -/
theorem Src.ofRow {P : Program} {w : World} {e e' t : TypeId} {v : Value} {xs : List Value} (hk : P.underlying t = some (.slice e')) (h : Row w e v xs) (h1 : ∀ u ∈ xs, u.oneCell' = true) : Src P 1 t v xs.length xs w := by
  have h0 := h
  rcases h with ⟨rfl, rfl⟩ | ⟨g, off, cap, cur, rfl, _⟩
  · exact Src.ofNil w hk 0
  · refine Src.ofSlice w hk ⟨g, off, none⟩ xs.length cap xs (by omega) (fun j u hu => ?_) h1
    have := h0.cells.2 j u hu
    by_cases hj : j = 0
    · subst hj; simpa [Addr.add] using this
    · simpa [Addr.add, hj] using this
theorem intVs_one (l : List Nat) : ∀ u ∈ intVs l, u.oneCell' = true := by
  intro u hu
  obtain ⟨_, _, rfl⟩ := List.mem_map.1 hu
  rfl
theorem Row.iform {w : World} {e : TypeId} {v : Value} {l : List Nat} (h : Row w e v (intVs l)) : ∃ a cap, v = .slice a l.length cap ∧ l.length ≤ cap ∧ cap ≤ maxLen := by
  obtain ⟨a, cap, h1, h2, h3⟩ := h.form
  rw [intVs_length] at h1 h2
  exact ⟨a, cap, h1, h2, h3⟩

/-- The cells of a block that came by 'alloc', behind a call that wrote elsewhere. -/
theorem alloc_cell {wr w2 : World} {S : Nat → Prop} {cs : Array Value} {t : TypeId} (ht : Touch S (wr.alloc (.cells cs t)) w2) (hn : ¬ S wr.heap.size) (j : Nat) : w2.cell? ⟨wr.heap.size, j, none⟩ = cs[j]? := by
  have h1 : w2.heap[wr.heap.size]? = some (.cells cs t (0, 0)) := (ht.block wr.heap.size (by simp) hn).trans (heap_alloc_new wr _)
  exact cell_of_row w2 _ j _ t (0, 0) h1

/-- What the acts are, in memory: of each its four cells. -/
structure ActsAt (w : World) (v : Value) (n : Nat) (What : Nat → Int) (V : Nat → Nat) (N : Nat → Int) (T : Nat → ByteArray) : Prop where
  form : ∃ a cap, v = .slice a n cap
  addr : 0 < n → ∃ g off cap, v = .slice (some ⟨g, off, none⟩) n cap ∧ g < w.heap.size ∧ n ≤ cap ∧ ∀ i, i < n →
    w.cell? ⟨g, off + i * 4, none⟩ = some (.int .i64 (What i)) ∧ w.cell? ⟨g, off + i * 4 + 1, none⟩ = some (.int .u64 (V i)) ∧ w.cell? ⟨g, off + i * 4 + 2, none⟩ = some (.int .i64 (N i)) ∧ w.cell? ⟨g, off + i * 4 + 3, none⟩ = some (.string (T i))
  max : n ≤ 9223372036854775807
  wf : ∀ i, i < n → (-9223372036854775808 ≤ What i ∧ What i ≤ 9223372036854775807) ∧ V i < 18446744073709551616 ∧ (-9223372036854775808 ≤ N i ∧ N i ≤ 9223372036854775807) ∧ (T i).size ≤ 9223372036854775807

/-- A Writer, and the list of its bits as a slice, both come since w1. -/
structure WrBoth (w1 : World) (b : Nat) (l : List Nat) (rv : Value) (row : Option Nat) (wr : World) : Prop where
  fr : FrW w1 wr b l row
  rowI : Row wr 3 rv (intVs l)
  sep : Sep w1.heap.size none rv.ownBlock
  ne : rv.ownBlock ≠ some b
  two : ∀ x ∈ l, x < 2

theorem WrBoth.kept {w1 wr w' : World} {b : Nat} {l : List Nat} {rv : Value} {row : Option Nat} (h : WrBoth w1 b l rv row wr) (ht : Touch (fun _ => False) wr w') : WrBoth w1 b l rv row w' :=
  ⟨h.fr.kept ht, h.rowI.kept ht (fun _ _ => id), h.sep, h.ne, h.two⟩

/-- Behind a call of the Writer's: its bits are other ones, the slice stands. -/
theorem WrBoth.wrote {w1 wr w' : World} {b : Nat} {l : List Nat} {rv : Value} {row : Option Nat} (h : WrBoth w1 b l rv row wr) (ht : Touch (fun k => k = b ∨ row = some k) wr w') : Row w' 3 rv (intVs l) :=
  h.rowI.kept ht (fun g hg hs => by
    rcases hs with rfl | hs
    · exact h.ne hg
    · exact h.fr.at_.apart h.rowI hg hs)

/-- Behind an append to the slice. -/
theorem WrBoth.pushed {w1 w3 w4 : World} {b : Nat} {l l' q : List Nat} {rv v4 : Value} {row' : Option Nat} (hF : FrW w1 w3 b l' row') (hR : Row w3 3 rv (intVs l)) (hs : Sep w1.heap.size none rv.ownBlock) (hne : rv.ownBlock ≠ some b)
    (h4 : Row w4 3 v4 (intVs (l ++ q))) (hg : w3.grownBy w4 rv.ownBlock) (ho : v4.ownBlock = rv.ownBlock ∨ v4.ownBlock = some w3.heap.size) (he : l' = l ++ q) (h2 : ∀ x ∈ l', x < 2) : WrBoth w1 b l' v4 row' w4 := by
  subst he
  refine ⟨⟨hF.at_.kept (Touch.of_grown hg) (fun e => hne e.symm) (fun g hg' e => ?_), hF.fresh, hF.sep, sep_grown hF.touch hs hg⟩, h4, own_sep hs ho hF.touch.size, ?_, h2⟩
  · exact hF.at_.apart hR e.symm hg'
  · rcases ho with h | h
    · rw [h]; exact hne
    · rw [h]; intro e; injection e with e; have := hF.at_.lt; omega

def lenV : Value → Nat | .slice _ n _ => n | _ => 0

theorem intVs_drop (l : List Nat) (q : Nat) : (intVs l).drop q = intVs (l.drop q) := by simp [intVs, List.map_drop]

/-- Behind a copy of the slice's end into a new one. -/
theorem WrBoth.anew {w1 w3 w4 : World} {b : Nat} {l' : List Nat} {v4 : Value} (hF : FrW w1 w3 b l' none) (hg : (w3.alloc (.cells #[] 3)).grownBy w4 (some w3.heap.size)) (h4 : Row w4 3 v4 (intVs l'))
    (ho : v4.ownBlock = some w3.heap.size ∨ v4.ownBlock = some (w3.alloc (.cells #[] 3)).heap.size) (h2 : ∀ x ∈ l', x < 2) : WrBoth w1 b l' v4 none w4 := by
  have hb := hF.at_.lt
  have hs := hF.touch.size
  have hk := hF.kept ((Touch.refl (fun _ => False) _).alloc (.cells #[] 3))
  have ho' : ∃ g, v4.ownBlock = some g ∧ w3.heap.size ≤ g := by
    rcases ho with h | h
    · exact ⟨_, h, Nat.le_refl _⟩
    · exact ⟨_, h, by simp⟩
  obtain ⟨g, hog, hgg⟩ := ho'
  refine ⟨⟨hk.at_.kept (Touch.of_grown hg) (fun e => ?_) (fun g hg' => by cases hg'), hk.fresh, hk.sep, hk.touch.grown hg (fun k e => ?_)⟩, h4, .inr ⟨g, hog, by omega⟩, ?_, h2⟩
  · injection e with e; omega
  · injection e with e; right; omega
  · rw [hog]; intro e; injection e with e; omega

theorem nilRow (w : World) : Row (w.alloc (.cells #[] 3)) 3 (.slice (some ⟨w.heap.size, 0, none⟩) 0 0) [] :=
  .inr ⟨w.heap.size, 0, 0, #[], rfl, heap_alloc_new w _, Nat.le_refl _, Nat.zero_le _, Nat.le_refl _, rfl⟩

/-- What holds while the slice is aligned: j noughts have come. -/
def PadInv (w1 : World) (b : Nat) (l l2 : List Nat) (row : Option Nat) (r : Value) (wr : World) : Prop :=
  ∃ (j : Nat) (rv : Value), rv = r ∧ j ≤ padN l.length ∧ FrW w1 wr b l2 row ∧ Row wr 3 rv (intVs (l ++ List.replicate j 0)) ∧ Sep w1.heap.size none rv.ownBlock ∧ rv.ownBlock ≠ some b

theorem rep_two (l : List Nat) (j : Nat) (h : ∀ x ∈ l, x < 2) : ∀ x ∈ l ++ List.replicate j 0, x < 2 := fun x hx =>
  (List.mem_append.1 hx).elim (h x) (fun h' => by rw [List.eq_of_mem_replicate h']; decide)

/-- What holds at the loop's head. -/
def WrInv (w1 : World) (b n : Nat) (r i : Value) (wr : World) : Prop :=
  ∃ (k : Nat) (l : List Nat) (rv : Value) (row : Option Nat), rv = r ∧ i = .int .i64 (k : Nat) ∧ k ≤ n ∧ k ≤ 60 ∧ l.length ≤ 200 * k ∧ WrBoth w1 b l rv row wr

set_option maxRecDepth 100000 in
set_option maxHeartbeats 6400000 in
theorem writes_calls (n : Nat) (v : Value) (What : Nat → Int) (V : Nat → Nat) (N : Nat → Int) (T : Nat → ByteArray) (w : World) (ha : ActsAt w v n What V N T) :
    Calls Try.prog 3 #[v] w fun e w' => e = .returned (.bool true) ∧ Touch (fun _ => False) w w' := by
  obtain ⟨av, acap, hv⟩ := ha.form
  have hmax := ha.max
  obtain ⟨i0, hi, hz0, hz1, hz2⟩ := info_parts Try.info3
  go_enter Try.func3, Try.ntmps3
  go_wp2_with fail
  refine (speaks_calls _).mono ?_
  rintro e w1 ⟨rfl, ht1⟩
  subst hv
  go_wp2_with fail
  have hnew := FrW.new w1
  generalize hBB : w1.heap.size = B at hnew ⊢
  have HBB := Lib.hid hBB
  clear hBB
  go_loopw [4, 5] (WrInv w1 B n) (fun _ i _ => n - (intOf i).toNat)
  case atStart => exact ⟨0, [], _, none, rfl, rfl, Nat.zero_le _, Nat.zero_le _, Nat.zero_le _, hnew, Row.nil _ _, .inl rfl, by simp [Value.ownBlock], by simp⟩
  case round =>
    clear hnew
    obtain ⟨k, l, rv, row, rfl, rfl, hk, hk6, hl, hB⟩ := hrel
    obtain ⟨ra, rcap, hrv, hrc1, hrc2⟩ := hB.rowI.iform
    subst hrv
    by_cases hlt : k < n
    · by_cases hlt6 : k < 60
      · obtain ⟨g, off, cap, hv, hg, hcap, hcell⟩ := ha.addr (by omega)
        injection hv with hv1 hv2 hv3
        subst hv1; subst hv3
        obtain ⟨q0, q1, q2, q3⟩ := hcell k hlt
        obtain ⟨b0, b1, b2, b3⟩ := ha.wf k hlt
        have hTw := ht1.trans hB.fr.touch
        have p0 := hTw.cell q0 id
        have p1 := hTw.cell q1 id
        have p2 := hTw.cell q2 id
        have p3 := hTw.cell q3 id
        clear q0 q1 q2 q3 hcell hTw
        have hbl := hB.fr.at_.lt
        have hrl := Lib.hid (fun g (hg : row = some g) => hB.fr.at_.row_lt hg)
        have h4 : What k % 4 = 0 ∨ What k % 4 = 1 ∨ What k % 4 = 2 ∨ What k % 4 = 3 := by omega
        have h26 := and3_i64 (What k)
        rcases h4 with h4 | h4 | h4 | h4
        · rw [h4] at h26
          clear h4
          by_cases hN : 1 ≤ N k ∧ N k ≤ 32
          · obtain ⟨m, hm⟩ : ∃ m : Nat, N k = m := ⟨(N k).toNat, by omega⟩
            rw [hm] at p2 hN b2
            clear hm
            have hm1 : 1 ≤ m := by omega
            have hm2 : m ≤ 32 := by omega
            clear hN
            go_wp2_with fail
            have hB0 := hB.kept ((Touch.refl _ _).alloc (.cells #[.int .i64 (What k), .int .u64 (V k), .int .i64 m, .string (T k)] 30))
            refine (write_calls B 0 (V k) m l row _ hB0.fr.at_ hm1 hm2 b1 (by omega)).mono ?_
            rintro e w2 ⟨rfl, row2, hw2, hs2, ht2⟩
            have hxn : ¬ (wr.heap.size = B ∨ row = some wr.heap.size) := by
              rintro (h | h)
              · omega
              · have := hrl.out _ h; omega
            have x1 : w2.cell? ⟨wr.heap.size, 1, none⟩ = some (.int .u64 (V k)) := alloc_cell ht2 hxn 1
            have x2 : w2.cell? ⟨wr.heap.size, 2, none⟩ = some (.int .i64 m) := alloc_cell ht2 hxn 2
            have hR2 := hB0.wrote ht2
            have hF2 := hB0.fr.step hw2 hs2 ht2
            clear hw2 hs2 ht2 hxn
            go_wp2_with fail
            refine (of_calls (V k) m _ (by omega) b1).mono ?_
            rintro e w3 ⟨r3, rfl, hr3, hs3, ht3⟩
            have hR3 := hR2.kept ht3 (fun _ _ => id)
            have hF3 := hF2.kept ht3
            clear hR2 hF2 ht3 hs3 hB0
            have hll : (l ++ bitsN m (V k)).length ≤ 200 * (k + 1) := by rw [List.length_append, bitsN_length]; omega
            have hl2 : ∀ x ∈ l ++ bitsN m (V k), x < 2 := fun x hx => (List.mem_append.1 hx).elim (hB.two x) (bitsN_lt _ _ x)
            have HLL := Lib.hid (⟨hll, hl2⟩ : _ ∧ _)
            clear hll hl2
            go_wp2_with (at_builtin; refine wpList_append_row _ rfl (.tmp 55) (.tmp 60) 28 28 rfl 3 i0 _ 8 Try.underlying28 hi hz0 hz1 hz2 rfl (.slice ra l.length rcap) (intVs l) rfl hR3 r3 rfl (intVs (bitsN m (V k))).length (intVs (bitsN m (V k))) (Src.ofRow Try.underlying28 hr3 (intVs_one _)) (by simp only [intVs_length, List.length_append, bitsN_length, bitsL_length, List.length_replicate]; unfold maxLen; omega) (by simp only [intVs_length, List.length_append, bitsN_length, bitsL_length, List.length_replicate]; omega) ?_; intro v4 w4 hrow4 hgrow4 hown4; rw [← intVs_append] at hrow4; have hB4 := WrBoth.pushed hF3 hR3 hB.sep hB.ne hrow4 hgrow4 hown4 rfl HLL.out.2; clear hown4 hgrow4 hR3 hF3 hr3; obtain ⟨a4, c4, hv4, hc4, hm4⟩ := hrow4.iform; subst hv4; clear hrow4)
            refine (wlen_calls B 0 _ _ _ hB4.fr.at_ (by have := HLL.out.1; omega)).mono ?_
            rintro e w5 ⟨rfl, rfl⟩
            go_wp2_with fail
            go_roundw
            case rel => exact ⟨k + 1, _, _, _, rfl, by go_num, by omega, by omega, HLL.out.1, by have h := hB4.kept (Touch.refl _ _).drew; simp only [List.length_append, List.length_replicate, Nat.add_assoc] at h; exact h⟩
            case measure => simp [intOf]; omega
          · have hN : N k < 1 ∨ 32 < N k := by omega
            rcases hN with hN' | hN'
            · have hN := Or.inl (b := 32 < N k) hN'
              have HN := Lib.hid hN
              clear hN
              go_wp2_with fail
              have hB4 := hB.kept ((Touch.refl _ _).alloc (.cells #[.int .i64 (What k), .int .u64 (V k), .int .i64 (N k), .string (T k)] 30))
              have HLL := Lib.hid (⟨show l.length ≤ 200 * (k + 1) by omega, trivial⟩ : _ ∧ True)
              refine (write_none (some _) _ _ _ (Or.inr HN.out)).mono ?_
              rintro e w2 ⟨rfl, rfl⟩
              go_wp2_with fail
              refine (wlen_calls B 0 _ _ _ hB4.fr.at_ (by have := HLL.out.1; omega)).mono ?_
              rintro e w5 ⟨rfl, rfl⟩
              go_wp2_with fail
              go_roundw
              case rel => exact ⟨k + 1, _, _, _, rfl, by go_num, by omega, by omega, HLL.out.1, hB4.kept (Touch.refl _ _).drew⟩
              case measure => simp [intOf]; omega
            · have hN := Or.inr (a := N k < 1) hN'
              have HN := Lib.hid hN
              clear hN
              go_wp2_with fail
              have hB4 := hB.kept ((Touch.refl _ _).alloc (.cells #[.int .i64 (What k), .int .u64 (V k), .int .i64 (N k), .string (T k)] 30))
              have HLL := Lib.hid (⟨show l.length ≤ 200 * (k + 1) by omega, trivial⟩ : _ ∧ True)
              refine (write_none (some _) _ _ _ (Or.inr HN.out)).mono ?_
              rintro e w2 ⟨rfl, rfl⟩
              go_wp2_with fail
              refine (wlen_calls B 0 _ _ _ hB4.fr.at_ (by have := HLL.out.1; omega)).mono ?_
              rintro e w5 ⟨rfl, rfl⟩
              go_wp2_with fail
              go_roundw
              case rel => exact ⟨k + 1, _, _, _, rfl, by go_num, by omega, by omega, HLL.out.1, hB4.kept (Touch.refl _ _).drew⟩
              case measure => simp [intOf]; omega
        · rw [h4] at h26
          clear h4
          by_cases hN : 1 ≤ N k ∧ N k ≤ 32
          · obtain ⟨m, hm⟩ : ∃ m : Nat, N k = m := ⟨(N k).toNat, by omega⟩
            rw [hm] at p2 hN b2
            clear hm
            have hm1 : 1 ≤ m := by omega
            have hm2 : m ≤ 32 := by omega
            clear hN
            go_wp2_with fail
            have hB0 := hB.kept ((Touch.refl _ _).alloc (.cells #[.int .i64 (What k), .int .u64 (V k), .int .i64 m, .string (T k)] 30))
            refine (write_calls B 0 (V k) m l row _ hB0.fr.at_ hm1 hm2 b1 (by omega)).mono ?_
            rintro e w2 ⟨rfl, row2, hw2, hs2, ht2⟩
            have hxn : ¬ (wr.heap.size = B ∨ row = some wr.heap.size) := by
              rintro (h | h)
              · omega
              · have := hrl.out _ h; omega
            have x1 : w2.cell? ⟨wr.heap.size, 1, none⟩ = some (.int .u64 (V k)) := alloc_cell ht2 hxn 1
            have x2 : w2.cell? ⟨wr.heap.size, 2, none⟩ = some (.int .i64 m) := alloc_cell ht2 hxn 2
            have hR2 := hB0.wrote ht2
            have hF2 := hB0.fr.step hw2 hs2 ht2
            clear hw2 hs2 ht2 hxn
            go_wp2_with fail
            refine (of_calls (V k) m _ (by omega) b1).mono ?_
            rintro e w3 ⟨r3, rfl, hr3, hs3, ht3⟩
            have hR3 := hR2.kept ht3 (fun _ _ => id)
            have hF3 := hF2.kept ht3
            clear hR2 hF2 ht3 hs3 hB0
            have hll : (l ++ bitsN m (V k)).length ≤ 200 * (k + 1) := by rw [List.length_append, bitsN_length]; omega
            have hl2 : ∀ x ∈ l ++ bitsN m (V k), x < 2 := fun x hx => (List.mem_append.1 hx).elim (hB.two x) (bitsN_lt _ _ x)
            have HLL := Lib.hid (⟨hll, hl2⟩ : _ ∧ _)
            clear hll hl2
            go_wp2_with (at_builtin; refine wpList_append_row _ rfl (.tmp 55) (.tmp 60) 28 28 rfl 3 i0 _ 8 Try.underlying28 hi hz0 hz1 hz2 rfl (.slice ra l.length rcap) (intVs l) rfl hR3 r3 rfl (intVs (bitsN m (V k))).length (intVs (bitsN m (V k))) (Src.ofRow Try.underlying28 hr3 (intVs_one _)) (by simp only [intVs_length, List.length_append, bitsN_length, bitsL_length, List.length_replicate]; unfold maxLen; omega) (by simp only [intVs_length, List.length_append, bitsN_length, bitsL_length, List.length_replicate]; omega) ?_; intro v4 w4 hrow4 hgrow4 hown4; rw [← intVs_append] at hrow4; have hB4 := WrBoth.pushed hF3 hR3 hB.sep hB.ne hrow4 hgrow4 hown4 rfl HLL.out.2; clear hown4 hgrow4 hR3 hF3 hr3; obtain ⟨a4, c4, hv4, hc4, hm4⟩ := hrow4.iform; subst hv4; clear hrow4)
            refine (wlen_calls B 0 _ _ _ hB4.fr.at_ (by have := HLL.out.1; omega)).mono ?_
            rintro e w5 ⟨rfl, rfl⟩
            go_wp2_with fail
            go_roundw
            case rel => exact ⟨k + 1, _, _, _, rfl, by go_num, by omega, by omega, HLL.out.1, by have h := hB4.kept (Touch.refl _ _).drew; simp only [List.length_append, List.length_replicate, Nat.add_assoc] at h; exact h⟩
            case measure => simp [intOf]; omega
          · have hN : N k < 1 ∨ 32 < N k := by omega
            rcases hN with hN' | hN'
            · have hN := Or.inl (b := 32 < N k) hN'
              have HN := Lib.hid hN
              clear hN
              go_wp2_with fail
              have hB4 := hB.kept ((Touch.refl _ _).alloc (.cells #[.int .i64 (What k), .int .u64 (V k), .int .i64 (N k), .string (T k)] 30))
              have HLL := Lib.hid (⟨show l.length ≤ 200 * (k + 1) by omega, trivial⟩ : _ ∧ True)
              refine (write_none (some _) _ _ _ (Or.inr HN.out)).mono ?_
              rintro e w2 ⟨rfl, rfl⟩
              go_wp2_with fail
              refine (wlen_calls B 0 _ _ _ hB4.fr.at_ (by have := HLL.out.1; omega)).mono ?_
              rintro e w5 ⟨rfl, rfl⟩
              go_wp2_with fail
              go_roundw
              case rel => exact ⟨k + 1, _, _, _, rfl, by go_num, by omega, by omega, HLL.out.1, hB4.kept (Touch.refl _ _).drew⟩
              case measure => simp [intOf]; omega
            · have hN := Or.inr (a := N k < 1) hN'
              have HN := Lib.hid hN
              clear hN
              go_wp2_with fail
              have hB4 := hB.kept ((Touch.refl _ _).alloc (.cells #[.int .i64 (What k), .int .u64 (V k), .int .i64 (N k), .string (T k)] 30))
              have HLL := Lib.hid (⟨show l.length ≤ 200 * (k + 1) by omega, trivial⟩ : _ ∧ True)
              refine (write_none (some _) _ _ _ (Or.inr HN.out)).mono ?_
              rintro e w2 ⟨rfl, rfl⟩
              go_wp2_with fail
              refine (wlen_calls B 0 _ _ _ hB4.fr.at_ (by have := HLL.out.1; omega)).mono ?_
              rintro e w5 ⟨rfl, rfl⟩
              go_wp2_with fail
              go_roundw
              case rel => exact ⟨k + 1, _, _, _, rfl, by go_num, by omega, by omega, HLL.out.1, hB4.kept (Touch.refl _ _).drew⟩
              case measure => simp [intOf]; omega
        · rw [h4] at h26
          clear h4
          by_cases hT : (T k).size ≤ 20
          · go_wp2_with fail
            generalize T k = tx at hT b3 p3 ⊢
            have hB0 := hB.kept ((Touch.refl _ _).alloc (.cells #[.int .i64 (What k), .int .u64 (V k), .int .i64 (N k), .string tx] 30))
            have htxl := Lib.hid (data_length tx)
            refine (add_calls B 0 tx l row _ hB0.fr.at_ (by omega)).mono ?_
            rintro e w2 ⟨rfl, row2, hw2, hs2, ht2⟩
            have hR2 := hB0.wrote ht2
            have hF2 := hB0.fr.step hw2 hs2 ht2
            clear hw2 hs2 ht2 hB0
            generalize hLL : l ++ List.replicate (padN l.length) 0 ++ bitsL tx.data.toList = LL at hF2
            have HLLe := Lib.hid hLL
            clear hLL
            go_wp2_with fail
            go_loopw [4] (PadInv w1 B l LL row2) (fun r _ => padN (lenV r))
            case atStart => exact ⟨0, _, rfl, Nat.zero_le _, hF2, by simpa using hR2, hB.sep, hB.ne⟩
            case round =>
              clear hR2 hF2
              obtain ⟨j, rv2, rfl, hj, hF2, hR2, hsep2, hne2⟩ := hrel
              obtain ⟨a2, c2, hv2, hc2, hc2'⟩ := hR2.iform
              subst hv2
              have hjl : (l ++ List.replicate j 0).length = l.length + j := by rw [List.length_append, List.length_replicate]
              have HSN := Lib.hid (⟨hsep2, hne2⟩ : _ ∧ _)
              have HJ := Lib.hid hj
              clear hsep2 hne2 hj
              rw [hjl] at hR2 HSN hc2 ⊢
              clear hjl
              by_cases hmod : (l.length + j) % 8 = 0
              · have hjp : j = padN l.length := by have := HJ.out; unfold padN at this ⊢; omega
                subst hjp
                go_wp2_with fail
                refine (bits_calls tx _ (by omega)).mono ?_
                rintro e w3 ⟨r3, rfl, hr3, hs3, ht3⟩
                have hR3 := hR2.kept ht3 (fun _ _ => id)
                have hF3 := hF2.kept ht3
                clear hR2 hF2 ht3 hs3
                have hpl : padN l.length < 8 := by unfold padN; omega
                have hll : (l ++ List.replicate (padN l.length) 0 ++ bitsL tx.data.toList).length ≤ 200 * (k + 1) := by simp only [List.length_append, List.length_replicate, bitsL_length, htxl.out]; omega
                have hl2 : ∀ x ∈ l ++ List.replicate (padN l.length) 0 ++ bitsL tx.data.toList, x < 2 := fun x hx => (List.mem_append.1 hx).elim (rep_two l _ hB.two x) (bitsL_lt _ x)
                have HLL := Lib.hid (⟨hll, hl2⟩ : _ ∧ _)
                clear hll hl2
                have hbl8 := Lib.hid (show (bitsL tx.data.toList).length = 8 * tx.size by rw [bitsL_length, htxl.out])
                have HR3 := Lib.hid hR3
                clear hR3
                go_wp2_with (at_builtin; refine wpList_append_row _ rfl (.tmp 80) (.tmp 82) 28 28 rfl 3 i0 _ 8 Try.underlying28 hi hz0 hz1 hz2 rfl (.slice a2 (l.length + padN l.length) c2) (intVs (l ++ List.replicate (padN l.length) 0)) rfl HR3.out r3 rfl (intVs (bitsL tx.data.toList)).length (intVs (bitsL tx.data.toList)) (Src.ofRow Try.underlying28 hr3 (intVs_one _)) (by simp only [intVs_length, List.length_append, List.length_replicate, hbl8.out]; unfold maxLen; omega) (by simp only [intVs_length, List.length_append, List.length_replicate, hbl8.out]; omega) ?_; intro v4 w4 hrow4 hgrow4 hown4; rw [← intVs_append] at hrow4; have hB4 := WrBoth.pushed hF3 HR3.out HSN.out.1 HSN.out.2 hrow4 hgrow4 hown4 HLLe.out.symm (by rw [← HLLe.out]; exact HLL.out.2); clear hown4 hgrow4 HR3 hF3 hr3; obtain ⟨a4, c4, hv4, hc4, hm4⟩ := hrow4.iform; subst hv4; clear hrow4; rw [← HLLe.out] at hB4)
                refine (wlen_calls B 0 _ _ _ hB4.fr.at_ (by have := HLL.out.1; omega)).mono ?_
                rintro e w5 ⟨rfl, rfl⟩
                go_wp2_with fail
                go_roundw
                case rel => exact ⟨k + 1, _, _, _, rfl, by go_num, by omega, by omega, HLL.out.1, by have h := hB4.kept (Touch.refl _ _).drew; simp only [List.length_append, List.length_replicate, Nat.add_assoc] at h; exact h⟩
                case measure => simp [intOf]; omega
              · have hmod' : 0 < (l.length + j) % 8 := by omega
                have hj8 : j < 8 := by have := HJ.out; unfold padN at this; omega
                clear hmod
                go_wp2_with (at_builtin; refine wpList_append_row _ rfl (.tmp 77) (.tmp 78) 28 28 rfl 3 i0 _ 8 Try.underlying28 hi hz0 hz1 hz2 rfl (.slice a2 (l.length + j) c2) (intVs (l ++ List.replicate j 0)) rfl (by exact hR2.kept (S := fun _ => False) ((Touch.refl _ _).alloc _) (fun _ _ => id)) (.slice (some ⟨_, 0, none⟩) 1 1) rfl 1 ([.int .i64 0]) (by exact Src.ofCell Try.underlying28 (heap_alloc_new _ _) rfl) (by simp only [intVs_length, List.length_append, bitsN_length, bitsL_length, List.length_replicate]; unfold maxLen; omega) (by simp only [intVs_length, List.length_append, bitsN_length, bitsL_length, List.length_replicate]; omega) ?_; intro v4 w4 hrow4 hgrow4 hown4)
                go_roundw
                case rel =>
                  have e0 : intVs (l ++ List.replicate j 0) ++ [Value.int .i64 0] = intVs (l ++ List.replicate (j + 1) 0) := by rw [show List.replicate (j + 1) 0 = List.replicate j 0 ++ [0] from List.replicate_succ', ← List.append_assoc, ← intVs_snoc]; rfl
                  rw [e0] at hrow4
                  have hk2 := hF2.kept ((Touch.refl (fun _ => False) _).alloc (.cells #[.int .i64 0] 3))
                  have hR2' := hR2.kept ((Touch.refl (fun _ => False) _).alloc (.cells #[.int .i64 0] 3)) (fun _ _ => id)
                  refine ⟨j + 1, v4, rfl, ?_, ⟨hk2.at_.kept (Touch.of_grown hgrow4) (fun e => HSN.out.2 e.symm) (fun g hg' e => hk2.at_.apart hR2' e.symm hg'), hk2.fresh, hk2.sep, sep_grown hk2.touch HSN.out.1 hgrow4⟩, hrow4, own_sep HSN.out.1 hown4 hk2.touch.size, ?_⟩
                  · have := HJ.out; unfold padN at this ⊢; omega
                  · rcases hown4 with h | h
                    · rw [h]; exact HSN.out.2
                    · rw [h]; intro e; injection e with e; have := hk2.at_.lt; omega
                case measure =>
                  obtain ⟨a5, c5, hv5, _⟩ := hrow4.form
                  rw [hv5]
                  simp only [lenV, List.length_append, intVs_length, List.length_replicate, List.length_cons, List.length_nil]
                  unfold padN; omega
          · have hTx : ((T k).extract 0 20).size ≤ 20 := by simp; omega
            have hT' : 20 < (T k).size := by omega
            clear hT
            go_wp2_with fail
            generalize (T k).extract 0 20 = tx at hTx ⊢
            have hB0 := hB.kept ((Touch.refl _ _).alloc (.cells #[.int .i64 (What k), .int .u64 (V k), .int .i64 (N k), .string (T k)] 30))
            have htxl := Lib.hid (data_length tx)
            refine (add_calls B 0 tx l row _ hB0.fr.at_ (by omega)).mono ?_
            rintro e w2 ⟨rfl, row2, hw2, hs2, ht2⟩
            have hR2 := hB0.wrote ht2
            have hF2 := hB0.fr.step hw2 hs2 ht2
            clear hw2 hs2 ht2 hB0
            generalize hLL : l ++ List.replicate (padN l.length) 0 ++ bitsL tx.data.toList = LL at hF2
            have HLLe := Lib.hid hLL
            clear hLL
            go_wp2_with fail
            go_loopw [4] (PadInv w1 B l LL row2) (fun r _ => padN (lenV r))
            case atStart => exact ⟨0, _, rfl, Nat.zero_le _, hF2, by simpa using hR2, hB.sep, hB.ne⟩
            case round =>
              clear hR2 hF2
              obtain ⟨j, rv2, rfl, hj, hF2, hR2, hsep2, hne2⟩ := hrel
              obtain ⟨a2, c2, hv2, hc2, hc2'⟩ := hR2.iform
              subst hv2
              have hjl : (l ++ List.replicate j 0).length = l.length + j := by rw [List.length_append, List.length_replicate]
              have HSN := Lib.hid (⟨hsep2, hne2⟩ : _ ∧ _)
              have HJ := Lib.hid hj
              clear hsep2 hne2 hj
              rw [hjl] at hR2 HSN hc2 ⊢
              clear hjl
              by_cases hmod : (l.length + j) % 8 = 0
              · have hjp : j = padN l.length := by have := HJ.out; unfold padN at this ⊢; omega
                subst hjp
                go_wp2_with fail
                refine (bits_calls tx _ (by omega)).mono ?_
                rintro e w3 ⟨r3, rfl, hr3, hs3, ht3⟩
                have hR3 := hR2.kept ht3 (fun _ _ => id)
                have hF3 := hF2.kept ht3
                clear hR2 hF2 ht3 hs3
                have hpl : padN l.length < 8 := by unfold padN; omega
                have hll : (l ++ List.replicate (padN l.length) 0 ++ bitsL tx.data.toList).length ≤ 200 * (k + 1) := by simp only [List.length_append, List.length_replicate, bitsL_length, htxl.out]; omega
                have hl2 : ∀ x ∈ l ++ List.replicate (padN l.length) 0 ++ bitsL tx.data.toList, x < 2 := fun x hx => (List.mem_append.1 hx).elim (rep_two l _ hB.two x) (bitsL_lt _ x)
                have HLL := Lib.hid (⟨hll, hl2⟩ : _ ∧ _)
                clear hll hl2
                have hbl8 := Lib.hid (show (bitsL tx.data.toList).length = 8 * tx.size by rw [bitsL_length, htxl.out])
                have HR3 := Lib.hid hR3
                clear hR3
                go_wp2_with (at_builtin; refine wpList_append_row _ rfl (.tmp 80) (.tmp 82) 28 28 rfl 3 i0 _ 8 Try.underlying28 hi hz0 hz1 hz2 rfl (.slice a2 (l.length + padN l.length) c2) (intVs (l ++ List.replicate (padN l.length) 0)) rfl HR3.out r3 rfl (intVs (bitsL tx.data.toList)).length (intVs (bitsL tx.data.toList)) (Src.ofRow Try.underlying28 hr3 (intVs_one _)) (by simp only [intVs_length, List.length_append, List.length_replicate, hbl8.out]; unfold maxLen; omega) (by simp only [intVs_length, List.length_append, List.length_replicate, hbl8.out]; omega) ?_; intro v4 w4 hrow4 hgrow4 hown4; rw [← intVs_append] at hrow4; have hB4 := WrBoth.pushed hF3 HR3.out HSN.out.1 HSN.out.2 hrow4 hgrow4 hown4 HLLe.out.symm (by rw [← HLLe.out]; exact HLL.out.2); clear hown4 hgrow4 HR3 hF3 hr3; obtain ⟨a4, c4, hv4, hc4, hm4⟩ := hrow4.iform; subst hv4; clear hrow4; rw [← HLLe.out] at hB4)
                refine (wlen_calls B 0 _ _ _ hB4.fr.at_ (by have := HLL.out.1; omega)).mono ?_
                rintro e w5 ⟨rfl, rfl⟩
                go_wp2_with fail
                go_roundw
                case rel => exact ⟨k + 1, _, _, _, rfl, by go_num, by omega, by omega, HLL.out.1, by have h := hB4.kept (Touch.refl _ _).drew; simp only [List.length_append, List.length_replicate, Nat.add_assoc] at h; exact h⟩
                case measure => simp [intOf]; omega
              · have hmod' : 0 < (l.length + j) % 8 := by omega
                have hj8 : j < 8 := by have := HJ.out; unfold padN at this; omega
                clear hmod
                go_wp2_with (at_builtin; refine wpList_append_row _ rfl (.tmp 77) (.tmp 78) 28 28 rfl 3 i0 _ 8 Try.underlying28 hi hz0 hz1 hz2 rfl (.slice a2 (l.length + j) c2) (intVs (l ++ List.replicate j 0)) rfl (by exact hR2.kept (S := fun _ => False) ((Touch.refl _ _).alloc _) (fun _ _ => id)) (.slice (some ⟨_, 0, none⟩) 1 1) rfl 1 ([.int .i64 0]) (by exact Src.ofCell Try.underlying28 (heap_alloc_new _ _) rfl) (by simp only [intVs_length, List.length_append, bitsN_length, bitsL_length, List.length_replicate]; unfold maxLen; omega) (by simp only [intVs_length, List.length_append, bitsN_length, bitsL_length, List.length_replicate]; omega) ?_; intro v4 w4 hrow4 hgrow4 hown4)
                go_roundw
                case rel =>
                  have e0 : intVs (l ++ List.replicate j 0) ++ [Value.int .i64 0] = intVs (l ++ List.replicate (j + 1) 0) := by rw [show List.replicate (j + 1) 0 = List.replicate j 0 ++ [0] from List.replicate_succ', ← List.append_assoc, ← intVs_snoc]; rfl
                  rw [e0] at hrow4
                  have hk2 := hF2.kept ((Touch.refl (fun _ => False) _).alloc (.cells #[.int .i64 0] 3))
                  have hR2' := hR2.kept ((Touch.refl (fun _ => False) _).alloc (.cells #[.int .i64 0] 3)) (fun _ _ => id)
                  refine ⟨j + 1, v4, rfl, ?_, ⟨hk2.at_.kept (Touch.of_grown hgrow4) (fun e => HSN.out.2 e.symm) (fun g hg' e => hk2.at_.apart hR2' e.symm hg'), hk2.fresh, hk2.sep, sep_grown hk2.touch HSN.out.1 hgrow4⟩, hrow4, own_sep HSN.out.1 hown4 hk2.touch.size, ?_⟩
                  · have := HJ.out; unfold padN at this ⊢; omega
                  · rcases hown4 with h | h
                    · rw [h]; exact HSN.out.2
                    · rw [h]; intro e; injection e with e; have := hk2.at_.lt; omega
                case measure =>
                  obtain ⟨a5, c5, hv5, _⟩ := hrow4.form
                  rw [hv5]
                  simp only [lenV, List.length_append, intVs_length, List.length_replicate, List.length_cons, List.length_nil]
                  unfold padN; omega
        · rw [h4] at h26
          clear h4
          go_wp2_with fail
          have hB0 := hB.kept ((Touch.refl _ _).alloc (.cells #[.int .i64 (What k), .int .u64 (V k), .int .i64 (N k), .string (T k)] 30))
          refine (drain_calls B 0 l row _ hB0.fr.at_).mono ?_
          rintro e w2 ⟨rfl, hw2, ht2⟩
          have hR2 := hB0.rowI.kept ht2 (fun g hg e => hB0.ne (by rw [hg, e]))
          have hF2 : FrW w1 w2 B _ none := ⟨hw2, hB0.fr.fresh, .inl rfl, fresh_step1 hB0.fr.touch hB0.fr.fresh ht2⟩
          clear hw2 ht2 hB0
          go_wp2_with fail
          refine (bytes_calls l _ _ hR2 (by omega) hB.two).mono ?_
          rintro e w3 ⟨rfl, ht3⟩
          have hR3 := hR2.kept ht3 (fun _ _ => id)
          have hF3 := hF2.kept ht3
          clear hR2 hF2 ht3
          have hll : (l.drop (l.length / 8 * 8)).length ≤ 200 * (k + 1) := by rw [List.length_drop]; omega
          have hl2 : ∀ x ∈ l.drop (l.length / 8 * 8), x < 2 := fun x hx => hB.two x (List.mem_of_mem_drop hx)
          have HLL := Lib.hid (⟨hll, hl2⟩ : _ ∧ _)
          clear hll hl2
          have hq : l.length / 8 * 8 ≤ l.length := Nat.div_mul_le_self _ _
          by_cases hc : rcap = l.length / 8 * 8
          · subst hc
            have hRt : Row w3 3 (.slice ra (l.length - l.length / 8 * 8) (l.length / 8 * 8 - l.length / 8 * 8)) (intVs (l.drop (l.length / 8 * 8))) := by rw [Nat.sub_self, ← intVs_drop]; exact (hR3.from_end hq).1
            have HRt := Lib.hid hRt
            clear hRt hR3
            go_wp2_with (at_builtin; refine wpList_append_row _ rfl (.tmp 31) (.tmp 37) 28 28 rfl 3 i0 _ 8 Try.underlying28 hi hz0 hz1 hz2 rfl (.slice (some ⟨w3.heap.size, 0, none⟩) 0 0) [] rfl (nilRow w3) (.slice ra (l.length - l.length / 8 * 8) (l.length / 8 * 8 - l.length / 8 * 8)) rfl (intVs (l.drop (l.length / 8 * 8))).length (intVs (l.drop (l.length / 8 * 8))) (by exact Src.ofRow Try.underlying28 (HRt.out.kept ((Touch.refl (fun _ => False) _).alloc _) (fun _ _ => id)) (intVs_one _)) (by rw [intVs_length]; unfold maxLen; simp only [List.length_nil, List.length_drop]; omega) (by rw [intVs_length]; simp only [List.length_nil, List.length_drop]; omega) ?_; intro v4 w4 hrow4 hgrow4 hown4; rw [List.nil_append] at hrow4; have hB4 := WrBoth.anew hF3 hgrow4 hrow4 hown4 HLL.out.2; clear hown4 hgrow4 hF3; obtain ⟨a4, c4, hv4, hc4, hm4⟩ := hrow4.iform; subst hv4; clear hrow4)
            refine (wlen_calls B 0 _ _ _ hB4.fr.at_ (by have := HLL.out.1; omega)).mono ?_
            rintro e w5 ⟨rfl, rfl⟩
            go_wp2_with fail
            go_roundw
            case rel => exact ⟨k + 1, _, _, _, rfl, by go_num, by omega, by omega, HLL.out.1, by have h := hB4.kept (Touch.refl _ _).drew; rw [show (l.drop (l.length / 8 * 8)).length = 0 by rw [List.length_drop]; omega] at h; exact h⟩
            case measure => simp [intOf]; omega
          · have hRt := (hR3.from hq hc).1
            rw [intVs_drop] at hRt
            have HRt := Lib.hid hRt
            clear hRt hR3
            go_wp2_with (at_builtin; refine wpList_append_row _ rfl (.tmp 31) (.tmp 37) 28 28 rfl 3 i0 _ 8 Try.underlying28 hi hz0 hz1 hz2 rfl (.slice (some ⟨w3.heap.size, 0, none⟩) 0 0) [] rfl (nilRow w3) (.slice (Option.map (fun x => x.add (l.length / 8 * 8)) ra) (l.length - l.length / 8 * 8) (rcap - l.length / 8 * 8)) rfl (intVs (l.drop (l.length / 8 * 8))).length (intVs (l.drop (l.length / 8 * 8))) (by exact Src.ofRow Try.underlying28 (HRt.out.kept ((Touch.refl (fun _ => False) _).alloc _) (fun _ _ => id)) (intVs_one _)) (by rw [intVs_length]; unfold maxLen; simp only [List.length_nil, List.length_drop]; omega) (by rw [intVs_length]; simp only [List.length_nil, List.length_drop]; omega) ?_; intro v4 w4 hrow4 hgrow4 hown4; rw [List.nil_append] at hrow4; have hB4 := WrBoth.anew hF3 hgrow4 hrow4 hown4 HLL.out.2; clear hown4 hgrow4 hF3; obtain ⟨a4, c4, hv4, hc4, hm4⟩ := hrow4.iform; subst hv4; clear hrow4)
            refine (wlen_calls B 0 _ _ _ hB4.fr.at_ (by have := HLL.out.1; omega)).mono ?_
            rintro e w5 ⟨rfl, rfl⟩
            go_wp2_with fail
            go_roundw
            case rel => exact ⟨k + 1, _, _, _, rfl, by go_num, by omega, by omega, HLL.out.1, by have h := hB4.kept (Touch.refl _ _).drew; simpa only [List.length_drop] using h⟩
            case measure => simp [intOf]; omega
      · go_wp2_with fail
        refine (walign_calls B 0 l row _ hB.fr.at_ (by omega)).mono ?_
        rintro e w2 ⟨rfl, row2, hw2, hs2, ht2⟩
        have hR2 := hB.wrote ht2
        have hF2 := hB.fr.step hw2 hs2 ht2
        clear hw2 hs2 ht2
        generalize hLL : l ++ List.replicate (padN l.length) 0 = LL at hF2
        have HLLe := Lib.hid hLL
        clear hLL
        go_wp2_with fail
        go_loopw [4] (PadInv w1 B l LL row2) (fun r _ => padN (lenV r))
        case atStart => exact ⟨0, _, rfl, Nat.zero_le _, hF2, by simpa using hR2, hB.sep, hB.ne⟩
        case round =>
          clear hR2 hF2
          obtain ⟨j, rv2, rfl, hj, hF2, hR2, hsep2, hne2⟩ := hrel
          obtain ⟨a2, c2, hv2, hc2, hc2'⟩ := hR2.iform
          subst hv2
          have hjl : (l ++ List.replicate j 0).length = l.length + j := by rw [List.length_append, List.length_replicate]
          have HSN := Lib.hid (⟨hsep2, hne2⟩ : _ ∧ _)
          have HJ := Lib.hid hj
          clear hsep2 hne2 hj
          rw [hjl] at hR2 HSN hc2 ⊢
          clear hjl
          by_cases hmod : (l.length + j) % 8 = 0
          · have hjp : j = padN l.length := by have := HJ.out; unfold padN at this ⊢; omega
            subst hjp
            go_wp2_with fail
            refine (drain_calls B 0 _ _ _ hF2.at_).mono ?_
            rintro e w3 ⟨rfl, hw3, ht3⟩
            rw [← HLLe.out] at hw3 ⊢
            have hR3 := hR2.kept ht3 (fun g hg e => HSN.out.2 (by rw [hg, e]))
            have hT3 := fresh_step1 hF2.touch hF2.fresh ht3
            clear hR2 hF2 ht3
            have hl2 : ∀ x ∈ l ++ List.replicate (padN l.length) 0, x < 2 := rep_two l _ hB.two
            have hpl : padN l.length < 8 := by unfold padN; omega
            have hz : (l ++ List.replicate (padN l.length) 0).drop ((l ++ List.replicate (padN l.length) 0).length / 8 * 8) = [] := by
              apply List.drop_eq_nil_of_le; rw [List.length_append, List.length_replicate]; omega
            rw [hz] at hw3
            have hBy := Lib.hid (bytes_calls (l ++ List.replicate (padN l.length) 0) _ _ hR3 (by rw [List.length_append, List.length_replicate]; omega) hl2)
            clear hl2 hz hR3
            generalize bytesL (l ++ List.replicate (padN l.length) 0) = bs at hBy ⊢
            go_wp2_with fail
            refine hBy.out.mono ?_
            rintro e w4 ⟨rfl, ht4⟩
            have hw4 := hw3.kept ht4 id (fun _ _ => id)
            clear hw3
            go_wp2_with fail
            refine (wlen_calls B 0 [] none _ hw4 (by decide)).mono ?_
            rintro e w5 ⟨rfl, rfl⟩
            go_wp2_with fail
            go_ret
            exact ⟨rfl, (ht1.trans (hT3.trans ht4)).drew⟩
          · have hmod' : 0 < (l.length + j) % 8 := by omega
            have hj8 : j < 8 := by have := HJ.out; unfold padN at this; omega
            clear hmod
            go_wp2_with (at_builtin; refine wpList_append_row _ rfl (.tmp 93) (.tmp 94) 28 28 rfl 3 i0 _ 8 Try.underlying28 hi hz0 hz1 hz2 rfl (.slice a2 (l.length + j) c2) (intVs (l ++ List.replicate j 0)) rfl (by exact hR2.kept (S := fun _ => False) ((Touch.refl _ _).alloc _) (fun _ _ => id)) (.slice (some ⟨_, 0, none⟩) 1 1) rfl 1 ([.int .i64 0]) (by exact Src.ofCell Try.underlying28 (heap_alloc_new _ _) rfl) (by simp only [intVs_length, List.length_append, bitsN_length, bitsL_length, List.length_replicate]; unfold maxLen; omega) (by simp only [intVs_length, List.length_append, bitsN_length, bitsL_length, List.length_replicate]; omega) ?_; intro v4 w4 hrow4 hgrow4 hown4)
            go_roundw
            case rel =>
              have e0 : intVs (l ++ List.replicate j 0) ++ [Value.int .i64 0] = intVs (l ++ List.replicate (j + 1) 0) := by rw [show List.replicate (j + 1) 0 = List.replicate j 0 ++ [0] from List.replicate_succ', ← List.append_assoc, ← intVs_snoc]; rfl
              rw [e0] at hrow4
              have hk2 := hF2.kept ((Touch.refl (fun _ => False) _).alloc (.cells #[.int .i64 0] 3))
              have hR2' := hR2.kept ((Touch.refl (fun _ => False) _).alloc (.cells #[.int .i64 0] 3)) (fun _ _ => id)
              refine ⟨j + 1, v4, rfl, ?_, ⟨hk2.at_.kept (Touch.of_grown hgrow4) (fun e => HSN.out.2 e.symm) (fun g hg' e => hk2.at_.apart hR2' e.symm hg'), hk2.fresh, hk2.sep, sep_grown hk2.touch HSN.out.1 hgrow4⟩, hrow4, own_sep HSN.out.1 hown4 hk2.touch.size, ?_⟩
              · have := HJ.out; unfold padN at this ⊢; omega
              · rcases hown4 with h | h
                · rw [h]; exact HSN.out.2
                · rw [h]; intro e; injection e with e; have := hk2.at_.lt; omega
            case measure =>
              obtain ⟨a5, c5, hv5, _⟩ := hrow4.form
              rw [hv5]
              simp only [lenV, List.length_append, intVs_length, List.length_replicate, List.length_cons, List.length_nil]
              unfold padN; omega
    · go_wp2_with fail
      refine (walign_calls B 0 l row _ hB.fr.at_ (by omega)).mono ?_
      rintro e w2 ⟨rfl, row2, hw2, hs2, ht2⟩
      have hR2 := hB.wrote ht2
      have hF2 := hB.fr.step hw2 hs2 ht2
      clear hw2 hs2 ht2
      generalize hLL : l ++ List.replicate (padN l.length) 0 = LL at hF2
      have HLLe := Lib.hid hLL
      clear hLL
      go_wp2_with fail
      go_loopw [4] (PadInv w1 B l LL row2) (fun r _ => padN (lenV r))
      case atStart => exact ⟨0, _, rfl, Nat.zero_le _, hF2, by simpa using hR2, hB.sep, hB.ne⟩
      case round =>
        clear hR2 hF2
        obtain ⟨j, rv2, rfl, hj, hF2, hR2, hsep2, hne2⟩ := hrel
        obtain ⟨a2, c2, hv2, hc2, hc2'⟩ := hR2.iform
        subst hv2
        have hjl : (l ++ List.replicate j 0).length = l.length + j := by rw [List.length_append, List.length_replicate]
        have HSN := Lib.hid (⟨hsep2, hne2⟩ : _ ∧ _)
        have HJ := Lib.hid hj
        clear hsep2 hne2 hj
        rw [hjl] at hR2 HSN hc2 ⊢
        clear hjl
        by_cases hmod : (l.length + j) % 8 = 0
        · have hjp : j = padN l.length := by have := HJ.out; unfold padN at this ⊢; omega
          subst hjp
          go_wp2_with fail
          refine (drain_calls B 0 _ _ _ hF2.at_).mono ?_
          rintro e w3 ⟨rfl, hw3, ht3⟩
          rw [← HLLe.out] at hw3 ⊢
          have hR3 := hR2.kept ht3 (fun g hg e => HSN.out.2 (by rw [hg, e]))
          have hT3 := fresh_step1 hF2.touch hF2.fresh ht3
          clear hR2 hF2 ht3
          have hl2 : ∀ x ∈ l ++ List.replicate (padN l.length) 0, x < 2 := rep_two l _ hB.two
          have hpl : padN l.length < 8 := by unfold padN; omega
          have hz : (l ++ List.replicate (padN l.length) 0).drop ((l ++ List.replicate (padN l.length) 0).length / 8 * 8) = [] := by
            apply List.drop_eq_nil_of_le; rw [List.length_append, List.length_replicate]; omega
          rw [hz] at hw3
          have hBy := Lib.hid (bytes_calls (l ++ List.replicate (padN l.length) 0) _ _ hR3 (by rw [List.length_append, List.length_replicate]; omega) hl2)
          clear hl2 hz hR3
          generalize bytesL (l ++ List.replicate (padN l.length) 0) = bs at hBy ⊢
          go_wp2_with fail
          refine hBy.out.mono ?_
          rintro e w4 ⟨rfl, ht4⟩
          have hw4 := hw3.kept ht4 id (fun _ _ => id)
          clear hw3
          go_wp2_with fail
          refine (wlen_calls B 0 [] none _ hw4 (by decide)).mono ?_
          rintro e w5 ⟨rfl, rfl⟩
          go_wp2_with fail
          go_ret
          exact ⟨rfl, (ht1.trans (hT3.trans ht4)).drew⟩
        · have hmod' : 0 < (l.length + j) % 8 := by omega
          have hj8 : j < 8 := by have := HJ.out; unfold padN at this; omega
          clear hmod
          go_wp2_with (at_builtin; refine wpList_append_row _ rfl (.tmp 93) (.tmp 94) 28 28 rfl 3 i0 _ 8 Try.underlying28 hi hz0 hz1 hz2 rfl (.slice a2 (l.length + j) c2) (intVs (l ++ List.replicate j 0)) rfl (by exact hR2.kept (S := fun _ => False) ((Touch.refl _ _).alloc _) (fun _ _ => id)) (.slice (some ⟨_, 0, none⟩) 1 1) rfl 1 ([.int .i64 0]) (by exact Src.ofCell Try.underlying28 (heap_alloc_new _ _) rfl) (by simp only [intVs_length, List.length_append, bitsN_length, bitsL_length, List.length_replicate]; unfold maxLen; omega) (by simp only [intVs_length, List.length_append, bitsN_length, bitsL_length, List.length_replicate]; omega) ?_; intro v4 w4 hrow4 hgrow4 hown4)
          go_roundw
          case rel =>
            have e0 : intVs (l ++ List.replicate j 0) ++ [Value.int .i64 0] = intVs (l ++ List.replicate (j + 1) 0) := by rw [show List.replicate (j + 1) 0 = List.replicate j 0 ++ [0] from List.replicate_succ', ← List.append_assoc, ← intVs_snoc]; rfl
            rw [e0] at hrow4
            have hk2 := hF2.kept ((Touch.refl (fun _ => False) _).alloc (.cells #[.int .i64 0] 3))
            have hR2' := hR2.kept ((Touch.refl (fun _ => False) _).alloc (.cells #[.int .i64 0] 3)) (fun _ _ => id)
            refine ⟨j + 1, v4, rfl, ?_, ⟨hk2.at_.kept (Touch.of_grown hgrow4) (fun e => HSN.out.2 e.symm) (fun g hg' e => hk2.at_.apart hR2' e.symm hg'), hk2.fresh, hk2.sep, sep_grown hk2.touch HSN.out.1 hgrow4⟩, hrow4, own_sep HSN.out.1 hown4 hk2.touch.size, ?_⟩
            · have := HJ.out; unfold padN at this ⊢; omega
            · rcases hown4 with h | h
              · rw [h]; exact HSN.out.2
              · rw [h]; intro e; injection e with e; have := hk2.at_.lt; omega
          case measure =>
            obtain ⟨a5, c5, hv5, _⟩ := hrow4.form
            rw [hv5]
            simp only [lenV, List.length_append, intVs_length, List.length_replicate, List.length_cons, List.length_nil]
            unfold padN; omega
end Go.Proofs.Ytmkbcbkgficnkaa

/- The walk of the statement BitsReads over the translated program. -/
import Derived.Test.YtmkbcbkgficnkaaBitsWrWalk
import Derived.BigGuard
namespace Go.Proofs.Ytmkbcbkgficnkaa
open Go Go.RowKit

/-- A Reader, and all bits that were fed as a slice, both come since w1; the first c of them are gone. -/
structure RdBoth (w1 : World) (b : Nat) (l : List Nat) (c : Nat) (rv : Value) (row : Option Nat) (wr : World) : Prop where
  fr : FrR w1 wr b (l.drop c) row
  rowI : Row wr 3 rv (intVs l)
  sep : Sep w1.heap.size none rv.ownBlock
  ne : rv.ownBlock ≠ some b
  two : ∀ x ∈ l, x < 2
  le : c ≤ l.length
  whole : l.length % 8 = 0

theorem RdBoth.kept {w1 wr w' : World} {b : Nat} {l : List Nat} {c : Nat} {rv : Value} {row : Option Nat} (h : RdBoth w1 b l c rv row wr) (ht : Touch (fun _ => False) wr w') : RdBoth w1 b l c rv row w' :=
  ⟨h.fr.kept ht, h.rowI.kept ht (fun _ _ => id), h.sep, h.ne, h.two, h.le, h.whole⟩
theorem RdAt.apart {w : World} {b o : Nat} {l : List Nat} {row : Option Nat} (h : RdAt w b o l row) {v : Value} {ys : List Value} (h' : Row w 3 v ys) {g : Nat} (hv : v.ownBlock = some g) : row ≠ some g := by
  obtain ⟨_, _, v', _, hr, _, rfl, _⟩ := h
  exact h'.apart hr (by decide) hv
theorem RdAt.row_lt {w : World} {b o : Nat} {l : List Nat} {row : Option Nat} (h : RdAt w b o l row) {g : Nat} (hr : row = some g) : g < w.heap.size := by
  obtain ⟨_, _, v', _, hrow, _, rfl, _⟩ := h
  exact hrow.lt g hr
/-- Behind a call of the Reader's that drops bits alone. -/
theorem RdBoth.moved {w1 wr w' : World} {b : Nat} {l : List Nat} {c n : Nat} {rv : Value} {row : Option Nat} (h : RdBoth w1 b l c rv row wr) (hr : RdAt w' b 0 ((l.drop c).drop n) row) (ht : Touch (fun k => k = b) wr w') (hn : c + n ≤ l.length) : RdBoth w1 b l (c + n) rv row w' :=
  ⟨h.fr.step1 (by rw [List.drop_drop] at hr; exact hr) ht, h.rowI.kept ht (fun g hg e => h.ne (by rw [hg, e])), h.sep, h.ne, h.two, hn, h.whole⟩
/-- Behind a call that feeds it: the slice stands. -/
theorem RdBoth.wrote {w1 wr w' : World} {b : Nat} {l : List Nat} {c : Nat} {rv : Value} {row : Option Nat} (h : RdBoth w1 b l c rv row wr) (ht : Touch (fun k => k = b ∨ row = some k) wr w') : Row w' 3 rv (intVs l) :=
  h.rowI.kept ht (fun g hg hs => by
    rcases hs with rfl | hs
    · exact h.ne hg
    · exact h.fr.at_.apart h.rowI hg hs)
theorem RdBoth.pushed {w1 w3 w4 : World} {b : Nat} {l q : List Nat} {c : Nat} {rv v4 : Value} {row' : Option Nat} (hF : FrR w1 w3 b (l.drop c ++ q) row') (hR : Row w3 3 rv (intVs l)) (hs : Sep w1.heap.size none rv.ownBlock) (hne : rv.ownBlock ≠ some b)
    (h4 : Row w4 3 v4 (intVs (l ++ q))) (hg : w3.grownBy w4 rv.ownBlock) (ho : v4.ownBlock = rv.ownBlock ∨ v4.ownBlock = some w3.heap.size) (h2 : ∀ x ∈ l ++ q, x < 2) (hc : c ≤ l.length) (h8 : (l ++ q).length % 8 = 0) : RdBoth w1 b (l ++ q) c v4 row' w4 := by
  refine ⟨⟨?_, hF.fresh, hF.sep, sep_grown hF.touch hs hg⟩, h4, own_sep hs ho hF.touch.size, ?_, h2, by rw [List.length_append]; omega, h8⟩
  · rw [List.drop_append_of_le_length hc]
    exact hF.at_.kept (Touch.of_grown hg) (fun e => hne e.symm) (fun g hg' e => hF.at_.apart hR e.symm hg')
  · rcases ho with h | h
    · rw [h]; exact hne
    · rw [h]; intro e; injection e with e; have := hF.at_.lt; omega

/-- What holds at the loop's head: slice, position, counter. -/
def RdInv (w1 : World) (b n : Nat) (r p i : Value) (wr : World) : Prop :=
  ∃ (k : Nat) (l : List Nat) (c : Nat) (rv : Value) (row : Option Nat), rv = r ∧ p = .int .i64 (c : Nat) ∧ i = .int .i64 (k : Nat) ∧ k ≤ n ∧ k ≤ 60 ∧ l.length ≤ 240 * k ∧ RdBoth w1 b l c rv row wr

theorem intVs_take (l : List Nat) (q : Nat) : (intVs l).take q = intVs (l.take q) := by simp [intVs, List.map_take]
theorem Row.part0 {w : World} {e : TypeId} {a : Option Addr} {n q m : Nat} {xs : List Value} (h : Row w e (.slice a n q) xs) (hq : q ≤ n) (hm : m ≤ n - q) : Row w e (.slice a m 0) ((xs.drop q).take m) := (h.from_end hq).1.upto hm
theorem Row.part {w : World} {e : TypeId} {a : Option Addr} {n cap q m : Nat} {xs : List Value} (h : Row w e (.slice a n cap) xs) (hq : q ≤ n) (hne : cap ≠ q) (hm : m ≤ n - q) : Row w e (.slice (Option.map (fun x => x.add q) a) m (cap - q)) ((xs.drop q).take m) := (h.from hq hne).1.upto hm

theorem rd_part0 {w : World} {a : Option Addr} {q m m' : Nat} {l : List Nat} (h : Row w 3 (.slice a l.length q) (intVs l)) (hq : q ≤ l.length) (hm : m' = m) (hml : m ≤ l.length - q) : Row w 3 (.slice a m' 0) (intVs ((l.drop q).take m)) := by
  subst hm; rw [← intVs_take, ← intVs_drop]; exact h.part0 hq hml
theorem rd_part {w : World} {a : Option Addr} {q cap m m' : Nat} {l : List Nat} (h : Row w 3 (.slice a l.length cap) (intVs l)) (hq : q ≤ l.length) (hne : cap ≠ q) (hm : m' = m) (hml : m ≤ l.length - q) : Row w 3 (.slice (Option.map (fun x => x.add q) a) m' (cap - q)) (intVs ((l.drop q).take m)) := by
  subst hm; rw [← intVs_take, ← intVs_drop]; exact h.part hq hne hml

theorem mod6 (x : Int) : ∃ r : Int, x.tmod 6 = r ∧ -6 < r ∧ r < 6 ∧ (r + 6) % 6 = x % 6 := by
  have h1 := Int.tmod_lt_of_pos x (show (0 : Int) < 6 by decide)
  have h2 := Int.lt_tmod_of_pos x (show (0 : Int) < 6 by decide)
  have h3 := Int.mul_tdiv_add_tmod x 6
  exact ⟨_, rfl, h2, h1, by omega⟩

set_option maxRecDepth 100000 in
set_option maxHeartbeats 6400000 in
theorem reads_calls (n : Nat) (v : Value) (What : Nat → Int) (V : Nat → Nat) (N : Nat → Int) (T : Nat → ByteArray) (w : World) (ha : ActsAt w v n What V N T) :
    Calls Try.prog 4 #[v] w fun e w' => e = .returned (.bool true) ∧ Touch (fun _ => False) w w' := by
  obtain ⟨av, acap, hv⟩ := ha.form
  have hmax := ha.max
  obtain ⟨i0, hi, hz0, hz1, hz2⟩ := info_parts Try.info3
  go_enter Try.func4, Try.ntmps4
  go_wp2_with fail
  refine (speaks_calls _).mono ?_
  rintro e w1 ⟨rfl, ht1⟩
  subst hv
  go_wp2_with fail
  have hnew := FrR.new w1
  generalize hBB : w1.heap.size = B at hnew ⊢
  have HBB := Lib.hid hBB
  clear hBB
  go_loopw [4, 5, 6] (RdInv w1 B n) (fun _ _ i _ => n - (intOf i).toNat)
  case atStart => exact ⟨0, [], 0, _, none, rfl, rfl, rfl, Nat.zero_le _, Nat.zero_le _, Nat.zero_le _, hnew, Row.nil _ _, .inl rfl, by simp [Value.ownBlock], by simp, Nat.le_refl _, rfl⟩
  case round =>
    clear hnew
    obtain ⟨k, l, c, rv, row, rfl, rfl, rfl, hk, hk6, hl, hB⟩ := hrel
    obtain ⟨ra, rcap, hrv, hrc1, hrc2⟩ := hB.rowI.iform
    subst hrv
    have hcl := hB.le
    by_cases hlt : k < n
    · by_cases hlt6 : k < 60
      · obtain ⟨g, off, cap, hv, hg, hcap, hcell⟩ := ha.addr (by omega)
        injection hv with hv1 hv2 hv3
        subst hv1; subst hv3
        obtain ⟨q0, q1, q2, q3⟩ := hcell k hlt
        obtain ⟨b0, b1, b2, b3⟩ := ha.wf k hlt
        have hTw := ht1.trans hB.fr.touch
        have p0 := hTw.cell q0 id
        have p1 := hTw.cell q1 id
        have p2 := hTw.cell q2 id
        have p3 := hTw.cell q3 id
        clear q0 q1 q2 q3 hcell hTw
        have hbl := hB.fr.at_.lt
        have hrl := Lib.hid (fun g (hg : row = some g) => hB.fr.at_.row_lt hg)
        have hdl : (l.drop c).length = l.length - c := List.length_drop
        have HDL := Lib.hid hdl
        clear hdl
        have h4 : What k % 6 = 0 ∨ What k % 6 = 1 ∨ What k % 6 = 2 ∨ What k % 6 = 3 ∨ What k % 6 = 4 ∨ What k % 6 = 5 := by omega
        obtain ⟨r1, hr1, hr2, hr3, h26⟩ := mod6 (What k)
        rcases h4 with h4 | h4 | h4 | h4 | h4 | h4
        · rw [h4] at h26
          clear h4
          as_aux_lemma =>
            by_cases hT : (T k).size ≤ 30
            · go_wp2_with fail
              generalize T k = tx at hT b3 p3 ⊢
              have hB0 := hB.kept ((Touch.refl _ _).alloc (.cells #[.int .i64 (What k), .int .u64 (V k), .int .i64 (N k), .string tx] 30))
              have htxl := Lib.hid (data_length tx)
              refine (feed_calls B 0 tx (l.drop c) row _ hB0.fr.at_ (by rw [HDL.out]; omega)).mono ?_
              rintro e w2 ⟨rfl, row2, hw2, hs2, ht2⟩
              have hR2 := hB0.wrote ht2
              have hF2 := hB0.fr.step hw2 hs2 ht2
              clear hw2 hs2 ht2 hB0
              go_wp2_with fail
              refine (bits_calls tx _ (by omega)).mono ?_
              rintro e w3 ⟨r3, rfl, hr3, hs3, ht3⟩
              have hR3 := hR2.kept ht3 (fun _ _ => id)
              have hF3 := hF2.kept ht3
              clear hR2 hF2 ht3 hs3
              have hbl8 : (bitsL tx.data.toList).length = 8 * tx.size := by rw [bitsL_length, htxl.out]
              have hll : (l ++ bitsL tx.data.toList).length ≤ 240 * (k + 1) := by rw [List.length_append, hbl8]; omega
              have hl2 : ∀ x ∈ l ++ bitsL tx.data.toList, x < 2 := fun x hx => (List.mem_append.1 hx).elim (hB.two x) (bitsL_lt _ x)
              have h8 : (l ++ bitsL tx.data.toList).length % 8 = 0 := by rw [List.length_append, hbl8]; have := hB.whole; omega
              have hll1 : l.length + (bitsL tx.data.toList).length ≤ 240 * (k + 1) := by rw [hbl8]; omega
              have HQ := Lib.hid (⟨hl2, h8, hbl8⟩ : _ ∧ _ ∧ _)
              have HLL := Lib.hid hll
              clear hl2 h8 hbl8 hll
              go_wp2_with (at_builtin; refine wpList_append_row _ rfl (.tmp 85) (.tmp 87) 28 28 rfl 3 i0 _ 8 Try.underlying28 hi hz0 hz1 hz2 rfl (.slice ra l.length rcap) (intVs l) rfl hR3 r3 rfl (intVs (bitsL tx.data.toList)).length (intVs (bitsL tx.data.toList)) (Src.ofRow Try.underlying28 hr3 (intVs_one _)) (by simp only [intVs_length]; unfold maxLen; omega) (by simp only [intVs_length]; omega) ?_; intro v4 w4 hrow4 hgrow4 hown4; rw [← intVs_append] at hrow4; have hB4 := RdBoth.pushed hF3 hR3 hB.sep hB.ne hrow4 hgrow4 hown4 HQ.out.1 hcl HQ.out.2.1; clear hown4 hgrow4 hR3 hF3 hr3; obtain ⟨a4, c4, hv4, hc4, hm4⟩ := hrow4.iform; subst hv4; clear hrow4)
              have hle4 := hB4.le
              obtain ⟨m4, hm4⟩ : ∃ m4, m4 = (l ++ bitsL tx.data.toList).length - c := ⟨_, rfl⟩
              have hdl4 : ((l ++ bitsL tx.data.toList).drop c).length = m4 := by rw [hm4, List.length_drop]
              have hb4 : (l ++ bitsL tx.data.toList).length ≤ 240 * (k + 1) := HLL.out
              refine (left_calls B 0 _ _ _ hB4.fr.at_ (by rw [hdl4]; omega)).mono ?_
              rintro e w9 ⟨rfl, rfl⟩
              rw [hdl4]
              have hm5 : m4 + c = l.length + (bitsL tx.data.toList).length := by first | omega | (rw [hm4]; rw [List.length_append]; omega)
              clear hm4 hdl4
              go_wp2_with fail
              go_roundw
              case rel => exact ⟨k + 1, l ++ bitsL tx.data.toList, c, _, row2, by rw [List.length_append], by go_num, by go_num, by omega, by omega, hb4, hB4.kept (Touch.refl _ _).drew⟩
              case measure => simp [intOf]; omega
            · have hTx : ((T k).extract 0 30).size ≤ 30 := by simp; omega
              have hT' : 30 < (T k).size := by omega
              clear hT
              go_wp2_with fail
              generalize (T k).extract 0 30 = tx at hTx ⊢
              have hB0 := hB.kept ((Touch.refl _ _).alloc (.cells #[.int .i64 (What k), .int .u64 (V k), .int .i64 (N k), .string (T k)] 30))
              have htxl := Lib.hid (data_length tx)
              refine (feed_calls B 0 tx (l.drop c) row _ hB0.fr.at_ (by rw [HDL.out]; omega)).mono ?_
              rintro e w2 ⟨rfl, row2, hw2, hs2, ht2⟩
              have hR2 := hB0.wrote ht2
              have hF2 := hB0.fr.step hw2 hs2 ht2
              clear hw2 hs2 ht2 hB0
              go_wp2_with fail
              refine (bits_calls tx _ (by omega)).mono ?_
              rintro e w3 ⟨r3, rfl, hr3, hs3, ht3⟩
              have hR3 := hR2.kept ht3 (fun _ _ => id)
              have hF3 := hF2.kept ht3
              clear hR2 hF2 ht3 hs3
              have hbl8 : (bitsL tx.data.toList).length = 8 * tx.size := by rw [bitsL_length, htxl.out]
              have hll : (l ++ bitsL tx.data.toList).length ≤ 240 * (k + 1) := by rw [List.length_append, hbl8]; omega
              have hl2 : ∀ x ∈ l ++ bitsL tx.data.toList, x < 2 := fun x hx => (List.mem_append.1 hx).elim (hB.two x) (bitsL_lt _ x)
              have h8 : (l ++ bitsL tx.data.toList).length % 8 = 0 := by rw [List.length_append, hbl8]; have := hB.whole; omega
              have hll1 : l.length + (bitsL tx.data.toList).length ≤ 240 * (k + 1) := by rw [hbl8]; omega
              have HQ := Lib.hid (⟨hl2, h8, hbl8⟩ : _ ∧ _ ∧ _)
              have HLL := Lib.hid hll
              clear hl2 h8 hbl8 hll
              go_wp2_with (at_builtin; refine wpList_append_row _ rfl (.tmp 85) (.tmp 87) 28 28 rfl 3 i0 _ 8 Try.underlying28 hi hz0 hz1 hz2 rfl (.slice ra l.length rcap) (intVs l) rfl hR3 r3 rfl (intVs (bitsL tx.data.toList)).length (intVs (bitsL tx.data.toList)) (Src.ofRow Try.underlying28 hr3 (intVs_one _)) (by simp only [intVs_length]; unfold maxLen; omega) (by simp only [intVs_length]; omega) ?_; intro v4 w4 hrow4 hgrow4 hown4; rw [← intVs_append] at hrow4; have hB4 := RdBoth.pushed hF3 hR3 hB.sep hB.ne hrow4 hgrow4 hown4 HQ.out.1 hcl HQ.out.2.1; clear hown4 hgrow4 hR3 hF3 hr3; obtain ⟨a4, c4, hv4, hc4, hm4⟩ := hrow4.iform; subst hv4; clear hrow4)
              have hle4 := hB4.le
              obtain ⟨m4, hm4⟩ : ∃ m4, m4 = (l ++ bitsL tx.data.toList).length - c := ⟨_, rfl⟩
              have hdl4 : ((l ++ bitsL tx.data.toList).drop c).length = m4 := by rw [hm4, List.length_drop]
              have hb4 : (l ++ bitsL tx.data.toList).length ≤ 240 * (k + 1) := HLL.out
              refine (left_calls B 0 _ _ _ hB4.fr.at_ (by rw [hdl4]; omega)).mono ?_
              rintro e w9 ⟨rfl, rfl⟩
              rw [hdl4]
              have hm5 : m4 + c = l.length + (bitsL tx.data.toList).length := by first | omega | (rw [hm4]; rw [List.length_append]; omega)
              clear hm4 hdl4
              go_wp2_with fail
              go_roundw
              case rel => exact ⟨k + 1, l ++ bitsL tx.data.toList, c, _, row2, by rw [List.length_append], by go_num, by go_num, by omega, by omega, hb4, hB4.kept (Touch.refl _ _).drew⟩
              case measure => simp [intOf]; omega
        · rw [h4] at h26
          clear h4
          as_aux_lemma =>
            by_cases hT : (T k).size ≤ 30
            · go_wp2_with fail
              generalize T k = tx at hT b3 p3 ⊢
              have hB0 := hB.kept ((Touch.refl _ _).alloc (.cells #[.int .i64 (What k), .int .u64 (V k), .int .i64 (N k), .string tx] 30))
              have htxl := Lib.hid (data_length tx)
              refine (feed_calls B 0 tx (l.drop c) row _ hB0.fr.at_ (by rw [HDL.out]; omega)).mono ?_
              rintro e w2 ⟨rfl, row2, hw2, hs2, ht2⟩
              have hR2 := hB0.wrote ht2
              have hF2 := hB0.fr.step hw2 hs2 ht2
              clear hw2 hs2 ht2 hB0
              go_wp2_with fail
              refine (bits_calls tx _ (by omega)).mono ?_
              rintro e w3 ⟨r3, rfl, hr3, hs3, ht3⟩
              have hR3 := hR2.kept ht3 (fun _ _ => id)
              have hF3 := hF2.kept ht3
              clear hR2 hF2 ht3 hs3
              have hbl8 : (bitsL tx.data.toList).length = 8 * tx.size := by rw [bitsL_length, htxl.out]
              have hll : (l ++ bitsL tx.data.toList).length ≤ 240 * (k + 1) := by rw [List.length_append, hbl8]; omega
              have hl2 : ∀ x ∈ l ++ bitsL tx.data.toList, x < 2 := fun x hx => (List.mem_append.1 hx).elim (hB.two x) (bitsL_lt _ x)
              have h8 : (l ++ bitsL tx.data.toList).length % 8 = 0 := by rw [List.length_append, hbl8]; have := hB.whole; omega
              have hll1 : l.length + (bitsL tx.data.toList).length ≤ 240 * (k + 1) := by rw [hbl8]; omega
              have HQ := Lib.hid (⟨hl2, h8, hbl8⟩ : _ ∧ _ ∧ _)
              have HLL := Lib.hid hll
              clear hl2 h8 hbl8 hll
              go_wp2_with (at_builtin; refine wpList_append_row _ rfl (.tmp 85) (.tmp 87) 28 28 rfl 3 i0 _ 8 Try.underlying28 hi hz0 hz1 hz2 rfl (.slice ra l.length rcap) (intVs l) rfl hR3 r3 rfl (intVs (bitsL tx.data.toList)).length (intVs (bitsL tx.data.toList)) (Src.ofRow Try.underlying28 hr3 (intVs_one _)) (by simp only [intVs_length]; unfold maxLen; omega) (by simp only [intVs_length]; omega) ?_; intro v4 w4 hrow4 hgrow4 hown4; rw [← intVs_append] at hrow4; have hB4 := RdBoth.pushed hF3 hR3 hB.sep hB.ne hrow4 hgrow4 hown4 HQ.out.1 hcl HQ.out.2.1; clear hown4 hgrow4 hR3 hF3 hr3; obtain ⟨a4, c4, hv4, hc4, hm4⟩ := hrow4.iform; subst hv4; clear hrow4)
              have hle4 := hB4.le
              obtain ⟨m4, hm4⟩ : ∃ m4, m4 = (l ++ bitsL tx.data.toList).length - c := ⟨_, rfl⟩
              have hdl4 : ((l ++ bitsL tx.data.toList).drop c).length = m4 := by rw [hm4, List.length_drop]
              have hb4 : (l ++ bitsL tx.data.toList).length ≤ 240 * (k + 1) := HLL.out
              refine (left_calls B 0 _ _ _ hB4.fr.at_ (by rw [hdl4]; omega)).mono ?_
              rintro e w9 ⟨rfl, rfl⟩
              rw [hdl4]
              have hm5 : m4 + c = l.length + (bitsL tx.data.toList).length := by first | omega | (rw [hm4]; rw [List.length_append]; omega)
              clear hm4 hdl4
              go_wp2_with fail
              go_roundw
              case rel => exact ⟨k + 1, l ++ bitsL tx.data.toList, c, _, row2, by rw [List.length_append], by go_num, by go_num, by omega, by omega, hb4, hB4.kept (Touch.refl _ _).drew⟩
              case measure => simp [intOf]; omega
            · have hTx : ((T k).extract 0 30).size ≤ 30 := by simp; omega
              have hT' : 30 < (T k).size := by omega
              clear hT
              go_wp2_with fail
              generalize (T k).extract 0 30 = tx at hTx ⊢
              have hB0 := hB.kept ((Touch.refl _ _).alloc (.cells #[.int .i64 (What k), .int .u64 (V k), .int .i64 (N k), .string (T k)] 30))
              have htxl := Lib.hid (data_length tx)
              refine (feed_calls B 0 tx (l.drop c) row _ hB0.fr.at_ (by rw [HDL.out]; omega)).mono ?_
              rintro e w2 ⟨rfl, row2, hw2, hs2, ht2⟩
              have hR2 := hB0.wrote ht2
              have hF2 := hB0.fr.step hw2 hs2 ht2
              clear hw2 hs2 ht2 hB0
              go_wp2_with fail
              refine (bits_calls tx _ (by omega)).mono ?_
              rintro e w3 ⟨r3, rfl, hr3, hs3, ht3⟩
              have hR3 := hR2.kept ht3 (fun _ _ => id)
              have hF3 := hF2.kept ht3
              clear hR2 hF2 ht3 hs3
              have hbl8 : (bitsL tx.data.toList).length = 8 * tx.size := by rw [bitsL_length, htxl.out]
              have hll : (l ++ bitsL tx.data.toList).length ≤ 240 * (k + 1) := by rw [List.length_append, hbl8]; omega
              have hl2 : ∀ x ∈ l ++ bitsL tx.data.toList, x < 2 := fun x hx => (List.mem_append.1 hx).elim (hB.two x) (bitsL_lt _ x)
              have h8 : (l ++ bitsL tx.data.toList).length % 8 = 0 := by rw [List.length_append, hbl8]; have := hB.whole; omega
              have hll1 : l.length + (bitsL tx.data.toList).length ≤ 240 * (k + 1) := by rw [hbl8]; omega
              have HQ := Lib.hid (⟨hl2, h8, hbl8⟩ : _ ∧ _ ∧ _)
              have HLL := Lib.hid hll
              clear hl2 h8 hbl8 hll
              go_wp2_with (at_builtin; refine wpList_append_row _ rfl (.tmp 85) (.tmp 87) 28 28 rfl 3 i0 _ 8 Try.underlying28 hi hz0 hz1 hz2 rfl (.slice ra l.length rcap) (intVs l) rfl hR3 r3 rfl (intVs (bitsL tx.data.toList)).length (intVs (bitsL tx.data.toList)) (Src.ofRow Try.underlying28 hr3 (intVs_one _)) (by simp only [intVs_length]; unfold maxLen; omega) (by simp only [intVs_length]; omega) ?_; intro v4 w4 hrow4 hgrow4 hown4; rw [← intVs_append] at hrow4; have hB4 := RdBoth.pushed hF3 hR3 hB.sep hB.ne hrow4 hgrow4 hown4 HQ.out.1 hcl HQ.out.2.1; clear hown4 hgrow4 hR3 hF3 hr3; obtain ⟨a4, c4, hv4, hc4, hm4⟩ := hrow4.iform; subst hv4; clear hrow4)
              have hle4 := hB4.le
              obtain ⟨m4, hm4⟩ : ∃ m4, m4 = (l ++ bitsL tx.data.toList).length - c := ⟨_, rfl⟩
              have hdl4 : ((l ++ bitsL tx.data.toList).drop c).length = m4 := by rw [hm4, List.length_drop]
              have hb4 : (l ++ bitsL tx.data.toList).length ≤ 240 * (k + 1) := HLL.out
              refine (left_calls B 0 _ _ _ hB4.fr.at_ (by rw [hdl4]; omega)).mono ?_
              rintro e w9 ⟨rfl, rfl⟩
              rw [hdl4]
              have hm5 : m4 + c = l.length + (bitsL tx.data.toList).length := by first | omega | (rw [hm4]; rw [List.length_append]; omega)
              clear hm4 hdl4
              go_wp2_with fail
              go_roundw
              case rel => exact ⟨k + 1, l ++ bitsL tx.data.toList, c, _, row2, by rw [List.length_append], by go_num, by go_num, by omega, by omega, hb4, hB4.kept (Touch.refl _ _).drew⟩
              case measure => simp [intOf]; omega
        · rw [h4] at h26
          clear h4
          as_aux_lemma =>
            by_cases hN : 0 ≤ N k ∧ N k ≤ 32
            · obtain ⟨m, hm⟩ : ∃ m : Nat, N k = m := ⟨(N k).toNat, by omega⟩
              rw [hm] at p2 hN b2
              clear hm
              have hm2 : m ≤ 32 := by omega
              clear hN
              by_cases hml : m ≤ l.length - c
              · go_wp2_with fail
                have hB0 := hB.kept ((Touch.refl _ _).alloc (.cells #[.int .i64 (What k), .int .u64 (V k), .int .i64 m, .string (T k)] 30))
                refine (peek_some B 0 m (l.drop c) row _ hB0.fr.at_ (by rw [HDL.out]; omega) hm2 (by rw [HDL.out]; exact hml)).mono ?_
                rintro e w2 ⟨rfl, ht2⟩
                have x2 : w2.cell? ⟨wr.heap.size, 2, none⟩ = some (.int .i64 m) := alloc_cell ht2 id 2
                have hB2 := hB0.kept ht2
                clear hB0 ht2
                by_cases hce : rcap = c
                · subst hce
                  go_wp2_with fail
                  refine (number_calls ((l.drop rcap).take m) _ w2 (by rw [← intVs_take, ← intVs_drop]; exact hB2.rowI.part0 hcl (by omega)) (by rw [List.length_take]; omega) (fun x hx => hB.two x (List.mem_of_mem_drop (List.mem_of_mem_take hx)))).mono ?_
                  rintro e w3 ⟨rfl, rfl⟩
                  generalize numN ((l.drop rcap).take m) = vN
                  go_wp2_with fail
                  have hB4 := hB2
                  have hle4 := hB4.le
                  obtain ⟨m4, hm4⟩ : ∃ m4, m4 = (l).length - rcap := ⟨_, rfl⟩
                  have hdl4 : ((l).drop rcap).length = m4 := by rw [hm4, List.length_drop]
                  have hb4 : (l).length ≤ 240 * (k + 1) := by omega
                  refine (left_calls B 0 _ _ _ hB4.fr.at_ (by rw [hdl4]; omega)).mono ?_
                  rintro e w9 ⟨rfl, rfl⟩
                  rw [hdl4]
                  have hm5 : m4 + rcap = l.length := by first | omega | (rw [hm4]; omega)
                  clear hm4 hdl4
                  go_wp2_with fail
                  go_roundw
                  case rel => exact ⟨k + 1, l, rcap, _, row, rfl, by go_num, by go_num, by omega, by omega, hb4, hB4.kept (Touch.refl _ _).drew⟩
                  case measure => simp [intOf]; omega
                · go_wp2_with fail
                  refine (number_calls ((l.drop c).take m) _ w2 (by rw [← intVs_take, ← intVs_drop]; exact hB2.rowI.part hcl hce (by omega)) (by rw [List.length_take]; omega) (fun x hx => hB.two x (List.mem_of_mem_drop (List.mem_of_mem_take hx)))).mono ?_
                  rintro e w3 ⟨rfl, rfl⟩
                  generalize numN ((l.drop c).take m) = vN
                  go_wp2_with fail
                  have hB4 := hB2
                  have hle4 := hB4.le
                  obtain ⟨m4, hm4⟩ : ∃ m4, m4 = (l).length - c := ⟨_, rfl⟩
                  have hdl4 : ((l).drop c).length = m4 := by rw [hm4, List.length_drop]
                  have hb4 : (l).length ≤ 240 * (k + 1) := by omega
                  refine (left_calls B 0 _ _ _ hB4.fr.at_ (by rw [hdl4]; omega)).mono ?_
                  rintro e w9 ⟨rfl, rfl⟩
                  rw [hdl4]
                  have hm5 : m4 + c = l.length := by first | omega | (rw [hm4]; omega)
                  clear hm4 hdl4
                  go_wp2_with fail
                  go_roundw
                  case rel => exact ⟨k + 1, l, c, _, row, rfl, by go_num, by go_num, by omega, by omega, hb4, hB4.kept (Touch.refl _ _).drew⟩
                  case measure => simp [intOf]; omega
              · go_wp2_with fail
                have hB0 := hB.kept ((Touch.refl _ _).alloc (.cells #[.int .i64 (What k), .int .u64 (V k), .int .i64 m, .string (T k)] 30))
                refine (peek_less B 0 m (l.drop c) row _ hB0.fr.at_ (by rw [HDL.out]; omega) hm2 (by rw [HDL.out]; omega)).mono ?_
                rintro e w2 ⟨rfl, rfl⟩
                have hB4 := hB0.kept (Touch.refl _ _).drew
                clear hB0
                go_wp2_with fail
                have hle4 := hB4.le
                obtain ⟨m4, hm4⟩ : ∃ m4, m4 = (l).length - c := ⟨_, rfl⟩
                have hdl4 : ((l).drop c).length = m4 := by rw [hm4, List.length_drop]
                have hb4 : (l).length ≤ 240 * (k + 1) := by omega
                refine (left_calls B 0 _ _ _ hB4.fr.at_ (by rw [hdl4]; omega)).mono ?_
                rintro e w9 ⟨rfl, rfl⟩
                rw [hdl4]
                have hm5 : m4 + c = l.length := by first | omega | (rw [hm4]; omega)
                clear hm4 hdl4
                go_wp2_with fail
                go_roundw
                case rel => exact ⟨k + 1, l, c, _, row, rfl, by go_num, by go_num, by omega, by omega, hb4, hB4.kept (Touch.refl _ _).drew⟩
                case measure => simp [intOf]; omega
            · go_wp2_with fail
              have hB0 := hB.kept ((Touch.refl _ _).alloc (.cells #[.int .i64 (What k), .int .u64 (V k), .int .i64 (N k), .string (T k)] 30))
              refine (peek_out (some ⟨B, 0, none⟩) (N k) _ (by omega)).mono ?_
              rintro e w2 ⟨rfl, rfl⟩
              have hB4 := hB0
              clear hB0
              have hN1 : N k < 0 ∨ 32 < N k := by omega
              clear hN
              rcases hN1 with hN1 | hN1
              · go_wp2_with fail
                have hle4 := hB4.le
                obtain ⟨m4, hm4⟩ : ∃ m4, m4 = (l).length - c := ⟨_, rfl⟩
                have hdl4 : ((l).drop c).length = m4 := by rw [hm4, List.length_drop]
                have hb4 : (l).length ≤ 240 * (k + 1) := by omega
                refine (left_calls B 0 _ _ _ hB4.fr.at_ (by rw [hdl4]; omega)).mono ?_
                rintro e w9 ⟨rfl, rfl⟩
                rw [hdl4]
                have hm5 : m4 + c = l.length := by first | omega | (rw [hm4]; omega)
                clear hm4 hdl4
                go_wp2_with fail
                go_roundw
                case rel => exact ⟨k + 1, l, c, _, row, rfl, by go_num, by go_num, by omega, by omega, hb4, hB4.kept (Touch.refl _ _).drew⟩
                case measure => simp [intOf]; omega
              · go_wp2_with fail
                have hle4 := hB4.le
                obtain ⟨m4, hm4⟩ : ∃ m4, m4 = (l).length - c := ⟨_, rfl⟩
                have hdl4 : ((l).drop c).length = m4 := by rw [hm4, List.length_drop]
                have hb4 : (l).length ≤ 240 * (k + 1) := by omega
                refine (left_calls B 0 _ _ _ hB4.fr.at_ (by rw [hdl4]; omega)).mono ?_
                rintro e w9 ⟨rfl, rfl⟩
                rw [hdl4]
                have hm5 : m4 + c = l.length := by first | omega | (rw [hm4]; omega)
                clear hm4 hdl4
                go_wp2_with fail
                go_roundw
                case rel => exact ⟨k + 1, l, c, _, row, rfl, by go_num, by go_num, by omega, by omega, hb4, hB4.kept (Touch.refl _ _).drew⟩
                case measure => simp [intOf]; omega
        · rw [h4] at h26
          clear h4
          as_aux_lemma =>
            by_cases hN : 0 ≤ N k ∧ N k ≤ 32
            · obtain ⟨m, hm⟩ : ∃ m : Nat, N k = m := ⟨(N k).toNat, by omega⟩
              rw [hm] at p2 hN b2
              clear hm
              have hm2 : m ≤ 32 := by omega
              clear hN
              by_cases hml : m ≤ l.length - c
              · go_wp2_with fail
                have hB0 := hB.kept ((Touch.refl _ _).alloc (.cells #[.int .i64 (What k), .int .u64 (V k), .int .i64 m, .string (T k)] 30))
                refine (read_some B 0 m (l.drop c) row _ hB0.fr.at_ (by rw [HDL.out]; omega) hm2 (by rw [HDL.out]; exact hml)).mono ?_
                rintro e w2 ⟨rfl, hr2, ht2⟩
                have x2 : w2.cell? ⟨wr.heap.size, 2, none⟩ = some (.int .i64 m) := alloc_cell ht2 (by omega) 2
                have hB2 := hB0.moved hr2 ht2 (by omega)
                clear hB0 ht2 hr2
                by_cases hce : rcap = c
                · subst hce
                  go_wp2_with fail
                  refine (number_calls ((l.drop rcap).take m) _ w2 (by rw [← intVs_take, ← intVs_drop]; exact hB2.rowI.part0 hcl (by omega)) (by rw [List.length_take]; omega) (fun x hx => hB.two x (List.mem_of_mem_drop (List.mem_of_mem_take hx)))).mono ?_
                  rintro e w3 ⟨rfl, rfl⟩
                  generalize numN ((l.drop rcap).take m) = vN
                  go_wp2_with fail
                  have hB4 := hB2
                  have hle4 := hB4.le
                  obtain ⟨m4, hm4⟩ : ∃ m4, m4 = (l).length - (rcap + m) := ⟨_, rfl⟩
                  have hdl4 : ((l).drop (rcap + m)).length = m4 := by rw [hm4, List.length_drop]
                  have hb4 : (l).length ≤ 240 * (k + 1) := by omega
                  refine (left_calls B 0 _ _ _ hB4.fr.at_ (by rw [hdl4]; omega)).mono ?_
                  rintro e w9 ⟨rfl, rfl⟩
                  rw [hdl4]
                  have hm5 : m4 + (rcap + m) = l.length := by first | omega | (rw [hm4]; omega)
                  clear hm4 hdl4
                  go_wp2_with fail
                  go_roundw
                  case rel => exact ⟨k + 1, l, (rcap + m), _, row, rfl, by go_num, by go_num, by omega, by omega, hb4, hB4.kept (Touch.refl _ _).drew⟩
                  case measure => simp [intOf]; omega
                · go_wp2_with fail
                  refine (number_calls ((l.drop c).take m) _ w2 (by rw [← intVs_take, ← intVs_drop]; exact hB2.rowI.part hcl hce (by omega)) (by rw [List.length_take]; omega) (fun x hx => hB.two x (List.mem_of_mem_drop (List.mem_of_mem_take hx)))).mono ?_
                  rintro e w3 ⟨rfl, rfl⟩
                  generalize numN ((l.drop c).take m) = vN
                  go_wp2_with fail
                  have hB4 := hB2
                  have hle4 := hB4.le
                  obtain ⟨m4, hm4⟩ : ∃ m4, m4 = (l).length - (c + m) := ⟨_, rfl⟩
                  have hdl4 : ((l).drop (c + m)).length = m4 := by rw [hm4, List.length_drop]
                  have hb4 : (l).length ≤ 240 * (k + 1) := by omega
                  refine (left_calls B 0 _ _ _ hB4.fr.at_ (by rw [hdl4]; omega)).mono ?_
                  rintro e w9 ⟨rfl, rfl⟩
                  rw [hdl4]
                  have hm5 : m4 + (c + m) = l.length := by first | omega | (rw [hm4]; omega)
                  clear hm4 hdl4
                  go_wp2_with fail
                  go_roundw
                  case rel => exact ⟨k + 1, l, (c + m), _, row, rfl, by go_num, by go_num, by omega, by omega, hb4, hB4.kept (Touch.refl _ _).drew⟩
                  case measure => simp [intOf]; omega
              · go_wp2_with fail
                have hB0 := hB.kept ((Touch.refl _ _).alloc (.cells #[.int .i64 (What k), .int .u64 (V k), .int .i64 m, .string (T k)] 30))
                refine (read_less B 0 m (l.drop c) row _ hB0.fr.at_ (by rw [HDL.out]; omega) hm2 (by rw [HDL.out]; omega)).mono ?_
                rintro e w2 ⟨rfl, rfl⟩
                have hB4 := hB0.kept (Touch.refl _ _).drew
                clear hB0
                go_wp2_with fail
                have hle4 := hB4.le
                obtain ⟨m4, hm4⟩ : ∃ m4, m4 = (l).length - c := ⟨_, rfl⟩
                have hdl4 : ((l).drop c).length = m4 := by rw [hm4, List.length_drop]
                have hb4 : (l).length ≤ 240 * (k + 1) := by omega
                refine (left_calls B 0 _ _ _ hB4.fr.at_ (by rw [hdl4]; omega)).mono ?_
                rintro e w9 ⟨rfl, rfl⟩
                rw [hdl4]
                have hm5 : m4 + c = l.length := by first | omega | (rw [hm4]; omega)
                clear hm4 hdl4
                go_wp2_with fail
                go_roundw
                case rel => exact ⟨k + 1, l, c, _, row, rfl, by go_num, by go_num, by omega, by omega, hb4, hB4.kept (Touch.refl _ _).drew⟩
                case measure => simp [intOf]; omega
            · go_wp2_with fail
              have hB0 := hB.kept ((Touch.refl _ _).alloc (.cells #[.int .i64 (What k), .int .u64 (V k), .int .i64 (N k), .string (T k)] 30))
              refine (read_out (some ⟨B, 0, none⟩) (N k) _ (by omega)).mono ?_
              rintro e w2 ⟨rfl, rfl⟩
              have hB4 := hB0
              clear hB0
              have hN1 : N k < 0 ∨ 32 < N k := by omega
              clear hN
              rcases hN1 with hN1 | hN1
              · go_wp2_with fail
                have hle4 := hB4.le
                obtain ⟨m4, hm4⟩ : ∃ m4, m4 = (l).length - c := ⟨_, rfl⟩
                have hdl4 : ((l).drop c).length = m4 := by rw [hm4, List.length_drop]
                have hb4 : (l).length ≤ 240 * (k + 1) := by omega
                refine (left_calls B 0 _ _ _ hB4.fr.at_ (by rw [hdl4]; omega)).mono ?_
                rintro e w9 ⟨rfl, rfl⟩
                rw [hdl4]
                have hm5 : m4 + c = l.length := by first | omega | (rw [hm4]; omega)
                clear hm4 hdl4
                go_wp2_with fail
                go_roundw
                case rel => exact ⟨k + 1, l, c, _, row, rfl, by go_num, by go_num, by omega, by omega, hb4, hB4.kept (Touch.refl _ _).drew⟩
                case measure => simp [intOf]; omega
              · go_wp2_with fail
                have hle4 := hB4.le
                obtain ⟨m4, hm4⟩ : ∃ m4, m4 = (l).length - c := ⟨_, rfl⟩
                have hdl4 : ((l).drop c).length = m4 := by rw [hm4, List.length_drop]
                have hb4 : (l).length ≤ 240 * (k + 1) := by omega
                refine (left_calls B 0 _ _ _ hB4.fr.at_ (by rw [hdl4]; omega)).mono ?_
                rintro e w9 ⟨rfl, rfl⟩
                rw [hdl4]
                have hm5 : m4 + c = l.length := by first | omega | (rw [hm4]; omega)
                clear hm4 hdl4
                go_wp2_with fail
                go_roundw
                case rel => exact ⟨k + 1, l, c, _, row, rfl, by go_num, by go_num, by omega, by omega, hb4, hB4.kept (Touch.refl _ _).drew⟩
                case measure => simp [intOf]; omega
        · rw [h4] at h26
          clear h4
          as_aux_lemma =>
            obtain ⟨c', hc'⟩ : ∃ c', c' = (c + 7) / 8 * 8 := ⟨_, rfl⟩
            have hw8 := hB.whole
            have hcc : c ≤ c' ∧ c' ≤ l.length ∧ (l.length - c) % 8 = c' - c := by omega
            go_wp2_with fail
            have hB0 := hB.kept ((Touch.refl _ _).alloc (.cells #[.int .i64 (What k), .int .u64 (V k), .int .i64 (N k), .string (T k)] 30))
            refine (ralign_calls B 0 (l.drop c) row _ hB0.fr.at_ (by rw [HDL.out]; omega)).mono ?_
            rintro e w2 ⟨rfl, hr2, ht2⟩
            rw [HDL.out, hcc.2.2] at hr2
            have hB4 := hB0.moved hr2 ht2 (by omega)
            rw [show c + (c' - c) = c' by omega] at hB4
            clear hB0 ht2 hr2
            go_wp2_with fail
            have hle4 := hB4.le
            obtain ⟨m4, hm4⟩ : ∃ m4, m4 = (l).length - c' := ⟨_, rfl⟩
            have hdl4 : ((l).drop c').length = m4 := by rw [hm4, List.length_drop]
            have hb4 : (l).length ≤ 240 * (k + 1) := by omega
            refine (left_calls B 0 _ _ _ hB4.fr.at_ (by rw [hdl4]; omega)).mono ?_
            rintro e w9 ⟨rfl, rfl⟩
            rw [hdl4]
            have hm5 : m4 + c' = l.length := by first | omega | (rw [hm4]; omega)
            clear hm4 hdl4
            go_wp2_with fail
            go_roundw
            case rel => exact ⟨k + 1, l, c', _, row, rfl, by go_num, by go_num, by omega, by omega, hb4, hB4.kept (Touch.refl _ _).drew⟩
            case measure => simp [intOf]; omega
        · rw [h4] at h26
          clear h4
          as_aux_lemma =>
            obtain ⟨c', hc'⟩ : ∃ c', c' = (c + 7) / 8 * 8 := ⟨_, rfl⟩
            have hw8 := hB.whole
            have hcc : c ≤ c' ∧ c' ≤ l.length ∧ (l.length - c) % 8 = c' - c ∧ (l.length - c') / 8 = (l.length - c) / 8 := by omega
            obtain ⟨m, hm⟩ : ∃ m : Nat, (m : Int) = max 0 (min (N k) (((l.length - c) / 8 : Nat) : Int)) := ⟨(max 0 (min (N k) (((l.length - c) / 8 : Nat) : Int))).toNat, by omega⟩
            have hm8 : c' + 8 * m ≤ l.length := by omega
            go_wp2_with fail
            have hB0 := hB.kept ((Touch.refl _ _).alloc (.cells #[.int .i64 (What k), .int .u64 (V k), .int .i64 (N k), .string (T k)] 30))
            refine (take_calls B 0 (N k) (l.drop c) row _ hB0.fr.at_ (by rw [HDL.out]; omega) (by omega) (by omega) m (by rw [HDL.out]; exact hm)).mono ?_
            rintro e w2 ⟨rfl, hr2, ht2⟩
            have x2 : w2.cell? ⟨wr.heap.size, 2, none⟩ = some (.int .i64 (N k)) := alloc_cell ht2 (by omega) 2
            rw [HDL.out, hcc.2.2.1] at hr2 ⊢
            rw [List.drop_drop] at hr2
            rw [List.drop_drop, show c + (c' - c) = c' by omega]
            have hB2 := hB0.moved hr2 ht2 (by omega)
            rw [show c + (c' - c + 8 * m) = c' + 8 * m by omega] at hB2
            clear hB0 ht2 hr2
            generalize hbs : (⟨(bytesL ((l.drop c').take (8 * m))).toArray⟩ : ByteArray) = bs
            have hbs := Lib.hid hbs
            have hrow2 := hB2.rowI
            by_cases hce : rcap = (c + 7) / 8 * 8
            · subst hce
              go_wp2_with fail
              all_goals
                as_aux_lemma =>
                  refine (bytes_calls ((l.drop c').take (8 * m)) _ w2 (by subst hc'; exact rd_part0 hrow2 hcc.2.1 (by omega) (by omega)) (by rw [List.length_take, List.length_drop]; omega) (fun x hx => hB.two x (List.mem_of_mem_drop (List.mem_of_mem_take hx)))).mono ?_
                  rintro e w3 ⟨rfl, ht3⟩
                  rw [hbs.out]
                  have hB4 := hB2.kept ht3
                  clear hB2 ht3
                  go_wp2_with fail
                  have hle4 := hB4.le
                  obtain ⟨m4, hm4⟩ : ∃ m4, m4 = (l).length - (c' + 8 * m) := ⟨_, rfl⟩
                  have hdl4 : ((l).drop (c' + 8 * m)).length = m4 := by rw [hm4, List.length_drop]
                  have hb4 : (l).length ≤ 240 * (k + 1) := by omega
                  refine (left_calls B 0 _ _ _ hB4.fr.at_ (by rw [hdl4]; omega)).mono ?_
                  rintro e w9 ⟨rfl, rfl⟩
                  rw [hdl4]
                  have hm5 : m4 + (c' + 8 * m) = l.length := by first | omega | (rw [hm4]; omega)
                  clear hm4 hdl4
                  go_wp2_with fail
                  go_roundw
                  case rel => exact ⟨k + 1, l, (c' + 8 * m), _, row, rfl, by go_num, by go_num, by omega, by omega, hb4, hB4.kept (Touch.refl _ _).drew⟩
                  case measure => simp [intOf]; omega
            · have hce := hce
              go_wp2_with fail
              all_goals
                as_aux_lemma =>
                  refine (bytes_calls ((l.drop c').take (8 * m)) _ w2 (by subst hc'; exact rd_part hrow2 hcc.2.1 hce (by omega) (by omega)) (by rw [List.length_take, List.length_drop]; omega) (fun x hx => hB.two x (List.mem_of_mem_drop (List.mem_of_mem_take hx)))).mono ?_
                  rintro e w3 ⟨rfl, ht3⟩
                  rw [hbs.out]
                  have hB4 := hB2.kept ht3
                  clear hB2 ht3
                  go_wp2_with fail
                  have hle4 := hB4.le
                  obtain ⟨m4, hm4⟩ : ∃ m4, m4 = (l).length - (c' + 8 * m) := ⟨_, rfl⟩
                  have hdl4 : ((l).drop (c' + 8 * m)).length = m4 := by rw [hm4, List.length_drop]
                  have hb4 : (l).length ≤ 240 * (k + 1) := by omega
                  refine (left_calls B 0 _ _ _ hB4.fr.at_ (by rw [hdl4]; omega)).mono ?_
                  rintro e w9 ⟨rfl, rfl⟩
                  rw [hdl4]
                  have hm5 : m4 + (c' + 8 * m) = l.length := by first | omega | (rw [hm4]; omega)
                  clear hm4 hdl4
                  go_wp2_with fail
                  go_roundw
                  case rel => exact ⟨k + 1, l, (c' + 8 * m), _, row, rfl, by go_num, by go_num, by omega, by omega, hb4, hB4.kept (Touch.refl _ _).drew⟩
                  case measure => simp [intOf]; omega
      · go_wp2_with fail
        go_ret
        exact ⟨rfl, ht1.trans hB.fr.touch⟩
    · go_wp2_with fail
      go_ret
      exact ⟨rfl, ht1.trans hB.fr.touch⟩
end Go.Proofs.Ytmkbcbkgficnkaa

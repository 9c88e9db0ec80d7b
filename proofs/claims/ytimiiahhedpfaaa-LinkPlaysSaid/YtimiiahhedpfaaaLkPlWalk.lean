/- The statement LinkPlays over the translated program. -/
import Derived.Test.YtimiiahhedpfaaaLkE
import Derived.Test.YtimiiahhedpfaaaLkOpen
import Derived.Test.YtimiiahhedpfaaaLkF
import Derived.Test.YtimiiahhedpfaaaLkSpWalk
import Derived.Test.YtimiiahhedpfaaaLkTuWalk
import Derived.BigQuiet
import Derived.Deep.Cut
import Derived.Deep.CutBlock
import Derived.Deep.DeepCutAuto
namespace Go.Proofs.Ytimiiahhedpfaaa
open Go Go.RowKit
set_option maxRecDepth 100000

theorem fold6 (z : Int) : ∃ (r : Int) (c : Nat), z.tmod 6 = r ∧ -6 < r ∧ r < 6 ∧ (r + 6).tmod 6 = c ∧ (r + 6) % 6 = c ∧ c < 6 := by
  have h1 := Int.tmod_lt_of_pos z (show (0 : Int) < 6 by omega)
  have h2 := Int.lt_tmod_of_pos z (show (0 : Int) < 6 by omega)
  refine ⟨z.tmod 6, ((z.tmod 6 + 6) % 6).toNat, rfl, h2, h1, ?_, by omega, by omega⟩
  rw [Int.tmod_eq_emod_of_nonneg (by omega)]; omega

theorem Try.infoStrL : (Try.prog.info? 9).map (fun i => (i.zero, i.size, i.bytes)) = some (some (.string ⟨#[]⟩), 1, 16) := by kernel_rfl
def stV (l : List ByteArray) : List Value := l.map Value.string
theorem stV_length (l : List ByteArray) : (stV l).length = l.length := by simp [stV]
theorem stV_append (a b : List ByteArray) : stV (a ++ b) = stV a ++ stV b := by simp [stV]
theorem stV_one (l : List ByteArray) : ∀ u ∈ stV l, u.oneCell' = true := by
  intro u hu
  obtain ⟨s, _, rfl⟩ := List.mem_map.1 hu
  rfl

/-- A row of texts that lies in a block of its own. -/
def QRow (w wy : World) (c : Nat → Nat) (mb p : Nat) (v : Value) (l : List ByteArray) : Prop := Row wy 9 v (stV l) ∧ (∀ g, v.ownBlock = some g → w.heap.size ≤ g ∧ g ≠ c 0 ∧ g ≠ c 1 ∧ g ≠ mb ∧ g ≠ p) ∧ ∀ t ∈ l, t.size ≤ 20
/-- The plain answer's two ways in memory. -/
def QAt (w wy : World) (c : Nat → Nat) (mb p : Nat) (L : Nat → List ByteArray) : Prop := ∃ v : Nat → Value, Block wy mb 65 [v 0, v 1] ∧ (∀ y, y < 2 → QRow w wy c mb p (v y) (L y)) ∧ mb ≠ c 0 ∧ mb ≠ c 1
theorem QRow.kept {w w1 w2 : World} {c : Nat → Nat} {mb p : Nat} {v : Value} {l : List ByteArray} (h : QRow w w1 c mb p v l) (ht : Touch (fun k => k = c 0 ∨ k = c 1 ∨ k = mb) w1 w2) : QRow w w2 c mb p v l :=
  ⟨h.1.kept ht (fun g hg e => by have := h.2.1 g hg; omega), h.2⟩
theorem QAt.kept {w w1 w2 : World} {c : Nat → Nat} {mb p : Nat} {L : Nat → List ByteArray} (h : QAt w w1 c mb p L) (ht : Touch (fun k => k = c 0 ∨ k = c 1) w1 w2) : QAt w w2 c mb p L := by
  obtain ⟨v, h1, h2, h3, h4⟩ := h
  exact ⟨v, h1.kept ht (fun e => by rcases e with e | e; exact h3 e; exact h4 e), fun y hy => (h2 y hy).kept (ht.mono (fun _ e => by rcases e with e | e; exact Or.inl e; exact Or.inr (Or.inl e))), h3, h4⟩
theorem c_way {c : Nat → Nat} {y : Nat} (hy : y < 2) {k : Nat} (h : k = c y) : k = c 0 ∨ k = c 1 := by
  rcases (show y = 0 ∨ y = 1 by omega) with rfl | rfl
  · exact Or.inl h
  · exact Or.inr h
/-- A way's texts are stored. -/
theorem QAt.store {w wy : World} {c : Nat → Nat} {mb p : Nat} {L : Nat → List ByteArray} (h : QAt w wy c mb p L) {y : Nat} (hy : y < 2) {v : Value} {l : List ByteArray} (hv : QRow w wy c mb p v l) : QAt w (wy.setCell ⟨mb, y, none⟩ v) c mb p (setL L y l) := by
  obtain ⟨u, h1, h2, h3, h4⟩ := h
  have ht : Touch (fun k => k = mb) wy (wy.setCell ⟨mb, y, none⟩ v) := (Touch.refl (fun k => k = mb) wy).setCell (p := ⟨mb, y, none⟩) (Or.inl rfl) _
  have ht' := ht.mono (S' := fun k => k = c 0 ∨ k = c 1 ∨ k = mb) (fun _ e => Or.inr (Or.inr e))
  refine ⟨fun i => if i = y then v else u i, ?_, fun i hi => ?_, h3, h4⟩
  · have := Block.set h1 y v
    rcases (show y = 0 ∨ y = 1 by omega) with rfl | rfl
    · exact this
    · exact this
  · unfold setL
    by_cases e : i = y
    · simp only [if_pos e]; exact hv.kept ht'
    · simp only [if_neg e]; exact (h2 i hi).kept ht'
theorem QAt.congr {w wy : World} {c : Nat → Nat} {mb p : Nat} {L L' : Nat → List ByteArray} (h : QAt w wy c mb p L) (e : ∀ y, y < 2 → L y = L' y) : QAt w wy c mb p L' := by
  obtain ⟨v, h1, h2, h3⟩ := h
  exact ⟨v, h1, fun y hy => by rw [← e y hy]; exact h2 y hy, h3⟩

/-- While the first way is filled. -/
def QFill (w wy : World) (c : Nat → Nat) (mb p i : Nat) : Prop := ∃ v, Block wy mb 65 [v, .slice none 0 0] ∧ QRow w wy c mb p v (List.replicate i ⟨#[102]⟩)
theorem QFill.kept {w w1 w2 : World} {c : Nat → Nat} {mb p i : Nat} (h : QFill w w1 c mb p i) (hm : mb ≠ c 0 ∧ mb ≠ c 1) (ht : Touch (fun k => k = c 0 ∨ k = c 1) w1 w2) : QFill w w2 c mb p i := by
  obtain ⟨v, h1, h2⟩ := h
  exact ⟨v, h1.kept ht (fun e => by rcases e with e | e; exact hm.1 e; exact hm.2 e), h2.kept (ht.mono (fun _ e => by rcases e with e | e; exact Or.inl e; exact Or.inr (Or.inl e)))⟩

/-- An empty row that was just made. -/
theorem emp_row {W : World} {g : Nat} (h : W.heap[g]? = some (.cells #[] 9)) : Row W 9 (.slice (some ⟨g, 0, none⟩) 0 0) [] := .inr ⟨g, 0, 0, #[], rfl, h, Nat.le_refl _, Nat.zero_le _, by simp, rfl⟩
theorem one_row {W : World} {g : Nat} {u : Value} (h : W.heap[g]? = some (.cells #[u] 9)) : Row W 9 (.slice (some ⟨g, 0, none⟩) 1 1) [u] := .inr ⟨g, 0, 1, #[u], rfl, h, Nat.le_refl _, by decide, by simp, rfl⟩
theorem heap_keep {W : World} {o : Obj} {g : Nat} (h : g < W.heap.size) : (W.alloc o).heap[g]? = W.heap[g]? := Below.heap_alloc W o g h
theorem qrow_new {w w4 wx : World} {p : Nat} {c : Nat → Nat} {mb : Nat} {L : Nat → List ByteArray} (hk : LinkAt w4 p c L) (hm : mb < w4.heap.size) (hw : w.heap.size ≤ w4.heap.size) {v : Value} {l : List ByteArray} (hr : Row wx 9 v (stV l)) (ho : ∀ g, v.ownBlock = some g → w4.heap.size ≤ g) (hs : ∀ t ∈ l, t.size ≤ 20) : QRow w wx c mb p v l :=
  ⟨hr, fun g hg => by
    have := ho g hg
    have h0 := hk.lt.1
    have h1 := hk.lt.2 0 (by omega)
    have h2 := hk.lt.2 1 (by omega)
    omega, hs⟩
theorem small_snoc {l : List ByteArray} {t : ByteArray} (h : ∀ x ∈ l, x.size ≤ 20) (ht : t.size ≤ 20) : ∀ x ∈ l ++ [t], x.size ≤ 20 := fun x hx => by
  rcases List.mem_append.1 hx with h1 | h1
  · exact h x h1
  · rw [List.mem_singleton.1 h1]; exact ht
theorem small_cons {l : List ByteArray} {t : ByteArray} (ht : t.size ≤ 20) (h : ∀ x ∈ l, x.size ≤ 20) : ∀ x ∈ t :: l, x.size ≤ 20 := fun x hx => by
  rcases List.mem_cons.1 hx with h1 | h1
  · rw [h1]; exact ht
  · exact h x h1
/-- What an append leaves, where all that it wrote to is new. -/
theorem app_out {w4 W wa : World} {v vd : Value} {xs : List Value} {n : Nat} (hT : Touch (fun _ => False) w4 W) (hr : Row wa 9 v xs) (hg : W.grownBy wa vd.ownBlock) (ho : v.ownBlock = vd.ownBlock ∨ v.ownBlock = some W.heap.size) (hd : ∀ g, vd.ownBlock = some g → w4.heap.size ≤ g) (hn : xs.length = n) :
    ∃ a c, v = .slice a n c ∧ n ≤ c ∧ c ≤ 9223372036854775807 ∧ Touch (fun _ => False) w4 wa ∧ (∀ g, v.ownBlock = some g → w4.heap.size ≤ g) := by
  obtain ⟨a, c, hv, h1, h2⟩ := hr.form
  rw [hn] at hv h1
  refine ⟨a, c, hv, h1, h2, hT.grown hg (fun k hk => Or.inr (hd k hk)), fun g hg2 => ?_⟩
  rcases ho with h | h
  · exact hd g (by rw [← h]; exact hg2)
  · rw [h] at hg2
    have := Option.some.inj hg2
    have := hT.size
    omega
theorem own_new {N g0 n c : Nat} (h : N ≤ g0) : ∀ g, (Value.slice (some ⟨g0, 0, none⟩) n c).ownBlock = some g → N ≤ g := fun g hg => by
  have e : g0 = g := Option.some.inj hg
  omega
theorem kept_row {W wa : World} {g g0 : Nat} {cur : Array Value} (hg : W.grownBy wa (some g0)) (h : W.heap[g]? = some (.cells cur 9)) (hne : g ≠ g0) : wa.heap[g]? = some (.cells cur 9) := by
  rw [hg.block g (row_lt h) (fun e => hne (Option.some.inj e))]; exact h
theorem len_ok {n : Nat} (h : n ≤ 66) : n ≤ maxLen ∧ n * 16 ≤ 140737488355328 := by unfold maxLen; omega
/-- While the ways are emptied. -/
def lwL (L : Nat → List ByteArray) (W i : Nat) : Nat → List ByteArray := fun y => if y < W then [] else if y = W then (L y).drop i else L y
/-- What the switch leaves. -/
def SwOut (w wb wx : World) (p : Nat) (c : Nat → Nat) (mb y : Nat) (L : Nat → List ByteArray) (v : Value) : Prop :=
  ∃ L', LinkAt wx p c L' ∧ QRow w wx c mb p v (L' y) ∧ (∀ x, x < 2 → x ≠ y → L' x = L x) ∧ QAt w wx c mb p L ∧ Touch (fun k => k = c y) wb wx

set_option maxHeartbeats 80000000 in
theorem lplays_calls (fill : Int) (l : List LAct) (v1 : Value) (w : World) (hl : LActs w v1 l) :
    Calls Try.prog 7 #[.int .i64 fill, v1] w fun e w' => e = .returned (.bool true) ∧ Touch (fun _ => False) w w' := by
  obtain ⟨i0, hi, hz0, hz1, hz2⟩ := info_parts Try.infoStrL
  obtain ⟨n, hn⟩ : ∃ r : Nat, fill % 64 = (r : Int) := ⟨(fill % 64).toNat, by omega⟩
  have hand : bits .and .i64 fill 63 = (n : Int) := by rw [lk_mask 6 (by omega) 63 (by decide) fill, ← hn]; rfl
  have hn63 : n ≤ 63 := by omega
  clear hn
  obtain ⟨la, lc, hv, hlc1, hlc2⟩ := hl.form
  unfold maxLen at hlc2
  subst hv
  have HL := Lib.hid hl
  clear hl
  go_enter Try.func7, Try.ntmps7
  go_wp2_with fail
  refine (speaks26_calls w).mono ?_
  rintro e w1 ⟨rfl, ht1⟩
  have HT1 := Lib.hid ht1
  clear ht1
  go_wp2_with fail
  refine (lknew_calls w1).mono ?_
  rintro e w2 ⟨p, c, rfl, h2, hp, ht2⟩
  have HP : Hid (w.heap.size ≤ p ∧ ∀ y, y < 2 → w.heap.size ≤ c y) := Lib.hid ⟨Nat.le_trans HT1.out.size hp.1, fun y hy => Nat.le_trans HT1.out.size (hp.2 y hy)⟩
  have H2 := Lib.hid h2
  have HT2 := Lib.hid (HT1.out.trans ht2)
  clear ht2 h2 hp HT1
  go_wp2_with fail
  obtain ⟨mb, hmb⟩ : ∃ mb, mb = w2.heap.size := ⟨_, rfl⟩
  have hB3 : Block (w2.alloc (.cells #[.slice none 0 0, .slice none 0 0] 65)) mb 65 [.slice none 0 0, .slice none 0 0] := by rw [hmb]; exact Block.new w2 _ _
  have hT3 : Touch (fun _ => False) w2 (w2.alloc (.cells #[.slice none 0 0, .slice none 0 0] 65)) := (Touch.refl _ _).alloc _
  rw [← hmb]
  generalize w2.alloc (.cells #[.slice none 0 0, .slice none 0 0] 65) = w3 at *
  have HQ3 : Hid (QFill w w3 c mb p 0) := Lib.hid ⟨.slice none 0 0, hB3, ⟨Row.nil _ _, fun g hg => (by cases hg), fun t ht => (by cases ht)⟩⟩
  have H3 := Lib.hid (H2.out.still hT3)
  have HMB : Hid (w.heap.size ≤ mb ∧ mb ≠ p ∧ mb ≠ c 0 ∧ mb ≠ c 1) := Lib.hid ⟨by rw [hmb]; exact HT2.out.size, by have := H2.out.lt.1; omega, by have := H2.out.lt.2 0 (by omega); omega, by have := H2.out.lt.2 1 (by omega); omega⟩
  have HT3 := Lib.hid (HT2.out.trans hT3)
  clear hB3 hT3 hmb H2 HT2
  go_loopw [7] (fun iv wy => ∃ i : Nat, i ≤ n ∧ iv = .int .i64 (i : Nat) ∧ RowKit.Hid (LinkAt wy p c (fun y => if y = 0 then List.replicate i ⟨#[102]⟩ else [])) ∧ RowKit.Hid (QFill w wy c mb p i) ∧ RowKit.Hid (Touch (fun k => w.heap.size ≤ k) w wy)) (fun iv _ => n - (intOf iv).toNat)
  case atStart => exact ⟨0, Nat.zero_le _, rfl, Lib.hid (H3.out.congr fun y _ => by split <;> rfl), HQ3, Lib.hid (HT3.out.mono (fun _ e => e.elim))⟩
  case round =>
    clear H3 HQ3 HT3
    obtain ⟨i, hi', rfl, HK, HQ, HT⟩ := hrel
    by_cases hin : i < n
    · have hinI : (i : Int) < (n : Int) := by omega
      go_wp2_with fail
      refine (put_room HK.out 0 (by omega) ⟨#[102]⟩ (by show (List.replicate i _).length < 64; rw [List.length_replicate]; omega)).mono ?_
      rintro e w4 ⟨rfl, h4, ht4⟩
      have H4 : Hid (LinkAt w4 p c (fun y => if y = 0 then List.replicate (i + 1) ⟨#[102]⟩ else [])) := Lib.hid (h4.congr fun y _ => by
        unfold setL
        by_cases e : y = 0
        · simp only [if_pos e, List.replicate_succ']; rfl
        · simp only [if_neg e])
      have HQ4 := Lib.hid (HQ.out.kept HMB.out.2.2 (ht4.mono (fun k e => c_way (show 0 < 2 by omega) e)))
      have HT4 := Lib.hid (HT.out.trans (ht4.mono (fun j e => by have := HP.out.2 0 (by omega); rw [e]; exact this)))
      clear h4 ht4 HK HQ HT
      obtain ⟨v0, hblk, hr0, hown0, _⟩ := HQ4.out
      have g0 : w4.cell? ⟨mb, 0, none⟩ = some v0 := Block.cell hblk 0
      obtain ⟨a0, cap0, hv0, hc01, hc02⟩ := hr0.form
      rw [stV_length, List.length_replicate] at hv0 hc01
      subst hv0
      have HB := Lib.hid hblk
      have HR0 := Lib.hid hr0
      have HO0 := Lib.hid hown0
      have HLE : Hid ((stV (List.replicate i ⟨#[102]⟩)).length = i) := Lib.hid (by rw [stV_length, List.length_replicate])
      unfold maxLen at hc02
      clear hblk hr0 hown0 HQ4
      go_wp2_with (at_builtin; refine wpList_append_row _ rfl (.tmp 35) (.tmp 36) 29 29 rfl 9 i0 _ 16 Try.underlying29 hi hz0 hz1 hz2 rfl (.slice a0 i cap0) (stV (List.replicate i ⟨#[102]⟩)) rfl (by exact HR0.out.kept ((Touch.refl (fun _ => False) _).alloc _) (fun _ _ => id)) (.slice (some ⟨w4.heap.size, 0, none⟩) 1 1) rfl 1 [.string ⟨#[102]⟩] (by exact Src.ofCell Try.underlying29 (heap_alloc_new w4 _) rfl) (by rw [HLE.out]; unfold maxLen; omega) (by rw [HLE.out]; omega) ?_; intro v2 w5 hrow2 hgrow hown2; obtain ⟨a2, cap2, hv2, hc21, hc22⟩ := hrow2.form; rw [List.length_append, HLE.out] at hv2; replace hv2 : v2 = .slice a2 (i + 1) cap2 := hv2; subst hv2; have hT45 : Touch (fun k => some k = (Value.slice a0 i cap0).ownBlock) w4 w5 := Touch.grown ((Touch.refl _ w4).alloc _) hgrow (fun k hk => Or.inl hk.symm); have hblk5 := HB.out.kept hT45 (fun e => (HO0.out mb e.symm).2.2.2.1 rfl); have g5 : w5.cell? ⟨mb, 0, none⟩ = some (.slice a0 i cap0) := Block.cell hblk5 0; have f5 := Block.free hblk5 0)
      have hown5 : ∀ g, (Value.slice a2 (i + 1) cap2).ownBlock = some g → w.heap.size ≤ g ∧ g ≠ c 0 ∧ g ≠ c 1 ∧ g ≠ mb ∧ g ≠ p := fun g hg => by
        rcases hown2 with h | h
        · exact HO0.out g (by rw [← h, hg])
        · rw [h] at hg
          have h1 := Option.some.inj hg
          have h2 := H4.out.lt
          have h3 := HB.out.lt
          have h4 := HT4.out.size
          have h5 := h2.2 0 (by omega)
          have h6 := h2.2 1 (by omega)
          simp at h1
          omega
      have hLK5 := H4.out.kept hT45 (fun e => (HO0.out p e.symm).2.2.2.2 rfl) (fun e => (HO0.out _ e.symm).2.1 rfl) (fun e => (HO0.out _ e.symm).2.2.1 rfl)
      go_roundw
      case rel =>
        have ht6 : Touch (fun k => k = mb) w5 (w5.setCell ⟨mb, 0, none⟩ (.slice a2 (i + 1) cap2)) := (Touch.refl (fun k => k = mb) w5).setCell (p := ⟨mb, 0, none⟩) (Or.inl rfl) _
        refine ⟨i + 1, by omega, by go_num, Lib.hid (hLK5.kept ht6 HMB.out.2.1.symm HMB.out.2.2.1.symm HMB.out.2.2.2.symm), Lib.hid ⟨.slice a2 (i + 1) cap2, Block.set hblk5 0 _, ?_⟩, Lib.hid ((HT4.out.trans (hT45.mono (fun k hk => (HO0.out k hk.symm).1))).trans (ht6.mono (fun k e => by rw [e]; exact HMB.out.1)))⟩
        refine QRow.kept (w1 := w5) ⟨?_, hown5, fun t ht => by rw [List.eq_of_mem_replicate ht]; decide⟩ (ht6.mono (fun k e => Or.inr (Or.inr e)))
        rw [List.replicate_succ', stV_append]
        exact hrow2
      case measure => simp [intOf]; omega
    · obtain rfl : i = n := by omega
      have hinI : ¬ (i : Int) < (i : Int) := by omega
      have HQ0 : Hid (QAt w wr c mb p (fun y => if y = 0 then List.replicate i ⟨#[102]⟩ else [])) := Lib.hid (by
        obtain ⟨v0, hblk, hr⟩ := HQ.out
        refine ⟨fun y => if y = 0 then v0 else .slice none 0 0, hblk, fun y hy => ?_, HMB.out.2.2⟩
        by_cases e : y = 0
        · simp only [if_pos e]; exact hr
        · simp only [if_neg e]; exact ⟨Row.nil _ _, fun g hg => (by cases hg), fun t ht => (by cases ht)⟩)
      have HK0 := Lib.hid HK.out
      generalize (fun y => if y = 0 then List.replicate i (⟨#[102]⟩ : ByteArray) else []) = L0 at HK0 HQ0
      clear HQ hin hi' HK
      go_wp2_with fail
      clear hinI hand hn63
      go_loopw [8] (fun iv wy => ∃ (k : Nat) (L : Nat → List ByteArray), k ≤ l.length ∧ k ≤ 60 ∧ iv = .int .i64 (k : Nat) ∧ RowKit.Hid (LinkAt wy p c L) ∧ RowKit.Hid (QAt w wy c mb p L) ∧ RowKit.Hid (Touch (fun k => w.heap.size ≤ k) w wy)) (fun iv _ => 60 - (intOf iv).toNat)
      case atStart => exact ⟨0, L0, Nat.zero_le _, Nat.zero_le _, rfl, HK0, HQ0, HT⟩
      case round =>
        clear HK0 HQ0 HT
        obtain ⟨k, L, hkl, hk60, rfl, HK, HQ, HT⟩ := hrel
        by_cases hlt2 : k < l.length ∧ k < 60
        · obtain ⟨hlt, hlt60⟩ := hlt2
          have hltI : (k : Int) < (l.length : Int) := by omega
          have hlt60I : (k : Int) < 60 := by omega
          obtain ⟨gx, ox, cx, hv, hgx, hok, hat⟩ := (HL.out.still (lk_new HT.out)).at' hlt
          injection hv with e1 _ e3
          subst e1
          obtain rfl : cx = lc := e3.symm
          obtain ⟨t, ht⟩ : ∃ t, t = l[k] := ⟨_, rfl⟩
          rw [← ht] at hok hat
          clear ht
          obtain ⟨what, way, text, pos, bts⟩ := t
          obtain ⟨hok0, hok1, hok2, hok3, hok4⟩ := hok
          simp only at hok0 hok1 hok2 hok3 hok4
          obtain ⟨x0, x1, x2, x3, x4⟩ := hat
          simp only at x0 x1 x2 x3 x4
          obtain ⟨r1, kd, hr1, hr2, hr3, hr4, hr5, hkd⟩ := fold6 what
          have HOK := Lib.hid (⟨hok1, hok3, hok4⟩ : _ ∧ _ ∧ _)
          obtain ⟨h01, h02⟩ := hok0
          clear hok1 hok3 hok4
          go_upto_region 14 with fail
          obtain ⟨q, hq⟩ : ∃ q, q = min text.size 20 := ⟨_, rfl⟩
          obtain ⟨hm1, hm2, hm3, hm4⟩ := sp_min 20 rfl hq
          obtain ⟨S, hS⟩ : ∃ S, text.extract 0 q = S := ⟨_, rfl⟩
          have hSs : S.size ≤ 20 := by rw [← hS]; simp; omega
          clear hq
          go_upto_region 16 with fail
          obtain ⟨xb, hxb⟩ : ∃ xb, xb = wr.heap.size := ⟨_, rfl⟩
          have hXB : Block (wr.alloc (.cells #[.int .i64 what, .int .i64 way, .string text, .int .i64 pos, .int .u32 (bts : Nat)] 68)) xb 68 [.int .i64 what, .int .i64 way, .string text, .int .i64 pos, .int .u32 (bts : Nat)] := by rw [hxb]; exact Block.new wr _ _
          have hTb : Touch (fun _ => False) wr (wr.alloc (.cells #[.int .i64 what, .int .i64 way, .string text, .int .i64 pos, .int .u32 (bts : Nat)] 68)) := (Touch.refl _ _).alloc _
          rw [← hxb]
          generalize wr.alloc (.cells #[.int .i64 what, .int .i64 way, .string text, .int .i64 pos, .int .u32 (bts : Nat)] 68) = wb at *
          have HKb := Lib.hid (HK.out.still hTb)
          have HQb := Lib.hid (HQ.out.kept (hTb.mono (fun _ e => e.elim)))
          have HTb := Lib.hid (HT.out.trans (hTb.mono (fun _ e => e.elim)))
          have HXB := Lib.hid hXB
          have HXN : Hid (w.heap.size ≤ xb ∧ xb ≠ p ∧ xb ≠ c 0 ∧ xb ≠ c 1 ∧ xb ≠ mb) := Lib.hid (by
            have h1 := HK.out.lt
            obtain ⟨_, h2, _⟩ := HQ.out
            have h2 := h2.lt
            have h3 := h1.2 0 (by omega)
            have h4 := h1.2 1 (by omega)
            have := HT.out.size
            omega)
          have y0 : wb.cell? ⟨xb, 0, none⟩ = some (.int .i64 what) := Block.cell hXB 0
          have y1 : wb.cell? ⟨xb, 1, none⟩ = some (.int .i64 way) := Block.cell hXB 1
          have y3 : wb.cell? ⟨xb, 3, none⟩ = some (.int .i64 pos) := Block.cell hXB 3
          have y4 : wb.cell? ⟨xb, 4, none⟩ = some (.int .u32 (bts : Nat)) := Block.cell hXB 4
          clear hXB hTb hxb x0 x1 x2 x3 x4 hm1 hm2 hm3 hm4 hS hr1 hr2 hr3 hr4 hr5 h01 h02 hok2 HK HQ HT hgx
          by_cases hwz : way < 0 ∨ 1 < way
          · have HWB := Lib.hid (way_bad p way hwz wb)
            have hdec : (decide (way < 0) = true) ∨ (decide (way < 0) = false ∧ decide (1 < way) = true) := by
              simp only [decide_eq_true_iff, decide_eq_false_iff_not]; omega
            have HDEC := Lib.hid hdec
            clear hdec hwz
            go_cut [72] from 65 to 72 (fun v72 wx => v72 = .bool true ∧ wx = wb)
            case first =>
              rcases HDEC.out with d1 | ⟨d1, d2⟩
              · go_wp2_with fail
                go_meet
                exact ⟨rfl, rfl⟩
              · go_wp2_with fail
                go_meet
                exact ⟨rfl, rfl⟩
            case rest =>
              obtain ⟨rfl, hwc⟩ := hcut
              obtain rfl : wb = wc := hwc.symm
              go_wp2_with fail
              refine (take_none HWB.out).mono ?_
              rintro e w' ⟨rfl, rfl⟩
              go_wp2_with fail
              refine (put_none HWB.out S).mono ?_
              rintro e w' ⟨rfl, rfl⟩
              go_wp2_with fail
              refine (turn_none HWB.out).mono ?_
              rintro e w' ⟨rfl, rfl⟩
              go_wp2_with fail
              refine (twice_none HWB.out).mono ?_
              rintro e w' ⟨rfl, rfl⟩
              go_wp2_with fail
              refine (spoil_none HWB.out _ _).mono ?_
              rintro e w' ⟨rfl, rfl⟩
              go_wp2_with fail
              refine (llen_none HWB.out).mono ?_
              rintro e w' ⟨rfl, rfl⟩
              go_wp2_with fail
              go_roundw
              case rel => exact ⟨k + 1, L, by omega, by omega, by go_num, HKb, HQb, HTb⟩
              case measure => simp [intOf]; omega
          · obtain ⟨y, hy⟩ : ∃ y : Nat, way = (y : Int) := ⟨way.toNat, by omega⟩
            subst hy
            have hy2 : y < 2 := by omega
            have hd1 : ¬ (y : Int) < 0 := by omega
            have hd2 : ¬ (1 : Int) < (y : Int) := by omega
            obtain ⟨u, hblk, hrow, hmc⟩ := HQb.out
            have hqc : wb.cell? ⟨mb, y, none⟩ = some (u y) := by
              rcases (show y = 0 ∨ y = 1 by omega) with rfl | rfl
              · exact Block.cell hblk 0
              · exact Block.cell hblk 1
            have HQR := Lib.hid (hrow y hy2)
            clear hblk hrow hmc hwz
            obtain ⟨aq, cq, hvq, hcq1, hcq2⟩ := HQR.out.1.form
            rw [stV_length] at hvq hcq1
            obtain ⟨nq, hnq⟩ : ∃ nq, nq = (L y).length := ⟨_, rfl⟩
            rw [← hnq] at hvq hcq1
            have HNQ := Lib.hid hnq
            have hle : nq ≤ 64 := by rw [hnq]; exact HKb.out.le y hy2
            have HRD : Hid (Reads wb (.slice aq nq cq) (stV (L y))) := Lib.hid (by rw [← hvq]; exact HQR.out.1.reads)
            have HUQ := Lib.hid hvq
            have HMBL : Hid (mb < wb.heap.size) := Lib.hid (by obtain ⟨_, h2, _⟩ := HQb.out; exact h2.lt)
            rw [hvq] at hqc
            unfold maxLen at hcq2
            clear hnq hvq
            go_upto_block 4 with fail
            go_cut [14] (fun v14 wx => RowKit.Hid (SwOut w wb wx p c mb y L v14))
            case first =>
              rcases (by omega : (kd = 0 ∨ kd = 1) ∨ kd = 2 ∨ kd = 3 ∨ kd = 4 ∨ kd = 5) with hk01 | rfl | rfl | rfl | rfl
              · as_aux_lemma =>
                have hn2 : ((kd : Int) == 2) = false := by rw [beq_eq_false_iff_ne]; omega
                have hn3 : ((kd : Int) == 3) = false := by rw [beq_eq_false_iff_ne]; omega
                have hn4 : ((kd : Int) == 4) = false := by rw [beq_eq_false_iff_ne]; omega
                have hn5 : ((kd : Int) == 5) = false := by rw [beq_eq_false_iff_ne]; omega
                clear hk01
                by_cases hl64 : nq < 64
                · have hl64I : (nq : Int) < 64 := by omega
                  go_wp2_with fail
                  refine (put_room HKb.out y hy2 S (by rw [← HNQ.out]; exact hl64)).mono ?_
                  rintro e w4 ⟨rfl, h4, ht4⟩
                  have H4 := Lib.hid h4
                  have HT4 := Lib.hid ht4
                  have hT4c := ht4.mono (S' := fun k => k = c 0 ∨ k = c 1) (fun k e => c_way hy2 e)
                  have HQ4 := Lib.hid (HQb.out.kept hT4c)
                  have HRD4 : Hid (Reads w4 (.slice aq nq cq) (stV (L y))) := Lib.hid (HRD.out.kept ht4 (fun g hg e => by
                    have := (HQR.out.2.1 g (by rw [HUQ.out]; exact hg))
                    rcases c_way hy2 e with h | h <;> omega))
                  have HNL : Hid (nq ≤ 64) := Lib.hid hle
                  have HNL2 : Hid ((stV (L y)).length = nq) := Lib.hid (by rw [stV_length, HNQ.out])
                  have HS4 : Hid (mb < w4.heap.size ∧ w.heap.size ≤ w4.heap.size) := Lib.hid ⟨Nat.lt_of_lt_of_le HMBL.out ht4.size, Nat.le_trans HTb.out.size ht4.size⟩
                  have HSRC : Hid (∀ W, Touch (fun _ => False) w4 W → Src Try.prog 1 29 (.slice aq nq cq) nq (stV (L y)) W) := Lib.hid (fun W hW => by
                    have hs := (HRD4.out.still hW).src Try.underlying29 (stV_one _)
                    rw [HNL2.out] at hs
                    exact hs)
                  clear h4 ht4 hT4c hqc y0 y3 y4
                  go_wp2_with (at_builtin; first | (refine wpList_append_row _ rfl (.tmp 137) (.tmp 138) 29 29 rfl 9 i0 _ 16 Try.underlying29 hi hz0 hz1 hz2 rfl (.slice (some ⟨_, 0, none⟩) 0 0) [] rfl (by exact emp_row (by first | exact heap_alloc_new _ _ | exact (heap_keep (by simp)).trans (heap_alloc_new _ _))) (.slice aq nq cq) rfl nq (stV (L y)) (by exact HSRC.out _ (by ((repeat (first | with_reducible apply Touch.drew | with_reducible apply Touch.alloc)); exact Touch.refl _ _))) (by exact (len_ok (by simp; omega)).1) (by exact (len_ok (by simp; omega)).2) ?_; intro v1 wa hr1 hg1 ho1; rw [List.nil_append] at hr1; obtain ⟨a1, c1, hv1, hc11, hc12, hTa, hO1⟩ := app_out (w4 := w4) (by ((repeat (first | with_reducible apply Touch.drew | with_reducible apply Touch.alloc)); exact Touch.refl _ _)) hr1 hg1 ho1 (own_new (by simp)) (n := nq) HNL2.out; subst hv1) | (refine wpList_append_row _ rfl (.tmp 139) (.tmp 141) 29 29 rfl 9 i0 _ 16 Try.underlying29 hi hz0 hz1 hz2 rfl (.slice a1 (nq) c1) (stV (L y)) rfl (by exact hr1.kept (S := fun _ => False) (by ((repeat (first | with_reducible apply Touch.drew | with_reducible apply Touch.alloc)); exact Touch.refl _ _)) (fun _ _ => id)) (.slice (some ⟨_, 0, none⟩) 1 1) rfl 1 [.string (S)] (by exact Src.ofCell Try.underlying29 (by first | exact heap_alloc_new _ _ | exact kept_row hg1 (heap_alloc_new _ _) (by simp) | exact kept_row hg1 ((heap_keep (by simp)).trans (heap_alloc_new _ _)) (by simp)) rfl) (by rw [HNL2.out]; exact (len_ok (by omega)).1) (by rw [HNL2.out]; exact (len_ok (by omega)).2) ?_; intro v2 wz hr2 hg2 ho2; obtain ⟨a2, c2, hv2, hc21, hc22, hTz, hO2⟩ := app_out (w4 := w4) (Touch.trans hTa (by ((repeat (first | with_reducible apply Touch.drew | with_reducible apply Touch.alloc)); exact Touch.refl _ _))) hr2 hg2 ho2 hO1 (n := nq + 1) (by rw [List.length_append, HNL2.out]; rfl); subst hv2))
                  go_meet
                  refine Lib.hid ⟨_, H4.out.still hTz, qrow_new H4.out HS4.out.1 HS4.out.2 (by rw [setL_at, stV_append]; exact hr2) hO2 (by rw [setL_at]; exact small_snoc HQR.out.2.2 hSs), fun x _ hx => by unfold setL; rw [if_neg hx], HQ4.out.kept (hTz.mono (fun _ e => e.elim)), HT4.out.trans (hTz.mono (fun _ e => e.elim))⟩
                · have hl64I : ¬ (nq : Int) < 64 := by omega
                  go_wp2_with fail
                  refine (put_full HKb.out y hy2 S (by rw [← HNQ.out]; omega)).mono ?_
                  rintro e w4 ⟨rfl, rfl⟩
                  go_wp2_with fail
                  go_meet
                  exact Lib.hid ⟨L, HKb.out, by rw [← HUQ.out]; exact HQR.out, fun _ _ _ => rfl, HQb.out, Touch.refl _ _⟩
              · as_aux_lemma =>
                by_cases hq0 : nq = 0
                · have hq0I : ¬ (0 : Int) < (nq : Int) := by omega
                  have hLy : L y = [] := List.eq_nil_of_length_eq_zero (by rw [← HNQ.out]; omega)
                  obtain rfl : nq = 0 := by omega
                  go_wp2_with fail
                  refine (take_empty HKb.out y hy2 hLy).mono ?_
                  rintro e w4 ⟨rfl, rfl⟩
                  go_wp2_with fail
                  go_meet
                  exact Lib.hid ⟨L, HKb.out, by rw [← HUQ.out]; exact HQR.out, fun _ _ _ => rfl, HQb.out, Touch.refl _ _⟩
                · have hq0I : (0 : Int) < (nq : Int) := by omega
                  have hq0N : 0 < nq := by omega
                  obtain ⟨t0, l0, hLy⟩ : ∃ t0 l0, L y = t0 :: l0 := by
                    cases hL : L y with
                    | nil => have h1 := HNQ.out; rw [hL] at h1; simp at h1; omega
                    | cons a b => exact ⟨a, b, rfl⟩
                  have HLY := Lib.hid hLy
                  obtain ⟨gq, oq, cq', hv, _, _, hgq, hcl⟩ := HRD.out.addr (by rw [stV_length, ← HNQ.out]; omega)
                  rw [stV_length, ← HNQ.out] at hv
                  injection hv with e1 _ e3
                  subst e1
                  obtain rfl : cq' = cq := e3.symm
                  have hcq0 := hcl 0 (.string t0) (by rw [hLy]; rfl)
                  rw [Nat.add_zero] at hcq0
                  have HCQ := Lib.hid hcq0
                  have HNL4 : Hid ((stV l0).length = nq - 1) := Lib.hid (by rw [stV_length]; have h1 := HNQ.out; rw [hLy, List.length_cons] at h1; omega)
                  have HSM : Hid (t0.size ≤ 20 ∧ ∀ t ∈ l0, t.size ≤ 20) := Lib.hid (by
                    have h1 := HQR.out.2.2
                    rw [hLy] at h1
                    exact ⟨h1 t0 List.mem_cons_self, fun t ht => h1 t (List.mem_cons_of_mem _ ht)⟩)
                  clear hcl hcq0 hLy
                  go_wp2_with fail
                  refine (take_some HKb.out y hy2 HLY.out).mono ?_
                  rintro e w4 ⟨rfl, h4, ht4⟩
                  have H4 := Lib.hid h4
                  have HT4 := Lib.hid ht4
                  have HQ4 := Lib.hid (HQb.out.kept (ht4.mono (S' := fun k => k = c 0 ∨ k = c 1) (fun k e => c_way hy2 e)))
                  have hqn : ¬ gq = c y := fun e => by
                    have := HQR.out.2.1 gq (by rw [HUQ.out]; rfl)
                    rcases c_way hy2 e with h | h <;> omega
                  have hcq4 : w4.cell? ⟨gq, oq, none⟩ = some (.string t0) := ht4.cell (p := ⟨gq, oq, none⟩) HCQ.out hqn
                  have hxn : ¬ xb = c y := fun e => by
                    have := HXN.out
                    rcases c_way hy2 e with h | h <;> omega
                  have z3 : w4.cell? ⟨xb, 3, none⟩ = some (.int .i64 pos) := ht4.cell (p := ⟨xb, 3, none⟩) y3 hxn
                  have z4 : w4.cell? ⟨xb, 4, none⟩ = some (.int .u32 (bts : Nat)) := ht4.cell (p := ⟨xb, 4, none⟩) y4 hxn
                  have HROW4 : Hid (Row w4 9 (.slice (some ⟨gq, oq, none⟩) nq cq') (stV (L y))) := Lib.hid (by rw [← HUQ.out]; exact HQR.out.1.kept ht4 (fun g hg e => by
                    have := HQR.out.2.1 g hg
                    rcases c_way hy2 e with h | h <;> omega))
                  have HS4 : Hid (mb < w4.heap.size ∧ w.heap.size ≤ w4.heap.size) := Lib.hid ⟨Nat.lt_of_lt_of_le HMBL.out ht4.size, Nat.le_trans HTb.out.size ht4.size⟩
                  have hgq4 : gq < w4.heap.size := Nat.lt_of_lt_of_le hgq ht4.size
                  have hxb4 : xb < w4.heap.size := World.block_lt_of_cell? w4 _ z3
                  clear h4 ht4 hqc hqn hxn y0 y1 y3 y4
                  by_cases hc1 : cq' = 1
                  · subst hc1
                    obtain rfl : nq = 1 := by omega
                    have HT1 : Hid (Row w4 9 (.slice (some ⟨gq, oq, none⟩) 0 0) (stV l0) ∧ ∀ g, (Value.slice (some ⟨gq, oq, none⟩) 0 0).ownBlock = some g → g = gq) := Lib.hid (by
                      obtain ⟨h1, _⟩ := Row.from_end (q := 1) HROW4.out (Nat.le_refl 1)
                      have h2 : (stV (L y)).drop 1 = stV l0 := by rw [HLY.out]; rfl
                      rw [h2] at h1
                      exact ⟨h1, fun g hg => (Option.some.inj hg).symm⟩)
                    have HNL2 : Hid ((stV l0).length = 0) := HNL4
                    go_wp2_with fail
                    go_meet
                    exact Lib.hid ⟨_, H4.out, by rw [setL_at]; exact ⟨HT1.out.1, fun g hg => by rw [HT1.out.2 g hg]; exact HQR.out.2.1 gq (by rw [HUQ.out]; rfl), HSM.out.2⟩, fun x _ hx => by unfold setL; rw [if_neg hx], HQ4.out, HT4.out⟩
                  · have hc1I : ¬ (cq' : Int) = 1 := by omega
                    have HT1 : Hid (Row w4 9 (.slice (some ⟨gq, oq + 1, none⟩) (nq - 1) (cq' - 1)) (stV l0) ∧ ∀ g, (Value.slice (some ⟨gq, oq + 1, none⟩) (nq - 1) (cq' - 1)).ownBlock = some g → g = gq) := Lib.hid (by
                      obtain ⟨h1, _⟩ := Row.from (q := 1) HROW4.out (by omega) hc1
                      have h2 : (stV (L y)).drop 1 = stV l0 := by rw [HLY.out]; rfl
                      rw [h2] at h1
                      exact ⟨h1, fun g hg => (Option.some.inj hg).symm⟩)
                    have HNL2 : Hid ((stV l0).length = nq - 1) := HNL4
                    go_wp2_with fail
                    go_meet
                    exact Lib.hid ⟨_, H4.out, by rw [setL_at]; exact ⟨HT1.out.1, fun g hg => by rw [HT1.out.2 g hg]; exact HQR.out.2.1 gq (by rw [HUQ.out]; rfl), HSM.out.2⟩, fun x _ hx => by unfold setL; rw [if_neg hx], HQ4.out, HT4.out⟩
              · as_aux_lemma =>
                rename_i hKK hJ
                by_cases hq0 : nq = 0
                · have hq0I : ¬ (0 : Int) < (nq : Int) := by omega
                  have hLy : L y = [] := List.eq_nil_of_length_eq_zero (by rw [← HNQ.out]; omega)
                  obtain rfl : nq = 0 := by omega
                  go_wp2_with fail
                  refine (turn_empty HKb.out y hy2 hLy).mono ?_
                  rintro e w4 ⟨rfl, rfl⟩
                  go_wp2_with fail
                  go_meet
                  exact Lib.hid ⟨L, HKb.out, by rw [← HUQ.out]; exact HQR.out, fun _ _ _ => rfl, HQb.out, Touch.refl _ _⟩
                · have hq0I : (0 : Int) < (nq : Int) := by omega
                  have hq0N : 0 < nq := by omega
                  obtain ⟨t0, l0, hLy⟩ : ∃ t0 l0, L y = t0 :: l0 := by
                    cases hL : L y with
                    | nil => have h1 := HNQ.out; rw [hL] at h1; simp at h1; omega
                    | cons a b => exact ⟨a, b, rfl⟩
                  have HLY := Lib.hid hLy
                  obtain ⟨gq, oq, cq', hv, _, _, hgq, hcl⟩ := HRD.out.addr (by rw [stV_length, ← HNQ.out]; omega)
                  rw [stV_length, ← HNQ.out] at hv
                  injection hv with e1 _ e3
                  subst e1
                  obtain rfl : cq' = cq := e3.symm
                  have hcq0 := hcl 0 (.string t0) (by rw [hLy]; rfl)
                  rw [Nat.add_zero] at hcq0
                  have HCQ := Lib.hid hcq0
                  have HNL4 : Hid ((stV l0).length = nq - 1) := Lib.hid (by rw [stV_length]; have h1 := HNQ.out; rw [hLy, List.length_cons] at h1; omega)
                  have HSM : Hid (t0.size ≤ 20 ∧ ∀ t ∈ l0, t.size ≤ 20) := Lib.hid (by
                    have h1 := HQR.out.2.2
                    rw [hLy] at h1
                    exact ⟨h1 t0 List.mem_cons_self, fun t ht => h1 t (List.mem_cons_of_mem _ ht)⟩)
                  clear hcl hcq0 hLy
                  go_wp2_with fail
                  refine (turn_calls HKb.out y hy2 HLY.out).mono ?_
                  rintro e w4 ⟨rfl, h4, ht4⟩
                  have H4 := Lib.hid h4
                  have HT4 := Lib.hid ht4
                  have HQ4 := Lib.hid (HQb.out.kept (ht4.mono (S' := fun k => k = c 0 ∨ k = c 1) (fun k e => c_way hy2 e)))
                  have hqn : ¬ gq = c y := fun e => by
                    have := HQR.out.2.1 gq (by rw [HUQ.out]; rfl)
                    rcases c_way hy2 e with h | h <;> omega
                  have hcq4 : w4.cell? ⟨gq, oq, none⟩ = some (.string t0) := ht4.cell (p := ⟨gq, oq, none⟩) HCQ.out hqn
                  have hxn : ¬ xb = c y := fun e => by
                    have := HXN.out
                    rcases c_way hy2 e with h | h <;> omega
                  have z3 : w4.cell? ⟨xb, 3, none⟩ = some (.int .i64 pos) := ht4.cell (p := ⟨xb, 3, none⟩) y3 hxn
                  have z4 : w4.cell? ⟨xb, 4, none⟩ = some (.int .u32 (bts : Nat)) := ht4.cell (p := ⟨xb, 4, none⟩) y4 hxn
                  have HROW4 : Hid (Row w4 9 (.slice (some ⟨gq, oq, none⟩) nq cq') (stV (L y))) := Lib.hid (by rw [← HUQ.out]; exact HQR.out.1.kept ht4 (fun g hg e => by
                    have := HQR.out.2.1 g hg
                    rcases c_way hy2 e with h | h <;> omega))
                  have HS4 : Hid (mb < w4.heap.size ∧ w.heap.size ≤ w4.heap.size) := Lib.hid ⟨Nat.lt_of_lt_of_le HMBL.out ht4.size, Nat.le_trans HTb.out.size ht4.size⟩
                  have hgq4 : gq < w4.heap.size := Nat.lt_of_lt_of_le hgq ht4.size
                  have hxb4 : xb < w4.heap.size := World.block_lt_of_cell? w4 _ z3
                  clear h4 ht4 hqc hqn hxn y0 y1 y3 y4
                  have hz1I : (1 : Int) ≤ (nq : Int) := by omega
                  have HCL4 : Hid (∀ j u, (stV (L y))[j]? = some u → w4.cell? ⟨gq, oq + j, none⟩ = some u) := Lib.hid (by
                    obtain ⟨g', o', k', hv', _, _, _, hc'⟩ := HROW4.out.reads.addr (by rw [stV_length, ← HNQ.out]; omega)
                    injection hv' with e1 _ _
                    injection e1 with e1
                    injection e1 with e1 e2
                    subst e1
                    subst e2
                    exact hc')
                  have HNL2 : Hid ((stV l0).length = nq - 1) := HNL4
                  have HTL : Hid (∀ W, Touch (fun k => w4.heap.size ≤ k) w4 W → Src Try.prog 1 29 (.slice (if cq' = 1 then some ⟨gq, oq, none⟩ else some ⟨gq, oq + 1, none⟩) (nq - 1) (cq' - 1)) (nq - 1) (stV l0) W) := Lib.hid (fun W hW => by
                    have hr := ri_drop (W := W) (g := gq) (off := oq) (n := nq) (k := cq') (xs := stV (L y)) (T := stV l0) (by rw [stV_length, HNQ.out]) (by omega) (by omega) (by unfold maxLen; omega) (by rw [HLY.out]; rfl) (fun j u hu => hW.cell (HCL4.out j u hu) (by show ¬ w4.heap.size ≤ gq; omega))
                    have hs := hr.src Try.underlying29 (stV_one _)
                    rw [HNL2.out] at hs
                    exact hs)
                  have hnl9 : nq ≤ 64 := hle
                  go_upto_region 37 with fail
                  refine wp_region_inv5 (fun _ W => Touch (fun k => w4.heap.size ≤ k) w4 W) (lk3I w4.heap.size (.slice (some ⟨gq, oq, none⟩) nq cq') (.slice (if cq' = 1 then some ⟨gq, oq, none⟩ else some ⟨gq, oq + 1, none⟩) (nq - 1) (cq' - 1)) gq oq xb t0 t0 pos bts (stV l0)) (by kernel_rfl) (by kernel_rfl) (by kernel_rfl) ((Touch.refl _ _).drew) ?_ ?_
                  · intro i o hio ls a W hun hcl hdl hC hbase hkeep hdone
                    have hlt := op_lt hio
                    obtain ⟨hbd, hbs, hbb⟩ := hbase
                    have hNW : w4.heap.size ≤ W.heap.size := hC.size
                    have hq0 : W.cell? ⟨gq, oq, none⟩ = some (.string t0) := hC.cell hcq4 (by show ¬ w4.heap.size ≤ gq; omega)
                    have hz3 : W.cell? ⟨xb, 3, none⟩ = some (.int .i64 pos) := hC.cell z3 (by show ¬ w4.heap.size ≤ xb; omega)
                    have hz4 : W.cell? ⟨xb, 4, none⟩ = some (.int .u32 (bts : Nat)) := hC.cell z4 (by show ¬ w4.heap.size ≤ xb; omega)
                    rcases (by simp at hlt; omega : i = 0 ∨ i = 1 ∨ i = 2 ∨ i = 3 ∨ i = 4 ∨ i = 5 ∨ i = 6 ∨ i = 7 ∨ i = 8 ∨ i = 9) with rfl | rfl | rfl | rfl | rfl | rfl | rfl | rfl | rfl | rfl
                    · simp only [List.getElem?_toArray, List.getElem?_cons_zero, List.getElem?_cons_succ, Option.some.injEq] at hio
                      subst hio
                      refine ⟨rfl, ?_⟩
                      refine ri_step (v := .slice (some ⟨W.heap.size, 0, none⟩) 0 0) (w' := W.alloc (.cells #[] 9)) ?_ ⟨_, rfl, Pin.made W 9 hNW, hC.trans (((Touch.refl (fun _ => False) W).alloc _).mono (fun _ e => e.elim)), lk3I_still ((Touch.refl _ W).alloc _)⟩
                      simp [execOp, Act.eval]
                      try go_simp
                    · simp only [List.getElem?_toArray, List.getElem?_cons_zero, List.getElem?_cons_succ, Option.some.injEq] at hio
                      subst hio
                      refine ⟨rfl, ?_⟩
                      have hl9 : ls.getD 9 true = false := by
                        cases hls : ls.getD 9 true with
                        | false => rfl
                        | true => exact absurd (r4_edge 1 (by kernel_rfl) (hcl 9 _ rfl hls)) (by rw [hun]; decide)
                      have b14 : a.tmps[14]?.getD undef = .slice (some ⟨gq, oq, none⟩) nq cq' := by rw [hkeep 9 _ 14 rfl hl9 rfl]; rfl
                      refine r4_val (v := .slice (some ⟨gq, oq, none⟩) nq cq') ?_ ⟨_, rfl, rfl, hC, fun _ _ h => h⟩
                      simp [execOp, Act.eval, b14]
                    · simp only [List.getElem?_toArray, List.getElem?_cons_zero, List.getElem?_cons_succ, Option.some.injEq] at hio
                      subst hio
                      have t192 : a.tmps[192]?.getD undef = .slice (some ⟨gq, oq, none⟩) nq cq' := by simpa [valOf, lk3I] using hdone 1 _ rfl (r4_edge 1 (by kernel_rfl) hdl)
                      refine ⟨rfl, ?_⟩
                      refine r4_val (v := .slice (if cq' = 1 then some ⟨gq, oq, none⟩ else some ⟨gq, oq + 1, none⟩) (nq - 1) (cq' - 1)) ?_ ⟨_, rfl, rfl, hC, fun _ _ h => h⟩
                      simp [execOp, Act.eval, t192, hz1I]
                      try go_simp
                    · simp only [List.getElem?_toArray, List.getElem?_cons_zero, List.getElem?_cons_succ, Option.some.injEq] at hio
                      subst hio
                      have t191 : Pin W w4.heap.size 9 [] (a.tmps[191]?.getD undef) := by simpa [valOf, lk3I] using hdone 0 _ rfl (r4_edge 0 (by kernel_rfl) hdl)
                      have t193 : a.tmps[193]?.getD undef = .slice (if cq' = 1 then some ⟨gq, oq, none⟩ else some ⟨gq, oq + 1, none⟩) (nq - 1) (cq' - 1) := by simpa [valOf, lk3I] using hdone 2 _ rfl (r4_edge 2 (by kernel_rfl) hdl)
                      refine ⟨rfl, ?_⟩
                      obtain ⟨v', W', hr, hp, hT⟩ := app_empty (P := Try.prog) 29 Try.underlying29 hi hz0 hz1 (by omega) (by rfl) t191 (HTL.out W hC) (by omega) hNW
                      refine ri_step (v := v') (w' := W') (ri_app (.tmp 191) (.tmp 193) _ _ rfl ?_) ⟨_, rfl, hp, hC.trans (hT.mono (fun _ e => e.elim)), lk3I_still (hT)⟩
                      simpa [Act.eval, t193] using hr
                    · simp only [List.getElem?_toArray, List.getElem?_cons_zero, List.getElem?_cons_succ, Option.some.injEq] at hio
                      subst hio
                      refine ⟨rfl, ?_⟩
                      have hl9 : ls.getD 9 true = false := by
                        cases hls : ls.getD 9 true with
                        | false => rfl
                        | true => exact absurd (r4_edge 4 (by kernel_rfl) (hcl 9 _ rfl hls)) (by rw [hun]; decide)
                      have b14 : a.tmps[14]?.getD undef = .slice (some ⟨gq, oq, none⟩) nq cq' := by rw [hkeep 9 _ 14 rfl hl9 rfl]; rfl
                      refine r4_val (v := .slice (some ⟨gq, oq, none⟩) nq cq') ?_ ⟨_, rfl, rfl, hC, fun _ _ h => h⟩
                      simp [execOp, Act.eval, b14]
                    · simp only [List.getElem?_toArray, List.getElem?_cons_zero, List.getElem?_cons_succ, Option.some.injEq] at hio
                      subst hio
                      have t195 : a.tmps[195]?.getD undef = .slice (some ⟨gq, oq, none⟩) nq cq' := by simpa [valOf, lk3I] using hdone 4 _ rfl (r4_edge 4 (by kernel_rfl) hdl)
                      refine ⟨rfl, ?_⟩
                      refine r4_val (v := .pointer (some ⟨gq, oq, none⟩)) ?_ ⟨_, rfl, rfl, hC, fun _ _ h => h⟩
                      simp [execOp, Act.eval, t195]
                      try go_simp
                    · simp only [List.getElem?_toArray, List.getElem?_cons_zero, List.getElem?_cons_succ, Option.some.injEq] at hio
                      subst hio
                      have t196 : a.tmps[196]?.getD undef = .pointer (some ⟨gq, oq, none⟩) := by simpa [valOf, lk3I] using hdone 5 _ rfl (r4_edge 5 (by kernel_rfl) hdl)
                      refine ⟨rfl, ?_⟩
                      refine r4_val (v := .string t0) ?_ ⟨_, rfl, rfl, hC, fun _ _ h => h⟩
                      simp [execOp, Act.eval, t196]
                      try go_simp
                    · simp only [List.getElem?_toArray, List.getElem?_cons_zero, List.getElem?_cons_succ, Option.some.injEq] at hio
                      subst hio
                      have t197 : a.tmps[197]?.getD undef = .string t0 := by simpa [valOf, lk3I] using hdone 6 _ rfl (r4_edge 6 (by kernel_rfl) hdl)
                      refine ⟨rfl, ?_⟩
                      refine ri_step (v := .slice (some ⟨W.heap.size, 0, none⟩) 1 1) (w' := W.alloc (.cells #[.string t0] 9)) ?_ ⟨_, rfl, One.made W 9 _ hNW, hC.trans (((Touch.refl (fun _ => False) W).alloc _).mono (fun _ e => e.elim)), lk3I_still ((Touch.refl _ W).alloc _)⟩
                      simp [execOp, Act.eval, t197]
                      try go_simp
                    · simp only [List.getElem?_toArray, List.getElem?_cons_zero, List.getElem?_cons_succ, Option.some.injEq] at hio
                      subst hio
                      have t194 : Pin W w4.heap.size 9 (stV l0) (a.tmps[194]?.getD undef) := by simpa [valOf, lk3I] using hdone 3 _ rfl (r4_edge 3 (by kernel_rfl) hdl)
                      have t198 : One W w4.heap.size 9 (.string t0) (a.tmps[198]?.getD undef) := by simpa [valOf, lk3I] using hdone 7 _ rfl (r4_edge 7 (by kernel_rfl) hdl)
                      refine ⟨rfl, ?_⟩
                      obtain ⟨v', W', hr, hp, hk⟩ := app_one (P := Try.prog) 29 Try.underlying29 hi hz0 hz1 (by omega) (by rfl) t194 t198 rfl (by rw [HNL2.out]; omega) hNW
                      refine ri_step (v := v') (w' := W') (ri_app (.tmp 194) (.tmp 198) _ _ rfl (by simpa [Act.eval] using hr)) ⟨_, rfl, hp, hC.trans hk.touch, lk3I_keep hk.emp hk.pin hk.pin1 (hk.one _)⟩
                    · simp only [List.getElem?_toArray, List.getElem?_cons_zero, List.getElem?_cons_succ, Option.some.injEq] at hio
                      subst hio
                      have t199 : Pin W w4.heap.size 9 (stV l0 ++ [.string t0]) (a.tmps[199]?.getD undef) := by simpa [valOf, lk3I] using hdone 8 _ rfl (r4_edge 8 (by kernel_rfl) hdl)
                      refine ⟨rfl, ?_⟩
                      refine r4_val (v := a.tmps[199]?.getD undef) ?_ ⟨_, rfl, t199, hC, fun _ _ h => h⟩
                      simp [execOp, Act.eval]
                  · intro ls a W hall hC hbase hdone
                    have hact := act_lit hbase [14, 191, 192, 193, 194, 195, 196, 197, 198, 199] (by decide) (by kernel_rfl)
                    obtain ⟨v14, h14⟩ : ∃ v, a.tmps[14]?.getD undef = v := ⟨_, rfl⟩
                    obtain ⟨v191, h191⟩ : ∃ v, a.tmps[191]?.getD undef = v := ⟨_, rfl⟩
                    obtain ⟨v192, h192⟩ : ∃ v, a.tmps[192]?.getD undef = v := ⟨_, rfl⟩
                    obtain ⟨v193, h193⟩ : ∃ v, a.tmps[193]?.getD undef = v := ⟨_, rfl⟩
                    obtain ⟨v194, h194⟩ : ∃ v, a.tmps[194]?.getD undef = v := ⟨_, rfl⟩
                    obtain ⟨v195, h195⟩ : ∃ v, a.tmps[195]?.getD undef = v := ⟨_, rfl⟩
                    obtain ⟨v196, h196⟩ : ∃ v, a.tmps[196]?.getD undef = v := ⟨_, rfl⟩
                    obtain ⟨v197, h197⟩ : ∃ v, a.tmps[197]?.getD undef = v := ⟨_, rfl⟩
                    obtain ⟨v198, h198⟩ : ∃ v, a.tmps[198]?.getD undef = v := ⟨_, rfl⟩
                    obtain ⟨v199, h199⟩ : ∃ v, a.tmps[199]?.getD undef = v := ⟨_, rfl⟩
                    have hp14 : Pin W w4.heap.size 9 (stV l0 ++ [.string t0]) v14 := by rw [← h14]; simpa [valOf, lk3I] using hdone 9 _ rfl
                    have HP := Lib.hid hp14
                    have HTW := Lib.hid (new_touchL hC)
                    clear hall hdone hC hbase hp14
                    dsimp only [layL, Nat.reduceAdd, Nat.reduceBEq, cond_true, cond_false] at hact
                    simp only [h14, h191, h192, h193, h194, h195, h196, h197, h198, h199] at hact
                    clear h14 h191 h192 h193 h194 h195 h196 h197 h198 h199
                    subst hact
                    dsimp only [Exit.then, Exit.inBlock]
                    refine hKK _ W (hJ _ W ?_)
                    repeat apply Exists.intro
                    refine ⟨Lib.hid ⟨_, H4.out.still HTW.out, qrow_new H4.out HS4.out.1 HS4.out.2 (by rw [setL_at, stV_append]; exact HP.out.row) HP.out.own (by rw [setL_at]; exact small_snoc HSM.out.2 HSM.out.1), fun x _ hx => by unfold setL; rw [if_neg hx], HQ4.out.kept (HTW.out.mono (fun _ e => e.elim)), HT4.out.trans (HTW.out.mono (fun _ e => e.elim))⟩, rfl⟩
              · as_aux_lemma =>
                rename_i hKK hJ
                by_cases hq0 : nq = 0
                · have hq0I : ¬ (0 : Int) < (nq : Int) := by omega
                  have hLy : L y = [] := List.eq_nil_of_length_eq_zero (by rw [← HNQ.out]; omega)
                  obtain rfl : nq = 0 := by omega
                  go_wp2_with fail
                  refine (twice_empty HKb.out y hy2 hLy).mono ?_
                  rintro e w4 ⟨rfl, rfl⟩
                  go_wp2_with fail
                  go_meet
                  exact Lib.hid ⟨L, HKb.out, by rw [← HUQ.out]; exact HQR.out, fun _ _ _ => rfl, HQb.out, Touch.refl _ _⟩
                · have hq0I : (0 : Int) < (nq : Int) := by omega
                  have hq0N : 0 < nq := by omega
                  obtain ⟨t0, l0, hLy⟩ : ∃ t0 l0, L y = t0 :: l0 := by
                    cases hL : L y with
                    | nil => have h1 := HNQ.out; rw [hL] at h1; simp at h1; omega
                    | cons a b => exact ⟨a, b, rfl⟩
                  have HLY := Lib.hid hLy
                  obtain ⟨gq, oq, cq', hv, _, _, hgq, hcl⟩ := HRD.out.addr (by rw [stV_length, ← HNQ.out]; omega)
                  rw [stV_length, ← HNQ.out] at hv
                  injection hv with e1 _ e3
                  subst e1
                  obtain rfl : cq' = cq := e3.symm
                  have hcq0 := hcl 0 (.string t0) (by rw [hLy]; rfl)
                  rw [Nat.add_zero] at hcq0
                  have HCQ := Lib.hid hcq0
                  have HNL4 : Hid ((stV l0).length = nq - 1) := Lib.hid (by rw [stV_length]; have h1 := HNQ.out; rw [hLy, List.length_cons] at h1; omega)
                  have HSM : Hid (t0.size ≤ 20 ∧ ∀ t ∈ l0, t.size ≤ 20) := Lib.hid (by
                    have h1 := HQR.out.2.2
                    rw [hLy] at h1
                    exact ⟨h1 t0 List.mem_cons_self, fun t ht => h1 t (List.mem_cons_of_mem _ ht)⟩)
                  clear hcl hcq0 hLy
                  have HL0 : Hid (l0.length = nq - 1) := Lib.hid (by rw [← HNL4.out, stV_length])
                  by_cases hl64 : nq < 64
                  · have hl64I : (nq : Int) < 64 := by omega
                    go_wp2_with fail
                    refine (twice_room HKb.out y hy2 HLY.out (by rw [HL0.out]; omega)).mono ?_
                    rintro e w4 ⟨rfl, h4, ht4⟩
                    have H4 := Lib.hid h4
                    have HT4 := Lib.hid ht4
                    have HQ4 := Lib.hid (HQb.out.kept (ht4.mono (S' := fun k => k = c 0 ∨ k = c 1) (fun k e => c_way hy2 e)))
                    have hqn : ¬ gq = c y := fun e => by
                      have := HQR.out.2.1 gq (by rw [HUQ.out]; rfl)
                      rcases c_way hy2 e with h | h <;> omega
                    have hcq4 : w4.cell? ⟨gq, oq, none⟩ = some (.string t0) := ht4.cell (p := ⟨gq, oq, none⟩) HCQ.out hqn
                    have hxn : ¬ xb = c y := fun e => by
                      have := HXN.out
                      rcases c_way hy2 e with h | h <;> omega
                    have z3 : w4.cell? ⟨xb, 3, none⟩ = some (.int .i64 pos) := ht4.cell (p := ⟨xb, 3, none⟩) y3 hxn
                    have z4 : w4.cell? ⟨xb, 4, none⟩ = some (.int .u32 (bts : Nat)) := ht4.cell (p := ⟨xb, 4, none⟩) y4 hxn
                    have HROW4 : Hid (Row w4 9 (.slice (some ⟨gq, oq, none⟩) nq cq') (stV (L y))) := Lib.hid (by rw [← HUQ.out]; exact HQR.out.1.kept ht4 (fun g hg e => by
                      have := HQR.out.2.1 g hg
                      rcases c_way hy2 e with h | h <;> omega))
                    have HS4 : Hid (mb < w4.heap.size ∧ w.heap.size ≤ w4.heap.size) := Lib.hid ⟨Nat.lt_of_lt_of_le HMBL.out ht4.size, Nat.le_trans HTb.out.size ht4.size⟩
                    have hgq4 : gq < w4.heap.size := Nat.lt_of_lt_of_le hgq ht4.size
                    have hxb4 : xb < w4.heap.size := World.block_lt_of_cell? w4 _ z3
                    clear h4 ht4 hqc hqn hxn y0 y1 y3 y4
                    have HNL2 : Hid ((stV (L y)).length = nq) := Lib.hid (by rw [stV_length, HNQ.out])
                    have HTL : Hid (∀ W, Touch (fun k => w4.heap.size ≤ k) w4 W → Src Try.prog 1 29 (.slice (some ⟨gq, oq, none⟩) nq cq') nq (stV (L y)) W) := Lib.hid (fun W hW => by
                      have hs := (HROW4.out.reads.kept hW (fun g hg e => by have e1 : gq = g := Option.some.inj hg; have e2 : w4.heap.size ≤ g := e; omega)).src Try.underlying29 (stV_one _)
                      rw [HNL2.out] at hs
                      exact hs)
                    have hnl9 : nq ≤ 64 := hle
                    go_upto_region 43 with fail
                    refine wp_region_inv5 (fun _ W => Touch (fun k => w4.heap.size ≤ k) w4 W) (lk4I w4.heap.size (.slice (some ⟨gq, oq, none⟩) nq cq') (.slice none 0 0) gq oq xb t0 t0 pos bts (stV (L y))) (by kernel_rfl) (by kernel_rfl) (by kernel_rfl) ((Touch.refl _ _).drew) ?_ ?_
                    · intro i o hio ls a W hun hcl hdl hC hbase hkeep hdone
                      have hlt := op_lt hio
                      obtain ⟨hbd, hbs, hbb⟩ := hbase
                      have hNW : w4.heap.size ≤ W.heap.size := hC.size
                      have hq0 : W.cell? ⟨gq, oq, none⟩ = some (.string t0) := hC.cell hcq4 (by show ¬ w4.heap.size ≤ gq; omega)
                      have hz3 : W.cell? ⟨xb, 3, none⟩ = some (.int .i64 pos) := hC.cell z3 (by show ¬ w4.heap.size ≤ xb; omega)
                      have hz4 : W.cell? ⟨xb, 4, none⟩ = some (.int .u32 (bts : Nat)) := hC.cell z4 (by show ¬ w4.heap.size ≤ xb; omega)
                      rcases (by simp at hlt; omega : i = 0 ∨ i = 1 ∨ i = 2 ∨ i = 3 ∨ i = 4 ∨ i = 5 ∨ i = 6 ∨ i = 7 ∨ i = 8) with rfl | rfl | rfl | rfl | rfl | rfl | rfl | rfl | rfl
                      · simp only [List.getElem?_toArray, List.getElem?_cons_zero, List.getElem?_cons_succ, Option.some.injEq] at hio
                        subst hio
                        refine ⟨rfl, ?_⟩
                        refine ri_step (v := .slice (some ⟨W.heap.size, 0, none⟩) 0 0) (w' := W.alloc (.cells #[] 9)) ?_ ⟨_, rfl, Pin.made W 9 hNW, hC.trans (((Touch.refl (fun _ => False) W).alloc _).mono (fun _ e => e.elim)), lk4I_still ((Touch.refl _ W).alloc _)⟩
                        simp [execOp, Act.eval]
                        try go_simp
                      · simp only [List.getElem?_toArray, List.getElem?_cons_zero, List.getElem?_cons_succ, Option.some.injEq] at hio
                        subst hio
                        refine ⟨rfl, ?_⟩
                        have hl9 : ls.getD 8 true = false := by
                          cases hls : ls.getD 8 true with
                          | false => rfl
                          | true => exact absurd (r4_edge 1 (by kernel_rfl) (hcl 8 _ rfl hls)) (by rw [hun]; decide)
                        have b14 : a.tmps[14]?.getD undef = .slice (some ⟨gq, oq, none⟩) nq cq' := by rw [hkeep 8 _ 14 rfl hl9 rfl]; rfl
                        refine r4_val (v := .slice (some ⟨gq, oq, none⟩) nq cq') ?_ ⟨_, rfl, rfl, hC, fun _ _ h => h⟩
                        simp [execOp, Act.eval, b14]
                      · simp only [List.getElem?_toArray, List.getElem?_cons_zero, List.getElem?_cons_succ, Option.some.injEq] at hio
                        subst hio
                        have t217 : Pin W w4.heap.size 9 [] (a.tmps[217]?.getD undef) := by simpa [valOf, lk4I] using hdone 0 _ rfl (r4_edge 0 (by kernel_rfl) hdl)
                        have t218 : a.tmps[218]?.getD undef = .slice (some ⟨gq, oq, none⟩) nq cq' := by simpa [valOf, lk4I] using hdone 1 _ rfl (r4_edge 1 (by kernel_rfl) hdl)
                        refine ⟨rfl, ?_⟩
                        obtain ⟨v', W', hr, hp, hT⟩ := app_empty (P := Try.prog) 29 Try.underlying29 hi hz0 hz1 (by omega) (by rfl) t217 (HTL.out W hC) (by omega) hNW
                        refine ri_step (v := v') (w' := W') (ri_app (.tmp 217) (.tmp 218) _ _ rfl ?_) ⟨_, rfl, hp, hC.trans (hT.mono (fun _ e => e.elim)), lk4I_still (hT)⟩
                        simpa [Act.eval, t218] using hr
                      · simp only [List.getElem?_toArray, List.getElem?_cons_zero, List.getElem?_cons_succ, Option.some.injEq] at hio
                        subst hio
                        refine ⟨rfl, ?_⟩
                        have hl9 : ls.getD 8 true = false := by
                          cases hls : ls.getD 8 true with
                          | false => rfl
                          | true => exact absurd (r4_edge 3 (by kernel_rfl) (hcl 8 _ rfl hls)) (by rw [hun]; decide)
                        have b14 : a.tmps[14]?.getD undef = .slice (some ⟨gq, oq, none⟩) nq cq' := by rw [hkeep 8 _ 14 rfl hl9 rfl]; rfl
                        refine r4_val (v := .slice (some ⟨gq, oq, none⟩) nq cq') ?_ ⟨_, rfl, rfl, hC, fun _ _ h => h⟩
                        simp [execOp, Act.eval, b14]
                      · simp only [List.getElem?_toArray, List.getElem?_cons_zero, List.getElem?_cons_succ, Option.some.injEq] at hio
                        subst hio
                        have t220 : a.tmps[220]?.getD undef = .slice (some ⟨gq, oq, none⟩) nq cq' := by simpa [valOf, lk4I] using hdone 3 _ rfl (r4_edge 3 (by kernel_rfl) hdl)
                        refine ⟨rfl, ?_⟩
                        refine r4_val (v := .pointer (some ⟨gq, oq, none⟩)) ?_ ⟨_, rfl, rfl, hC, fun _ _ h => h⟩
                        simp [execOp, Act.eval, t220]
                        try go_simp
                      · simp only [List.getElem?_toArray, List.getElem?_cons_zero, List.getElem?_cons_succ, Option.some.injEq] at hio
                        subst hio
                        have t221 : a.tmps[221]?.getD undef = .pointer (some ⟨gq, oq, none⟩) := by simpa [valOf, lk4I] using hdone 4 _ rfl (r4_edge 4 (by kernel_rfl) hdl)
                        refine ⟨rfl, ?_⟩
                        refine r4_val (v := .string t0) ?_ ⟨_, rfl, rfl, hC, fun _ _ h => h⟩
                        simp [execOp, Act.eval, t221]
                        try go_simp
                      · simp only [List.getElem?_toArray, List.getElem?_cons_zero, List.getElem?_cons_succ, Option.some.injEq] at hio
                        subst hio
                        have t222 : a.tmps[222]?.getD undef = .string t0 := by simpa [valOf, lk4I] using hdone 5 _ rfl (r4_edge 5 (by kernel_rfl) hdl)
                        refine ⟨rfl, ?_⟩
                        refine ri_step (v := .slice (some ⟨W.heap.size, 0, none⟩) 1 1) (w' := W.alloc (.cells #[.string t0] 9)) ?_ ⟨_, rfl, One.made W 9 _ hNW, hC.trans (((Touch.refl (fun _ => False) W).alloc _).mono (fun _ e => e.elim)), lk4I_still ((Touch.refl _ W).alloc _)⟩
                        simp [execOp, Act.eval, t222]
                        try go_simp
                      · simp only [List.getElem?_toArray, List.getElem?_cons_zero, List.getElem?_cons_succ, Option.some.injEq] at hio
                        subst hio
                        have t219 : Pin W w4.heap.size 9 (stV (L y)) (a.tmps[219]?.getD undef) := by simpa [valOf, lk4I] using hdone 2 _ rfl (r4_edge 2 (by kernel_rfl) hdl)
                        have t223 : One W w4.heap.size 9 (.string t0) (a.tmps[223]?.getD undef) := by simpa [valOf, lk4I] using hdone 6 _ rfl (r4_edge 6 (by kernel_rfl) hdl)
                        refine ⟨rfl, ?_⟩
                        obtain ⟨v', W', hr, hp, hk⟩ := app_one (P := Try.prog) 29 Try.underlying29 hi hz0 hz1 (by omega) (by rfl) t219 t223 rfl (by rw [HNL2.out]; omega) hNW
                        refine ri_step (v := v') (w' := W') (ri_app (.tmp 219) (.tmp 223) _ _ rfl (by simpa [Act.eval] using hr)) ⟨_, rfl, hp, hC.trans hk.touch, lk4I_keep hk.emp hk.pin hk.pin1 (hk.one _)⟩
                      · simp only [List.getElem?_toArray, List.getElem?_cons_zero, List.getElem?_cons_succ, Option.some.injEq] at hio
                        subst hio
                        have t224 : Pin W w4.heap.size 9 (stV (L y) ++ [.string t0]) (a.tmps[224]?.getD undef) := by simpa [valOf, lk4I] using hdone 7 _ rfl (r4_edge 7 (by kernel_rfl) hdl)
                        refine ⟨rfl, ?_⟩
                        refine r4_val (v := a.tmps[224]?.getD undef) ?_ ⟨_, rfl, t224, hC, fun _ _ h => h⟩
                        simp [execOp, Act.eval]
                    · intro ls a W hall hC hbase hdone
                      have hact := act_lit hbase [14, 217, 218, 219, 220, 221, 222, 223, 224] (by decide) (by kernel_rfl)
                      obtain ⟨v14, h14⟩ : ∃ v, a.tmps[14]?.getD undef = v := ⟨_, rfl⟩
                      obtain ⟨v217, h217⟩ : ∃ v, a.tmps[217]?.getD undef = v := ⟨_, rfl⟩
                      obtain ⟨v218, h218⟩ : ∃ v, a.tmps[218]?.getD undef = v := ⟨_, rfl⟩
                      obtain ⟨v219, h219⟩ : ∃ v, a.tmps[219]?.getD undef = v := ⟨_, rfl⟩
                      obtain ⟨v220, h220⟩ : ∃ v, a.tmps[220]?.getD undef = v := ⟨_, rfl⟩
                      obtain ⟨v221, h221⟩ : ∃ v, a.tmps[221]?.getD undef = v := ⟨_, rfl⟩
                      obtain ⟨v222, h222⟩ : ∃ v, a.tmps[222]?.getD undef = v := ⟨_, rfl⟩
                      obtain ⟨v223, h223⟩ : ∃ v, a.tmps[223]?.getD undef = v := ⟨_, rfl⟩
                      obtain ⟨v224, h224⟩ : ∃ v, a.tmps[224]?.getD undef = v := ⟨_, rfl⟩
                      have hp14 : Pin W w4.heap.size 9 (stV (L y) ++ [.string t0]) v14 := by rw [← h14]; simpa [valOf, lk4I] using hdone 8 _ rfl
                      have HP := Lib.hid hp14
                      have HTW := Lib.hid (new_touchL hC)
                      clear hall hdone hC hbase hp14
                      dsimp only [layL, Nat.reduceAdd, Nat.reduceBEq, cond_true, cond_false] at hact
                      simp only [h14, h217, h218, h219, h220, h221, h222, h223, h224] at hact
                      clear h14 h217 h218 h219 h220 h221 h222 h223 h224
                      subst hact
                      dsimp only [Exit.then, Exit.inBlock]
                      refine hKK _ W (hJ _ W ?_)
                      repeat apply Exists.intro
                      refine ⟨Lib.hid ⟨_, H4.out.still HTW.out, qrow_new H4.out HS4.out.1 HS4.out.2 (by rw [setL_at, stV_append]; exact HP.out.row) HP.out.own (by rw [setL_at]; exact small_snoc HQR.out.2.2 HSM.out.1), fun x _ hx => by unfold setL; rw [if_neg hx], HQ4.out.kept (HTW.out.mono (fun _ e => e.elim)), HT4.out.trans (HTW.out.mono (fun _ e => e.elim))⟩, rfl⟩
                  · have hl64I : ¬ (nq : Int) < 64 := by omega
                    go_wp2_with fail
                    refine (twice_full HKb.out y hy2 HLY.out (by rw [HL0.out]; omega)).mono ?_
                    rintro e w4 ⟨rfl, h4, ht4⟩
                    have H4 := Lib.hid h4
                    have HT4 := Lib.hid ht4
                    have HQ4 := Lib.hid (HQb.out.kept (ht4.mono (S' := fun k => k = c 0 ∨ k = c 1) (fun k e => c_way hy2 e)))
                    have hqn : ¬ gq = c y := fun e => by
                      have := HQR.out.2.1 gq (by rw [HUQ.out]; rfl)
                      rcases c_way hy2 e with h | h <;> omega
                    have hcq4 : w4.cell? ⟨gq, oq, none⟩ = some (.string t0) := ht4.cell (p := ⟨gq, oq, none⟩) HCQ.out hqn
                    have hxn : ¬ xb = c y := fun e => by
                      have := HXN.out
                      rcases c_way hy2 e with h | h <;> omega
                    have z3 : w4.cell? ⟨xb, 3, none⟩ = some (.int .i64 pos) := ht4.cell (p := ⟨xb, 3, none⟩) y3 hxn
                    have z4 : w4.cell? ⟨xb, 4, none⟩ = some (.int .u32 (bts : Nat)) := ht4.cell (p := ⟨xb, 4, none⟩) y4 hxn
                    have HROW4 : Hid (Row w4 9 (.slice (some ⟨gq, oq, none⟩) nq cq') (stV (L y))) := Lib.hid (by rw [← HUQ.out]; exact HQR.out.1.kept ht4 (fun g hg e => by
                      have := HQR.out.2.1 g hg
                      rcases c_way hy2 e with h | h <;> omega))
                    have HS4 : Hid (mb < w4.heap.size ∧ w.heap.size ≤ w4.heap.size) := Lib.hid ⟨Nat.lt_of_lt_of_le HMBL.out ht4.size, Nat.le_trans HTb.out.size ht4.size⟩
                    have hgq4 : gq < w4.heap.size := Nat.lt_of_lt_of_le hgq ht4.size
                    have hxb4 : xb < w4.heap.size := World.block_lt_of_cell? w4 _ z3
                    clear h4 ht4 hqc hqn hxn y0 y1 y3 y4
                    go_wp2_with fail
                    go_meet
                    exact Lib.hid ⟨L, H4.out, ⟨HROW4.out, by rw [← HUQ.out]; exact HQR.out.2.1, HQR.out.2.2⟩, fun _ _ _ => rfl, HQ4.out, HT4.out⟩
              · as_aux_lemma =>
                rename_i hKK hJ
                by_cases hq0 : nq = 0
                · have hq0I : ¬ (0 : Int) < (nq : Int) := by omega
                  have hLy : L y = [] := List.eq_nil_of_length_eq_zero (by rw [← HNQ.out]; omega)
                  obtain rfl : nq = 0 := by omega
                  go_wp2_with fail
                  refine (spoil_empty HKb.out y hy2 hLy _ _).mono ?_
                  rintro e w4 ⟨rfl, rfl⟩
                  go_wp2_with fail
                  go_meet
                  exact Lib.hid ⟨L, HKb.out, by rw [← HUQ.out]; exact HQR.out, fun _ _ _ => rfl, HQb.out, Touch.refl _ _⟩
                · have hq0I : (0 : Int) < (nq : Int) := by omega
                  have hq0N : 0 < nq := by omega
                  obtain ⟨t0, l0, hLy⟩ : ∃ t0 l0, L y = t0 :: l0 := by
                    cases hL : L y with
                    | nil => have h1 := HNQ.out; rw [hL] at h1; simp at h1; omega
                    | cons a b => exact ⟨a, b, rfl⟩
                  have HLY := Lib.hid hLy
                  obtain ⟨gq, oq, cq', hv, _, _, hgq, hcl⟩ := HRD.out.addr (by rw [stV_length, ← HNQ.out]; omega)
                  rw [stV_length, ← HNQ.out] at hv
                  injection hv with e1 _ e3
                  subst e1
                  obtain rfl : cq' = cq := e3.symm
                  have hcq0 := hcl 0 (.string t0) (by rw [hLy]; rfl)
                  rw [Nat.add_zero] at hcq0
                  have HCQ := Lib.hid hcq0
                  have HNL4 : Hid ((stV l0).length = nq - 1) := Lib.hid (by rw [stV_length]; have h1 := HNQ.out; rw [hLy, List.length_cons] at h1; omega)
                  have HSM : Hid (t0.size ≤ 20 ∧ ∀ t ∈ l0, t.size ≤ 20) := Lib.hid (by
                    have h1 := HQR.out.2.2
                    rw [hLy] at h1
                    exact ⟨h1 t0 List.mem_cons_self, fun t ht => h1 t (List.mem_cons_of_mem _ ht)⟩)
                  clear hcl hcq0 hLy
                  go_wp2_with fail
                  refine (spoil_calls HKb.out y hy2 HLY.out (by have := HSM.out.1; omega) pos bts HOK.out.2.1 HOK.out.2.2).mono ?_
                  rintro e w4 ⟨rfl, h4, ht4⟩
                  have H4 := Lib.hid h4
                  have HT4 := Lib.hid ht4
                  have HQ4 := Lib.hid (HQb.out.kept (ht4.mono (S' := fun k => k = c 0 ∨ k = c 1) (fun k e => c_way hy2 e)))
                  have hqn : ¬ gq = c y := fun e => by
                    have := HQR.out.2.1 gq (by rw [HUQ.out]; rfl)
                    rcases c_way hy2 e with h | h <;> omega
                  have hcq4 : w4.cell? ⟨gq, oq, none⟩ = some (.string t0) := ht4.cell (p := ⟨gq, oq, none⟩) HCQ.out hqn
                  have hxn : ¬ xb = c y := fun e => by
                    have := HXN.out
                    rcases c_way hy2 e with h | h <;> omega
                  have z3 : w4.cell? ⟨xb, 3, none⟩ = some (.int .i64 pos) := ht4.cell (p := ⟨xb, 3, none⟩) y3 hxn
                  have z4 : w4.cell? ⟨xb, 4, none⟩ = some (.int .u32 (bts : Nat)) := ht4.cell (p := ⟨xb, 4, none⟩) y4 hxn
                  have HROW4 : Hid (Row w4 9 (.slice (some ⟨gq, oq, none⟩) nq cq') (stV (L y))) := Lib.hid (by rw [← HUQ.out]; exact HQR.out.1.kept ht4 (fun g hg e => by
                    have := HQR.out.2.1 g hg
                    rcases c_way hy2 e with h | h <;> omega))
                  have HS4 : Hid (mb < w4.heap.size ∧ w.heap.size ≤ w4.heap.size) := Lib.hid ⟨Nat.lt_of_lt_of_le HMBL.out ht4.size, Nat.le_trans HTb.out.size ht4.size⟩
                  have hgq4 : gq < w4.heap.size := Nat.lt_of_lt_of_le hgq ht4.size
                  have hxb4 : xb < w4.heap.size := World.block_lt_of_cell? w4 _ z3
                  clear h4 ht4 hqc hqn hxn y0 y1 y3 y4
                  have HRS := Lib.hid (fun W => refspoil_calls t0 pos bts W HSM.out.1 HOK.out.2.2)
                  have hxs : (turnT t0 pos bts).size ≤ 20 := by rw [turnT_size]; exact HSM.out.1
                  obtain ⟨X0, hX0⟩ : ∃ X, X = turnT t0 pos bts := ⟨_, rfl⟩
                  rw [← hX0] at hxs HRS
                  have HX0 := Lib.hid hX0
                  clear hX0
                  have hz1I : (1 : Int) ≤ (nq : Int) := by omega
                  have HCL4 : Hid (∀ j u, (stV (L y))[j]? = some u → w4.cell? ⟨gq, oq + j, none⟩ = some u) := Lib.hid (by
                    obtain ⟨g', o', k', hv', _, _, _, hc'⟩ := HROW4.out.reads.addr (by rw [stV_length, ← HNQ.out]; omega)
                    injection hv' with e1 _ _
                    injection e1 with e1
                    injection e1 with e1 e2
                    subst e1
                    subst e2
                    exact hc')
                  have HNL2 : Hid ((stV l0).length = nq - 1) := HNL4
                  have HTL : Hid (∀ W, Touch (fun k => w4.heap.size ≤ k) w4 W → Src Try.prog 1 29 (.slice (if cq' = 1 then some ⟨gq, oq, none⟩ else some ⟨gq, oq + 1, none⟩) (nq - 1) (cq' - 1)) (nq - 1) (stV l0) W) := Lib.hid (fun W hW => by
                    have hr := ri_drop (W := W) (g := gq) (off := oq) (n := nq) (k := cq') (xs := stV (L y)) (T := stV l0) (by rw [stV_length, HNQ.out]) (by omega) (by omega) (by unfold maxLen; omega) (by rw [HLY.out]; rfl) (fun j u hu => hW.cell (HCL4.out j u hu) (by show ¬ w4.heap.size ≤ gq; omega))
                    have hs := hr.src Try.underlying29 (stV_one _)
                    rw [HNL2.out] at hs
                    exact hs)
                  have hnl9 : nq ≤ 64 := hle
                  go_upto_region 48 with fail
                  refine wp_region_inv5 (fun _ W => Touch (fun k => w4.heap.size ≤ k) w4 W) (lk5I w4.heap.size (.slice (some ⟨gq, oq, none⟩) nq cq') (.slice (if cq' = 1 then some ⟨gq, oq, none⟩ else some ⟨gq, oq + 1, none⟩) (nq - 1) (cq' - 1)) gq oq xb t0 X0 pos bts (stV l0)) (by kernel_rfl) (by kernel_rfl) (by kernel_rfl) ((Touch.refl _ _).drew) ?_ ?_
                  · intro i o hio ls a W hun hcl hdl hC hbase hkeep hdone
                    have hlt := op_lt hio
                    obtain ⟨hbd, hbs, hbb⟩ := hbase
                    have hNW : w4.heap.size ≤ W.heap.size := hC.size
                    have hq0 : W.cell? ⟨gq, oq, none⟩ = some (.string t0) := hC.cell hcq4 (by show ¬ w4.heap.size ≤ gq; omega)
                    have hz3 : W.cell? ⟨xb, 3, none⟩ = some (.int .i64 pos) := hC.cell z3 (by show ¬ w4.heap.size ≤ xb; omega)
                    have hz4 : W.cell? ⟨xb, 4, none⟩ = some (.int .u32 (bts : Nat)) := hC.cell z4 (by show ¬ w4.heap.size ≤ xb; omega)
                    rcases (by simp at hlt; omega : i = 0 ∨ i = 1 ∨ i = 2 ∨ i = 3 ∨ i = 4 ∨ i = 5 ∨ i = 6 ∨ i = 7 ∨ i = 8 ∨ i = 9 ∨ i = 10 ∨ i = 11 ∨ i = 12) with rfl | rfl | rfl | rfl | rfl | rfl | rfl | rfl | rfl | rfl | rfl | rfl | rfl
                    · simp only [List.getElem?_toArray, List.getElem?_cons_zero, List.getElem?_cons_succ, Option.some.injEq] at hio
                      subst hio
                      refine ⟨rfl, ?_⟩
                      have hl9 : ls.getD 12 true = false := by
                        cases hls : ls.getD 12 true with
                        | false => rfl
                        | true => exact absurd (r4_edge 0 (by kernel_rfl) (hcl 12 _ rfl hls)) (by rw [hun]; decide)
                      have b14 : a.tmps[14]?.getD undef = .slice (some ⟨gq, oq, none⟩) nq cq' := by rw [hkeep 12 _ 14 rfl hl9 rfl]; rfl
                      refine r4_val (v := .slice (some ⟨gq, oq, none⟩) nq cq') ?_ ⟨_, rfl, rfl, hC, fun _ _ h => h⟩
                      simp [execOp, Act.eval, b14]
                    · simp only [List.getElem?_toArray, List.getElem?_cons_zero, List.getElem?_cons_succ, Option.some.injEq] at hio
                      subst hio
                      have t242 : a.tmps[242]?.getD undef = .slice (some ⟨gq, oq, none⟩) nq cq' := by simpa [valOf, lk5I] using hdone 0 _ rfl (r4_edge 0 (by kernel_rfl) hdl)
                      refine ⟨rfl, ?_⟩
                      refine r4_val (v := .pointer (some ⟨gq, oq, none⟩)) ?_ ⟨_, rfl, rfl, hC, fun _ _ h => h⟩
                      simp [execOp, Act.eval, t242]
                      try go_simp
                    · simp only [List.getElem?_toArray, List.getElem?_cons_zero, List.getElem?_cons_succ, Option.some.injEq] at hio
                      subst hio
                      have t243 : a.tmps[243]?.getD undef = .pointer (some ⟨gq, oq, none⟩) := by simpa [valOf, lk5I] using hdone 1 _ rfl (r4_edge 1 (by kernel_rfl) hdl)
                      refine ⟨rfl, ?_⟩
                      refine r4_val (v := .string t0) ?_ ⟨_, rfl, rfl, hC, fun _ _ h => h⟩
                      simp [execOp, Act.eval, t243]
                      try go_simp
                    · simp only [List.getElem?_toArray, List.getElem?_cons_zero, List.getElem?_cons_succ, Option.some.injEq] at hio
                      subst hio
                      refine ⟨rfl, ?_⟩
                      have b9 : a.tmps[9]?.getD undef = .pointer (some ⟨xb, 0, none⟩) := by rw [(hbb 9 (noDst_spec (by kernel_rfl)))]; rfl
                      refine r4_val (v := .pointer (some ⟨xb, 3, none⟩)) ?_ ⟨_, rfl, rfl, hC, fun _ _ h => h⟩
                      simp [execOp, Act.eval, b9]
                      try go_simp
                    · simp only [List.getElem?_toArray, List.getElem?_cons_zero, List.getElem?_cons_succ, Option.some.injEq] at hio
                      subst hio
                      have t245 : a.tmps[245]?.getD undef = .pointer (some ⟨xb, 3, none⟩) := by simpa [valOf, lk5I] using hdone 3 _ rfl (r4_edge 3 (by kernel_rfl) hdl)
                      refine ⟨rfl, ?_⟩
                      refine r4_val (v := .int .i64 pos) ?_ ⟨_, rfl, rfl, hC, fun _ _ h => h⟩
                      simp [execOp, Act.eval, t245]
                      try go_simp
                    · simp only [List.getElem?_toArray, List.getElem?_cons_zero, List.getElem?_cons_succ, Option.some.injEq] at hio
                      subst hio
                      refine ⟨rfl, ?_⟩
                      have b9 : a.tmps[9]?.getD undef = .pointer (some ⟨xb, 0, none⟩) := by rw [(hbb 9 (noDst_spec (by kernel_rfl)))]; rfl
                      refine r4_val (v := .pointer (some ⟨xb, 4, none⟩)) ?_ ⟨_, rfl, rfl, hC, fun _ _ h => h⟩
                      simp [execOp, Act.eval, b9]
                      try go_simp
                    · simp only [List.getElem?_toArray, List.getElem?_cons_zero, List.getElem?_cons_succ, Option.some.injEq] at hio
                      subst hio
                      have t247 : a.tmps[247]?.getD undef = .pointer (some ⟨xb, 4, none⟩) := by simpa [valOf, lk5I] using hdone 5 _ rfl (r4_edge 5 (by kernel_rfl) hdl)
                      refine ⟨rfl, ?_⟩
                      refine r4_val (v := .int .u32 (bts : Nat)) ?_ ⟨_, rfl, rfl, hC, fun _ _ h => h⟩
                      simp [execOp, Act.eval, t247]
                      try go_simp
                    · simp only [List.getElem?_toArray, List.getElem?_cons_zero, List.getElem?_cons_succ, Option.some.injEq] at hio
                      subst hio
                      have t244 : a.tmps[244]?.getD undef = .string t0 := by simpa [valOf, lk5I] using hdone 2 _ rfl (r4_edge 2 (by kernel_rfl) hdl)
                      have t246 : a.tmps[246]?.getD undef = .int .i64 pos := by simpa [valOf, lk5I] using hdone 4 _ rfl (r4_edge 4 (by kernel_rfl) hdl)
                      have t248 : a.tmps[248]?.getD undef = .int .u32 (bts : Nat) := by simpa [valOf, lk5I] using hdone 6 _ rfl (r4_edge 6 (by kernel_rfl) hdl)
                      refine ⟨rfl, ?_⟩
                      refine r4_call (R := fun r W' => r = .string X0 ∧ Touch (fun _ => False) W W') (f := 35) (args := #[.string t0, .int .i64 pos, .int .u32 (bts : Nat)]) ?_ ((HRS.out W).mono fun e W' h => ⟨_, h.1, (⟨rfl, h.2⟩ : (_ : Value) = .string X0 ∧ Touch (fun _ => False) W W')⟩) (fun v W' hw => ⟨_, rfl, hw.1, hC.trans (hw.2.mono (fun _ e => e.elim)), lk5I_still hw.2⟩)
                      simp [execOp, resolve, invoke, Act.eval, t244, t246, t248]
                      try rfl
                    · simp only [List.getElem?_toArray, List.getElem?_cons_zero, List.getElem?_cons_succ, Option.some.injEq] at hio
                      subst hio
                      have t249 : a.tmps[249]?.getD undef = .string X0 := by simpa [valOf, lk5I] using hdone 7 _ rfl (r4_edge 7 (by kernel_rfl) hdl)
                      refine ⟨rfl, ?_⟩
                      refine ri_step (v := .slice (some ⟨W.heap.size, 0, none⟩) 1 1) (w' := W.alloc (.cells #[.string X0] 9)) ?_ ⟨_, rfl, One.made W 9 _ hNW, hC.trans (((Touch.refl (fun _ => False) W).alloc _).mono (fun _ e => e.elim)), lk5I_still ((Touch.refl _ W).alloc _)⟩
                      simp [execOp, Act.eval, t249]
                      try go_simp
                    · simp only [List.getElem?_toArray, List.getElem?_cons_zero, List.getElem?_cons_succ, Option.some.injEq] at hio
                      subst hio
                      refine ⟨rfl, ?_⟩
                      have hl9 : ls.getD 12 true = false := by
                        cases hls : ls.getD 12 true with
                        | false => rfl
                        | true => exact absurd (r4_edge 9 (by kernel_rfl) (hcl 12 _ rfl hls)) (by rw [hun]; decide)
                      have b14 : a.tmps[14]?.getD undef = .slice (some ⟨gq, oq, none⟩) nq cq' := by rw [hkeep 12 _ 14 rfl hl9 rfl]; rfl
                      refine r4_val (v := .slice (some ⟨gq, oq, none⟩) nq cq') ?_ ⟨_, rfl, rfl, hC, fun _ _ h => h⟩
                      simp [execOp, Act.eval, b14]
                    · simp only [List.getElem?_toArray, List.getElem?_cons_zero, List.getElem?_cons_succ, Option.some.injEq] at hio
                      subst hio
                      have t251 : a.tmps[251]?.getD undef = .slice (some ⟨gq, oq, none⟩) nq cq' := by simpa [valOf, lk5I] using hdone 9 _ rfl (r4_edge 9 (by kernel_rfl) hdl)
                      refine ⟨rfl, ?_⟩
                      refine r4_val (v := .slice (if cq' = 1 then some ⟨gq, oq, none⟩ else some ⟨gq, oq + 1, none⟩) (nq - 1) (cq' - 1)) ?_ ⟨_, rfl, rfl, hC, fun _ _ h => h⟩
                      simp [execOp, Act.eval, t251, hz1I]
                      try go_simp
                    · simp only [List.getElem?_toArray, List.getElem?_cons_zero, List.getElem?_cons_succ, Option.some.injEq] at hio
                      subst hio
                      have t250 : One W w4.heap.size 9 (.string X0) (a.tmps[250]?.getD undef) := by simpa [valOf, lk5I] using hdone 8 _ rfl (r4_edge 8 (by kernel_rfl) hdl)
                      have t252 : a.tmps[252]?.getD undef = .slice (if cq' = 1 then some ⟨gq, oq, none⟩ else some ⟨gq, oq + 1, none⟩) (nq - 1) (cq' - 1) := by simpa [valOf, lk5I] using hdone 10 _ rfl (r4_edge 10 (by kernel_rfl) hdl)
                      refine ⟨rfl, ?_⟩
                      obtain ⟨v', W', hr, hp, hT⟩ := app_from_one (P := Try.prog) 29 Try.underlying29 hi hz0 hz1 (by omega) (by rfl) t250 (HTL.out W hC) (by omega) hNW
                      refine ri_step (v := v') (w' := W') (ri_app (.tmp 250) (.tmp 252) _ _ rfl ?_) ⟨_, rfl, hp, hC.trans (hT.mono (fun _ e => e.elim)), lk5I_still (hT)⟩
                      simpa [Act.eval, t252] using hr
                    · simp only [List.getElem?_toArray, List.getElem?_cons_zero, List.getElem?_cons_succ, Option.some.injEq] at hio
                      subst hio
                      have t253 : Pin W w4.heap.size 9 (.string X0 :: stV l0) (a.tmps[253]?.getD undef) := by simpa [valOf, lk5I] using hdone 11 _ rfl (r4_edge 11 (by kernel_rfl) hdl)
                      refine ⟨rfl, ?_⟩
                      refine r4_val (v := a.tmps[253]?.getD undef) ?_ ⟨_, rfl, t253, hC, fun _ _ h => h⟩
                      simp [execOp, Act.eval]
                  · intro ls a W hall hC hbase hdone
                    have hact := act_lit hbase [14, 242, 243, 244, 245, 246, 247, 248, 249, 250, 251, 252, 253] (by decide) (by kernel_rfl)
                    obtain ⟨v14, h14⟩ : ∃ v, a.tmps[14]?.getD undef = v := ⟨_, rfl⟩
                    obtain ⟨v242, h242⟩ : ∃ v, a.tmps[242]?.getD undef = v := ⟨_, rfl⟩
                    obtain ⟨v243, h243⟩ : ∃ v, a.tmps[243]?.getD undef = v := ⟨_, rfl⟩
                    obtain ⟨v244, h244⟩ : ∃ v, a.tmps[244]?.getD undef = v := ⟨_, rfl⟩
                    obtain ⟨v245, h245⟩ : ∃ v, a.tmps[245]?.getD undef = v := ⟨_, rfl⟩
                    obtain ⟨v246, h246⟩ : ∃ v, a.tmps[246]?.getD undef = v := ⟨_, rfl⟩
                    obtain ⟨v247, h247⟩ : ∃ v, a.tmps[247]?.getD undef = v := ⟨_, rfl⟩
                    obtain ⟨v248, h248⟩ : ∃ v, a.tmps[248]?.getD undef = v := ⟨_, rfl⟩
                    obtain ⟨v249, h249⟩ : ∃ v, a.tmps[249]?.getD undef = v := ⟨_, rfl⟩
                    obtain ⟨v250, h250⟩ : ∃ v, a.tmps[250]?.getD undef = v := ⟨_, rfl⟩
                    obtain ⟨v251, h251⟩ : ∃ v, a.tmps[251]?.getD undef = v := ⟨_, rfl⟩
                    obtain ⟨v252, h252⟩ : ∃ v, a.tmps[252]?.getD undef = v := ⟨_, rfl⟩
                    obtain ⟨v253, h253⟩ : ∃ v, a.tmps[253]?.getD undef = v := ⟨_, rfl⟩
                    have hp14 : Pin W w4.heap.size 9 (.string X0 :: stV l0) v14 := by rw [← h14]; simpa [valOf, lk5I] using hdone 12 _ rfl
                    have HP := Lib.hid hp14
                    have HTW := Lib.hid (new_touchL hC)
                    clear hall hdone hC hbase hp14
                    dsimp only [layL, Nat.reduceAdd, Nat.reduceBEq, cond_true, cond_false] at hact
                    simp only [h14, h242, h243, h244, h245, h246, h247, h248, h249, h250, h251, h252, h253] at hact
                    clear h14 h242 h243 h244 h245 h246 h247 h248 h249 h250 h251 h252 h253
                    subst hact
                    dsimp only [Exit.then, Exit.inBlock]
                    refine hKK _ W (hJ _ W ?_)
                    repeat apply Exists.intro
                    refine ⟨Lib.hid ⟨_, H4.out.still HTW.out, qrow_new H4.out HS4.out.1 HS4.out.2 (by rw [setL_at, ← HX0.out]; exact HP.out.row) HP.out.own (by rw [setL_at]; exact by rw [← HX0.out]; exact small_cons hxs HSM.out.2), fun x _ hx => by unfold setL; rw [if_neg hx], HQ4.out.kept (HTW.out.mono (fun _ e => e.elim)), HT4.out.trans (HTW.out.mono (fun _ e => e.elim))⟩, rfl⟩
            case rest =>
              obtain ⟨L', hK', hQr, hsame, hQa, hTt⟩ := hcut.out
              have hxn : ¬ xb = c y := fun e => by
                have := HXN.out
                rcases c_way hy2 e with h | h <;> omega
              have z1 : wc.cell? ⟨xb, 1, none⟩ = some (.int .i64 (y : Nat)) := hTt.cell (p := ⟨xb, 1, none⟩) (Block.cell HXB.out 1) hxn
              obtain ⟨aq2, cq2, hvq2, hc21, hc22⟩ := hQr.1.form
              rw [stV_length] at hvq2
              subst hvq2
              obtain ⟨u', hblk, hrow, hmc⟩ := id hQa
              have mf : wc.frozen? ⟨mb, y, none⟩ = false := Block.free hblk y
              have my : wc.cell? ⟨mb, y, none⟩ = some (u' y) := by
                rcases (show y = 0 ∨ y = 1 by omega) with rfl | rfl
                · exact Block.cell hblk 0
                · exact Block.cell hblk 1
              have hms : Touch (fun k => k = mb) wc (wc.setCell ⟨mb, y, none⟩ (.slice aq2 (L' y).length cq2)) := (Touch.refl (fun k => k = mb) wc).setCell (p := ⟨mb, y, none⟩) (Or.inl rfl) _
              have HQ9 : Hid (QAt w (wc.setCell ⟨mb, y, none⟩ (.slice aq2 (L' y).length cq2)) c mb p L') := Lib.hid ((hQa.store hy2 hQr).congr fun x hx => by
                unfold setL
                by_cases e : x = y
                · rw [if_pos e, e]
                · rw [if_neg e, hsame x hx e])
              have HK9 : Hid (LinkAt (wc.setCell ⟨mb, y, none⟩ (.slice aq2 (L' y).length cq2)) p c L') := Lib.hid (hK'.kept hms (fun e => HMB.out.2.1 e.symm) (fun e => HMB.out.2.2.1 e.symm) (fun e => HMB.out.2.2.2 e.symm))
              have HT9 : Hid (Touch (fun k => w.heap.size ≤ k) w (wc.setCell ⟨mb, y, none⟩ (.slice aq2 (L' y).length cq2))) := Lib.hid ((HTb.out.trans (hTt.mono (fun k e => by have := HP.out.2 y hy2; omega))).trans (hms.mono (fun k e => by have := HMB.out.1; omega)))
              clear hQr hsame hQa hTt hxn hblk hrow hmc hcut hms hc21 hc22 hK' hqc y0 y1 y3 y4
              go_upto_region 50 with fail
              generalize wc.setCell ⟨mb, y, none⟩ (.slice aq2 (L' y).length cq2) = w9 at *
              obtain ⟨u9, hblk, hrow, hmc⟩ := HQ9.out
              obtain ⟨a00, c00, hv00, _, _⟩ := (hrow 0 (by omega)).1.form
              obtain ⟨a11, c11, hv11, _, _⟩ := (hrow 1 (by omega)).1.form
              rw [stV_length] at hv00 hv11
              have HLE := Lib.hid (fun W (hT : Touch (fun _ => False) w9 W) (x : Nat) (hx : x < 2) => (llen_calls (HK9.out.still hT) x hx).mono (fun e w' h => (⟨h.1, by rw [h.2]; exact Touch.refl _ _⟩ : e = .returned (.int .i64 ((L' x).length : Nat)) ∧ Touch (fun _ => False) W w')))
              have HBL := Lib.hid hblk
              refine wp_region_quiet_touch (fun _ => False) (by kernel_rfl) (by kernel_rfl) ?_
              have j0 : ∀ T : Wd (fun _ => False) w9, T.V.cell? ⟨mb, 0, none⟩ = some (.slice a00 (L' 0).length c00) := fun T => T.ok.cell (by rw [← hv00]; exact Block.cell HBL.out 0) id
              have j1 : ∀ T : Wd (fun _ => False) w9, T.V.cell? ⟨mb, 1, none⟩ = some (.slice a11 (L' 1).length c11) := fun T => T.ok.cell (by rw [← hv11]; exact Block.cell HBL.out 1) id
              clear hv00 hv11 hblk hrow hmc z1 mf my
              repeat (go_big_quiet_step ((go_at_call 34; first | exact quiet_touch (HLE.out _ (Wd.ok _) 0 (by omega)) | exact quiet_touch (HLE.out _ (Wd.ok _) 1 (by omega)))))
              refine wpQuiet_nil ?_
              intro _ hw6
              obtain ⟨T, hw6e⟩ := hw6
              subst hw6e
              clear j0 j1
              obtain ⟨w6, hw6⟩ : ∃ w6, w6 = T.V := ⟨_, rfl⟩
              rw [← hw6]
              have hT6 : Touch (fun _ => False) w9 w6 := by rw [hw6]; exact T.ok
              clear hw6 T
              have HK6 := Lib.hid (HK9.out.still hT6)
              have HQ6 := Lib.hid (HQ9.out.kept (hT6.mono (fun _ e => e.elim)))
              have HT6 := Lib.hid (HT9.out.trans (hT6.mono (fun _ e => e.elim)))
              clear hT6 HK9 HQ9 HT9 HLE HBL
              go_wp2_with fail
              go_roundw
              case rel => exact ⟨k + 1, L', by omega, by omega, by go_num, HK6, HQ6, HT6⟩
              case measure => simp [intOf]; omega
        · have HLT := Lib.hid hlt2
          clear hlt2
          go_upto_region 11 with fail
          go_cut [46] from 39 to 46 (fun v46 wx => v46 = .bool false ∧ wx = wr)
          case first =>
            by_cases hlt : k < l.length
            · have hltI : (k : Int) < (l.length : Int) := by omega
              have hlt60I : ¬ (k : Int) < 60 := by have := HLT.out; omega
              go_wp2_with fail
              go_meet
              exact ⟨rfl, rfl⟩
            · have hltI : ¬ (k : Int) < (l.length : Int) := by omega
              go_wp2_with fail
              go_meet
              exact ⟨rfl, rfl⟩
          case rest =>
            obtain ⟨rfl, hwc⟩ := hcut
            obtain rfl : wr = wc := hwc.symm
            clear HLT
            have HK0 : Hid (LinkAt wr p c (lwL L 0 0)) := Lib.hid (HK.out.congr fun x _ => by unfold lwL; rw [if_neg (by omega)]; split <;> rfl)
            have HLE64 := Lib.hid (fun x hx => HK.out.le x hx)
            clear HK
            go_wp2_with fail
            go_loopw [19] (fun wv wy => ∃ W : Nat, W ≤ 2 ∧ wv = .int .i64 (W : Nat) ∧ RowKit.Hid (LinkAt wy p c (lwL L W 0)) ∧ RowKit.Hid (QAt w wy c mb p L) ∧ RowKit.Hid (Touch (fun k => w.heap.size ≤ k) w wy)) (fun wv _ => 2 - (intOf wv).toNat)
            case atStart => exact ⟨0, by omega, rfl, HK0, HQ, HT⟩
            case round =>
              clear HK0 HQ HT
              obtain ⟨W, hW2, rfl, HK, HQ, HT⟩ := hrel
              by_cases hlW : W < 2
              · have hlWI : (W : Int) < 2 := by omega
                have hW0 : ¬ (W : Int) < 0 := by omega
                go_wp2_with fail
                go_loopw [20] (fun iv wz => ∃ i : Nat, i ≤ (L W).length ∧ iv = .int .i64 (i : Nat) ∧ RowKit.Hid (LinkAt wz p c (lwL L W i)) ∧ RowKit.Hid (QAt w wz c mb p L) ∧ RowKit.Hid (Touch (fun k => w.heap.size ≤ k) w wz)) (fun iv _ => (L W).length - (intOf iv).toNat)
                case atStart => exact ⟨0, Nat.zero_le _, rfl, HK, HQ, HT⟩
                case round =>
                  clear HK HQ HT
                  obtain ⟨i, hi9, rfl, HK, HQ, HT⟩ := hrel
                  obtain ⟨u9, hblk, hrow, hmc⟩ := HQ.out
                  have HRW := Lib.hid (hrow W hlW)
                  obtain ⟨aw, cw, hvw, hcw1, hcw2⟩ := HRW.out.1.form
                  rw [stV_length] at hvw hcw1
                  have my : wr.cell? ⟨mb, W, none⟩ = some (u9 W) := by
                    rcases (show W = 0 ∨ W = 1 by omega) with rfl | rfl
                    · exact Block.cell hblk 0
                    · exact Block.cell hblk 1
                  rw [hvw] at my
                  have hnl : (L W).length ≤ 64 := HLE64.out W hlW
                  obtain ⟨nl, hnlE⟩ : ∃ nl, nl = (L W).length := ⟨_, rfl⟩
                  rw [← hnlE] at my hnl hi9 hcw1 hvw
                  have HNL := Lib.hid hnlE
                  have HVW := Lib.hid hvw
                  unfold maxLen at hcw2
                  clear hblk hrow hmc hnlE hvw
                  by_cases hin : i < nl
                  · have hinI : (i : Int) < (nl : Int) := by omega
                    have hml : i < (L W).length := by rw [← HNL.out]; exact hin
                    obtain ⟨gx, ox, cx, hv, _, _, hgx, hcx⟩ := HRW.out.1.reads.addr (by rw [stV_length]; omega)
                    rw [stV_length, ← HNL.out, HVW.out] at hv
                    injection hv with e1 _ e3
                    subst e1
                    obtain rfl : cx = cw := e3.symm
                    have hcell := hcx i (.string (L W)[i]) (by simp [stV, List.getElem?_map, List.getElem?_eq_getElem hml])
                    obtain ⟨t, ht⟩ : ∃ t, t = (L W)[i] := ⟨_, rfl⟩
                    rw [← ht] at hcell
                    have hll : lwL L W i W = t :: (L W).drop (i + 1) := by
                      unfold lwL
                      rw [if_neg (by omega), if_pos rfl, ht]
                      exact List.drop_eq_getElem_cons hml
                    have hown := HRW.out.2.1 gx (by rw [HVW.out]; rfl)
                    clear hcx ht
                    go_wp2_with fail
                    refine (take_some HK.out W hlW hll).mono ?_
                    rintro e w4 ⟨rfl, h4, ht4⟩
                    have hgn : ¬ gx = c W := fun e => by rcases c_way hlW e with h | h <;> omega
                    have hmn : ¬ mb = c W := fun e => by
                      have := HMB.out
                      rcases c_way hlW e with h | h
                      · exact this.2.2.1 h
                      · exact this.2.2.2 h
                    replace hcell := ht4.cell (p := ⟨gx, ox + i, none⟩) hcell hgn
                    replace my := ht4.cell (p := ⟨mb, W, none⟩) my hmn
                    have H4 : Hid (LinkAt w4 p c (lwL L W (i + 1))) := Lib.hid (h4.congr fun x hx => by
                      unfold setL lwL
                      by_cases e : x = W
                      · rw [if_pos e, if_neg (by omega), if_pos e, e]
                      · rw [if_neg e]
                        by_cases e2 : x < W
                        · rw [if_pos e2, if_pos e2]
                        · rw [if_neg e2, if_neg e2, if_neg e, if_neg e])
                    have HQ4 := Lib.hid (HQ.out.kept (ht4.mono (S' := fun k => k = c 0 ∨ k = c 1) (fun k e => c_way hlW e)))
                    have HT4 := Lib.hid (HT.out.trans (ht4.mono (fun k e => by have := HP.out.2 W hlW; omega)))
                    clear h4 ht4 hgn hmn hll hown
                    go_wp2_with fail
                    go_roundw
                    case rel => exact ⟨i + 1, by omega, by go_num, H4, HQ4, HT4⟩
                    case measure => simp [intOf]; omega
                  · have hinI : ¬ (i : Int) < (nl : Int) := by omega
                    have H4 : Hid (LinkAt wr p c (lwL L (W + 1) 0)) := Lib.hid (HK.out.congr fun x hx => by
                      unfold lwL
                      by_cases e : x = W
                      · rw [if_neg (by omega), if_pos e, if_pos (by omega), e]
                        exact List.drop_eq_nil_of_le (by have := HNL.out; omega)
                      · by_cases e2 : x < W
                        · rw [if_pos e2, if_pos (by omega)]
                        · rw [if_neg e2, if_neg e, if_neg (by omega)]
                          split <;> rfl)
                    go_wp2_with fail
                    go_roundw
                    case rel => exact ⟨W + 1, by omega, by go_num, H4, HQ, HT⟩
                    case measure => simp [intOf]; omega
              · have hlWI : ¬ (W : Int) < 2 := by omega
                have H0 := Lib.hid (fun x (hx : x < 2) => llen_calls HK.out x hx)
                have hz0 : (lwL L W 0 0).length = 0 := by unfold lwL; rw [if_pos (by omega)]; rfl
                have hz1' : (lwL L W 0 1).length = 0 := by unfold lwL; rw [if_pos (by omega)]; rfl
                have HA := Lib.hid (H0.out 0 (by omega))
                have HB := Lib.hid (H0.out 1 (by omega))
                rw [hz0] at HA
                rw [hz1'] at HB
                clear H0
                go_wp2_with fail
                refine HA.out.mono ?_
                rintro e w' ⟨rfl, rfl⟩
                go_wp2_with fail
                refine HB.out.mono ?_
                rintro e w' ⟨rfl, rfl⟩
                go_wp2_with fail
                go_ret
                exact ⟨rfl, lk_new HT.out⟩
end Go.Proofs.Ytimiiahhedpfaaa

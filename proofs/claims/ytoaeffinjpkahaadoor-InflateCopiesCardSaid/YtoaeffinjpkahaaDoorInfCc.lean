/- Copies: slices.Clone, a window's copy, a reader's fork. -/
import Derived.Test.YtoaeffinjpkahaaDoorInfD
import Derived.Lib.Slices
import Derived.Test.YtoaeffinjpkahaaDoorInfJ
namespace Go.Proofs.YtoaeffinjpkahaaDoor
set_option linter.unusedSimpArgs false
set_option linter.unusedVariables false
open Go Go.RowKit
set_option maxRecDepth 100000

set_option maxHeartbeats 400000 in
theorem clone_b (xs : List Value) (v : Value) (w : World) (hv : Reads w v xs) (h1 : ∀ u ∈ xs, u.oneCell' = true) (hn : xs.length ≤ 1048576) :
    Calls Tryd.prog 38 #[v] w fun e w' => ∃ r, e = .returned r ∧ Row w' 5 r xs ∧ (∀ g, r.ownBlock = some g → w.heap.size ≤ g) ∧ Touch (fun _ => False) w w' ∧ (v = .slice none 0 0 → r = .slice none 0 0) := by
  obtain ⟨i0, hi, hz0, hz1, hz2⟩ := info_parts Tryd.infoB
  obtain ⟨a, cap, hv', hc1, hc2⟩ := hv.form
  subst hv'
  unfold maxLen at hc2
  have heq := fun (a : Option Addr) (n : Nat) (W : World) => Lib.run_eql_slice_nil (P := Tryd.prog) W 58 5 a n cap 0 0 Tryd.underlying58
  cases a with
  | none =>
    obtain rfl : xs = [] := by
      obtain ⟨a', cap', he, _, _, h3⟩ := hv
      injection he with he _ _
      subst he
      rcases h3 with h3 | ⟨_, _, h3, _⟩
      · exact h3
      · cases h3
    go_enter Tryd.func38, Tryd.ntmps38
    go_wp2
    go_ret
    exact ⟨_, rfl, Row.nil _ _, fun g hg => (by cases hg), Touch.refl _ _, fun _ => rfl⟩
  | some a =>
    have hsrc : ∀ W, Touch (fun _ => False) w W → Src Tryd.prog 1 58 (.slice (some a) xs.length cap) xs.length xs W := fun W hW => (hv.still hW).src Tryd.underlying58 h1
    clear hv h1
    go_enter Tryd.func38, Tryd.ntmps38
    go_wp2_with (at_builtin; refine wpList_append_row _ rfl (.tmp 5) (.tmp 6) 58 58 rfl 5 i0 _ 1 Tryd.underlying58 hi hz0 hz1 hz2 rfl (.slice (some ⟨w.heap.size, 0, none⟩) 0 0) [] rfl (by exact .inr ⟨_, 0, 0, #[], rfl, heap_alloc_new w _, Nat.le_refl _, Nat.zero_le _, Nat.le_refl _, rfl⟩) (.slice (some a) xs.length cap) rfl xs.length xs (by exact hsrc _ ((Touch.refl _ _).alloc _)) (by unfold maxLen; simp; omega) (by simp; omega) ?_; intro v2 w2 hrow2 hgrow hown2)
    go_ret
    refine ⟨_, rfl, hrow2, fun g hg => ?_, (Touch.refl _ _).alloc _ |>.grown hgrow (fun k hk => ?_), fun e => by cases e⟩
    · have hg' : v2.ownBlock = some g := hg
      rcases hown2 with h | h
      · rw [h] at hg'
        have : w.heap.size = g := Option.some.inj hg'
        omega
      · rw [h] at hg'
        have : (w.alloc (.cells #[] 5)).heap.size = g := Option.some.inj hg'
        simp at this
        omega
    · simp [Value.ownBlock] at hk
      right; omega
set_option maxHeartbeats 400000 in
theorem clone_i (xs : List Value) (v : Value) (w : World) (hv : Reads w v xs) (h1 : ∀ u ∈ xs, u.oneCell' = true) (hn : xs.length ≤ 1048576) :
    Calls Tryd.prog 41 #[v] w fun e w' => ∃ r, e = .returned r ∧ Row w' 3 r xs ∧ (∀ g, r.ownBlock = some g → w.heap.size ≤ g) ∧ Touch (fun _ => False) w w' ∧ (v = .slice none 0 0 → r = .slice none 0 0) := by
  obtain ⟨i0, hi, hz0, hz1, hz2⟩ := info_parts Tryd.info3
  obtain ⟨a, cap, hv', hc1, hc2⟩ := hv.form
  subst hv'
  unfold maxLen at hc2
  have heq := fun (a : Option Addr) (n : Nat) (W : World) => Lib.run_eql_slice_nil (P := Tryd.prog) W 41 3 a n cap 0 0 Tryd.underlying41
  cases a with
  | none =>
    obtain rfl : xs = [] := by
      obtain ⟨a', cap', he, _, _, h3⟩ := hv
      injection he with he _ _
      subst he
      rcases h3 with h3 | ⟨_, _, h3, _⟩
      · exact h3
      · cases h3
    go_enter Tryd.func41, Tryd.ntmps41
    go_wp2
    go_ret
    exact ⟨_, rfl, Row.nil _ _, fun g hg => (by cases hg), Touch.refl _ _, fun _ => rfl⟩
  | some a =>
    have hsrc : ∀ W, Touch (fun _ => False) w W → Src Tryd.prog 1 41 (.slice (some a) xs.length cap) xs.length xs W := fun W hW => (hv.still hW).src Tryd.underlying41 h1
    clear hv h1
    go_enter Tryd.func41, Tryd.ntmps41
    go_wp2_with (at_builtin; refine wpList_append_row _ rfl (.tmp 5) (.tmp 6) 41 41 rfl 3 i0 _ 8 Tryd.underlying41 hi hz0 hz1 hz2 rfl (.slice (some ⟨w.heap.size, 0, none⟩) 0 0) [] rfl (by exact .inr ⟨_, 0, 0, #[], rfl, heap_alloc_new w _, Nat.le_refl _, Nat.zero_le _, Nat.le_refl _, rfl⟩) (.slice (some a) xs.length cap) rfl xs.length xs (by exact hsrc _ ((Touch.refl _ _).alloc _)) (by unfold maxLen; simp; omega) (by simp; omega) ?_; intro v2 w2 hrow2 hgrow hown2)
    go_ret
    refine ⟨_, rfl, hrow2, fun g hg => ?_, (Touch.refl _ _).alloc _ |>.grown hgrow (fun k hk => ?_), fun e => by cases e⟩
    · have hg' : v2.ownBlock = some g := hg
      rcases hown2 with h | h
      · rw [h] at hg'
        have : w.heap.size = g := Option.some.inj hg'
        omega
      · rw [h] at hg'
        have : (w.alloc (.cells #[] 3)).heap.size = g := Option.some.inj hg'
        simp at this
        omega
    · simp [Value.ownBlock] at hk
      right; omega

set_option maxHeartbeats 1000000 in
theorem icopied_calls {φ : TypeId × (Nat → Option Value)} (b o : Nat) (all : List UInt8) (row0 : Option Nat) (w : World) (h : WinAt φ w b o all row0) :
    Calls Tryd.prog 40 #[.pointer (some ⟨b, o, none⟩)] w fun e w' => ∃ b2 R v2, e = .returned (.pointer (some ⟨b2, 0, none⟩)) ∧ w.heap.size ≤ b2 ∧ Block w' b2 77 [v2, .int .i64 (all.length : Nat)] ∧ Row w' 5 v2 (byteVs R) ∧ RingOf R all ∧ (∀ k, v2.ownBlock = some k → w.heap.size ≤ k ∧ k < b2) ∧ Touch (fun _ => False) w w' ∧ (w.cell? ⟨b, o, none⟩ = some (.slice none 0 0) → v2 = .slice none 0 0) := by
  obtain ⟨R, v, ⟨c0, c1, f0, f1, _⟩, hrow, hap, rfl, hR⟩ := h
  have hRl := hR.1
  have HCL := Lib.hid (fun W (ht : Touch (fun _ => False) w W) => clone_b (byteVs R) v W (hrow.reads.still ht) (by simp [byteVs, Value.oneCell']) (by rw [byteVs_length]; omega))
  have HR := Lib.hid hR
  have hlb := World.block_lt_of_cell? w _ c0
  have HC0 := Lib.hid c0
  clear hR hRl hrow hap
  go_enter Tryd.func40, Tryd.ntmps40
  go_wp2_with fail
  go_region_held3 (fun W => W.cell? ⟨b, o, none⟩ = some v ∧ W.cell? ⟨b, o + 1, none⟩ = some (.int .i64 (all.length : Nat)))
    (first | exact ⟨hT9.cell c0 id, hT9.cell c1 id⟩ | go_keep)
    (first | (go_at_call 38; refine (HCL.out _ (by first | exact Touch.refl _ _ | exact (Touch.refl _ _).drew | exact (Touch.refl _ _).drew.drew)).mono ?_; rintro e w9 ⟨r, rfl, hr9, hs9, ht9, hn9⟩; have hT9 : Touch (fun _ => False) w w9 := (by first | exact ht9 | exact ((Touch.refl _ _).drew).trans ht9 | exact ((Touch.refl _ _).drew.drew).trans ht9); obtain ⟨ra, rcap, hre, hrc1, hrc2⟩ := hr9.form; subst hre))
  all_goals
    clear c0 c1 f0 f1 HCL
    go_wp2
    go_ret
    have hal := (Touch.refl (fun _ => False) w9).alloc (.cells #[.slice ra (byteVs R).length rcap, .int .i64 (all.length : Nat)] 77)
    exact ⟨w9.heap.size, R, _, rfl, hT9.size, Block.new w9 _ [.slice ra (byteVs R).length rcap, .int .i64 (all.length : Nat)], hr9.kept hal (fun _ _ => id), HR.out, fun k hk => ⟨hs9 k hk, hr9.lt k hk⟩, hT9.alloc _, fun e => hn9 (by have := HC0.out.symm.trans e; exact Option.some.inj this)⟩
end Go.Proofs.YtoaeffinjpkahaaDoor
/- A reader's fork: another one of the same bits. -/
namespace Go.Proofs.YtoaeffinjpkahaaDoor
set_option linter.unusedSimpArgs false
set_option linter.unusedVariables false
open Go Go.RowKit
set_option maxRecDepth 100000

theorem bytesK_whole' (k : Nat) : ∀ l : List Nat, (∀ x ∈ l, x < 2) → l.length = 8 * k → bitsL (bytesK k l) = l := by
  induction k with
  | zero =>
    intro l _ h
    have : l = [] := List.length_eq_zero_iff.1 (by omega)
    subst this; rfl
  | succ k ih =>
    intro l h2 h
    have h8 : (l.take 8).length = 8 := by rw [List.length_take]; omega
    have hx : numN (l.take 8) < 256 := by
      have := numN_lt (l.take 8) (fun x hx => h2 x (List.mem_of_mem_take hx))
      rw [h8] at this; exact this
    have e1 : (UInt8.ofNat (numN (l.take 8))).toNat = numN (l.take 8) := by rw [UInt8.toNat_ofNat']; omega
    have e2 : bitsN 8 (numN (l.take 8)) = l.take 8 := by
      have := bitsN_numN (l.take 8) (fun x hx => h2 x (List.mem_of_mem_take hx))
      rw [h8] at this; exact this
    show bitsN 8 (UInt8.ofNat (numN (l.take 8))).toNat ++ bitsL (bytesK k (l.drop 8)) = l
    rw [e1, e2, ih (l.drop 8) (fun x hx => h2 x (List.mem_of_mem_drop hx)) (by rw [List.length_drop]; omega)]
    exact List.take_append_drop 8 l
theorem bits_bytes' (l : List Nat) (h2 : ∀ x ∈ l, x < 2) (h8 : l.length % 8 = 0) : bitsL (bytesL l) = l := bytesK_whole' _ l h2 (by omega)

/-- The byte that brings the bits that are left of one. -/
theorem fork_byte (l : List Nat) (h2 : ∀ x ∈ l, x < 2) (k : Nat) (hk : k ≤ 8) (hl : k ≤ l.length) (N : Nat) (hN : N = numN (l.take k) * 2 ^ (8 - k)) : N < 256 ∧ (bitsL (leB 1 N)).drop (8 - k) = l.take k ∧ (bitsL (leB 1 N)).length = 8 := by
  have hlt : (l.take k).length = k := by rw [List.length_take]; omega
  have hx := numN_lt (l.take k) (fun x hx => h2 x (List.mem_of_mem_take hx))
  rw [hlt] at hx
  have h256 : 2 ^ k * 2 ^ (8 - k) = 256 := by rw [← Nat.pow_add, show k + (8 - k) = 8 by omega]
  have hpos : 0 < 2 ^ (8 - k) := Nat.pow_pos (by decide)
  have hN2 : N < 256 := by rw [hN, ← h256]; exact Nat.mul_lt_mul_of_pos_right hx hpos
  refine ⟨hN2, ?_, ?_⟩
  · rw [bitsL_leB 1 N]
    have e := bitsN_add (8 - k) k 0 (numN (l.take k)) hpos
    rw [show 8 - k + k = 8 * 1 by omega, Nat.zero_add] at e
    rw [hN, e, List.drop_left' (by rw [bitsN_length])]
    have e2 := bitsN_numN (l.take k) (fun x hx => h2 x (List.mem_of_mem_take hx))
    rw [hlt] at e2
    exact e2
  · rw [bitsL_length, leB_length]

theorem left_any {φ : TypeId × (Nat → Option Value)} (b o : Nat) (l : List Nat) (row : Option Nat) (w : World) (h : RdAt φ w b o l row) (hl : l.length < 1000000000) : ∀ q, Calls Tryd.prog 65 #[.pointer (some ⟨b, o, none⟩)] (w.drewN q) fun e w' => e = .returned (.int .i64 (l.length : Nat)) ∧ ∃ m, w' = (w.drewN q).drewN m :=
  fun q => (left_calls b o l row (w.drewN q) (h.kept ((Touch.refl (fun _ => False) w).drewN q) id (fun _ _ => id)) (by omega)).mono (fun e w' hh => ⟨hh.1, 1, hh.2⟩)

/-- A reader that has nothing is fed a part of a byte, and bytes. -/
theorem refill_nil {φ : TypeId × (Nat → Option Value)} {w w' : World} {b o : Nat} {l : List Nat} {row : Option Nat} (h : RdAt φ w b o l row) (ht : Touch (fun _ => False) w w') : RdAt φ w' b o l row := h.kept ht id (fun _ _ => id)

theorem touch_sep {w w1 w2 : World} {pb : Nat} {r r1 : Option Nat} (h1 : Touch (fun k => k = pb ∨ r = some k) w w1) (hs : Sep w.heap.size r r1) (h2 : Touch (fun k => k = pb ∨ r1 = some k) w1 w2) : Touch (fun k => k = pb ∨ r = some k) w w2 := by
  refine h1.trans' h2 (fun k e => ?_)
  rcases e with e | e
  · exact .inl (.inl e)
  · rcases hs with s | ⟨g, s, hg⟩
    · exact .inl (.inr (by rw [← s, e]))
    · rw [s] at e
      exact .inr (by have := Option.some.inj e; omega)
theorem RdAt.rowlt {φ : TypeId × (Nat → Option Value)} {w : World} {b o : Nat} {l : List Nat} {row : Option Nat} (h : RdAt φ w b o l row) : ∀ k, row = some k → k < w.heap.size ∧ k ≠ b := fun k e => by
  obtain ⟨_, _, v, _, hrw, hne, hv, _⟩ := h
  exact ⟨hrw.lt k (by rw [hv, e]), fun e2 => hne (by rw [hv, e, e2])⟩
/-- What is known ahead of each of the two rounds. -/
structure ForkR (φ : TypeId × (Nat → Option Value)) (w : World) (b o fb r0 : Nat) (l : List Nat) (row : Option Nat) (i : Nat) (wr : World) (rowb rowf : Option Nat) : Prop where
  rb : RdAt φ wr b o (if 0 < i then l else []) rowb
  rf : RdAt (75, fun _ => none) wr fb 0 (if 1 < i then l else []) rowf
  sep : Sep w.heap.size row rowb
  far : ∀ k, rowb = some k → (k < w.heap.size ∧ row = some k) ∨ fb + 1 < k
  first : i = 0 → rowb = row
  noth : i ≤ 1 → rowf = Option.none
  apart : ∀ k, rowf = some k → (w.heap.size ≤ k ∧ rowb ≠ some k) ∧ fb < k
  two : Block wr (fb + 1) 85 [.pointer (some ⟨b, o, none⟩), .pointer (some ⟨fb, 0, none⟩)]
  res : Block wr r0 75 [.slice none 0 0, .int .i64 0]
  touch : Touch (fun k => k = b ∨ row = some k) w wr
  size : fb + 1 < wr.heap.size
theorem ForkR.next {φ : TypeId × (Nat → Option Value)} {w wr : World} {b o fb r0 : Nat} {l : List Nat} {row rowb rowf : Option Nat} {i : Nat} (h : ForkR φ w b o fb r0 l row i wr rowb rowf) (hi : i < 2) (hb : b < w.heap.size) (hr0 : w.heap.size ≤ r0) (hfb : r0 < fb) (hrow : ∀ k, row = some k → k < w.heap.size ∧ k ≠ b)  :
    ∃ pb po ψ rowx, wr.cell? ⟨fb + 1, i, none⟩ = some (.pointer (some ⟨pb, po, none⟩)) ∧ RdAt ψ wr pb po [] rowx ∧ ∀ w'' row'', RdAt ψ w'' pb po l row'' → Sep wr.heap.size rowx row'' → Touch (fun k => k = pb ∨ rowx = some k) wr w'' → ∃ rowb' rowf', ForkR φ w b o fb r0 l row (i + 1) w'' rowb' rowf' := by
  obtain ⟨h1, h2, h3, h4, h5, h6, h7, h8, h9, h10, h11⟩ := h
  have hsz := h10.size
  rcases (show i = 0 ∨ i = 1 by omega) with rfl | rfl
  · obtain rfl := h5 rfl
    obtain rfl := h6 (by decide)
    refine ⟨b, o, φ, rowb, by rw [Block.cell h8 0]; rfl, h1, fun w2 row2 k1 k2 k3 => ⟨row2, none, ?_⟩⟩
    have hs : ∀ k, (k = b ∨ rowb = some k) → k < w.heap.size := fun k e => by
      rcases e with e | e
      · omega
      · exact (hrow k e).1
    have q1 : Sep w.heap.size rowb row2 := by
      rcases k2 with k2 | ⟨g, k2, hg⟩
      · exact .inl k2
      · exact .inr ⟨g, k2, by omega⟩
    have q2 : ∀ k, row2 = some k → (k < w.heap.size ∧ rowb = some k) ∨ fb + 1 < k := fun k e => by
      rcases k2 with k2 | ⟨g, k2, hg⟩
      · rw [k2] at e
        exact .inl ⟨(hrow k e).1, e⟩
      · rw [k2] at e
        exact .inr (by have := Option.some.inj e; omega)
    exact ⟨k1, h2.kept k3 (fun e => (by have := hs _ e; omega)) (fun g e => (by cases e)), q1, q2, fun e => (by omega), fun _ => rfl, fun k e => (by cases e), h8.kept k3 (fun e => (by have := hs _ e; omega)), h9.kept k3 (fun e => (by have := hs _ e; omega)), h10.trans k3, Nat.lt_of_lt_of_le h11 k3.size⟩
  · obtain rfl := h6 (Nat.le_refl _)
    have hl1 := h1.rowlt
    refine ⟨fb, 0, _, none, by rw [Block.cell h8 1]; rfl, h2, fun w2 row2 k1 k2 k3 => ⟨rowb, row2, ?_⟩⟩
    have hs : ∀ k, (k = fb ∨ (none : Option Nat) = some k) → k = fb := fun k e => by
      rcases e with e | e
      · exact e
      · cases e
    refine ⟨h1.kept k3 (fun e => (by have := hs _ e; omega)) (fun g e e2 => ?_), k1, h3, h4, fun e => (by omega), fun e => (by omega), fun k e => ?_, h8.kept k3 (fun e => (by have := hs _ e; omega)), h9.kept k3 (fun e => (by have := hs _ e; omega)), h10.trans' k3 (fun k e => (by have := hs _ e; exact .inr (by omega))), Nat.lt_of_lt_of_le h11 k3.size⟩
    · have := hs _ e2
      rcases h4 g e with q | q
      · omega
      · omega
    · rcases k2 with k2 | ⟨g, k2, hg⟩
      · rw [k2] at e; cases e
      · rw [k2] at e
        have e9 := Option.some.inj e
        exact ⟨⟨by omega, fun e2 => by have := (hl1 k e2).1; omega⟩, by omega⟩
set_option maxHeartbeats 4000000 in
theorem fork_calls {φ : TypeId × (Nat → Option Value)} (b o : Nat) (l : List Nat) (row : Option Nat) (w : World) (h : RdAt φ w b o l row) (h2 : ∀ x ∈ l, x < 2) (hl : l.length < 900000000) :
    Calls Tryd.prog 39 #[.pointer (some ⟨b, o, none⟩)] w fun e w' => ∃ v g row', e = .returned (.agg #[v, .int .i64 (g : Nat)]) ∧ RdV w' v g l ∧ RdAt φ w' b o l row' ∧ Sep w.heap.size row row' ∧ (∀ k, v.ownBlock = some k → w.heap.size ≤ k ∧ row' ≠ some k) ∧ Touch (fun k => k = b ∨ row = some k) w w' := by
  obtain ⟨n, hn⟩ : ∃ n, n = l.length := ⟨_, rfl⟩
  obtain ⟨k, hk⟩ : ∃ k, k = l.length % 8 := ⟨_, rfl⟩
  have hk8 : k < 8 := by omega
  obtain ⟨F, hF⟩ : ∃ F, F = numN (l.take k) := ⟨_, rfl⟩
  obtain ⟨N, hN⟩ : ∃ N, N = numN (l.take k) * 2 ^ (8 - k) := ⟨_, rfl⟩
  have hFk : F < 2 ^ k := by
    have h9 := numN_lt (l.take k) (fun x hx => h2 x (List.mem_of_mem_take hx))
    rw [List.length_take, Nat.min_eq_left (by omega)] at h9
    rw [hF]; exact h9
  obtain ⟨hN2, hNd, hNl⟩ := fork_byte l h2 k (by omega) (by omega) N hN
  obtain ⟨T, hT⟩ : ∃ T : ByteArray, T = ⟨(bytesL (l.drop (l.length % 8))).toArray⟩ := ⟨_, rfl⟩
  have HL := Lib.hid (fun W (hW : Touch (fun _ => False) w W) => left_calls b o l row W (refill_nil h hW) (by omega))
  have hpk := fun W (hW : Touch (fun _ => False) w W) => peek_some b o k l row W (refill_nil h hW) (by omega) (by omega) (by omega)
  have htk := fun W (hW : Touch (fun _ => False) w W) => take_calls b o (l.length : Int) l row W (refill_nil h hW) (by omega) (by omega) (by omega) (l.length / 8) (by omega)
  have ed : (l.drop (l.length % 8)).take (8 * (l.length / 8)) = l.drop (l.length % 8) := List.take_of_length_le (by rw [List.length_drop]; omega)
  have ed2 : (l.drop (l.length % 8)).drop (8 * (l.length / 8)) = [] := List.drop_eq_nil_iff.2 (by rw [List.length_drop]; omega)
  rw [ed, ed2, ← hT, ← hn] at htk
  rw [← hF] at hpk
  rw [← hn] at HL
  have HPK := Lib.hid hpk
  have HTK := Lib.hid htk
  have hkm : (n : Int).tmod 8 = (k : Int) := by rw [Int.tmod_eq_emod_of_nonneg (by omega), hk, ← hn]; omega
  have hbl : b < w.heap.size := by
    obtain ⟨_, _, _, hc, _⟩ := h
    exact hc.lt
  have HH := Lib.hid h
  have hkm2 : (n : Int) % 8 = (k : Int) := by rw [hk, ← hn]; omega
  have HN := Lib.hid (And.intro hn (And.intro hk (And.intro hF (And.intro hN (And.intro hT (And.intro hNd (And.intro hNl hl)))))))
  have hn9 : (n : Int) < 900000000 := by omega
  clear hpk htk ed ed2 h hn hk hF hT hNd hNl hl hN
  go_enter Tryd.func39, Tryd.ntmps39
  go_upto_region 1 with fail
  obtain ⟨w1, hw1⟩ : ∃ w1, w.alloc (.cells #[.slice none 0 0, .int .i64 0] 75) = w1 := ⟨_, rfl⟩
  have hB1 : Block w1 w.heap.size 75 [.slice none 0 0, .int .i64 0] := by rw [← hw1]; exact Block.new w _ _
  have hT1 : Touch (fun _ => False) w w1 := by rw [← hw1]; exact (Touch.refl _ w).alloc _
  rw [hw1]
  have H1 := Lib.hid (And.intro hB1 hT1)
  clear hw1 hB1 hT1
  go_upto_region 2 with (go_at_call 65; refine (HL.out _ H1.out.2).mono ?_; rintro e w' ⟨rfl, rfl⟩)
  go_upto_region 3 with (go_at_call 66; refine (HPK.out _ H1.out.2.drew).mono ?_; rintro e w2 ⟨rfl, ht2⟩; have H2 := Lib.hid (H1.out.2.drew.trans ht2); have H2b := Lib.hid ((Block.drew H1.out.1).kept ht2 id); clear ht2)
  go_upto_region 4 with (first
    | (go_at_call 65; refine (HL.out _ H2.out).mono ?_; rintro e w' ⟨rfl, rfl⟩)
    | (go_at_call 64; refine (HTK.out _ H2.out.drew).mono ?_; rintro e w3 ⟨rfl, hr3, ht3⟩; have H3 := Lib.hid (And.intro hr3 (And.intro ((H2.out.drew.mono (fun _ e => e.elim)).trans ht3) ((Block.drew H2b.out).kept ht3 (fun e => by omega)))); clear hr3 ht3))
  go_wp2_with fail
  obtain ⟨fb, hfb⟩ : ∃ fb, w3.heap.size = fb := ⟨_, rfl⟩
  rw [hfb]
  obtain ⟨w4, hw4⟩ : ∃ w4, w3.alloc (.cells #[.slice none 0 0, .int .i64 0] 75) = w4 := ⟨_, rfl⟩
  rw [hw4]
  obtain ⟨w5, hw5⟩ : ∃ w5, w4.alloc (.cells #[.pointer (some ⟨b, o, none⟩), .pointer (some ⟨fb, 0, none⟩)] 85) = w5 := ⟨_, rfl⟩
  rw [hw5]
  obtain ⟨r0, hr0⟩ : ∃ r0, w.heap.size = r0 := ⟨_, rfl⟩
  rw [hr0]
  have hrow : ∀ k, row = some k → k < w.heap.size ∧ k ≠ b := fun k e => by
    obtain ⟨_, _, v, _, hrw, hne, hv, _⟩ := HH.out
    exact ⟨hrw.lt k (by rw [hv, e]), fun e2 => hne (by rw [hv, e, e2])⟩
  have hsz3 : r0 < fb := by
    have := H3.out.2.2.lt
    rw [hr0, hfb] at this
    exact this
  have hT34 : Touch (fun _ => False) w3 w5 := by rw [← hw5, ← hw4]; exact ((Touch.refl _ w3).alloc _).alloc _
  have hs4 : w4.heap.size = fb + 1 := by rw [← hw4, alloc_size, hfb]
  have hR0 : ForkR φ w b o fb r0 l row 0 w5 row none := by
    refine ⟨H3.out.1.kept hT34 id (fun _ _ => id), ?_, .inl rfl, fun k e => .inl ⟨(hrow k e).1, e⟩, fun _ => rfl, fun _ => rfl, fun k e => (by cases e), ?_, by rw [← hr0]; exact H3.out.2.2.kept hT34 id, ?_, ?_⟩
    · have hbf : Block w5 fb 75 [.slice none 0 0, .int .i64 0] := by
        have e1 : Block w4 fb 75 [.slice none 0 0, .int .i64 0] := by rw [← hw4, ← hfb]; exact Block.new w3 _ _
        rw [← hw5]
        exact e1.kept ((Touch.refl (fun _ => False) w4).alloc _) id
      exact ⟨[], 0, .slice none 0 0, ⟨by rw [Block.cell hbf 0]; rfl, by rw [Block.cell hbf 1]; rfl, Block.free hbf 0, Block.free hbf 1, Lib.hid ⟨_, hbf, fun i h1 h2 => by
        rcases i with _ | _ | i
        · exact absurd rfl h1
        · exact absurd rfl h2
        · simp⟩⟩, Row.nil _ _, by simp [Value.ownBlock], rfl, by decide, by decide, rfl⟩
    · have e1 := Block.new w4 85 [.pointer (some ⟨b, o, none⟩), .pointer (some ⟨fb, 0, none⟩)]
      rw [hs4] at e1
      rw [← hw5]
      exact e1
    · exact (H3.out.2.1.mono (fun k e => .inl e)).trans (hT34.mono (fun k e => e.elim))
    · rw [← hw5, alloc_size, hs4]; omega
  have HR0 := Lib.hid hR0
  have HP := Lib.hid (And.intro hbl (And.intro (Nat.le_of_eq hr0) (And.intro hsz3 hrow)))
  have HPUT : Hid (∀ W, Calls Tryd.prog 54 #[.int .u64 (N : Nat), .int .i64 1] W fun e w' => e = .returned (.string ⟨(leB 1 N).toArray⟩) ∧ Touch (fun _ => False) W w') := Lib.hid (fun W => put_small N 1 W (by decide) (by decide))
  have hshl : IntKind.u64.wrap ((F : Int) * 2 ^ (8 - k)) = (N : Int) := by
    have e : (F : Int) * 2 ^ (8 - k) = (N : Int) := by rw [HN.out.2.2.2.1, ← HN.out.2.2.1]; simp
    rw [e]
    exact wrap_u64_in N (by omega)
  obtain ⟨m, hm⟩ : ∃ m, m = 8 - k := ⟨_, rfl⟩
  have hsub : (8 : Int) - (k : Int) = (m : Int) := by omega
  have hshl2 : IntKind.u64.wrap ((F : Int) * 2 ^ m) = (N : Int) := by rw [hm]; exact hshl
  have HM := Lib.hid hm
  have hrefill : bitsL T.data.toList = l.drop (l.length % 8) := by
    rw [HN.out.2.2.2.2.1]
    exact bits_bytes' _ (fun x hx => h2 x (List.mem_of_mem_drop hx)) (by rw [List.length_drop]; omega)
  have hTs : 8 * T.size ≤ l.length := by
    have e := congrArg List.length hrefill
    rw [bitsL_length, data_length, List.length_drop] at e
    omega
  have HRF := Lib.hid (And.intro hrefill hTs)
  clear H1 H2 H2b H3 HL HPK HTK HH hw4 hw5 hR0 hrow hsz3 hfb hbl hr0 hkm hkm2 hn9 hm hrefill hTs hT34 hs4 hFk hN2 hk8
  go_loopw [26, 9] (fun iv xv wr => ∃ (i : Nat) (x0 : Value), iv = .int .i64 (i : Nat) ∧ xv = x0 ∧ i ≤ 2 ∧ RowKit.Hid (∃ rowb rowf, ForkR φ w b o fb r0 l row i wr rowb rowf)) (fun iv _ _ => 2 - (intOf iv).toNat)
  case atStart => exact ⟨0, _, rfl, rfl, by decide, Lib.hid ⟨_, _, HR0.out⟩⟩
  case round =>
    obtain ⟨i, x0, rfl, rfl, hi, HI⟩ := hrel
    clear HR0
    by_cases hlt : i < 2
    · have hi1 : (i : Int) < 2 := by omega
      have hi0 : (0 : Int) ≤ (i : Int) := by omega
      obtain ⟨rowb, rowf, hFR⟩ := HI.out
      obtain ⟨pb, po, ψ, rowx, hx, hrx, hnx⟩ := hFR.next hlt HP.out.1 HP.out.2.1 HP.out.2.2.1 HP.out.2.2.2
      have HX := Lib.hid (And.intro hrx hnx)
      clear hrx hnx HI hFR
      by_cases hk0 : k = 0
      · subst hk0
        have hl0 : bitsL T.data.toList = l := by rw [HRF.out.1, ← HN.out.2.1]; rfl
        have HF := Lib.hid (feed_calls pb po T [] rowx wr HX.out.1 (by have := HRF.out.2; have := HN.out.2.2.2.2.2.2.2; simp; omega))
        rw [List.nil_append, hl0] at HF
        clear hl0
        go_wp2_with fail
        refine HF.out.mono ?_
        rintro e w7 ⟨rfl, row7, hr7, hs7, ht7⟩
        have HE := Lib.hid (HX.out.2 w7 row7 hr7 hs7 ht7)
        clear hr7 hs7 ht7
        go_wp2_with fail
        go_roundw
        case rel =>
          have HREL : ∃ (i' : Nat) (x0 : Value), Value.int .i64 ((i : Int) + 1) = .int .i64 (i' : Nat) ∧ Value.pointer (some ⟨pb, po, none⟩) = x0 ∧ i' ≤ 2 ∧ RowKit.Hid (∃ rowb rowf, ForkR φ w b o fb r0 l row i' w7 rowb rowf) := ⟨i + 1, _, by go_num, rfl, hlt, HE⟩
          first
            | exact HREL
            | ((repeat apply Exists.intro); exact ⟨HREL, rfl⟩)
        case measure => simp [intOf]; omega
      · have hkp : (0 : Int) < (k : Int) := by omega
        go_wp2_with fail
        refine (HPUT.out wr).mono ?_
        rintro e w6 ⟨rfl, ht6⟩
        obtain ⟨S1, hS1⟩ : ∃ S1 : ByteArray, S1 = ⟨(leB 1 N).toArray⟩ := ⟨_, rfl⟩
        rw [← hS1]
        have hd1 : S1.data.toList = leB 1 N := by rw [hS1]
        have hz1 : S1.size = 1 := by rw [← data_length, hd1, leB_length]
        have hf1 := feed_calls pb po S1 [] rowx w6 (HX.out.1.kept ht6 id (fun _ _ => id)) (by simp; omega)
        rw [List.nil_append, hd1] at hf1
        have HF1 := Lib.hid (And.intro hf1 ht6)
        clear hf1 ht6 hS1 hd1 hz1
        go_wp2_with fail
        refine HF1.out.1.mono ?_
        rintro e w7 ⟨rfl, row7, hr7, hs7, ht7⟩
        have hrd := read_some pb po m _ row7 w7 hr7 (by rw [HN.out.2.2.2.2.2.2.1]; omega) (by rw [HM.out]; omega) (by rw [HN.out.2.2.2.2.2.2.1, HM.out]; omega)
        rw [HM.out, HN.out.2.2.2.2.2.1, ← HM.out] at hrd
        have HR := Lib.hid (And.intro hrd (And.intro hs7 ht7))
        clear hrd hr7 hs7 ht7
        go_wp2_with fail
        refine HR.out.1.mono ?_
        rintro e w8 ⟨rfl, hr8, ht8⟩
        have hf2 := feed_calls pb po T _ row7 w8 hr8 (by rw [List.length_take]; have := HRF.out.2; have := HN.out.2.2.2.2.2.2.2; omega)
        have hl0 : l.take k ++ bitsL T.data.toList = l := by rw [HRF.out.1, ← HN.out.2.1]; exact List.take_append_drop k l
        rw [hl0] at hf2
        have HF2 := Lib.hid (And.intro hf2 ht8)
        clear hf2 hr8 ht8 hl0
        go_wp2_with fail
        refine HF2.out.1.mono ?_
        rintro e w9 ⟨rfl, row9, hr9, hs9, ht9⟩
        have hz6 := HF1.out.2.size
        have hz7 := HR.out.2.2.size
        have hz8 := HF2.out.2.size
        have hsA : Sep wr.heap.size rowx row7 := by
          rcases HR.out.2.1 with q | ⟨g, q, hg⟩
          · exact .inl q
          · exact .inr ⟨g, q, by omega⟩
        have hsB : Sep wr.heap.size rowx row9 := by
          rcases hs9 with q | ⟨g, q, hg⟩
          · rw [q]; exact hsA
          · exact .inr ⟨g, q, by omega⟩
        have hTA : Touch (fun k => k = pb ∨ rowx = some k) wr w7 := (HF1.out.2.mono (fun _ e => e.elim)).trans HR.out.2.2
        have hTB : Touch (fun k => k = pb ∨ rowx = some k) wr w8 := hTA.trans (HF2.out.2.mono (fun _ e => .inl e))
        have HE := Lib.hid (HX.out.2 w9 row9 hr9 hsB (touch_sep hTB hsA ht9))
        clear hr9 hs9 ht9 hz6 hz7 hz8 hsA hsB hTA hTB
        go_wp2_with fail
        go_roundw
        case rel =>
          have HREL : ∃ (i' : Nat) (x0 : Value), Value.int .i64 ((i : Int) + 1) = .int .i64 (i' : Nat) ∧ Value.pointer (some ⟨pb, po, none⟩) = x0 ∧ i' ≤ 2 ∧ RowKit.Hid (∃ rowb rowf, ForkR φ w b o fb r0 l row i' w9 rowb rowf) := ⟨i + 1, _, by go_num, rfl, hlt, HE⟩
          first
            | exact HREL
            | ((repeat apply Exists.intro); exact ⟨HREL, rfl⟩)
        case measure => simp [intOf]; omega
    · obtain rfl : i = 2 := by omega
      obtain ⟨rowb, rowf, hFR⟩ := HI.out
      obtain ⟨ys, g, v, hcf, hrf, hne, hv, hg1, hg2, hg3⟩ := hFR.rf
      obtain ⟨a9, c9, hv9, _, _⟩ := hrf.form
      subst hv9
      have m0 := hcf.c0
      have m1 : wr.cell? ⟨fb, 1, none⟩ = some (.int .i64 (g : Nat)) := hcf.c1
      have r0a := Block.cell hFR.res 0
      have r0b := Block.cell hFR.res 1
      have r0c := Block.free hFR.res 0
      have r0d := Block.free hFR.res 1
      have HE := Lib.hid (And.intro hFR (And.intro hrf (And.intro hv (And.intro hg1 (And.intro hg2 hg3)))))
      clear hFR hcf hrf hne hv hg1 hg2 hg3 HI
      go_wp2_with fail
      have hB := Block.set (Block.set HE.out.1.res 0 (.slice a9 (byteVs ys).length c9)) 1 (.int .i64 (g : Nat))
      have hTr : Touch (fun k => k = r0) wr ((wr.setCell ⟨r0, 0, none⟩ (.slice a9 (byteVs ys).length c9)).setCell ⟨r0, 1, none⟩ (.int .i64 (g : Nat))) := ((Touch.refl (fun k => k = r0) wr).setCell (p := ⟨r0, 0, none⟩) (.inl rfl) _).setCell (p := ⟨r0, 1, none⟩) (.inl rfl) _
      have hrb := HE.out.1.rb.rowlt
      have hq : ∀ k, rowb = some k → k ≠ r0 := fun k e e2 => by
        rcases HE.out.1.far k e with q | q
        · have := HP.out.2.1; omega
        · have := HP.out.2.2.1; omega
      have hqf : ∀ k, rowf = some k → k ≠ r0 := fun k e e2 => by
        have := (HE.out.1.apart k e).2
        have := HP.out.2.2.1
        omega
      (try simp only [Exit.inBlock, Exit.then])
      refine bodyPost_ret (results_cell_row rfl _ _ r0 _ _ _ _ rfl hB Tryd.underlying75 rfl (by kernel_rfl)) rfl ?_
      exact ⟨_, g, rowb, rfl, ⟨ys, HE.out.2.1.kept hTr (fun k e => hqf k (by rw [← HE.out.2.2.1, e])), HE.out.2.2.2.1, HE.out.2.2.2.2.1, HE.out.2.2.2.2.2⟩, HE.out.1.rb.kept hTr (fun e => by have := HP.out.1; have := HP.out.2.1; omega) (fun k e e2 => hq k e e2), HE.out.1.sep, fun k e => (HE.out.1.apart k (by rw [← HE.out.2.2.1, e])).1, HE.out.1.touch.trans' hTr (fun k e => .inr (by have := HP.out.2.1; omega))⟩
end Go.Proofs.YtoaeffinjpkahaaDoor
/- A decoder's copy, by its cells. -/
namespace Go.Proofs.YtoaeffinjpkahaaDoor
set_option linter.unusedSimpArgs false
set_option linter.unusedVariables false
open Go Go.RowKit
set_option maxRecDepth 100000

/-- A decoder's 24 cells, and what they lead to. -/
structure Cell24 (w : World) (b : Nat) (cs : List Value) (xs4 : List Value) (l : List Nat) (all : List UInt8) (xs15 : List Value) (v4 v5 v8 v15 : Value) (g : Nat) : Prop where
  blk : Block w b 80 cs
  len : cs.length = 24
  one : ∀ u ∈ cs, u.oneCell' = true
  c4 : cs[4]? = some v4
  c5 : cs[5]? = some v5
  c6 : cs[6]? = some (.int .i64 (g : Nat))
  c8 : cs[8]? = some v8
  c9 : cs[9]? = some (.int .i64 (all.length : Nat))
  c15 : cs[15]? = some v15
  r4 : Reads w v4 xs4
  rd : RdV w v5 g l
  win : WinV w v8 all
  r15 : Reads w v15 xs15
  one4 : (∀ u ∈ xs4, u.oneCell' = true) ∧ xs4.length ≤ 1048576
  one15 : (∀ u ∈ xs15, u.oneCell' = true) ∧ xs15.length ≤ 1048576
  bits : (∀ x ∈ l, x < 2) ∧ l.length < 900000000
  n4 : v4.ownBlock ≠ some b
  n5 : v5.ownBlock ≠ some b
  n8 : v8.ownBlock ≠ some b
  n15 : v15.ownBlock ≠ some b
  l15 : ∀ k, v15.ownBlock = some k → k < w.heap.size
  a4 : ∀ k, v5.ownBlock = some k → v4.ownBlock ≠ some k
  a8 : ∀ k, v5.ownBlock = some k → v8.ownBlock ≠ some k
  a15 : ∀ k, v5.ownBlock = some k → v15.ownBlock ≠ some k

/-- Cells of a copy. -/
def cpL (cs : List Value) (r4 r5 : Value) (g5 : Nat) (r8 : Value) (n : Nat) (r15 : Value) : List Value := (((((cs.set 4 r4).set 5 r5).set 6 (.int .i64 (g5 : Nat))).set 8 r8).set 9 (.int .i64 (n : Nat))).set 15 r15
structure CopyOut (w w' : World) (b c : Nat) (cs xs4 : List Value) (l : List Nat) (all : List UInt8) (xs15 : List Value) (v5 v15 r4 r5 r8 r15 q5 : Value) (g5 h5 : Nat) : Prop where
  fresh : w.heap.size ≤ c
  cop : Block w' c 80 (cpL cs r4 r5 g5 r8 all.length r15)
  orig : Block w' b 80 ((cs.set 5 q5).set 6 (.int .i64 (h5 : Nat)))
  row4 : Row w' 5 r4 xs4
  rdc : RdV w' r5 g5 l
  winc : WinV w' r8 all
  row15 : Row w' 3 r15 xs15
  nilc : v15 = .slice none 0 0 → r15 = .slice none 0 0
  nil4 : cs[4]? = some (.slice none 0 0) → r4 = .slice none 0 0
  nil8 : cs[8]? = some (.slice none 0 0) → r8 = .slice none 0 0
  rdo : RdV w' q5 h5 l
  q5f : ∀ k, q5.ownBlock = some k → k ≠ b ∧ k ≠ c ∧ (v5.ownBlock = some k ∨ w.heap.size ≤ k)
  f4 : ∀ k, r4.ownBlock = some k → c < k
  f5 : ∀ k, r5.ownBlock = some k → c < k
  f8 : ∀ k, r8.ownBlock = some k → c < k
  f15 : ∀ k, r15.ownBlock = some k → c < k
  d45 : ∀ k, r4.ownBlock = some k → r5.ownBlock ≠ some k ∧ r8.ownBlock ≠ some k ∧ r15.ownBlock ≠ some k ∧ q5.ownBlock ≠ some k
  d58 : ∀ k, r5.ownBlock = some k → r8.ownBlock ≠ some k ∧ r15.ownBlock ≠ some k ∧ q5.ownBlock ≠ some k
  d8 : ∀ k, r8.ownBlock = some k → r15.ownBlock ≠ some k ∧ q5.ownBlock ≠ some k
  d15 : ∀ k, r15.ownBlock = some k → q5.ownBlock ≠ some k
  touch : Touch (fun k => k = b ∨ v5.ownBlock = some k) w w'

set_option maxHeartbeats 4000000 in
theorem touch_cell' (w : World) (b j : Nat) (u : Value) : Touch (fun k => k = b) w (w.setCell ⟨b, j, none⟩ u) := (Touch.refl (fun k => k = b) w).setCell (p := ⟨b, j, none⟩) (Or.inl rfl) u
set_option maxHeartbeats 4000000 in
theorem icopy_raw {w : World} {b : Nat} {cs xs4 : List Value} {l : List Nat} {all : List UInt8} {xs15 : List Value} {v4 v5 v8 v15 : Value} {g : Nat} (h : Cell24 w b cs xs4 l all xs15 v4 v5 v8 v15 g) :
    Calls Tryd.prog 11 #[.pointer (some ⟨b, 0, none⟩)] w fun e w' => ∃ c r4 r5 g5 r8 r15 q5 h5, e = .returned (.pointer (some ⟨c, 0, none⟩)) ∧ CopyOut w w' b c cs xs4 l all xs15 v5 v15 r4 r5 r8 r15 q5 g5 h5 := by
  have HH := Lib.hid h
  have hB := Lib.hid h.blk
  have hone : cs.toArray.all (·.oneCell') = true := by
    rw [Array.all_eq_true_iff_forall_mem]
    intro u hu
    exact h.one u (by simpa using hu)
  have hlen := h.len
  have hsz : (Tryd.prog.info? 80).map (·.size) = some cs.toArray.size := by
    rw [List.size_toArray, hlen]
    kernel_rfl
  have HS := Lib.hid (And.intro hone (And.intro hsz hlen))
  have hbl := h.blk.lt
  clear h hone hsz hlen
  go_enter Tryd.func11, Tryd.ntmps11
  go_upto_region 4 with (first
    | (refine wpList_load_row rfl 80 (.tmp 7) rfl b rfl _ _ _ _ hB.out Tryd.underlying80 rfl HS.out.2.1 ?_)
    | (refine wpList_store_row rfl 80 (.tmp 3) (.tmp 8) rfl w.heap.size cs.toArray rfl rfl _ _ (heap_alloc_new w _) HS.out.2.1 ?_ HS.out.1 ?_))
  · show 24 = cs.toArray.size
    rw [List.size_toArray, HS.out.2.2]
  obtain ⟨w1, hw1⟩ : ∃ w1, (w.alloc (.cells #[.int .i64 0, .int .i64 0, .int .i64 0, .int .i64 0, .slice none 0 0, .slice none 0 0, .int .i64 0, .slice none 0 0, .slice none 0 0, .int .i64 0, .bool false, .int .i64 0, .int .i64 0, .int .i64 0, .int .i64 0, .slice none 0 0, .pointer none, .pointer none, .pointer none, .bool false, .int .i64 0, .int .i64 0, .int .i64 0, .int .i64 0] 80)).setRow w.heap.size cs.toArray = w1 := ⟨_, rfl⟩
  rw [hw1]
  obtain ⟨c, hc⟩ : ∃ c, w.heap.size = c := ⟨_, rfl⟩
  have hT1 : Touch (fun _ => False) w w1 := by rw [← hw1]; exact ((Touch.refl _ w).alloc _).setRow (.inr (Nat.le_refl _)) _
  have hc1 : Block w1 c 80 cs := by rw [← hw1, ← hc]; exact (Block.new w _ _).row (by rw [HS.out.2.2]; rfl)
  rw [hc]
  have HA := Lib.hid (And.intro hT1 (And.intro hc1 (HH.out.blk.kept hT1 id)))
  have c4 : w1.cell? ⟨b, 4, none⟩ = some v4 := by rw [Block.cell HA.out.2.2 4]; exact HH.out.c4
  have HC4 := Lib.hid (clone_b xs4 v4 w1 (HH.out.r4.still hT1) HH.out.one4.1 HH.out.one4.2)
  have hbc : b < c := by omega
  have HCC := Lib.hid (And.intro hc hbl)
  clear hw1 hT1 hc1 hc hbl hB
  -- the rest
  go_upto_region 5 with (go_at_call 38; refine HC4.out.mono ?_; rintro e w2 ⟨r4, rfl, hr4, hf4, ht2, hn4⟩; have HN4 := Lib.hid hn4; obtain ⟨a4, k4, hv4, _, _⟩ := hr4.form; subst hv4; have hB2 := HA.out.2.1.kept ht2 id; have m4 : w2.cell? ⟨c, 4, none⟩ = some v4 := (Block.cell hB2 4).trans HH.out.c4; have g4 := Block.free hB2 4; have H2 := Lib.hid (And.intro hr4 (And.intro hf4 ht2)); clear hr4 hf4 ht2 hB2 hn4)
  obtain ⟨w3, hw3⟩ : ∃ w3, w2.setCell ⟨c, 4, none⟩ (.slice a4 xs4.length k4) = w3 := ⟨_, rfl⟩
  rw [hw3]
  obtain ⟨r4, hr4v⟩ : ∃ r4, Value.slice a4 xs4.length k4 = r4 := ⟨_, rfl⟩
  have hs1 := HA.out.1.size
  have hcs1 := HA.out.2.1.lt
  have hT23 : Touch (fun k => k = c) w2 w3 := by rw [← hw3]; exact touch_cell' w2 c 4 _
  have hT13 : Touch (fun k => k = c) w1 w3 := (H2.out.2.2.mono (fun _ e => e.elim)).trans hT23
  have hT03 : Touch (fun _ => False) w w3 := (HA.out.1.trans' hT13 (fun k e => .inr (by have := HCC.out.1; omega)))
  have hr43 : Row w3 5 r4 xs4 := by rw [← hr4v]; exact H2.out.1.kept hT23 (fun k e e2 => by have := H2.out.2.1 k e; omega)
  have hB3 : Block w3 b 80 cs := HA.out.2.2.kept hT13 (fun e => by omega)
  have hC3 : Block w3 c 80 (cs.set 4 r4) := by rw [← hw3, ← hr4v]; exact Block.set (HA.out.2.1.kept H2.out.2.2 id) 4 _
  have hf43 : ∀ k, r4.ownBlock = some k → c < k ∧ k < w3.heap.size := fun k e => ⟨by have := H2.out.2.1 k (by rw [hr4v]; exact e); omega, hr43.lt k e⟩
  have H3 := Lib.hid (And.intro hT03 (And.intro hr43 (And.intro hB3 (And.intro hC3 hf43))))
  have hFK := fork_calls b 5 l v5.ownBlock w3 (by
    obtain ⟨ys, h1, h2, h3, h4⟩ := HH.out.rd
    exact ⟨ys, g, v5, cell2_at hB3 5 HH.out.c5 HH.out.c6, h1.kept hT03 (fun _ _ => id), HH.out.n5, rfl, h2, h3, h4⟩) HH.out.bits.1 HH.out.bits.2
  have HFK := Lib.hid hFK
  have hn4' : cs[4]? = some (.slice none 0 0) → r4 = .slice none 0 0 := fun e => by rw [← hr4v]; exact HN4.out (Option.some.inj (HH.out.c4.symm.trans e))
  have HN4b := Lib.hid hn4'
  clear hn4' HN4 hw3 hs1 hcs1 hT23 hT13 hT03 hr43 hB3 hC3 hf43 hFK HC4 H2 HA c4 m4 g4 hr4v
  go_upto_region 6 with (go_at_call 39; refine HFK.out.mono ?_; rintro e w4 ⟨r5, g5, row', rfl, hrd5, hro, hsep, hap, ht4⟩; obtain ⟨ys5, hrow5, hg51, hg52, hg53⟩ := hrd5; obtain ⟨a5, k5, hv5, _, _⟩ := hrow5.form; subst hv5; have hC4 := H3.out.2.2.2.1.kept ht4 (fun e => by rcases e with e | e; omega; have := HH.out.rd; obtain ⟨_, hx, _⟩ := this; have := hx.lt c e; have := HCC.out.1; omega); have m5 : w4.cell? ⟨c, 5, none⟩ = some v5 := (Block.cell hC4 5).trans ((List.getElem?_set_ne (by decide)).trans HH.out.c5); have m6 : w4.cell? ⟨c, 6, none⟩ = some (.int .i64 (g : Nat)) := (Block.cell hC4 6).trans ((List.getElem?_set_ne (by decide)).trans HH.out.c6); have f5 := Block.free hC4 5; have f6 := Block.free hC4 6; have H4 := Lib.hid (And.intro hrow5 (And.intro (And.intro hg51 (And.intro hg52 hg53)) (And.intro hro (And.intro hsep (And.intro hap (And.intro ht4 hC4)))))); clear hrow5 hg51 hg52 hg53 hro hsep hap ht4 hC4)
  obtain ⟨r5, hr5v⟩ : ∃ r5, Value.slice a5 (byteVs ys5).length k5 = r5 := ⟨_, rfl⟩
  rw [hr5v]
  obtain ⟨w5, hw5⟩ : ∃ w5, (w4.setCell ⟨c, 5, none⟩ r5).setCell ⟨c, 6, none⟩ (.int .i64 (g5 : Nat)) = w5 := ⟨_, rfl⟩
  rw [hw5]
  have hs3 := H3.out.1.size
  have hs34 := H4.out.2.2.2.2.2.1.size
  have hcw3 := H3.out.2.2.2.1.lt
  have hT45 : Touch (fun k => k = c) w4 w5 := by rw [← hw5]; exact (touch_cell' w4 c 5 _).setCell (p := ⟨c, 6, none⟩) (.inl rfl) _
  have hv5c : v5.ownBlock ≠ some c := fun e => by
    obtain ⟨_, hx, _⟩ := HH.out.rd
    have := hx.lt c e
    have := HCC.out.1
    omega
  have hT05 : Touch (fun k => k = b ∨ v5.ownBlock = some k) w w5 := ((H3.out.1.mono (fun _ e => e.elim)).trans H4.out.2.2.2.2.2.1).trans' hT45 (fun k e => .inr (by have := HCC.out.1; omega))
  have hC5 : Block w5 c 80 (((cs.set 4 r4).set 5 r5).set 6 (.int .i64 (g5 : Nat))) := by rw [← hw5]; exact Block.set (Block.set H4.out.2.2.2.2.2.2 5 _) 6 _
  have hrow5 : Row w5 5 r5 (byteVs ys5) := by rw [← hr5v]; exact H4.out.1.kept hT45 (fun k e e2 => by have := (H4.out.2.2.2.2.1 k e).1; have := H4.out.1.lt k e; have := H4.out.2.2.2.2.1 k e; omega)
  obtain ⟨yso, go, vo, hco, hrowo, hneo, hvo, hgo1, hgo2, hgo3⟩ := H4.out.2.2.1
  have hvoc : ∀ k, vo.ownBlock = some k → k ≠ b ∧ k ≠ c ∧ (v5.ownBlock = some k ∨ w.heap.size ≤ k) := fun k e => by
    refine ⟨fun e2 => hneo (by rw [e, e2]), ?_⟩
    rcases H4.out.2.2.2.1 with q | ⟨g', q, hg'⟩
    · have e3 : v5.ownBlock = some k := by rw [← q, ← hvo]; exact e
      exact ⟨fun e2 => hv5c (by rw [e3, e2]), .inl e3⟩
    · have e4 : g' = k := Option.some.inj (q.symm.trans (hvo.symm.trans e))
      have := HCC.out.1
      exact ⟨by omega, .inr (by omega)⟩
  have hB5 : Block w5 b 80 ((cs.set 5 vo).set 6 (.int .i64 (go : Nat))) := (cell2_back hco (by rw [HS.out.2.2]; decide)).kept hT45 (fun e => by omega)
  have hrowo5 : Row w5 5 vo (byteVs yso) := hrowo.kept hT45 (fun k e e2 => (hvoc k e).2.1 e2)
  have hd5 : ∀ k, r5.ownBlock = some k → c < k ∧ vo.ownBlock ≠ some k ∧ w3.heap.size ≤ k ∧ k < w5.heap.size := fun k e => by
    have q := H4.out.2.2.2.2.1 k (by rw [hr5v]; exact e)
    exact ⟨by omega, fun e2 => q.2 (by rw [← hvo]; exact e2), q.1, hrow5.lt k e⟩
  have hr45 : Row w5 5 r4 xs4 := (H3.out.2.1.kept H4.out.2.2.2.2.2.1 (fun k e e2 => by
    have := (H3.out.2.2.2.2 k e).1
    rcases e2 with e2 | e2
    · omega
    · obtain ⟨_, hx, _⟩ := HH.out.rd
      have := hx.lt k e2
      have := HCC.out.1
      omega)).kept hT45 (fun k e e2 => by have := (H3.out.2.2.2.2 k e).1; omega)
  have hd4 : ∀ k, r4.ownBlock = some k → c < k ∧ k < w3.heap.size ∧ r5.ownBlock ≠ some k ∧ vo.ownBlock ≠ some k := fun k e => by
    have q := H3.out.2.2.2.2 k e
    refine ⟨q.1, q.2, fun e2 => by have := (hd5 k e2).2.2.1; omega, fun e2 => ?_⟩
    rcases H4.out.2.2.2.1 with q4 | ⟨g', q4, hg'⟩
    · have e3 : v5.ownBlock = some k := by rw [← q4, ← hvo]; exact e2
      obtain ⟨_, hx, _⟩ := HH.out.rd
      have := hx.lt k e3
      have := HCC.out.1
      omega
    · have e4 : g' = k := Option.some.inj (q4.symm.trans (hvo.symm.trans e2))
      omega
  have hwin : WinAt (80, fun i => ((cs.set 5 vo).set 6 (.int .i64 (go : Nat)))[i]?) w5 b 8 all v8.ownBlock := by
    obtain ⟨R, h1, h2⟩ := HH.out.win
    refine ⟨R, v8, cell2_at hB5 8 ?_ ?_, h1.kept hT05 (fun k e e2 => ?_), HH.out.n8, rfl, h2⟩
    · rw [List.getElem?_set_ne (by decide), List.getElem?_set_ne (by decide)]; exact HH.out.c8
    · rw [List.getElem?_set_ne (by decide), List.getElem?_set_ne (by decide)]; exact HH.out.c9
    · rcases e2 with e2 | e2
      · exact HH.out.n8 (by rw [e, e2])
      · exact HH.out.a8 k e2 e
  have HW := Lib.hid (icopied_calls b 8 all _ w5 hwin)
  have hr15 : Reads w5 v15 xs15 := HH.out.r15.kept hT05 (fun k e e2 => by
    rcases e2 with e2 | e2
    · exact HH.out.n15 (by rw [e, e2])
    · exact HH.out.a15 k e2 e)
  have hcw5 := hC5.lt
  have hs35 : w3.heap.size ≤ w5.heap.size := Nat.le_trans hs34 hT45.size
  have H5 := Lib.hid (And.intro hT05 (And.intro hC5 (And.intro hB5 (And.intro hrow5 (And.intro hrowo5 (And.intro hr45 (And.intro hr15 (And.intro hd5 (And.intro hd4 (And.intro hvoc (And.intro hgo1 (And.intro hgo2 (And.intro hgo3 (And.intro H4.out.2.1 hs35))))))))))))))
  clear hT45 hv5c hT05 hC5 hrow5 hco hrowo hneo hvo hgo1 hgo2 hgo3 hvoc hB5 hrowo5 hd5 hr45 hd4 hwin hr15 hw5 H4 H3 HFK hs3 hs34 hcw3 m5 m6 f5 f6 hr5v hs35
  go_upto_region 7 with (go_at_call 40; refine HW.out.mono ?_; rintro e w6 ⟨b2, R, v2, rfl, hb2, hB2, hrow2, hRing, hf2, ht6, hn8⟩; have HN8 := Lib.hid hn8; obtain ⟨a2, k2, hv2, _, _⟩ := hrow2.form; subst hv2; have hC6 := H5.out.2.1.kept ht6 id; have n0 := Block.cell hB2 0; have n1 := Block.cell hB2 1; have m8 : w6.cell? ⟨c, 8, none⟩ = some v8 := (Block.cell hC6 8).trans (by rw [List.getElem?_set_ne (by decide), List.getElem?_set_ne (by decide), List.getElem?_set_ne (by decide)]; exact HH.out.c8); have m9 : w6.cell? ⟨c, 9, none⟩ = some (.int .i64 (all.length : Nat)) := (Block.cell hC6 9).trans (by rw [List.getElem?_set_ne (by decide), List.getElem?_set_ne (by decide), List.getElem?_set_ne (by decide)]; exact HH.out.c9); have f8 := Block.free hC6 8; have f9 := Block.free hC6 9; have H6 := Lib.hid (And.intro hb2 (And.intro hrow2 (And.intro hRing (And.intro hf2 (And.intro ht6 hC6))))); clear hb2 hrow2 hRing hf2 ht6 hC6 hB2 hn8)
  obtain ⟨r8, hr8v⟩ : ∃ r8, Value.slice a2 (byteVs R).length k2 = r8 := ⟨_, rfl⟩
  rw [hr8v]
  obtain ⟨w7, hw7⟩ : ∃ w7, (w6.setCell ⟨c, 8, none⟩ r8).setCell ⟨c, 9, none⟩ (.int .i64 (all.length : Nat)) = w7 := ⟨_, rfl⟩
  rw [hw7]
  have hn8' : cs[8]? = some (.slice none 0 0) → r8 = .slice none 0 0 := fun e => by
    rw [← hr8v]
    refine HN8.out ((Block.cell H5.out.2.2.1 8).trans ?_)
    rw [List.getElem?_set_ne (by decide), List.getElem?_set_ne (by decide)]
    exact e
  have HN8b := Lib.hid hn8'
  clear hn8' HN8
  have hT67 : Touch (fun k => k = c) w6 w7 := by rw [← hw7]; exact (touch_cell' w6 c 8 _).setCell (p := ⟨c, 9, none⟩) (.inl rfl) _
  have hT57 : Touch (fun k => k = c) w5 w7 := (H6.out.2.2.2.2.1.mono (fun _ e => e.elim)).trans hT67
  have hC7 : Block w7 c 80 (((((cs.set 4 r4).set 5 r5).set 6 (.int .i64 (g5 : Nat))).set 8 r8).set 9 (.int .i64 (all.length : Nat))) := by rw [← hw7]; exact Block.set (Block.set H6.out.2.2.2.2.2 8 _) 9 _
  have hB7 := H5.out.2.2.1.kept hT57 (fun e => by omega)
  have hr8f : ∀ k, r8.ownBlock = some k → w5.heap.size ≤ k ∧ k < w6.heap.size := fun k e => ⟨(H6.out.2.2.2.1 k (by rw [hr8v]; exact e)).1, H6.out.2.1.lt k (by rw [hr8v]; exact e)⟩
  have hrow8 : Row w7 5 r8 (byteVs R) := by rw [← hr8v]; exact H6.out.2.1.kept hT67 (fun k e e2 => by have := (H6.out.2.2.2.1 k e).1; omega)
  have hr15 : Reads w7 v15 xs15 := H5.out.2.2.2.2.2.2.1.kept hT57 (fun k e e2 => by
    have hx := HH.out.l15 k e
    have := HCC.out.1
    omega)
  have HC15 := Lib.hid (clone_i xs15 v15 w7 hr15 HH.out.one15.1 HH.out.one15.2)
  have c15 : w7.cell? ⟨b, 15, none⟩ = some v15 := (Block.cell hB7 15).trans (by rw [List.getElem?_set_ne (by decide), List.getElem?_set_ne (by decide)]; exact HH.out.c15)
  have H7 := Lib.hid (And.intro hT57 (And.intro hC7 (And.intro hB7 (And.intro hr8f hrow8))))
  have hsz67 : w6.heap.size ≤ w7.heap.size := hT67.size
  have hsz56 : w5.heap.size ≤ w6.heap.size := H6.out.2.2.2.2.1.size
  have HSZ := Lib.hid (And.intro hsz56 hsz67)
  clear hw7 hT67 hT57 hC7 hB7 hr8f hrow8 hr15 HW hr8v m8 m9 f8 f9 n0 n1 hsz67 hsz56
  go_upto_region 8 with (go_at_call 41; refine HC15.out.mono ?_; rintro e w8 ⟨r15, rfl, hr15, hf15, ht8, hnil⟩; obtain ⟨a15, k15, hv15, _, _⟩ := hr15.form; subst hv15; have hC8 := H7.out.2.1.kept ht8 id; have m15 : w8.cell? ⟨c, 15, none⟩ = some v15 := (Block.cell hC8 15).trans (by rw [List.getElem?_set_ne (by decide), List.getElem?_set_ne (by decide), List.getElem?_set_ne (by decide), List.getElem?_set_ne (by decide), List.getElem?_set_ne (by decide)]; exact HH.out.c15); have f15 := Block.free hC8 15; have H8 := Lib.hid (And.intro hr15 (And.intro hf15 (And.intro ht8 (And.intro hnil hC8)))); clear hr15 hf15 ht8 hnil hC8)
  go_wp2_with fail
  go_ret
  have hT89 : Touch (fun k => k = c) w8 (w8.setCell ⟨c, 15, none⟩ (.slice a15 xs15.length k15)) := touch_cell' w8 c 15 _
  have hT79 : Touch (fun k => k = c) w7 (w8.setCell ⟨c, 15, none⟩ (.slice a15 xs15.length k15)) := (H8.out.2.2.1.mono (fun _ e => e.elim)).trans hT89
  have hT59 := H7.out.1.trans hT79
  have hcc := HCC.out.1
  have hf15 : ∀ k, (Value.slice a15 xs15.length k15).ownBlock = some k → w7.heap.size ≤ k := H8.out.2.1
  have s1 := HSZ.out.1
  have s2 := HSZ.out.2
  have s3 := H5.out.2.2.2.2.2.2.2.2.2.2.2.2.2.2
  have hvoc := H5.out.2.2.2.2.2.2.2.2.2.1
  have hd4 := H5.out.2.2.2.2.2.2.2.2.1
  have hd5 := H5.out.2.2.2.2.2.2.2.1
  have hc5 := H5.out.2.1.lt
  have hvo5 : ∀ k, vo.ownBlock = some k → k < w5.heap.size := fun k e => H5.out.2.2.2.2.1.lt k e
  have h8 := H7.out.2.2.2.1
  exact ⟨c, r4, r5, g5, r8, _, vo, go, rfl,
    { fresh := Nat.le_of_eq hcc
      cop := Block.set H8.out.2.2.2.2 15 _
      orig := H7.out.2.2.1.kept hT79 (fun e => by omega)
      row4 := H5.out.2.2.2.2.2.1.kept hT59 (fun k e e2 => by have := (hd4 k e).1; omega)
      rdc := ⟨ys5, H5.out.2.2.2.1.kept hT59 (fun k e e2 => by have := (hd5 k e).1; omega), H5.out.2.2.2.2.2.2.2.2.2.2.2.2.2.1⟩
      winc := ⟨R, H7.out.2.2.2.2.kept hT79 (fun k e e2 => by have := (h8 k e).1; omega), H6.out.2.2.1⟩
      row15 := H8.out.1.kept hT89 (fun k e e2 => by have := hf15 k e; omega)
      nilc := H8.out.2.2.2.1
      nil4 := HN4b.out
      nil8 := HN8b.out
      rdo := ⟨yso, H5.out.2.2.2.2.1.kept hT59 (fun k e e2 => (hvoc k e).2.1 e2), H5.out.2.2.2.2.2.2.2.2.2.2.1, H5.out.2.2.2.2.2.2.2.2.2.2.2.1, H5.out.2.2.2.2.2.2.2.2.2.2.2.2.1⟩
      q5f := hvoc
      f4 := fun k e => (hd4 k e).1
      f5 := fun k e => (hd5 k e).1
      f8 := fun k e => by have := (h8 k e).1; omega
      f15 := fun k e => by have := hf15 k e; omega
      d45 := fun k e => ⟨(hd4 k e).2.2.1, fun e2 => by have := (h8 k e2).1; have := (hd4 k e).2.1; omega, fun e2 => by have := hf15 k e2; have := (hd4 k e).2.1; omega, (hd4 k e).2.2.2⟩
      d58 := fun k e => ⟨fun e2 => by have := (h8 k e2).1; have := (hd5 k e).2.2.2; omega, fun e2 => by have := hf15 k e2; have := (hd5 k e).2.2.2; omega, (hd5 k e).2.1⟩
      d8 := fun k e => ⟨fun e2 => by have := hf15 k e2; have := (h8 k e).2; omega, fun e2 => by have := hvo5 k e2; have := (h8 k e).1; omega⟩
      d15 := fun k e e2 => by have := hvo5 k e2; have := hf15 k e; omega
      touch := H5.out.1.trans' hT59 (fun k e => .inr (by omega)) }⟩
end Go.Proofs.YtoaeffinjpkahaaDoor

/- Contracts of layer 5's plain program over the translated program: its tables of symbols, and which row a number has. -/
import Derived.Test.YtdbpjkpbmfjcnaaLzC
import Derived.Maps.AppendAt
import Derived.Deep.DeepCutAuto
namespace Go.Proofs.Ytdbpjkpbmfjcnaa
open Go Go.RowKit
set_option maxRecDepth 100000

abbrev Tr := Nat × Nat × Nat
def trV (r : Tr) : List Value := [.int .i64 (r.1 : Nat), .int .i64 (r.2.1 : Nat), .int .i64 (r.2.2 : Nat)]
def trsV (l : List Tr) : List Value := l.flatMap trV
theorem trsV_length (l : List Tr) : (trsV l).length = l.length * 3 := by
  induction l with
  | nil => rfl
  | cons x l ih =>
    have : trsV (x :: l) = trV x ++ trsV l := by simp [trsV]
    rw [this, List.length_append, ih, List.length_cons]
    simp [trV]
    omega
theorem trsV_append (a b : List Tr) : trsV (a ++ b) = trsV a ++ trsV b := by simp [trsV]
theorem trsV_get (l : List Tr) (j : Nat) (x : Tr) (h : l[j]? = some x) : (trsV l)[j * 3]? = some (.int .i64 (x.1 : Nat)) ∧ (trsV l)[j * 3 + 1]? = some (.int .i64 (x.2.1 : Nat)) ∧ (trsV l)[j * 3 + 2]? = some (.int .i64 (x.2.2 : Nat)) := by
  induction l generalizing j with
  | nil => simp at h
  | cons y l ih =>
    have e : trsV (y :: l) = .int .i64 (y.1 : Nat) :: .int .i64 (y.2.1 : Nat) :: .int .i64 (y.2.2 : Nat) :: trsV l := by simp [trsV, trV]
    rw [e]
    cases j with
    | zero => simp at h; subst h; simp
    | succ j =>
      simp at h
      have := ih j h
      rw [show (j + 1) * 3 = j * 3 + 1 + 1 + 1 by omega]
      simpa using this

/-- A slice of rows, to be read. -/
def Trs (w : World) (v : Value) (xs : List Tr) : Prop :=
  ∃ a cap, v = .slice a xs.length cap ∧ xs.length ≤ cap ∧ cap ≤ maxLen ∧ (xs = [] ∨ ∃ g off, a = some ⟨g, off, none⟩ ∧ ∀ j x, xs[j]? = some x → w.cell? ⟨g, off + j * 3, none⟩ = some (.int .i64 (x.1 : Nat)) ∧ w.cell? ⟨g, off + j * 3 + 1, none⟩ = some (.int .i64 (x.2.1 : Nat)) ∧ w.cell? ⟨g, off + j * 3 + 2, none⟩ = some (.int .i64 (x.2.2 : Nat)))
theorem Trs.kept {S : Nat → Prop} {w w' : World} {v : Value} {xs : List Tr} (h : Trs w v xs) (ht : Touch S w w') (hn : ∀ g, v.ownBlock = some g → ¬ S g) : Trs w' v xs := by
  obtain ⟨a, cap, rfl, h1, h2, h3⟩ := h
  refine ⟨a, cap, rfl, h1, h2, ?_⟩
  rcases h3 with h3 | ⟨g, off, rfl, h3⟩
  · exact .inl h3
  · exact .inr ⟨g, off, rfl, fun j x hx => ⟨ht.cell (h3 j x hx).1 (hn g rfl), ht.cell (h3 j x hx).2.1 (hn g rfl), ht.cell (h3 j x hx).2.2 (hn g rfl)⟩⟩
theorem Trs.still {w w' : World} {v : Value} {xs : List Tr} (h : Trs w v xs) (ht : Touch (fun _ => False) w w') : Trs w' v xs := h.kept ht (fun _ _ => id)
theorem Trs.of_own {w : World} {base : Nat} {e : TypeId} {v : Value} {n : Nat} {xs : List Tr} (h : w.ownsRow base e 3 v n (trsV xs)) : Trs w v xs := by
  have hl : xs.length = n := by have := h.1; rw [trsV_length] at this; omega
  subst hl
  rcases h.2 with ⟨rfl, h0⟩ | ⟨g, cap, cur, rfl, _, hh, h1, h2, h3, h4⟩
  · obtain rfl : xs = [] := List.eq_nil_of_length_eq_zero h0
    exact ⟨none, 0, rfl, Nat.le_refl _, Nat.zero_le _, .inl rfl⟩
  · refine ⟨_, cap, rfl, h1, h2, .inr ⟨g, 0, rfl, fun j x hx => ?_⟩⟩
    have hj : j < xs.length := (List.getElem?_eq_some_iff.1 hx).1
    have hg := trsV_get xs j x hx
    rw [← h4] at hg
    rw [List.getElem?_take, if_pos (by omega), List.getElem?_take, if_pos (by omega), List.getElem?_take, if_pos (by omega), Array.getElem?_toList, Array.getElem?_toList, Array.getElem?_toList] at hg
    rw [cell_of_row w g _ cur e (0, 0) hh, cell_of_row w g _ cur e (0, 0) hh, cell_of_row w g _ cur e (0, 0) hh]
    simpa using hg

theorem own_still {w w' : World} {base : Nat} {e : TypeId} {k : Nat} {v : Value} {n : Nat} {xs : List Value} {S : Nat → Prop} (h : w.ownsRow base e k v n xs) (ht : Touch S w w') (hn : ∀ g, v.ownBlock = some g → ¬ S g) : w'.ownsRow base e k v n xs := by
  refine ⟨h.1, ?_⟩
  rcases h.2 with h2 | ⟨g, cap, cur, rfl, hb, hh, r⟩
  · exact .inl h2
  · exact .inr ⟨g, cap, cur, rfl, hb, by rw [ht.block g (Array.getElem?_eq_some_iff.1 hh).1 (hn g rfl)]; exact hh, r⟩
theorem own_base {w : World} {base : Nat} {e : TypeId} {k : Nat} {v : Value} {n : Nat} {xs : List Value} (h : w.ownsRow base e k v n xs) : ∀ g, v.ownBlock = some g → base ≤ g := by
  intro g hg
  rcases h.2 with ⟨rfl, _⟩ | ⟨g', cap, cur, rfl, hb, _⟩
  · cases hg
  · have h2 : g' = g := Option.some.inj hg
    omega
theorem own_form {w : World} {base : Nat} {e : TypeId} {k : Nat} {v : Value} {n : Nat} {xs : List Value} (h : w.ownsRow base e k v n xs) : ∃ a cap, v = .slice a n cap := by
  rcases h.2 with ⟨rfl, rfl⟩ | ⟨g', cap, cur, rfl, hb, _⟩
  · exact ⟨_, _, rfl⟩
  · exact ⟨_, _, rfl⟩
theorem new_tr (w : World) (t : TypeId) (r : Tr) : ∀ j u, (trV r)[j]? = some u → (w.alloc (.cells #[.int .i64 (r.1 : Nat), .int .i64 (r.2.1 : Nat), .int .i64 (r.2.2 : Nat)] t)).cell? ((⟨w.heap.size, 0, none⟩ : Addr).add j) = some u := by
  intro j u hu
  obtain ⟨c0, c1, c2, _, _, _⟩ := box_cells (heap_alloc_new w (.cells #[.int .i64 (r.1 : Nat), .int .i64 (r.2.1 : Nat), .int .i64 (r.2.2 : Nat)] t))
  match j, hu with
  | 0, hu => simp [trV] at hu; subst hu; exact c0
  | 1, hu => simp [trV] at hu; subst hu; exact c1
  | 2, hu => simp [trV] at hu; subst hu; exact c2
  | j + 3, hu => simp [trV] at hu

theorem Try.infoR : (Try.prog.info? 41).map (fun i => (i.zero, i.size, i.bytes)) = some (some (.agg #[.int .i64 0, .int .i64 0, .int .i64 0]), 3, 24) := by kernel_rfl

def lenRow (s : Nat) : Tr := (257 + s, lenL s, lenE s)
def distRow (s : Nat) : Tr := (s, leastN 1 s + 1, extN 1 s)
def lenTab : List Tr := (List.range 29).map lenRow
def distTab : List Tr := (List.range 30).map distRow
theorem lenTab_snoc (k : Nat) : (List.range (k + 1)).map lenRow = (List.range k).map lenRow ++ [lenRow k] := by rw [List.range_succ, List.map_append]; rfl
theorem distTab_snoc (k : Nat) : (List.range (k + 1)).map distRow = (List.range k).map distRow ++ [distRow k] := by rw [List.range_succ, List.map_append]; rfl

theorem len_step (s : Nat) (h8 : 8 ≤ s) (h : s < 28) : leastN 2 (s + 1) = leastN 2 s + 2 ^ extN 2 s ∧ leastN 2 (s + 1) + 3 ≤ 300 ∧ 2 ^ extN 2 s ≤ 32 ∧ lenRow s = (257 + s, leastN 2 s + 3, extN 2 s) := by
  have : ∀ s : Fin 28, 8 ≤ s.val → leastN 2 (s.val + 1) = leastN 2 s.val + 2 ^ extN 2 s.val ∧ leastN 2 (s.val + 1) + 3 ≤ 300 ∧ 2 ^ extN 2 s.val ≤ 32 ∧ lenRow s.val = (257 + s.val, leastN 2 s.val + 3, extN 2 s.val) := by decide +kernel
  exact this ⟨s, h⟩ h8
theorem len_first (s : Nat) (h : s < 8) : lenRow s = (257 + s, 3 + s, 0) := by
  have : ∀ s : Fin 8, lenRow s.val = (257 + s.val, 3 + s.val, 0) := by decide +kernel
  exact this ⟨s, h⟩

set_option maxHeartbeats 1000000 in
theorem lengths_calls (w : World) : Calls Try.prog 21 #[] w fun e w' => ∃ v, e = .returned v ∧ Trs w' v lenTab ∧ Touch (fun _ => False) w w' := by
  obtain ⟨i0, hi, hz0, hz1, hz2⟩ := info_parts Try.infoR
  go_enter Try.func21, Try.ntmps21
  go_wp2_with fail
  go_loopw [1, 2] (fun vo iv wr => ∃ (k : Nat), k ≤ 8 ∧ iv = .int .i64 (k : Nat) ∧ wr.ownsRow w.heap.size 41 3 vo k (trsV ((List.range k).map lenRow)) ∧ Touch (fun _ => False) w wr) (fun _ iv _ => 8 - (intOf iv).toNat)
  case atStart => exact ⟨0, by decide, rfl, World.ownsRow_nil w _ _ _, Touch.refl _ _⟩
  case round =>
    obtain ⟨k, hk, rfl, hown, hT⟩ := hrel
    by_cases hlt : k < 8
    · have HROW := Lib.hid (len_first k hlt)
      have HOWN := Lib.hid hown
      have HB := Lib.hid (own_base hown)
      obtain ⟨a, cap, hvo⟩ := own_form hown
      subst hvo
      have HT := Lib.hid hT
      clear hown hT
      go_wp2_with (at_builtin; refine wpList_append_own_at _ rfl (.tmp 11) (.tmp 17) 34 rfl w.heap.size 41 i0 _ 3 24 Try.underlying34 hi hz0 hz1 hz2 rfl (by decide) (.slice a k cap) k (trsV ((List.range k).map lenRow)) rfl (own_still HOWN.out (S := fun _ => False) ((Touch.refl _ _).alloc _) (fun _ _ => id)) ⟨_, 0, none⟩ 1 1 (trV (257 + k, 3 + k, 0)) rfl rfl (new_tr _ _ (257 + k, 3 + k, 0)) (by simp [trV, Value.oneCell']) (by unfold maxLen; omega) (by omega) (by have := HT.out.size; simp; omega) ?_; intro v2 w2 hrow2 hgrow hnil hown2)
      have hT2 := (HT.out.alloc (.cells #[.int .i64 ((257 + k : Nat) : Int), .int .i64 ((3 + k : Nat) : Int), .int .i64 ((0 : Nat) : Int)] 41)).grown hgrow (fun g hg => .inr (HB.out g hg))
      have hr3 : w2.ownsRow w.heap.size 41 3 v2 (k + 1) (trsV ((List.range (k + 1)).map lenRow)) := by
        rw [lenTab_snoc, trsV_append, show trsV [lenRow k] = trV (lenRow k) by simp [trsV], HROW.out]
        exact hrow2
      clear hrow2 hgrow hnil hown2
      go_roundw
      case rel => exact ⟨k + 1, by omega, by go_num, hr3, hT2⟩
      case measure => simp [intOf]; omega
    · have hk8 : k = 8 := by omega
      rw [hk8] at hown
      clear hk8
      go_wp2_with fail
      go_loopw [1, 3, 4, 5, 6] (fun vo av zv ev _ wr => ∃ (E A Z : Nat), 1 ≤ E ∧ E ≤ 6 ∧ ev = .int .i64 (E : Nat) ∧ av = .int .i64 (A : Nat) ∧ zv = .int .i64 (Z : Nat) ∧ RowKit.Hid (A = leastN 2 (4 * E + 4) + 3 ∧ Z = 2 ^ E) ∧ A ≤ 300 ∧ Z ≤ 64 ∧ wr.ownsRow w.heap.size 41 3 vo (4 * E + 4) (trsV ((List.range (4 * E + 4)).map lenRow)) ∧ Touch (fun _ => False) w wr) (fun _ _ _ ev _ _ => 6 - (intOf ev).toNat)
      case atStart => exact ⟨1, 11, 2, Nat.le_refl _, by decide, rfl, rfl, rfl, Lib.hid (by decide), by decide, by decide, hown, hT⟩
      case round =>
        clear hown hT
        obtain ⟨E, A, Z, hE1, hE2, rfl, rfl, rfl, HAZ, hA, hZ, hown, hT⟩ := hrel
        by_cases hlt : E ≤ 5
        · have eE : decide ((E : Int) ≤ 5) = true := decide_eq_true (by omega)
          go_wp2_with fail
          go_loopw [1, 3, 6] (fun vo av iv wr => ∃ (i A s : Nat), i ≤ 4 ∧ iv = .int .i64 (i : Nat) ∧ av = .int .i64 (A : Nat) ∧ s = 4 * E + 4 + i ∧ RowKit.Hid (A = leastN 2 s + 3) ∧ A ≤ 300 ∧ wr.ownsRow w.heap.size 41 3 vo s (trsV ((List.range s).map lenRow)) ∧ Touch (fun _ => False) w wr) (fun _ _ iv _ => 4 - (intOf iv).toNat)
          case atStart => exact ⟨0, A, 4 * E + 4, by decide, rfl, rfl, rfl, Lib.hid HAZ.out.1, hA, hown, hT⟩
          case round =>
            clear hown hT
            obtain ⟨i, A, s, hi2, rfl, rfl, hs, HA, hA, hown, hT⟩ := hrel
            by_cases hlt2 : i < 4
            · obtain ⟨d1, d2, d3, d4⟩ := len_step s (by omega) (by omega)
              have hext : extN 2 s = E := by unfold extN; omega
              rw [hext, ← HAZ.out.2] at d1
              have hA2 : A + Z = leastN 2 (s + 1) + 3 := by have := HA.out; omega
              have hrow : lenRow s = (257 + s, A, E) := by rw [d4, hext, HA.out]
              have HROW := Lib.hid hrow
              have HA2 := Lib.hid hA2
              have HOWN := Lib.hid hown
              have HB := Lib.hid (own_base hown)
              have hsb : s ≤ 40 := by omega
              have HS := Lib.hid hs
              obtain ⟨a, cap, hvo⟩ := own_form hown
              subst hvo
              have HT := Lib.hid hT
              have hA3 : A + Z ≤ 300 := by omega
              clear hown hT d1 d2 d3 d4 hext hA2 hrow hs
              go_wp2_with (at_builtin; refine wpList_append_own_at _ rfl (.tmp 27) (.tmp 34) 34 rfl w.heap.size 41 i0 _ 3 24 Try.underlying34 hi hz0 hz1 hz2 rfl (by decide) (.slice a s cap) s (trsV ((List.range s).map lenRow)) rfl (own_still HOWN.out (S := fun _ => False) ((Touch.refl _ _).alloc _) (fun _ _ => id)) ⟨_, 0, none⟩ 1 1 (trV (257 + s, A, E)) rfl rfl (new_tr _ _ (257 + s, A, E)) (by simp [trV, Value.oneCell']) (by unfold maxLen; omega) (by omega) (by have := HT.out.size; simp; omega) ?_; intro v2 w2 hrow2 hgrow hnil hown2)
              have hT2 := (HT.out.alloc (.cells #[.int .i64 ((257 + s : Nat) : Int), .int .i64 (A : Nat), .int .i64 (E : Nat)] 41)).grown hgrow (fun g hg => .inr (HB.out g hg))
              have hr3 : w2.ownsRow w.heap.size 41 3 v2 (s + 1) (trsV ((List.range (s + 1)).map lenRow)) := by
                rw [lenTab_snoc, trsV_append, show trsV [lenRow s] = trV (lenRow s) by simp [trsV], HROW.out]
                exact hrow2
              clear hrow2 hgrow hnil hown2
              go_roundw
              case rel => exact ⟨i + 1, A + Z, s + 1, by omega, by go_num, by simp, by have := HS.out; omega, Lib.hid HA2.out, hA3, hr3, hT2⟩
              case measure => simp [intOf]; omega
            · obtain rfl : i = 4 := by omega
              go_wp2_with fail
              go_roundw
              case rel => exact ⟨E + 1, A, Z * 2, by omega, by omega, by go_num, rfl, by simp, Lib.hid ⟨by rw [HA.out, show 4 * (E + 1) + 4 = s by omega], by rw [HAZ.out.2, Nat.pow_succ]⟩, hA, by have h1 := HAZ.out.2; have h2 : 2 ^ E ≤ 2 ^ 5 := Nat.pow_le_pow_right (by decide) hlt; omega, by rw [show 4 * (E + 1) + 4 = s by omega]; exact hown, hT⟩
              case measure => simp [intOf]; omega
        · obtain rfl : E = 6 := by omega
          have HOWN := Lib.hid hown
          have HB := Lib.hid (own_base hown)
          obtain ⟨a, cap, hvo⟩ := own_form hown
          subst hvo
          have HT := Lib.hid hT
          clear hown hT
          go_wp2_with (at_builtin; refine wpList_append_own_at _ rfl (.tmp 41) (.tmp 43) 34 rfl w.heap.size 41 i0 _ 3 24 Try.underlying34 hi hz0 hz1 hz2 rfl (by decide) (.slice a 28 cap) 28 (trsV ((List.range 28).map lenRow)) rfl (own_still HOWN.out (S := fun _ => False) ((Touch.refl _ _).alloc _) (fun _ _ => id)) ⟨_, 0, none⟩ 1 1 (trV (285, 258, 0)) rfl rfl (new_tr _ _ (285, 258, 0)) (by simp [trV, Value.oneCell']) (by unfold maxLen; omega) (by omega) (by have := HT.out.size; simp; omega) ?_; intro v2 w2 hrow2 hgrow hnil hown2)
          have hT2 := (HT.out.alloc (.cells #[.int .i64 ((285 : Nat) : Int), .int .i64 ((258 : Nat) : Int), .int .i64 ((0 : Nat) : Int)] 41)).grown hgrow (fun g hg => .inr (HB.out g hg))
          have hr3 : w2.ownsRow w.heap.size 41 3 v2 29 (trsV lenTab) := hrow2
          have HR3 := Lib.hid hr3
          clear hrow2 hgrow hnil hown2 hr3
          go_wp2_with fail
          go_ret
          exact ⟨_, rfl, Trs.of_own HR3.out, hT2⟩

theorem dist_step (s : Nat) (h4 : 4 ≤ s) (h : s < 30) : leastN 1 (s + 1) = leastN 1 s + 2 ^ extN 1 s ∧ leastN 1 (s + 1) + 1 ≤ 32769 ∧ 2 ^ extN 1 s ≤ 8192 := by
  have : ∀ s : Fin 30, 4 ≤ s.val → leastN 1 (s.val + 1) = leastN 1 s.val + 2 ^ extN 1 s.val ∧ leastN 1 (s.val + 1) + 1 ≤ 32769 ∧ 2 ^ extN 1 s.val ≤ 8192 := by decide +kernel
  exact this ⟨s, h⟩ h4

set_option maxHeartbeats 1000000 in
theorem dists_calls (w : World) : Calls Try.prog 22 #[] w fun e w' => ∃ v, e = .returned v ∧ Trs w' v distTab ∧ Touch (fun _ => False) w w' := by
  obtain ⟨i0, hi, hz0, hz1, hz2⟩ := info_parts Try.infoR
  go_enter Try.func22, Try.ntmps22
  go_wp2_with fail
  go_loopw [1, 2, 3, 4, 5] (fun vo av zv ev _ wr => ∃ (E A Z : Nat), 1 ≤ E ∧ E ≤ 14 ∧ ev = .int .i64 (E : Nat) ∧ av = .int .i64 (A : Nat) ∧ zv = .int .i64 (Z : Nat) ∧ RowKit.Hid (A = leastN 1 (2 * E + 2) + 1 ∧ Z = 2 ^ E) ∧ A ≤ 32769 ∧ Z ≤ 16384 ∧ wr.ownsRow w.heap.size 41 3 vo (2 * E + 2) (trsV ((List.range (2 * E + 2)).map distRow)) ∧ Touch (fun _ => False) w wr) (fun _ _ _ ev _ _ => 14 - (intOf ev).toNat)
  case atStart =>
    refine ⟨1, 5, 2, Nat.le_refl _, by decide, rfl, rfl, rfl, Lib.hid (by decide), by decide, by decide, ⟨rfl, .inr ⟨w.heap.size, 4, _, rfl, Nat.le_refl _, heap_alloc_new w _, Nat.le_refl _, by unfold maxLen; decide, rfl, rfl⟩⟩, (Touch.refl _ _).alloc _⟩
  case round =>
    obtain ⟨E, A, Z, hE1, hE2, rfl, rfl, rfl, HAZ, hA, hZ, hown, hT⟩ := hrel
    by_cases hlt : E ≤ 13
    · have eE : decide ((E : Int) ≤ 13) = true := decide_eq_true (by omega)
      go_wp2_with fail
      go_loopw [1, 2, 5] (fun vo av iv wr => ∃ (i A s : Nat), i ≤ 2 ∧ iv = .int .i64 (i : Nat) ∧ av = .int .i64 (A : Nat) ∧ s = 2 * E + 2 + i ∧ RowKit.Hid (A = leastN 1 s + 1) ∧ A ≤ 32769 ∧ wr.ownsRow w.heap.size 41 3 vo s (trsV ((List.range s).map distRow)) ∧ Touch (fun _ => False) w wr) (fun _ _ iv _ => 2 - (intOf iv).toNat)
      case atStart => exact ⟨0, A, 2 * E + 2, by decide, rfl, rfl, rfl, Lib.hid HAZ.out.1, hA, hown, hT⟩
      case round =>
        clear hown hT
        obtain ⟨i, A, s, hi2, rfl, rfl, hs, HA, hA, hown, hT⟩ := hrel
        by_cases hlt2 : i < 2
        · obtain ⟨d1, d2, d3⟩ := dist_step s (by omega) (by omega)
          have hext : extN 1 s = E := by unfold extN; omega
          rw [hext, ← HAZ.out.2] at d1
          have hA2 : A + Z = leastN 1 (s + 1) + 1 := by have := HA.out; omega
          have hrow : distRow s = (s, A, E) := by unfold distRow; rw [hext, HA.out]
          have HROW := Lib.hid hrow
          have HA2 := Lib.hid hA2
          have HOWN := Lib.hid hown
          have HB := Lib.hid (own_base hown)
          have hsb : s ≤ 40 := by omega
          have HS := Lib.hid hs
          obtain ⟨a, cap, hvo⟩ := own_form hown
          subst hvo
          have HT := Lib.hid hT
          have hA3 : A + Z ≤ 32769 := by omega
          clear hown hT d1 d2 d3 hext hA2 hrow hs
          go_wp2_with (at_builtin; refine wpList_append_own_at _ rfl (.tmp 19) (.tmp 25) 34 rfl w.heap.size 41 i0 _ 3 24 Try.underlying34 hi hz0 hz1 hz2 rfl (by decide) (.slice a s cap) s (trsV ((List.range s).map distRow)) rfl (own_still HOWN.out (S := fun _ => False) ((Touch.refl _ _).alloc _) (fun _ _ => id)) ⟨_, 0, none⟩ 1 1 (trV (s, A, E)) rfl rfl (new_tr _ _ (s, A, E)) (by simp [trV, Value.oneCell']) (by unfold maxLen; omega) (by omega) (by have := HT.out.size; simp; omega) ?_; intro v2 w2 hrow2 hgrow hnil hown2)
          have hT2 := (HT.out.alloc (.cells #[.int .i64 (s : Nat), .int .i64 (A : Nat), .int .i64 (E : Nat)] 41)).grown hgrow (fun g hg => .inr (HB.out g hg))
          have hr3 : w2.ownsRow w.heap.size 41 3 v2 (s + 1) (trsV ((List.range (s + 1)).map distRow)) := by
            rw [distTab_snoc, trsV_append, show trsV [distRow s] = trV (distRow s) by simp [trsV], HROW.out]
            exact hrow2
          clear hrow2 hgrow hnil hown2
          go_roundw
          case rel => exact ⟨i + 1, A + Z, s + 1, by omega, by go_num, by simp, by have := HS.out; omega, Lib.hid HA2.out, hA3, hr3, hT2⟩
          case measure => simp [intOf]; omega
        · obtain rfl : i = 2 := by omega
          go_wp2_with fail
          go_roundw
          case rel => exact ⟨E + 1, A, Z * 2, by omega, by omega, by go_num, rfl, by simp, Lib.hid ⟨by rw [HA.out, show 2 * (E + 1) + 2 = s by omega], by rw [HAZ.out.2, Nat.pow_succ]⟩, hA, by have h1 := HAZ.out.2; have h2 : 2 ^ E ≤ 2 ^ 13 := Nat.pow_le_pow_right (by decide) hlt; omega, by rw [show 2 * (E + 1) + 2 = s by omega]; exact hown, hT⟩
          case measure => simp [intOf]; omega
    · obtain rfl : E = 14 := by omega
      have HO := Lib.hid hown
      clear hown
      go_wp2_with fail
      go_ret
      exact ⟨_, rfl, Trs.of_own HO.out, hT⟩
end Go.Proofs.Ytdbpjkpbmfjcnaa

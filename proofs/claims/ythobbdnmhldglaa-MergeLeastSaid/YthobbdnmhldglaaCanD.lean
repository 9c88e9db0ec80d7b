
/- Contracts of package canon over the translated program: words turned round, the order of symbols, their words, new codes. -/
import Derived.Test.YthobbdnmhldglaaCanC
import Derived.Test.YthobbdnmhldglaaCanPos
import Derived.Test.YthobbdnmhldglaaCanFind
import Derived.Laws.OwnMore
namespace Go.Proofs.Ythobbdnmhldglaa
open Go Go.RowKit
set_option maxRecDepth 100000
set_option maxRecDepth 100000

theorem turn_val (q m : Nat) (hq : q < 65536) (hm : m < 65536) : bits .or .u64 ((q : Int) * 2) (bits .and .u64 (m : Int) 1) = ((m % 2 + 2 * q : Nat) : Int) := by
  rw [show (1 : Int) = ((1 : Nat) : Int) from rfl, u64_and_nat m 1 (by omega) (by decide), Nat.and_one_is_mod, show (q : Int) * 2 = ((q * 2 : Nat) : Int) by simp, u64_or_nat _ _ (by omega) (by omega)]
  have h := Nat.two_pow_add_eq_or_of_lt (i := 1) (b := m % 2) (by omega) q
  rw [show q * 2 = 2 ^ 1 * q by omega, ← h]
  congr 1
  omega
theorem wordH_succ (k v : Nat) : numN (wordH (k + 1) v) = v / 2 ^ k % 2 + 2 * numN (wordH k v) := by
  unfold wordH
  rw [bitsN_snoc, List.reverse_append, List.reverse_singleton, List.singleton_append, numN_snoc_front]
  omega
theorem numN_wordH_lt (k v : Nat) : numN (wordH k v) < 2 ^ k := by
  have := numN_lt (wordH k v) (wordH_lt k v)
  rwa [wordH_length] at this

set_option maxHeartbeats 400000 in
theorem turned_calls (v n : Nat) (w : World) (hv : v < 65536) (hn : n ≤ 15) :
    Calls Try.prog 31 #[.int .u64 v, .int .i64 n] w fun e w' => e = .returned (.int .u64 (numN (wordH n v))) ∧ w' = w := by
  go_enter Try.func31, Try.ntmps31
  go_wp2
  go_loop [0, 5, 7] (fun x b i => ∃ k m q : Nat, k ≤ n ∧ i = .int .i64 k ∧ x = .int .u64 m ∧ b = .int .u64 q ∧ m = v / 2 ^ k ∧ q = numN (wordH k v)) (fun _ _ i => n - (intOf i).toNat)
  case atStart => exact ⟨0, v, 0, Nat.zero_le _, rfl, rfl, rfl, by simp, rfl⟩
  case round =>
    obtain ⟨k, m, q, hk, rfl, rfl, rfl, hm, hq⟩ := hrel
    by_cases hlt : k < n
    · have hmv : m < 65536 := by rw [hm]; exact Nat.lt_of_le_of_lt (Nat.div_le_self _ _) hv
      have hqv : q < 65536 := by
        rw [hq]
        exact Nat.lt_of_lt_of_le (numN_wordH_lt k v) (Nat.le_trans (Nat.pow_le_pow_right (by decide) (show k ≤ 15 by omega)) (by decide))
      have HM := Lib.hid hm
      have HQ := Lib.hid hq
      have hval := Lib.hid (turn_val q m hqv hmv)
      clear hm hq
      go_wp2
      go_round
      case rel => exact ⟨k + 1, m / 2, m % 2 + 2 * q, by omega, by go_num, by simp, by rw [hval.out], by rw [HM.out, Nat.div_div_eq_div_mul, Nat.pow_succ], by rw [wordH_succ, HM.out, HQ.out]⟩
      case measure => simp [intOf]; omega
    · obtain rfl : k = n := by omega
      go_wp2
      go_ret
      exact ⟨rfl, rfl⟩

/-- A code's cells: its lengths, its words, how many there are of each length, the order of its symbols, its greatest length. -/
structure CodeRaw (w : World) (b : Nat) (vl vw vo : Value) (f : Nat → Nat) (lg : Nat) : Prop where
  c0 : w.cell? ⟨b, 0, none⟩ = some vl
  c1 : w.cell? ⟨b, 1, none⟩ = some vw
  cc : ∀ n, n < 16 → w.cell? ⟨b, 2 + n, none⟩ = some (.int .i64 (f n : Nat))
  c18 : w.cell? ⟨b, 18, none⟩ = some vo
  c19 : w.cell? ⟨b, 19, none⟩ = some (.int .i64 (lg : Nat))
  ff : ∀ o, w.frozen? ⟨b, o, none⟩ = false
theorem CodeRaw.lt {w : World} {b : Nat} {vl vw vo : Value} {f : Nat → Nat} {lg : Nat} (h : CodeRaw w b vl vw vo f lg) : b < w.heap.size := World.block_lt_of_cell? w _ h.c0
theorem CodeRaw.kept {S : Nat → Prop} {w w' : World} {b : Nat} {vl vw vo : Value} {f : Nat → Nat} {lg : Nat} (h : CodeRaw w b vl vw vo f lg) (ht : Touch S w w') (hn : ¬ S b) : CodeRaw w' b vl vw vo f lg :=
  ⟨ht.cell h.c0 hn, ht.cell h.c1 hn, fun n hk => ht.cell (h.cc n hk) hn, ht.cell h.c18 hn, ht.cell h.c19 hn, fun o => (ht.frozen (p := ⟨b, o, none⟩) h.lt hn).trans (h.ff o)⟩
theorem CodeRaw.set1 {w : World} {b : Nat} {vl vw vo : Value} {f : Nat → Nat} {lg : Nat} (h : CodeRaw w b vl vw vo f lg) (u : Value) : CodeRaw (w.setCell ⟨b, 1, none⟩ u) b vl u vo f lg :=
  ⟨(World.cell?_setCell_other _ _ _ _ (addr_ne (by omega))).trans h.c0, World.cell?_setCell_same _ _ _ h.c1, fun n hk => (World.cell?_setCell_other _ _ _ _ (addr_ne (by omega))).trans (h.cc n hk), (World.cell?_setCell_other _ _ _ _ (addr_ne (by omega))).trans h.c18, (World.cell?_setCell_other _ _ _ _ (addr_ne (by omega))).trans h.c19, fun o => by rw [World.frozen?_setCell]; exact h.ff o⟩
theorem CodeRaw.set18 {w : World} {b : Nat} {vl vw vo : Value} {f : Nat → Nat} {lg : Nat} (h : CodeRaw w b vl vw vo f lg) (u : Value) : CodeRaw (w.setCell ⟨b, 18, none⟩ u) b vl vw u f lg :=
  ⟨(World.cell?_setCell_other _ _ _ _ (addr_ne (by omega))).trans h.c0, (World.cell?_setCell_other _ _ _ _ (addr_ne (by omega))).trans h.c1, fun n hk => (World.cell?_setCell_other _ _ _ _ (addr_ne (by omega))).trans (h.cc n hk), World.cell?_setCell_same _ _ _ h.c18, (World.cell?_setCell_other _ _ _ _ (addr_ne (by omega))).trans h.c19, fun o => by rw [World.frozen?_setCell]; exact h.ff o⟩
theorem CodeRaw.set19 {w : World} {b : Nat} {vl vw vo : Value} {f : Nat → Nat} {lg : Nat} (h : CodeRaw w b vl vw vo f lg) (n : Nat) : CodeRaw (w.setCell ⟨b, 19, none⟩ (.int .i64 (n : Nat))) b vl vw vo f n :=
  ⟨(World.cell?_setCell_other _ _ _ _ (addr_ne (by omega))).trans h.c0, (World.cell?_setCell_other _ _ _ _ (addr_ne (by omega))).trans h.c1, fun n hk => (World.cell?_setCell_other _ _ _ _ (addr_ne (by omega))).trans (h.cc n hk), (World.cell?_setCell_other _ _ _ _ (addr_ne (by omega))).trans h.c18, World.cell?_setCell_same _ _ _ h.c19, fun o => by rw [World.frozen?_setCell]; exact h.ff o⟩

/-- The greatest length below k. -/
def longN (f : Nat → Nat) : Nat → Nat
  | 0 => 0
  | k + 1 => if 0 < f k then k else longN f k

theorem zero17 : (#[Value.int .i64 0, .int .i64 0, .int .i64 0, .int .i64 0, .int .i64 0, .int .i64 0, .int .i64 0, .int .i64 0, .int .i64 0, .int .i64 0, .int .i64 0, .int .i64 0, .int .i64 0, .int .i64 0, .int .i64 0, .int .i64 0, .int .i64 0] : Array Value) = (tabV 17 fun _ => 0).toArray := rfl

theorem made_ints (n : Nat) : (madeCells (Value.int .i64 0).cells (n * 1)).toList = intVs (List.replicate n 0) := by
  rw [Nat.mul_one, show (Value.int .i64 0).cells = #[Value.int .i64 0] from rfl, toList_madeCells_one]
  simp [intVs]

set_option maxHeartbeats 800000 in
theorem order_calls (b : Nat) (ls : List Nat) (vl vw : Value) (w : World) (h15 : ∀ x ∈ ls, x ≤ 15) (hn : ls.length ≤ 288) (h : CodeRaw w b vl vw (.slice none 0 0) (cntN ls) 0) (hv : Reads w vl (intVs ls)) (hvb : vl.ownBlock ≠ some b) :
    Calls Try.prog 20 #[.pointer (some ⟨b, 0, none⟩)] w fun e w' => e = .returned (.tuple #[]) ∧ ∃ (g : Nat) (os : List Nat), w.heap.size ≤ g ∧
      CodeRaw w' b vl vw (.slice (some ⟨g, 0, none⟩) (startN ls 16) (startN ls 16)) (cntN ls) (longN (cntN ls) 16) ∧ Row w' 3 (.slice (some ⟨g, 0, none⟩) (startN ls 16) (startN ls 16)) (intVs os) ∧ os.length = startN ls 16 ∧
      (∀ s, s < ls.length → ls.getD s 0 ≠ 0 → os[posN ls s]? = some s) ∧ Touch (fun k => k = b) w w' := by
  obtain ⟨i0, hi, hz0, hz1, hz2⟩ := info_parts Try.info3
  have hlt := h.lt
  obtain ⟨al, capl, hvl, hcl1, hcl2⟩ := hv.form
  rw [intVs_length] at hvl hcl1
  unfold maxLen at hcl2
  have hcell : ∀ j, (hj : j < ls.length) → ∃ g off, al = some ⟨g, off, none⟩ ∧ g ≠ b ∧ ∀ W, Touch (fun k => k = b) w W → W.cell? ⟨g, off + j, none⟩ = some (.int .i64 (ls[j] : Nat)) := fun j hj => by
    obtain ⟨g, off, cap', he, _, _, _, hc⟩ := hv.addr (by rw [intVs_length]; omega)
    rw [hvl] at he
    injection he with he1 _ _
    subst he1
    have hgb : g ≠ b := fun e => hvb (by rw [hvl, ← e]; rfl)
    exact ⟨g, off, rfl, hgb, fun W hW => hW.cell (hc j _ (by simp [intVs, hj])) hgb⟩
  subst hvl
  clear hv hvb
  have hcn : ∀ k, cntN ls k ≤ 288 := fun k => by
    unfold cntN; split
    · omega
    · exact Nat.le_trans List.count_le_length hn
  have HC := Lib.hid hcn
  have HS := Lib.hid (start_le ls)
  have H15 := Lib.hid h15
  clear hcn h15
  have hload : ∀ j u, (tabV 16 (cntN ls))[j]? = some u → (w.alloc (.cells (tabV 17 fun _ => 0).toArray 60)).cell? ⟨b, 2 + j, none⟩ = some u := fun j u hu => by
    have hj : j < 16 := by
      have := (List.getElem?_eq_some_iff.1 hu).1
      rwa [tabV_length] at this
    rw [tabV_get 16 _ j hj] at hu
    cases hu
    exact ((Touch.refl (fun _ => False) _).alloc _).cell (h.cc j hj) id
  have hB0 := Block.new w 60 (tabV 17 fun _ => 0)
  have HR0 := Lib.hid (h.kept (S := fun _ => False) ((Touch.refl _ _).alloc (.cells (tabV 17 fun _ => 0).toArray 60)) id)
  rw [← zero17] at hload hB0 HR0
  have hT0 := (Touch.refl (fun k => k = b) w).alloc (.cells (tabV 17 fun _ => 0).toArray 60)
  rw [← zero17] at hT0
  obtain ⟨c0, -, -, c18, c19, ff⟩ := h

  go_enter Try.func20, Try.ntmps20
  go_wp2_with (refine wpList_load_cells rfl 40 (.tmp 9) rfl b 2 rfl (tabV 16 (cntN ls)) _ hload Try.underlying40 rfl Try.size65 ?_)
  clear hload c0 c18 c19 ff
  go_loopw [3, 4, 11] (fun _ _ i wr => ∃ k : Nat, k ≤ 16 ∧ i = .int .i64 k ∧ Block wr w.heap.size 60 (tabV 17 fun j => if j ≤ k then startN ls j else 0) ∧ CodeRaw wr b (.slice al ls.length capl) vw (.slice none 0 0) (cntN ls) (longN (cntN ls) k) ∧ Touch (fun k => k = b) w wr) (fun _ _ i _ => 16 - (intOf i).toNat)
  case atStart =>
    refine ⟨0, Nat.zero_le _, rfl, ?_, HR0.out, hT0⟩
    rw [tabV_congr 17 _ (fun _ => 0) (fun j _ => by by_cases h : j = 0 <;> simp [h, startN])]
    exact hB0
  case round =>
    clear hB0 HR0 hT0
    obtain ⟨k, hk, rfl, hB, hR, hT⟩ := hrel
    by_cases hlt16 : k < 16
    · have hidx := run_index_tab (P := Try.prog) 40 3 16 (tabV 16 (cntN ls)).toArray k _ Try.underlying40 Try.sizeOf3 Try.isAgg3 hlt16 (by simpa using tabV_get 16 (cntN ls) k hlt16)
      have g1 := (hB.cell k).trans (tabV_get 17 _ k (by omega))
      rw [if_pos (Nat.le_refl k)] at g1
      have f1 := hB.free (k + 1)
      have e1 := (hB.cell (k + 1)).trans (tabV_get 17 _ (k + 1) (by omega))
      have f19 := hR.ff 19
      have e19 := hR.c19
      have hc := HC.out k
      have hs := HS.out k
      have HB2 := Lib.hid (show Block (wr.setCell ⟨w.heap.size, k + 1, none⟩ (.int .i64 ((startN ls (k + 1) : Nat) : Int))) w.heap.size 60 (tabV 17 fun j => if j ≤ k + 1 then startN ls j else 0) by
        have := hB.set (k + 1) (.int .i64 ((startN ls (k + 1) : Nat) : Int))
        rw [tabV_set, tabV_congr 17 _ (fun j => if j ≤ k + 1 then startN ls j else 0) (fun j _ => by
          by_cases h1 : j = k + 1
          · simp [h1]
          · by_cases h2 : j ≤ k
            · simp [h1, h2, show j ≤ k + 1 by omega]
            · simp [h1, h2, show ¬ j ≤ k + 1 by omega])] at this
        exact this)
      have HR2 := Lib.hid (hR.kept ((Touch.refl (fun j => j = w.heap.size) _).setCell (p := ⟨w.heap.size, k + 1, none⟩) (Or.inl rfl) (.int .i64 ((startN ls (k + 1) : Nat) : Int))) (by omega))
      have HT2 := Lib.hid (hT.setCell (p := ⟨w.heap.size, k + 1, none⟩) (.inr (Nat.le_refl _)) (.int .i64 ((startN ls (k + 1) : Nat) : Int)))
      have hsum : (startN ls k : Int) + (cntN ls k : Int) = ((startN ls (k + 1) : Nat) : Int) := by rw [startN]; simp
      have hL := Lib.hid (show longN (cntN ls) (k + 1) = if 0 < cntN ls k then k else longN (cntN ls) k from rfl)
      clear hB hR hT
      generalize startN ls (k + 1) = S1 at hsum HB2 HR2 HT2
      generalize startN ls k = S0 at hsum g1 hs
      generalize hck : cntN ls k = C at hsum hidx hc hL
      clear hck
      have HSUM := Lib.hid hsum
      have hS1 : S1 ≤ 576 := by omega
      clear hsum
      by_cases hpos : 0 < C
      · go_wp2
        go_roundw
        case rel =>
          rw [HSUM.out]
          refine ⟨k + 1, by omega, by go_num, HB2.out.kept ((Touch.refl (fun j => j = b) _).setCell (Or.inl rfl) _) (by omega), ?_, HT2.out.setCell (.inl rfl) _⟩
          rw [hL.out, if_pos hpos]
          exact HR2.out.set19 k
        case measure => simp [intOf]; omega
      · go_wp2
        go_roundw
        case rel =>
          rw [HSUM.out]
          refine ⟨k + 1, by omega, by go_num, HB2.out, ?_, HT2.out⟩
          rw [hL.out, if_neg hpos]
          exact HR2.out
        case measure => simp [intOf]; omega
    · obtain rfl : k = 16 := by omega
      have HTL := Lib.hid (HS.out 16)
      have e16 := (hB.cell 16).trans (tabV_get 17 _ 16 (by omega))
      rw [if_pos (Nat.le_refl 16)] at e16
      have hTb := HTL.out
      have HPL := Lib.hid (pos_lt ls)
      generalize hTT : startN ls 16 = T at hTb e16 HPL ⊢
      have HTT := Lib.hid hTT
      clear hTT HTL
      go_wp2_with (at_make; refine wpList_make_full _ rfl (.tmp 32) (.tmp 32) 22 rfl wr.heap.size 3 i0 _ 1 Try.underlying22 hi hz0 hz1 .i64 .i64 _ _ T rfl rfl rfl rfl (by rw [hz2]; omega) (by unfold maxLen; omega) (Nat.le_refl _) ?_; intro w2 hown hgrow; rw [made_ints] at hown; have hR2 := hR.kept ((Touch.refl (fun _ => False) wr).grown hgrow (fun k h => by cases h)) id; have e0 := hR2.c0; have e18 := hR2.c18; have f18 := hR2.ff 18)
      have hGw : w.heap.size < wr.heap.size := hB.lt
      have hbG : b < wr.heap.size := by omega
      have hrow0 := Row.of_own hown
      have hTg := (Touch.refl (fun _ => False) wr).grown hgrow (fun k h => by cases h)
      have hrow1 := hrow0.kept ((Touch.refl (fun k => k = b) w2).setCell (p := ⟨b, 18, none⟩) (Or.inl rfl) (.slice (some ⟨wr.heap.size, 0, none⟩) T T)) (fun g hg => by simp [Value.ownBlock] at hg; omega)
      have hB2 := (hB.kept hTg id).kept ((Touch.refl (fun k => k = b) w2).setCell (p := ⟨b, 18, none⟩) (Or.inl rfl) (.slice (some ⟨wr.heap.size, 0, none⟩) T T)) (by omega)
      have hR3 := hR2.set18 (.slice (some ⟨wr.heap.size, 0, none⟩) T T)
      have hT2 := (hT.grown hgrow (fun k h => by cases h)).setCell (p := ⟨b, 18, none⟩) (Or.inl rfl) (.slice (some ⟨wr.heap.size, 0, none⟩) T T)
      generalize hGG : wr.heap.size = G at hGw hbG hrow1 hB2 hR3 hT2
      have HGG := Lib.hid hGG
      clear hGG hown hrow0 hgrow hTg hR2 e0 e18 f18 e16 hT hB hR HC
      go_loopw [5, 6, 41] (fun _ _ i w3 => ∃ (k : Nat) (os : List Nat), k ≤ ls.length ∧ i = .int .i64 k ∧ os.length = T ∧ Block w3 w.heap.size 60 (tabV 17 fun j => startN ls j + if j = 0 then 0 else (ls.take k).count j) ∧ CodeRaw w3 b (.slice al ls.length capl) vw (.slice (some ⟨G, 0, none⟩) T T) (cntN ls) (longN (cntN ls) 16) ∧ Row w3 3 (.slice (some ⟨G, 0, none⟩) T T) (intVs os) ∧ (∀ s, s < k → ls.getD s 0 ≠ 0 → os[posN ls s]? = some s) ∧ Touch (fun k => k = b) w w3) (fun _ _ i _ => ls.length - (intOf i).toNat)
      case atStart =>
        refine ⟨0, List.replicate T 0, Nat.zero_le _, rfl, by simp, ?_, hR3, hrow1, fun s hs => absurd hs (Nat.not_lt_zero _), hT2⟩
        rw [tabV_congr 17 _ (fun j => if j ≤ 16 then startN ls j else 0) (fun j hj => by
          have hj2 : j ≤ 16 := by omega
          by_cases h : j = 0 <;> simp [h, hj2])]
        exact hB2
      case round =>
        clear hB2 hR3 hrow1 hT2
        obtain ⟨k, os, hk, rfl, hol, hB, hR, hrow, hpos, hT⟩ := hrel
        by_cases hltk : k < ls.length
        · obtain ⟨g, off, rfl, hgb, hc⟩ := hcell k hltk
          have hc' := hc wr hT
          have hm := H15.out _ (List.getElem_mem hltk)
          generalize hx : ls[k] = x at hc' hm
          have HX := Lib.hid hx
          have HPOS := Lib.hid hpos
          clear hx hcell hc hpos
          have hxd : ls.getD k 0 = x := by rw [← HX.out]; simp [hltk]
          by_cases hx0 : x = 0
          · subst hx0
            have HXD := Lib.hid hxd
            clear hxd
            go_wp2
            go_roundw
            case rel =>
              refine ⟨k + 1, os, by omega, by go_num, hol, ?_, hR, hrow, fun s hs h0 => ?_, hT⟩
              · rw [tabV_congr 17 _ (fun j => startN ls j + if j = 0 then 0 else (ls.take k).count j) (fun j _ => by
                  by_cases h : j = 0
                  · simp [h]
                  · rw [if_neg h, if_neg h, ← count_step ls k hltk j, HX.out, if_neg h])]
                exact hB
              · by_cases e : s = k
                · subst e; exact absurd HXD.out h0
                · exact HPOS.out s (by omega) h0
            case measure => simp [intOf]; omega
          · have hp := HPL.out k hltk (by rw [hxd]; exact hx0) (by rw [hxd]; exact hm)
            have hpe : posN ls k = startN ls x + (ls.take k).count x := by unfold posN; rw [hxd]
            have ex := (hB.cell x).trans (tabV_get 17 _ x (by omega))
            rw [if_neg hx0, ← hpe] at ex
            have fx := hB.free x
            have e18 := hR.c18
            have hfr := hrow.free (k := posN ls k)
            have hcr := (Row.cells hrow).2 (posN ls k) _ (by rw [intVs, List.getElem?_map, List.getElem?_eq_getElem (by rw [hol]; exact hp)]; rfl)
            rw [Nat.zero_add] at hfr hcr
            have hxpos : 0 < x := by omega
            have HXD := Lib.hid hxd
            have HPE := Lib.hid hpe
            have HTL2 := Lib.hid hTb
            have hpb : posN ls k < 1000 := by omega
            have hset := Lib.hid (hrow.set (k := posN ls k) hp (.int .i64 (k : Nat)))
            have HB := Lib.hid hB
            have HR := Lib.hid hR
            have HT := Lib.hid hT
            have hGw3 := hT.size
            clear hxd hpe hB hR hrow hT hx0
            generalize hpp : posN ls k = p at hp hpb ex hfr hcr hset HPE
            have HPP := Lib.hid hpp
            clear hpp
            go_wp2
            go_region
            go_wp2
            go_roundw
            case rel =>
              have hsz : p < os.length := by rw [hol]; exact hp
              refine ⟨k + 1, os.set p k, by omega, by go_num, by simpa using hol, ?_, ?_, ?_, fun s hs h0 => ?_, ?_⟩
              · have h1 := ((HB.out.kept ((Touch.refl (fun j => j = G) _).setCell (p := ⟨G, p, none⟩) (Or.inl rfl) (.int .i64 (k : Nat))) (by omega))).set x (.int .i64 ((p + 1 : Nat) : Int))
                rw [tabV_set, tabV_congr 17 _ (fun j => startN ls j + if j = 0 then 0 else (ls.take (k + 1)).count j) (fun j _ => by
                  have h2 := count_step ls k hltk j
                  rw [HX.out] at h2
                  by_cases hj : j = x
                  · subst hj
                    rw [if_pos rfl] at h2
                    rw [if_pos rfl, if_neg (by omega), HPE.out, ← h2]
                    omega
                  · rw [if_neg hj] at h2
                    by_cases hj0 : j = 0
                    · subst hj0; simp [hj]
                    · rw [if_neg hj, if_neg hj0, if_neg hj0, h2])] at h1
                simpa using h1.drew
              · exact HR.out.kept (((Touch.refl (fun j => j = G ∨ j = w.heap.size) _).setCell (p := ⟨G, p, none⟩) (.inl (.inl rfl)) _).setCell (p := ⟨w.heap.size, x, none⟩) (.inl (.inr rfl)) _).drew (by omega)
              · have h1 := hset.out.kept ((Touch.refl (fun j => j = w.heap.size) _).setCell (p := ⟨w.heap.size, x, none⟩) (.inl rfl) (.int .i64 ((p : Int) + 1))).drew (fun g hg => by simp [Value.ownBlock] at hg; omega)
                rw [show (intVs os).set p (.int .i64 (k : Nat)) = intVs (os.set p k) by simp [intVs, List.map_set]] at h1
                simpa using h1
              · by_cases e : s = k
                · subst e
                  rw [HPP.out, List.getElem?_set_self hsz]
                · have hne : posN ls s ≠ p := fun e2 => e (pos_inj ls (by omega) hltk h0 (by rw [HXD.out]; omega) (by rw [HPP.out]; exact e2))
                  rw [List.getElem?_set_ne (fun e2 => hne e2.symm)]
                  exact HPOS.out s (by omega) h0
              · exact (HT.out.setCell (p := ⟨G, p, none⟩) (.inr (Nat.le_of_lt hGw)) _).setCell (p := ⟨w.heap.size, x, none⟩) (.inr (Nat.le_refl _)) _ |>.drew
            case measure => simp [intOf]; omega
        · obtain rfl : k = ls.length := by omega
          go_wp2
          go_end0
          refine ⟨rfl, G, os, Nat.le_of_lt hGw, ?_⟩
          rw [HTT.out]
          exact ⟨hR, hrow, hol, hpos, hT⟩
end Go.Proofs.Ythobbdnmhldglaa

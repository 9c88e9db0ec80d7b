/- The reference of layer 17, third part: Write. -/
import Derived.Test.YtjjpknmjkhaahaaDiS
import Derived.Maps.AppendAt
namespace Go.Proofs.Ytjjpknmjkhaahaa
open Go Go.RowKit Go.Maps
set_option maxRecDepth 100000

theorem own_still {w w' : World} {base : Nat} {e : TypeId} {k : Nat} {v : Value} {n : Nat} {xs : List Value} {S : Nat → Prop} (h : w.ownsRow base e k v n xs) (ht : Touch S w w') (hn : ∀ g, v.ownBlock = some g → ¬ S g) : w'.ownsRow base e k v n xs := by
  refine ⟨h.1, ?_⟩
  rcases h.2 with h1 | ⟨g, cap, cur, h1, h2, h3, h4⟩
  · exact .inl h1
  · refine .inr ⟨g, cap, cur, h1, h2, ?_, h4⟩
    rw [ht.block g (Array.getElem?_eq_some_iff.1 h3).1 (hn g (by rw [h1]; rfl))]
    exact h3
theorem own_base {w : World} {base : Nat} {e : TypeId} {k : Nat} {v : Value} {n : Nat} {xs : List Value} (h : w.ownsRow base e k v n xs) : ∀ g, v.ownBlock = some g → base ≤ g := by
  intro g hg
  rcases h.2 with ⟨h1, _⟩ | ⟨g', cap, cur, h1, h2, _⟩
  · subst h1; cases hg
  · subst h1
    have : g' = g := by simpa [Value.ownBlock] using hg
    omega
theorem own_form {w : World} {base : Nat} {e : TypeId} {k : Nat} {v : Value} {n : Nat} {xs : List Value} (h : w.ownsRow base e k v n xs) : ∃ a cap, v = .slice a n cap ∧ n ≤ cap ∧ cap ≤ maxLen := by
  rcases h.2 with ⟨h1, h2⟩ | ⟨g, cap, cur, h1, _, _, h3, h4, _⟩
  · exact ⟨none, 0, by rw [h1, h2], by omega, Nat.zero_le _⟩
  · exact ⟨_, cap, h1, h3, h4⟩
theorem own_cell {w : World} {base : Nat} {e : TypeId} {k : Nat} {v : Value} {n : Nat} {xs : List Value} (h : w.ownsRow base e k v n xs) (h0 : 0 < n) : ∃ g cap, v = .slice (some ⟨g, 0, none⟩) n cap ∧ g < w.heap.size ∧ ∀ j u, xs[j]? = some u → w.cell? ⟨g, j, none⟩ = some u := by
  rcases h.2 with ⟨_, h1⟩ | ⟨g, cap, cur, h1, hb, h2, h3, h4, h5, h6⟩
  · omega
  · refine ⟨g, cap, h1, (Array.getElem?_eq_some_iff.1 h2).1, fun j u hu => ?_⟩
    rw [cell_of_row w g j cur e (0, 0) h2]
    rw [← h6, List.getElem?_take] at hu
    split at hu
    · rw [Array.getElem?_toList] at hu; exact hu
    · cases hu

/-- Entries' cells. -/
def flE (e : Ent) : List Value := [.int .i64 (e.k : Nat), .string e.s]
def flV (C : List Ent) : List Value := C.flatMap flE
theorem flV_len (C : List Ent) : (flV C).length = C.length * 2 := by
  induction C with
  | nil => rfl
  | cons e r ih => simp only [flV, List.flatMap_cons, List.length_append, List.length_cons] at ih ⊢; rw [ih]; simp [flE]; omega
theorem flV_snoc (C : List Ent) (e : Ent) : flV (C ++ [e]) = flV C ++ flE e := by simp [flV]
theorem flV_get : ∀ (C : List Ent) (j : Nat) (e : Ent), C[j]? = some e → (flV C)[j * 2]? = some (.int .i64 (e.k : Nat)) ∧ (flV C)[j * 2 + 1]? = some (.string e.s)
  | [], _, _, h => by simp at h
  | a :: r, 0, e, h => by
    have : a = e := by simpa using h
    subst this
    exact ⟨rfl, rfl⟩
  | a :: r, j + 1, e, h => by
    have h2 := flV_get r j e (by simpa using h)
    have hl : (flE a).length = 2 := rfl
    have e1 : flV (a :: r) = flE a ++ flV r := rfl
    rw [e1, List.getElem?_append_right (by omega), List.getElem?_append_right (by omega), hl, show (j + 1) * 2 - 2 = j * 2 by omega, show (j + 1) * 2 + 1 - 2 = j * 2 + 1 by omega]
    exact h2
theorem own_ch {w : World} {base : Nat} {e : TypeId} {v : Value} {n : Nat} {C : List Ent} (h : w.ownsRow base e 2 v n (flV C)) (hn : n = C.length) : Ch w v C := by
  subst hn
  obtain ⟨a, cap, hv, h1, h2⟩ := own_form h
  refine ⟨a, cap, hv, h1, h2, ?_⟩
  rcases Nat.eq_zero_or_pos C.length with h0 | h0
  · exact .inl (List.eq_nil_of_length_eq_zero h0)
  · obtain ⟨g, cap', hv', hg, hc⟩ := own_cell h h0
    rw [hv] at hv'
    injection hv' with e1 e2 e3
    refine .inr ⟨g, 0, e1, hg, fun j e he => ?_⟩
    obtain ⟨q1, q2⟩ := flV_get C j e he
    rw [Nat.zero_add]
    exact ⟨hc _ _ q1, hc _ _ q2⟩
theorem fl_new {w : World} {b : Nat} {t : TypeId} {k : Int} {s : ByteArray} (h : w.heap[b]? = some (.cells #[.int .i64 k, .string s] t)) : ∀ j u, ([.int .i64 k, .string s] : List Value)[j]? = some u → w.cell? ((⟨b, 0, none⟩ : Addr).add j) = some u := by
  intro j u hu
  rw [add_plain, Nat.zero_add, cell_of_row w b j _ _ _ h]
  match j, hu with
  | 0, hu => simpa using hu
  | 1, hu => simpa using hu
theorem fl_one (k : Int) (s : ByteArray) : ∀ u ∈ ([.int .i64 k, .string s] : List Value), u.oneCell' = true := by
  intro u hu
  simp at hu
  rcases hu with rfl | rfl <;> rfl
theorem Try.infoWr : (Try.prog.info? 46).map (fun i => (i.zero, i.size, i.bytes)) = some (some (.agg #[.int .i64 0, .string ⟨#[]⟩]), 2, 24) := by kernel_rfl

/-- A Write that is refused. -/
theorem rwrite_bad (n : Nat) (a2 : Option Addr) (k2 : Nat) (a1 : Option Addr) (n1 k1 : Nat) (i : Int) (s : ByteArray) (hs : s.size = 64) (hi : i < 0 ∨ (n : Int) ≤ i) (w : World) :
    Calls Try.prog 13 #[.agg #[.slice a2 n k2, .slice a1 n1 k1, .bool false, .int .i64 (-1)], .int .i64 i, .string s] w fun e w' =>
      e = .returned (.tuple #[.agg #[.slice a2 n k2, .slice a1 n1 k1, .bool false, .int .i64 (-1)], .int .i64 20]) ∧ Touch (fun _ => False) w w' := by
  have hsz : (s.size : Int) = 64 := by omega
  have hsn : ¬ ((s.size : Int) ≠ 64) := by omega
  rcases (show (i < 0) ∨ (¬ i < 0 ∧ (n : Int) ≤ i) by omega) with hi1 | ⟨hi1, hi2⟩
  all_goals
    go_enter Try.func13, Try.ntmps13
    go_upto_region 1 with fail
    obtain ⟨x, hx⟩ : ∃ x, x = w.heap.size := ⟨_, rfl⟩
    obtain ⟨rb, hrb⟩ : ∃ x, x = w.heap.size + 1 := ⟨_, rfl⟩
    rw [← hrb, ← hx]
    generalize hw1 : World.alloc (w.alloc _) _ = w1
    have hM1 : DAt w1 x (.slice a2 n k2) (.slice a1 n1 k1) false (-1) := by
      rw [← hw1, hx]
      exact DAt.kept (S := fun _ => False) (Block.new w _ _) ((Touch.refl _ _).alloc _) id
    have hR1 : DAt w1 rb (.slice none 0 0) (.slice none 0 0) false 0 := by
      rw [← hw1, hrb, ← alloc_size w]
      exact Block.new _ _ _
    have hT1 : Touch (fun _ => False) w w1 := by rw [← hw1]; exact ((Touch.refl _ w).alloc _).alloc _
    have hlt1 : x < w1.heap.size ∧ rb < w1.heap.size ∧ x ≠ rb ∧ w.heap.size ≤ x ∧ w.heap.size ≤ rb := ⟨Block.lt hM1, Block.lt hR1, by omega, by omega, by omega⟩
    obtain ⟨c0, c1, c2, c3⟩ := hM1.cells
    obtain ⟨d0, d1, d2, d3⟩ := hR1.cells
    have q0 := Block.free hR1 0
    have q1 := Block.free hR1 1
    have q2 := Block.free hR1 2
    have q3 := Block.free hR1 3
    have hne := hlt1.2.2.1
    have hne' : rb ≠ x := fun e => hne e.symm
    have HR1 := Lib.hid hR1
    have HT1 := Lib.hid hT1
    have HLT := Lib.hid hlt1
    clear hw1 hx hrb hM1 hR1 hT1 hlt1
    go_wp2_with fail
    have hRf := d_set4 (lv' := .slice a2 n k2) (cv' := .slice a1 n1 k1) (off' := false) (fz' := -1) HR1.out
    have hT5 := d_touch4 (w := w1) rb (.slice a2 n k2) (.slice a1 n1 k1) (.bool false) (.int .i64 (-1))
    refine bodyPost_ret (results_cell_slot rfl _ _ rb _ _ _ _ rfl hRf Try.underlying31 rfl Try.sizeDi) rfl ⟨rfl, d_new ((HT1.out.mono (fun j e => e.elim)).trans (hT5.mono (fun j e => ?_)))⟩
    have := HLT.out; omega

set_option maxHeartbeats 4000000 in
theorem rwrite_calls (n : Nat) (a2 : Option Addr) (k2 : Nat) (cv : Value) (C : List Ent) (w : World) (hc : Ch w cv C) (hC : C.length ≤ 1000) (i : Nat) (hi : i < n) (s : ByteArray) (hs : s.size = 64) (t : Nat) :
    Calls Try.prog 13 #[.agg #[.slice a2 n k2, cv, .bool false, .int .i64 (-1)], .int .i64 (i : Nat), .string s] w fun e w' =>
      ∃ cv', e = .returned (.tuple #[.agg #[.slice a2 n k2, cv', .bool false, .int .i64 (-1)], .int .i64 0]) ∧ Ch w' cv' (putE C i s t) ∧ DNew w cv' ∧ Touch (fun _ => False) w w' := by
  obtain ⟨i0, hwi, hz0, hz1, hz2⟩ := info_parts Try.infoWr
  obtain ⟨a1, k1, rfl, hk3, hk4⟩ := hc.form
  unfold maxLen at hk4
  have HC := Lib.hid hc
  have hsz : (s.size : Int) = 64 := by omega
  have hi1 : ¬ ((i : Int) < 0) := by omega
  have hi2 : ¬ ((n : Int) ≤ (i : Int)) := by omega
  clear hc
  go_enter Try.func13, Try.ntmps13
  go_upto_region 1 with fail
  obtain ⟨x, hx⟩ : ∃ x, x = w.heap.size := ⟨_, rfl⟩
  obtain ⟨rb, hrb⟩ : ∃ x, x = w.heap.size + 1 := ⟨_, rfl⟩
  rw [← hrb, ← hx]
  generalize hw1 : World.alloc (w.alloc _) _ = w1
  have hM1 : DAt w1 x (.slice a2 n k2) (.slice a1 C.length k1) false (-1) := by
    rw [← hw1, hx]
    exact DAt.kept (S := fun _ => False) (Block.new w _ _) ((Touch.refl _ _).alloc _) id
  have hR1 : DAt w1 rb (.slice none 0 0) (.slice none 0 0) false 0 := by
    rw [← hw1, hrb, ← alloc_size w]
    exact Block.new _ _ _
  have hT1 : Touch (fun _ => False) w w1 := by rw [← hw1]; exact ((Touch.refl _ w).alloc _).alloc _
  have hlt1 : x < w1.heap.size ∧ rb < w1.heap.size ∧ x ≠ rb ∧ w.heap.size ≤ x ∧ w.heap.size ≤ rb := ⟨Block.lt hM1, Block.lt hR1, by omega, by omega, by omega⟩
  have HC2 := Lib.hid (HC.out.kept hT1 (fun _ _ => id))
  obtain ⟨c0, c1, c2, c3⟩ := hM1.cells
  have HM1 := Lib.hid hM1
  have HR1 := Lib.hid hR1
  have HT1 := Lib.hid hT1
  have HLT := Lib.hid hlt1
  clear hw1 hx hrb hM1 hR1 hT1 hlt1
  have hsn : ¬ ((s.size : Int) ≠ 64) := by omega
  go_wp2_with fail
  go_loopw [8, 9] (fun lv iv wr => ∃ (j m : Nat), j ≤ C.length ∧ iv = .int .i64 (j : Nat) ∧ RowKit.Hid (m = ((C.take j).filter fun e => e.k != i).length) ∧ m ≤ 1000 ∧ RowKit.Hid (wr.ownsRow w1.heap.size 46 2 lv m (flV ((C.take j).filter fun e => e.k != i))) ∧ RowKit.Hid (Touch (fun j => w1.heap.size ≤ j) w1 wr)) (fun _ iv _ => C.length - (RowKit.intOf iv).toNat)
  case atStart => exact ⟨0, 0, Nat.zero_le _, rfl, Lib.hid rfl, Nat.zero_le _, Lib.hid (World.ownsRow_nil _ _ _ _), Lib.hid (Touch.refl _ _)⟩
  case round =>
    obtain ⟨j, m, hj1, rfl, HMI, hm, HOi, HTi⟩ := hrel
    have hMi := HM1.out.kept HTi.out (by have := HLT.out; omega)
    have hCi := HC2.out.kept0 HTi.out (fun g hg => by omega)
    obtain ⟨c0, c1, c2, c3⟩ := hMi.cells
    by_cases hlt : j < C.length
    · have hltI : (j : Int) < (C.length : Int) := by omega
      obtain ⟨gc, off, kc, hv, hgc, e0, e1⟩ := hCi.at' hlt
      injection hv with e2 _ e3
      subst e2
      have HTK : RowKit.Hid ((C.take (j + 1)).filter (fun e => e.k != i) = (C.take j).filter (fun e => e.k != i) ++ (if C[j].k = i then [] else [C[j]])) := Lib.hid (by
        rw [List.take_succ_eq_append_getElem hlt, List.filter_append]
        by_cases h : C[j].k = i <;> simp [h])
      have HLN : RowKit.Hid (((C.take j).filter fun e => e.k != i).length ≤ j) := Lib.hid (by
        have := List.length_filter_le (fun e : Ent => e.k != i) (C.take j)
        rw [List.length_take] at this; omega)
      clear e3 hCi
      by_cases hk : C[j].k = i
      · rw [if_pos hk, List.append_nil] at HTK
        have hkI : ((C[j].k : Nat) : Int) = (i : Int) := by omega
        go_wp2_with fail
        go_roundw
        case rel => exact ⟨j + 1, m, by omega, by go_num, Lib.hid (by rw [HTK.out]; exact HMI.out), hm, Lib.hid (by rw [HTK.out]; exact HOi.out), HTi⟩
        case measure => simp [RowKit.intOf]; omega
      · rw [if_neg hk] at HTK
        have hkI : ¬ ((C[j].k : Nat) : Int) = (i : Int) := by omega
        have hm2 : m + 1 ≤ 1000 := by have := HMI.out; have := HLN.out; omega
        obtain ⟨av, cav, hlv, hcv, hcv2⟩ := own_form HOi.out
        unfold maxLen at hcv2
        have hE : flE C[j] = [.int .i64 (C[j].k : Nat), .string C[j].s] := rfl
        have HSN : RowKit.Hid (flV ((C.take (j + 1)).filter fun e => e.k != i) = flV ((C.take j).filter fun e => e.k != i) ++ [.int .i64 (C[j].k : Nat), .string C[j].s]) := Lib.hid (by rw [HTK.out, flV_snoc]; rfl)
        have HML : RowKit.Hid (m + 1 = ((C.take (j + 1)).filter fun e => e.k != i).length) := Lib.hid (by rw [HTK.out, List.length_append, ← HMI.out]; rfl)
        clear hk hE HTK HLN
        generalize C[j].k = ek at *
        generalize C[j].s = es at *
        have hTa : Touch (fun _ => False) wr (wr.alloc (.cells #[.int .i64 (ek : Nat), .string es] 46)) := (Touch.refl _ _).alloc _
        have HOn := Lib.hid (own_still HOi.out hTa (fun _ _ => id))
        have hnb := hTa.size
        have hsz3 := HTi.out.size
        have HTa := Lib.hid hTa
        clear hTa
        subst hlv
        go_wp2_with (at_builtin; refine wpList_append_own_at _ rfl (.tmp 54) (.tmp 60) 29 rfl w1.heap.size 46 i0 _ 2 24 Try.underlying29 hwi hz0 hz1 hz2 rfl (by decide) (.slice av m cav) m _ rfl HOn.out ⟨wr.heap.size, 0, none⟩ 1 1 [.int .i64 (ek : Nat), .string es] rfl rfl (fl_new (heap_alloc_new wr _)) (fl_one _ _) (by unfold maxLen; omega) (by omega) (by omega) ?_; intro v2 w2 hrow2 hgrow _ hown2)
        go_roundw
        case rel =>
          refine ⟨j + 1, m + 1, by omega, by go_num, HML, by omega, Lib.hid (by rw [HSN.out]; exact hrow2), Lib.hid ?_⟩
          have hb := own_base HOn.out
          exact HTi.out.trans (((HTa.out.mono (fun _ e => e.elim)).trans ((Touch.of_grown hgrow).mono fun q hq => hb q hq.symm)))
        case measure => simp [RowKit.intOf]; omega
    · obtain rfl : j = C.length := by omega
      have hltI : ¬ (C.length : Int) < (C.length : Int) := by omega
      have hRbi := HR1.out.kept HTi.out (by have := HLT.out; omega)
      obtain ⟨d0, d1, d2, d3⟩ := hRbi.cells
      have hne := HLT.out.2.2.1
      have hne' : rb ≠ x := fun e => hne e.symm
      obtain ⟨av, cav, hlv, hcv, hcv2⟩ := own_form HOi.out
      unfold maxLen at hcv2
      have hTa : Touch (fun _ => False) wr (wr.alloc (.cells #[.int .i64 (i : Nat), .string s] 46)) := (Touch.refl _ _).alloc _
      have HOn := Lib.hid (own_still HOi.out hTa (fun _ _ => id))
      have hnb := hTa.size
      have hsz3 := HTi.out.size
      have HTa := Lib.hid (HTi.out.trans (hTa.mono (fun _ e => e.elim)))
      have HMi := Lib.hid hMi
      have HRbi := Lib.hid hRbi
      clear hTa hMi hRbi c0 c2 c3 d0 d1 d2 d3
      subst hlv
      go_wp2_with (at_builtin; refine wpList_append_own_at _ rfl (.tmp 62) (.tmp 66) 29 rfl w1.heap.size 46 i0 _ 2 24 Try.underlying29 hwi hz0 hz1 hz2 rfl (by decide) (.slice av m cav) m _ rfl HOn.out ⟨wr.heap.size, 0, none⟩ 1 1 [.int .i64 (i : Nat), .string s] rfl rfl (fl_new (heap_alloc_new wr _)) (fl_one _ _) (by unfold maxLen; omega) (by omega) (by omega) ?_; intro v2 w2 hrow2 hgrow _ hown2; obtain ⟨a9, c9, hv9, hc9, hd9⟩ := own_form hrow2; subst hv9; unfold maxLen at hd9; have hT2 : Touch (fun j => w1.heap.size ≤ j) w1 w2 := HTa.out.trans ((Touch.of_grown hgrow).mono fun q hq => own_base HOn.out q hq.symm); have hM2 := HM1.out.kept hT2 (by have := HLT.out; omega); have hR2 := HR1.out.kept hT2 (by have := HLT.out; omega); obtain ⟨c0, c1, c2, c3⟩ := hM2.cells; obtain ⟨d0, d1, d2, d3⟩ := hR2.cells; have f1 := Block.free hM2 1; have q0 := Block.free hR2 0; have q1 := Block.free hR2 1; have q2 := Block.free hR2 2; have q3 := Block.free hR2 3; have HM2 := Lib.hid hM2; have HR2 := Lib.hid hR2; have HT2 := Lib.hid hT2; have HROW := Lib.hid hrow2; clear hM2 hR2 hT2 hrow2)
      have hT4 : Touch (fun j => j = x) w2 (w2.setCell ⟨x, 1, none⟩ (.slice a9 (m + 1) c9)) := (Touch.refl (fun j => j = x) w2).setCell (p := ⟨x, 1, none⟩) (Or.inl rfl) _
      have hR4 := HR2.out.kept hT4 hne'
      have hRf := d_set4 (lv' := .slice a2 n k2) (cv' := .slice a9 (m + 1) c9) (off' := false) (fz' := -1) hR4
      have hT5 := d_touch4 (w := w2.setCell ⟨x, 1, none⟩ (.slice a9 (m + 1) c9)) rb (.slice a2 n k2) (.slice a9 (m + 1) c9) (.bool false) (.int .i64 (-1))
      have hvb : ∀ g, (Value.slice a9 (m + 1) c9).ownBlock = some g → w1.heap.size ≤ g := own_base HROW.out
      refine bodyPost_ret (results_cell_slot rfl _ _ rb _ _ _ _ rfl hRf Try.underlying31 rfl Try.sizeDi) rfl ⟨.slice a9 (m + 1) c9, rfl, ?_, fun g hg => by have := hvb g hg; have := HT1.out.size; omega, d_new ?_⟩
      · have hP : putE C i s t = ((C.take C.length).filter fun e => e.k != i) ++ [⟨i, s, t⟩] := by rw [List.take_length]; rfl
        have hch : Ch w2 (.slice a9 (m + 1) c9) (putE C i s t) := by
          rw [hP]
          have h := HROW.out
          refine own_ch (base := w1.heap.size) (e := 46) (n := m + 1) ?_ (by rw [List.length_append, ← HMI.out]; rfl)
          rw [flV_snoc]
          exact h
        exact (hch.kept hT4 (fun g hg e => by have := hvb g hg; have := HLT.out; omega)).kept hT5 (fun g hg e => by have := hvb g hg; have := HLT.out; omega)
      · refine (HT1.out.mono (fun j e => e.elim)).trans (((HT2.out.mono (fun j e => ?_)).trans (hT4.mono (fun j e => ?_))).trans (hT5.mono (fun j e => ?_)))
        · have := HT1.out.size; omega
        · have := HLT.out; omega
        · have := HLT.out; omega
end Go.Proofs.Ytjjpknmjkhaahaa

/- The reference of layer 17, second part: Sync. -/
import Derived.Test.YtjjpknmjkhaahaaDiR
import Derived.Deep.RegionLaw
import Derived.Below
import Derived.LoopTactic
namespace Go.Proofs.Ytjjpknmjkhaahaa
open Go Go.RowKit Go.Maps
set_option maxRecDepth 100000

set_option maxHeartbeats 4000000 in
theorem rsync_calls (n : Nat) (lv cv : Value) (L : List UInt8) (C : List Ent) (w : World) (hl : Reads w lv (secV n L)) (hc : Ch w cv C) (hn : n ≤ 64) (hL : L.length = n * 64) (_hC : C.length ≤ 1000) (hE : ∀ e ∈ C, e.k < n ∧ e.s.size = 64) :
    Calls Try.prog 8 #[.agg #[lv, cv, .bool false, .int .i64 (-1)]] w fun e w' =>
      ∃ a' k', e = .returned (.tuple #[.agg #[.slice a' n k', .slice none 0 0, .bool false, .int .i64 (-1)], .int .i64 0]) ∧ Row w' 9 (.slice a' n k') (secV n (syncL L C)) ∧ DNew w (.slice a' n k') ∧ Touch (fun _ => False) w w' := by
  obtain ⟨i0, hi, hz0, hz1, hz2⟩ := info_parts Try.infoStr
  obtain ⟨a2, k2, rfl, hk1, hk2⟩ := hl.form
  obtain ⟨a1, k1, rfl, hk3, hk4⟩ := hc.form
  unfold maxLen at hk2 hk4
  rw [secV_len] at hk1 hl ⊢
  have HA := Lib.hid hl
  have HC := Lib.hid hc
  have HE := Lib.hid hE
  have HL := Lib.hid hL
  clear hl hc hE hL
  go_enter Try.func8, Try.ntmps8
  go_upto_region 1 with fail
  obtain ⟨x, hx⟩ : ∃ x, x = w.heap.size := ⟨_, rfl⟩
  obtain ⟨rb, hrb⟩ : ∃ x, x = w.heap.size + 1 := ⟨_, rfl⟩
  rw [← hrb, ← hx]
  generalize hw1 : World.alloc (w.alloc _) _ = w1
  have hM1 : DAt w1 x (.slice a2 n k2) (.slice a1 C.length k1) false (-1) := by
    rw [← hw1, hx]
    exact DAt.kept (S := fun _ => False) (Block.new w _ _) ((Touch.refl _ _).alloc _) id
  have hR1 : DAt w1 rb (.slice none 0 0) (.slice none 0 0) false 0 := by
    rw [← hw1, hrb, ← alloc_size w]
    exact Block.new _ _ _
  have hT1 : Touch (fun _ => False) w w1 := by rw [← hw1]; exact ((Touch.refl _ w).alloc _).alloc _
  have hlt1 : x < w1.heap.size ∧ rb < w1.heap.size ∧ x ≠ rb ∧ w.heap.size ≤ x ∧ w.heap.size ≤ rb := ⟨Block.lt hM1, Block.lt hR1, by omega, by omega, by omega⟩
  obtain ⟨c0, c1, c2, c3⟩ := hM1.cells
  have HM1 := Lib.hid hM1
  have HR1 := Lib.hid hR1
  have HT1 := Lib.hid hT1
  have HLT := Lib.hid hlt1
  clear hw1 hx hrb hM1 hR1 hT1 hlt1
  have HSRC := Lib.hid (fun W (hT : Touch (fun _ => False) w1 W) => Reads.src ((HA.out.still HT1.out).still hT) Try.underlying28 (secV_one n L))
  have g0 := ((Touch.refl (fun _ => False) w1).alloc (.cells #[] 9)).cell (p := ⟨x, 0, none⟩) c0 id
  go_wp2_with (at_builtin; refine wpList_append_row _ rfl (.tmp 14) (.tmp 16) 28 28 rfl 9 i0 _ 16 Try.underlying28 hi hz0 hz1 hz2 rfl (.slice (some ⟨w1.heap.size, 0, none⟩) 0 0) [] rfl (by exact .inr ⟨_, 0, 0, #[], rfl, heap_alloc_new w1 _, Nat.le_refl _, Nat.zero_le _, Nat.le_refl _, rfl⟩) (.slice a2 n k2) rfl (secV n L).length (secV n L) (by exact HSRC.out _ ((Touch.refl _ _).alloc _)) (by rw [secV_len]; unfold maxLen; simp; omega) (by rw [secV_len]; simp; omega) ?_; intro v2 w2 hrow2 hgrow2 hown2; have hT2 : Touch (fun j => w1.heap.size ≤ j) w1 w2 := Touch.grown ((Touch.refl (fun j => w1.heap.size ≤ j) w1).alloc _) hgrow2 (fun g hg => Or.inl (by simp [Value.ownBlock] at hg; omega)); have hM2 := HM1.out.kept hT2 (by have := HLT.out; omega); have hR2 := HR1.out.kept hT2 (by have := HLT.out; omega); obtain ⟨c0, c1, c2, c3⟩ := hM2.cells; have HM2 := Lib.hid hM2; have HR2 := Lib.hid hR2; have HT2 := Lib.hid hT2; clear hM2 hR2 hT2)
  rw [List.nil_append] at hrow2
  have hnew : ∀ g, v2.ownBlock = some g → w1.heap.size ≤ g := fun g hg => by
    rcases hown2 with e | e
    · rw [e] at hg; simp [Value.ownBlock] at hg; omega
    · rw [e] at hg; injection hg with hg; rw [alloc_size] at hg; omega
  obtain ⟨a3, k3, hv2, hk5, hk6⟩ := hrow2.form
  rw [secV_len] at hv2 hk5
  subst hv2
  have HROW := Lib.hid hrow2
  have HNEW := Lib.hid hnew
  have HC2 := Lib.hid ((HC.out.kept HT1.out (fun _ _ => id)).kept0 (S := fun j => w1.heap.size ≤ j) HT2.out (fun g hg e => by omega))
  have HCN : RowKit.Hid (∀ g, (Value.slice a1 C.length k1).ownBlock = some g → C = [] ∨ g < w1.heap.size) := Lib.hid ((HC.out.kept HT1.out (fun _ _ => id)).lt)
  clear hrow2 hgrow2 hown2 hnew
  unfold maxLen at hk6
  go_loopw [5] (fun iv wr => ∃ i : Nat, i ≤ C.length ∧ iv = .int .i64 (i : Nat) ∧ RowKit.Hid (Row wr 9 (.slice a3 n k3) (secV n (syncL L (C.take i)))) ∧ RowKit.Hid (Touch (fun j => w1.heap.size ≤ j) w2 wr)) (fun iv _ => C.length - (RowKit.intOf iv).toNat)
  case atStart => exact ⟨0, Nat.zero_le _, rfl, Lib.hid (by simpa [syncL] using HROW.out), Lib.hid (Touch.refl _ _)⟩
  case round =>
    obtain ⟨i, hi1, rfl, HRi, HTi⟩ := hrel
    have hMi := HM2.out.kept HTi.out (by have := HLT.out; omega)
    have hCi := HC2.out.kept1 HTi.out (fun g hg => (HCN.out g hg).imp id (fun h e => by omega))
    obtain ⟨c0, c1, c2, c3⟩ := hMi.cells
    by_cases hlt : i < C.length
    · have hltI : (i : Int) < (C.length : Int) := by omega
      obtain ⟨hek, hes⟩ := HE.out C[i] (List.getElem_mem hlt)
      obtain ⟨gc, off, kc, hv, hgc, e0, e1⟩ := hCi.at' hlt
      injection hv with e2 _ e3
      subst e2
      have hRi := HRi.out
      obtain ⟨gb, off2, k, hv2, hcell, hfree⟩ := d_addr hRi (secV_len _ _) (by omega)
      injection hv2 with e4 _ e5
      subst e4
      have fx := hfree C[i].k
      have qx := hcell C[i].k _ (secV_get hek)
      have HRn := Lib.hid (Row.set hRi hek (.string C[i].s))
      have hgb := HNEW.out gb rfl
      have hek0 : ((C[i].k : Nat) : Int) < (n : Int) := by omega
      have hek1 : (0 : Int) ≤ ((C[i].k : Nat) : Int) := by omega
      have HST : RowKit.Hid (syncL L (C.take (i + 1)) = setS (syncL L (C.take i)) C[i].k C[i].s.data.toList) := Lib.hid (by rw [List.take_succ_eq_append_getElem hlt, syncL_snoc])
      have HLS : RowKit.Hid ((syncL L (C.take i)).length = n * 64) := Lib.hid (syncL_len _ _ HL.out (fun e he => HE.out e (List.mem_of_mem_take he)))
      generalize C[i].k = ek at *
      generalize C[i].s = es at *
      generalize Value.string ⟨(sec (syncL L (C.take i)) ek).toArray⟩ = old at qx
      clear hcell hfree e3 e5 hRi
      go_wp2_with fail
      go_region
      go_wp2_with fail
      go_roundw
      case rel =>
        have hTn : Touch (fun j => j = gb) wr (wr.setCell ⟨gb, off2 + ek, none⟩ (.string es)).drew := ((Touch.refl (fun j => j = gb) wr).setCell (p := ⟨gb, off2 + ek, none⟩) (Or.inl rfl) _).drew
        refine ⟨i + 1, by omega, by go_num, Lib.hid ?_, Lib.hid (HTi.out.trans (hTn.mono fun j e => by omega))⟩
        rw [HST.out, ← secV_set HLS.out hek es hes]
        exact HRn.out.kept ((Touch.refl (fun _ => False) _).drew) (fun _ _ => id)
      case measure => simp [RowKit.intOf]; omega
    · obtain rfl : i = C.length := by omega
      have hltI : ¬ (C.length : Int) < (C.length : Int) := by omega
      have hRbi := HR2.out.kept HTi.out (by have := HLT.out; omega)
      obtain ⟨d0, d1, d2, d3⟩ := hRbi.cells
      have f3 := Block.free hMi 3
      have q0 := Block.free hRbi 0
      have q1 := Block.free hRbi 1
      have q2 := Block.free hRbi 2
      have q3 := Block.free hRbi 3
      have hne := HLT.out.2.2.1
      have hne' : rb ≠ x := fun e => hne e.symm
      go_wp2_with fail
      have hRf := d_set4 (lv' := .slice a3 n k3) (cv' := .slice none 0 0) (off' := false) (fz' := -1) hRbi
      have hT5 := d_touch4 (w := wr) rb (.slice a3 n k3) (.slice none 0 0) (.bool false) (.int .i64 (-1))
      refine bodyPost_ret (results_cell_slot rfl _ _ rb _ _ _ _ rfl hRf Try.underlying31 rfl Try.sizeDi) rfl ⟨a3, k3, rfl, ?_, fun g hg => by have := HNEW.out g hg; have := HT1.out.size; omega, d_new ?_⟩
      · have h := HRi.out.kept hT5 (fun g hg e => by have := HNEW.out g hg; have := HLT.out; omega)
        rw [List.take_length] at h
        exact h
      · refine (HT1.out.mono (fun j e => e.elim)).trans (((HT2.out.trans HTi.out).mono (fun j e => ?_)).trans (hT5.mono (fun j e => ?_)))
        · have := HT1.out.size; omega
        · have := HLT.out; omega
end Go.Proofs.Ytjjpknmjkhaahaa

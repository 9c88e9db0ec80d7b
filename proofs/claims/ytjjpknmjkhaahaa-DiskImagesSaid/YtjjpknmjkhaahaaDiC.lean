/- The reference of layer 17, fourth part: Crash. -/
import Derived.Test.YtjjpknmjkhaahaaDiW
import Derived.Test.YtjjpknmjkhaahaaDkF
namespace Go.Proofs.Ytjjpknmjkhaahaa
open Go Go.RowKit Go.Maps
set_option maxRecDepth 100000

theorem cell_lt {w : World} {p : Addr} {u : Value} (h : w.cell? p = some u) : p.block < w.heap.size := by
  apply Decidable.byContradiction
  intro hn
  have h0 : w.heap[p.block]? = none := Array.getElem?_eq_none (by omega)
  simp [World.cell?, h0] at h
theorem Reads.kept_lt {S : Nat → Prop} {w w' : World} {v : Value} {xs : List Value} (h : Reads w v xs) (ht : Touch S w w') (hn : ∀ g, g < w.heap.size → ¬ S g) : Reads w' v xs := by
  rcases Nat.eq_zero_or_pos xs.length with h0 | h0
  · exact h.kept0 ht (fun h1 => by omega)
  · refine h.kept ht (fun g hg => ?_)
    obtain ⟨g', off, cap, rfl, _, _, _, hc⟩ := h.addr h0
    injection hg with hg
    subst hg
    exact hn _ (cell_lt (hc 0 xs[0] (by simp)))
theorem fate_0 {old s : ByteArray} {z : Int} (h : z % 4 = 0) : old.data.toList = fateT old.data.toList s.data.toList z := by
  unfold fateT; rw [if_pos h]
theorem fate_1 {old s : ByteArray} {z : Int} (h : z % 4 = 1) : s.data.toList = fateT old.data.toList s.data.toList z := by
  unfold fateT; rw [if_neg (by omega), if_pos h]
theorem rc_row {wr : World} {g off n k3 ek : Nat} {L : List UInt8} (hR : Row wr 9 (.slice (some ⟨g, off, none⟩) n k3) (secV n L)) (hL : L.length = n * 64) (hek : ek < n) (m : Nat) (u : ByteArray) (hu : u.size = 64) :
    Row ((wr.drewN m).setCell ⟨g, off + ek, none⟩ (.string u)) 9 (.slice (some ⟨g, off, none⟩) n k3) (secV n (setS L ek u.data.toList)) := by
  rw [← secV_set hL hek u hu]
  exact Row.set (hR.kept ((Touch.refl (fun _ => False) wr).drewN m) (fun _ _ => id)) hek (.string u)
theorem rc_touch {w2 wr : World} {b g off ek : Nat} (h : Touch (fun j => b ≤ j) w2 wr) (hg : b ≤ g) (m : Nat) (u : Value) : Touch (fun j => b ≤ j) w2 ((wr.drewN m).setCell ⟨g, off + ek, none⟩ u) :=
  (h.drewN m).setCell (p := ⟨g, off + ek, none⟩) (Or.inl hg) _
theorem half_sz {a b : ByteArray} (h1 : a.size = 64) (h2 : b.size = 64) : (a.extract 0 32 ++ b.extract 32 64).size = 64 := by simp [h1, h2]
theorem fate_2 {old s : ByteArray} {z : Int} (h1 : old.size = 64) (h : z % 4 = 2) : (s.extract 0 32 ++ old.extract 32 64).data.toList = fateT old.data.toList s.data.toList z := by
  unfold fateT; rw [if_neg (by omega), if_neg (by omega), if_pos h]
  have e1 : old.data.toList.length = 64 := by rw [Array.length_toList]; exact h1
  simp [ByteArray.data_append, ByteArray.data_extract, List.take_of_length_le (l := old.data.toList.drop 32) (show _ ≤ 32 by rw [List.length_drop]; omega)]
theorem fate_3 {old s : ByteArray} {z : Int} (h2 : s.size = 64) (h : z % 4 = 3) : (old.extract 0 32 ++ s.extract 32 64).data.toList = fateT old.data.toList s.data.toList z := by
  unfold fateT; rw [if_neg (by omega), if_neg (by omega), if_neg (by omega)]
  have e1 : s.data.toList.length = 64 := by rw [Array.length_toList]; exact h2
  simp [ByteArray.data_append, ByteArray.data_extract, List.take_of_length_le (l := s.data.toList.drop 32) (show _ ≤ 32 by rw [List.length_drop]; omega)]
theorem crashL_lt {L : List UInt8} {C : List Ent} {fs : List Int} {j : Nat} (h1 : j < C.length) (h2 : j < fs.length) : crashL L (C.take (j + 1)) fs = setS (crashL L (C.take j) fs) C[j].k (fateT (sec (crashL L (C.take j) fs) C[j].k) C[j].s.data.toList fs[j]) := by
  unfold crashL
  rw [zip_take_lt h1 h2, List.foldl_append]
  rfl
theorem crashL_ge {L : List UInt8} {C : List Ent} {fs : List Int} {j : Nat} (h2 : fs.length ≤ j) : crashL L (C.take (j + 1)) fs = crashL L (C.take j) fs := by
  unfold crashL
  rw [zip_take_ge h2]
theorem setS_self {n : Nat} {L : List UInt8} (h : L.length = n * 64) {i : Nat} (hi : i < n) : setS L i (sec L i) = L := by
  unfold setS putB
  rw [sec_len h hi]; unfold sec
  rw [List.append_assoc, ← List.drop_drop, List.take_append_drop, List.take_append_drop]

set_option maxHeartbeats 8000000 in
theorem rcrash_calls (n : Nat) (lv cv fv : Value) (L : List UInt8) (C : List Ent) (fs : List Int) (w : World) (hl : Reads w lv (secV n L)) (hc : Ch w cv C) (hf : Reads w fv (fs.map (Value.int .i64))) (hn : n ≤ 64) (hL : L.length = n * 64) (_hC : C.length ≤ 1000) (hE : ∀ e ∈ C, e.k < n ∧ e.s.size = 64) (hfw : ∀ z ∈ fs, -9223372036854775808 ≤ z ∧ z ≤ 9223372036854775807) :
    Calls Try.prog 11 #[.agg #[lv, cv, .bool false, .int .i64 (-1)], fv] w fun e w' =>
      ∃ a' k', e = .returned (.agg #[.slice a' n k', .slice none 0 0, .bool true, .int .i64 (-1)]) ∧ Row w' 9 (.slice a' n k') (secV n (crashL L C fs)) ∧ DNew w (.slice a' n k') ∧ Touch (fun _ => False) w w' := by
  obtain ⟨i0, hi, hz0, hz1, hz2⟩ := info_parts Try.infoStr
  obtain ⟨a2, k2, rfl, hk1, hk2⟩ := hl.form
  obtain ⟨a1, k1, rfl, hk3, hk4⟩ := hc.form
  unfold maxLen at hk2 hk4
  rw [secV_len] at hk1 hl ⊢
  have HA := Lib.hid hl
  have HC := Lib.hid hc
  have HE := Lib.hid hE
  have HL := Lib.hid hL
  obtain ⟨fa, fk, rfl, hfk1, hfk2⟩ := hf.form
  unfold maxLen at hfk2
  rw [List.length_map] at hfk1 hf ⊢
  have HF := Lib.hid hf
  have HFW := Lib.hid hfw
  clear hl hc hE hL hf hfw
  go_enter Try.func11, Try.ntmps11
  go_upto_region 1 with fail
  obtain ⟨x, hx⟩ : ∃ x, x = w.heap.size := ⟨_, rfl⟩
  obtain ⟨rb, hrb⟩ : ∃ x, x = w.heap.size + 1 := ⟨_, rfl⟩
  rw [← hrb, ← hx]
  generalize hw1 : World.alloc (w.alloc _) _ = w1
  have hM1 : DAt w1 x (.slice a2 n k2) (.slice a1 C.length k1) false (-1) := by
    rw [← hw1, hx]
    exact DAt.kept (S := fun _ => False) (Block.new w _ _) ((Touch.refl _ _).alloc _) id
  have hR1 : DAt w1 rb (.slice none 0 0) (.slice none 0 0) false 0 := by
    rw [← hw1, hrb, ← alloc_size w]
    exact Block.new _ _ _
  have hT1 : Touch (fun _ => False) w w1 := by rw [← hw1]; exact ((Touch.refl _ w).alloc _).alloc _
  have hlt1 : x < w1.heap.size ∧ rb < w1.heap.size ∧ x ≠ rb ∧ w.heap.size ≤ x ∧ w.heap.size ≤ rb := ⟨Block.lt hM1, Block.lt hR1, by omega, by omega, by omega⟩
  obtain ⟨c0, c1, c2, c3⟩ := hM1.cells
  have HM1 := Lib.hid hM1
  have HR1 := Lib.hid hR1
  have HT1 := Lib.hid hT1
  have HLT := Lib.hid hlt1
  clear hw1 hx hrb hM1 hR1 hT1 hlt1
  have HSRC := Lib.hid (fun W (hT : Touch (fun _ => False) w1 W) => Reads.src ((HA.out.still HT1.out).still hT) Try.underlying28 (secV_one n L))
  have g0 := ((Touch.refl (fun _ => False) w1).alloc (.cells #[] 9)).cell (p := ⟨x, 0, none⟩) c0 id
  go_wp2_with (at_builtin; refine wpList_append_row _ rfl (.tmp 13) (.tmp 15) 28 28 rfl 9 i0 _ 16 Try.underlying28 hi hz0 hz1 hz2 rfl (.slice (some ⟨w1.heap.size, 0, none⟩) 0 0) [] rfl (by exact .inr ⟨_, 0, 0, #[], rfl, heap_alloc_new w1 _, Nat.le_refl _, Nat.zero_le _, Nat.le_refl _, rfl⟩) (.slice a2 n k2) rfl (secV n L).length (secV n L) (by exact HSRC.out _ ((Touch.refl _ _).alloc _)) (by rw [secV_len]; unfold maxLen; simp; omega) (by rw [secV_len]; simp; omega) ?_; intro v2 w2 hrow2 hgrow2 hown2; have hT2 : Touch (fun j => w1.heap.size ≤ j) w1 w2 := Touch.grown ((Touch.refl (fun j => w1.heap.size ≤ j) w1).alloc _) hgrow2 (fun g hg => Or.inl (by simp [Value.ownBlock] at hg; omega)); have hM2 := HM1.out.kept hT2 (by have := HLT.out; omega); have hR2 := HR1.out.kept hT2 (by have := HLT.out; omega); obtain ⟨c0, c1, c2, c3⟩ := hM2.cells; have HM2 := Lib.hid hM2; have HR2 := Lib.hid hR2; have HT2 := Lib.hid hT2; clear hM2 hR2 hT2)
  rw [List.nil_append] at hrow2
  have hnew : ∀ g, v2.ownBlock = some g → w1.heap.size ≤ g := fun g hg => by
    rcases hown2 with e | e
    · rw [e] at hg; simp [Value.ownBlock] at hg; omega
    · rw [e] at hg; injection hg with hg; rw [alloc_size] at hg; omega
  obtain ⟨a3, k3, hv2, hk5, hk6⟩ := hrow2.form
  rw [secV_len] at hv2 hk5
  subst hv2
  have HROW := Lib.hid hrow2
  have HNEW := Lib.hid hnew
  have HC2 := Lib.hid ((HC.out.kept HT1.out (fun _ _ => id)).kept0 (S := fun j => w1.heap.size ≤ j) HT2.out (fun g hg e => by omega))
  have HFN : RowKit.Hid (∀ W, Touch (fun j => w1.heap.size ≤ j) w2 W → Reads W (.slice fa fs.length fk) (fs.map (Value.int .i64))) := Lib.hid (fun W hT => by
    have h1 := (HF.out.still HT1.out)
    exact h1.kept_lt (HT2.out.trans hT) (fun _ h => by omega))
  have HCN : RowKit.Hid (∀ g, (Value.slice a1 C.length k1).ownBlock = some g → C = [] ∨ g < w1.heap.size) := Lib.hid ((HC.out.kept HT1.out (fun _ _ => id)).lt)
  clear hrow2 hgrow2 hown2 hnew
  unfold maxLen at hk6
  go_loopw [6, 7, 8, 9] (fun iv _ _ _ wr => ∃ i : Nat, i ≤ C.length ∧ iv = .int .i64 (i : Nat) ∧ RowKit.Hid (Row wr 9 (.slice a3 n k3) (secV n (crashL L (C.take i) fs))) ∧ RowKit.Hid (Touch (fun j => w1.heap.size ≤ j) w2 wr)) (fun iv _ _ _ _ => C.length - (RowKit.intOf iv).toNat)
  case atStart => exact ⟨0, Nat.zero_le _, rfl, Lib.hid (by simpa [crashL] using HROW.out), Lib.hid (Touch.refl _ _)⟩
  case round =>
    obtain ⟨i, hi1, rfl, HRi, HTi⟩ := hrel
    have hMi := HM2.out.kept HTi.out (by have := HLT.out; omega)
    have hCi := HC2.out.kept1 HTi.out (fun g hg => (HCN.out g hg).imp id (fun h e => by omega))
    have HFi := Lib.hid (HFN.out wr HTi.out)
    obtain ⟨c0, c1, c2, c3⟩ := hMi.cells
    by_cases hlt : i < C.length
    · have hltI : (i : Int) < (C.length : Int) := by omega
      obtain ⟨hek, hes⟩ := HE.out C[i] (List.getElem_mem hlt)
      obtain ⟨gc, off, kc, hv, hgc, e0, e1⟩ := hCi.at' hlt
      injection hv with e2 _ e3
      subst e2
      have HLS : RowKit.Hid ((crashL L (C.take i) fs).length = n * 64) := Lib.hid (crashL_len fs _ fs _ HL.out (fun e he => HE.out e (List.mem_of_mem_take he)))
      have hRi := HRi.out
      obtain ⟨gb, off2, k, hv2, hcell, hfree⟩ := d_addr hRi (secV_len _ _) (by omega)
      injection hv2 with e4 _ e5
      subst e4
      have fx := hfree C[i].k
      have qx := hcell C[i].k _ (secV_get hek)
      obtain ⟨old, hold⟩ : ∃ o : ByteArray, o = ⟨(sec (crashL L (C.take i) fs) C[i].k).toArray⟩ := ⟨_, rfl⟩
      rw [← hold] at qx
      have hosz : old.size = 64 := by rw [hold]; have := sec_len HLS.out hek; show (sec _ _).toArray.size = 64; simpa using this
      have hotl : old.data.toList = sec (crashL L (C.take i) fs) C[i].k := by rw [hold]
      have hgb := HNEW.out gb rfl
      have hek0 : ((C[i].k : Nat) : Int) < (n : Int) := by omega
      have hek1 : (0 : Int) ≤ ((C[i].k : Nat) : Int) := by omega
      have hs1 : (32 : Int) ≤ ((C[i].s.size : Nat) : Int) := by omega
      have hs2 : (32 : Int) ≤ ((old.size : Nat) : Int) := by omega
      have HRn := Lib.hid (fun u => Row.set hRi hek u)
      have HOT := Lib.hid hotl
      clear hcell hfree e3 e5 hRi hold hotl
      by_cases hfl : i < fs.length
      · have hflI : (i : Int) < (fs.length : Int) := by omega
        have HST : RowKit.Hid (crashL L (C.take (i + 1)) fs = setS (crashL L (C.take i) fs) C[i].k (fateT (sec (crashL L (C.take i) fs) C[i].k) C[i].s.data.toList fs[i])) := Lib.hid (crashL_lt hlt hfl)
        obtain ⟨gf, off3, kf, hv3, _, _, _, hcf⟩ := HFi.out.addr (by rw [List.length_map]; omega)
        have qf := hcf i (.int .i64 fs[i]) (by simp [hfl])
        injection hv3 with e6 e8 e7
        subst e6
        clear e8
        have hzw := HFW.out fs[i] (List.getElem_mem hfl)
        rw [← HOT.out] at HST
        clear hcf e7
        generalize fs[i] = z at *
        generalize C[i].k = ek at *
        generalize C[i].s = es at *
        obtain ⟨r, hr, hr1, hr2, hk⟩ := mod4 z
        rcases (by omega : z % 4 = 0 ∨ z % 4 = 1 ∨ z % 4 = 2 ∨ z % 4 = 3) with h0 | h0 | h0 | h0
        · rw [h0] at hk
          go_wp2_with fail
          go_quiet (fail)
          go_wp2_with fail
          go_roundw
          case rel => refine ⟨i + 1, by omega, by go_num, Lib.hid (by rw [HST.out, ← fate_0 h0, HOT.out, setS_self HLS.out hek]; exact HRi.out.kept ((Touch.refl (fun _ => False) wr).drewN _) (fun _ _ => id)), Lib.hid (HTi.out.drewN _)⟩
          case measure => simp [RowKit.intOf]; omega
        · rw [h0] at hk
          go_wp2_with fail
          go_quiet (fail)
          go_wp2_with fail
          go_roundw
          case rel => refine ⟨i + 1, by omega, by go_num, Lib.hid (by rw [HST.out, ← fate_1 h0]; exact rc_row HRi.out HLS.out hek _ _ hes), Lib.hid (rc_touch HTi.out hgb _ _)⟩
          case measure => simp [RowKit.intOf]; omega
        · rw [h0] at hk
          go_wp2_with fail
          go_quiet (fail)
          go_wp2_with fail
          go_region
          go_wp2_with fail
          go_roundw
          case rel => refine ⟨i + 1, by omega, by go_num, Lib.hid (by rw [HST.out, ← fate_2 hosz h0]; exact rc_row HRi.out HLS.out hek _ _ (half_sz hes hosz)), Lib.hid (rc_touch HTi.out hgb _ _)⟩
          case measure => simp [RowKit.intOf]; omega
        · rw [h0] at hk
          go_wp2_with fail
          go_quiet (fail)
          go_wp2_with fail
          go_region
          go_wp2_with fail
          go_roundw
          case rel => refine ⟨i + 1, by omega, by go_num, Lib.hid (by rw [HST.out, ← fate_3 hes h0]; exact rc_row HRi.out HLS.out hek _ _ (half_sz hosz hes)), Lib.hid (rc_touch HTi.out hgb _ _)⟩
          case measure => simp [RowKit.intOf]; omega
      · have hflI : decide ((i : Int) < (fs.length : Int)) = false := decide_eq_false (by omega)
        have HST : RowKit.Hid (crashL L (C.take (i + 1)) fs = crashL L (C.take i) fs) := Lib.hid (crashL_ge (by omega))
        generalize C[i].k = ek at *
        generalize C[i].s = es at *
        go_wp2_with fail
        go_quiet (fail)
        go_wp2_with fail
        go_roundw
        case rel => refine ⟨i + 1, by omega, by go_num, Lib.hid (by rw [HST.out]; exact HRi.out.kept ((Touch.refl (fun _ => False) wr).drewN _) (fun _ _ => id)), Lib.hid (HTi.out.drewN _)⟩
        case measure => simp [RowKit.intOf]; omega
    · obtain rfl : i = C.length := by omega
      have hltI : ¬ (C.length : Int) < (C.length : Int) := by omega
      have hRbi := HR2.out.kept HTi.out (by have := HLT.out; omega)
      obtain ⟨d0, d1, d2, d3⟩ := hRbi.cells
      have q0 := Block.free hRbi 0
      have q1 := Block.free hRbi 1
      have q2 := Block.free hRbi 2
      have q3 := Block.free hRbi 3
      have hne := HLT.out.2.2.1
      have hne' : rb ≠ x := fun e => hne e.symm
      go_wp2_with fail
      have hRf := d_set4 (lv' := .slice a3 n k3) (cv' := .slice none 0 0) (off' := true) (fz' := -1) hRbi
      have hT5 := d_touch4 (w := wr) rb (.slice a3 n k3) (.slice none 0 0) (.bool true) (.int .i64 (-1))
      refine bodyPost_ret (results_cell_row rfl _ _ rb _ _ _ _ rfl hRf Try.underlying31 rfl Try.sizeDi) rfl ⟨a3, k3, rfl, ?_, fun g hg => by have := HNEW.out g hg; have := HT1.out.size; omega, d_new ?_⟩
      · have h := HRi.out.kept hT5 (fun g hg e => by have := HNEW.out g hg; have := HLT.out; omega)
        rw [List.take_length] at h
        exact h
      · refine (HT1.out.mono (fun j e => e.elim)).trans (((HT2.out.trans HTi.out).mono (fun j e => ?_)).trans (hT5.mono (fun j e => ?_)))
        · have := HT1.out.size; omega
        · have := HLT.out; omega
end Go.Proofs.Ytjjpknmjkhaahaa

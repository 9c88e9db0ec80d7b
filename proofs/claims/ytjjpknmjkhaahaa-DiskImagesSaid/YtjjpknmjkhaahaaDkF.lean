
/- Contracts of package disk, fifth part: Crash, burns. -/
import Derived.Test.YtjjpknmjkhaahaaDkD
import Derived.Test.YtjjpknmjkhaahaaDkE
import Derived.StillTailTactics
namespace Go.Proofs.Ytjjpknmjkhaahaa
open Go Go.RowKit Go.Maps
set_option maxRecDepth 100000

/-- What lasts behind a crash: each entry by its fate, as far as there are fates. -/
def crashL (L : List UInt8) (C : List Ent) (fs : List Int) : List UInt8 :=
  (C.zip fs).foldl (fun L p => setS L p.1.k (fateT (sec L p.1.k) p.1.s.data.toList p.2)) L

theorem setS_len {n : Nat} {L : List UInt8} (h : L.length = n * 64) {i : Nat} (hi : i < n) {T : List UInt8} (hT : T.length = 64) : (setS L i T).length = n * 64 := by
  unfold setS; rw [putB_len (by omega), h]

theorem crashL_len {n : Nat} (fs : List Int) : ∀ (C : List Ent) (fs : List Int) (L : List UInt8), L.length = n * 64 → (∀ e ∈ C, e.k < n ∧ e.s.size = 64) → (crashL L C fs).length = n * 64
  | [], _, L, h, _ => by simpa [crashL] using h
  | _ :: _, [], L, h, _ => by simpa [crashL] using h
  | e :: r, f :: fr, L, h, hc => by
    have he := hc e List.mem_cons_self
    have hs : e.s.data.toList.length = 64 := by rw [Array.length_toList]; exact he.2
    have := crashL_len fs r fr (setS L e.k (fateT (sec L e.k) e.s.data.toList f)) (setS_len h he.1 (fateT_len (sec_len h he.1) hs f)) (fun e' h' => hc e' (List.mem_cons_of_mem _ h'))
    simpa [crashL] using this

theorem zip_take_lt {α β : Type} {xs : List α} {ys : List β} {k : Nat} (h1 : k < xs.length) (h2 : k < ys.length) : (xs.take (k + 1)).zip ys = (xs.take k).zip ys ++ [(xs[k], ys[k])] := by
  induction xs generalizing ys k with
  | nil => simp at h1
  | cons a r ih =>
    cases ys with
    | nil => simp at h2
    | cons b s =>
      cases k with
      | zero => simp
      | succ k =>
        simp only [List.take_succ_cons, List.zip_cons_cons, List.cons_append, List.getElem_cons_succ]
        rw [ih (by simpa using h1) (by simpa using h2)]
theorem zip_take_ge {α β : Type} {xs : List α} {ys : List β} {k : Nat} (h2 : ys.length ≤ k) : (xs.take (k + 1)).zip ys = (xs.take k).zip ys := by
  induction xs generalizing ys k with
  | nil => simp
  | cons a r ih =>
    cases ys with
    | nil => simp
    | cons b s =>
      cases k with
      | zero => simp at h2
      | succ k =>
        simp only [List.take_succ_cons, List.zip_cons_cons]
        rw [ih (by simpa using h2)]

theorem DkAt.setL {w w' : World} {b lb mb c n : Nat} {L L' : List UInt8} {C : List Ent} {t : Nat} {f : Int} {on : Bool} (h : DkAt w b lb mb c n L C t f on) (hr : Row w' 5 (.slice (some ⟨lb, 0, none⟩) (n * 64) c) (byteVs L')) (hl : L'.length = n * 64) (hT : Touch (fun k => k = lb) w w') : DkAt w' b lb mb c n L' C t f on :=
  { box := by rw [hl, ← h.len]; exact h.box.kept hT (fun e => h.ne e.symm), row := by rw [hl]; exact hr, map := h.map.kept hT h.mne.2, ne := h.ne, len := hl, n1 := h.n1, n2 := h.n2, ents := h.ents, t2 := h.t2, f1 := h.f1, f2 := h.f2 }
theorem DkAt.setC {w w' : World} {b lb mb c n : Nat} {L : List UInt8} {C C' : List Ent} {t : Nat} {f : Int} {on : Bool} (h : DkAt w b lb mb c n L C t f on) (hm : MapAt w' mb t C') (hC : ∀ e ∈ C', e.k < n ∧ e.s.size = 64 ∧ e.t ≤ t) (hT : Touch (fun k => k = mb) w w') : DkAt w' b lb mb c n L C' t f on :=
  { h with box := h.box.kept hT (fun e => h.mne.1 e.symm), row := h.row.kept hT (fun g hg => by simp [Value.ownBlock] at hg; subst hg; exact fun e => h.mne.2 e.symm), map := hm, ents := hC }

theorem Reads.kept0 {S : Nat → Prop} {w w' : World} {v : Value} {xs : List Value} (h : Reads w v xs) (ht : Touch S w w') (hn : 0 < xs.length → ∀ g, v.ownBlock = some g → ¬ S g) : Reads w' v xs := by
  rcases Nat.eq_zero_or_pos xs.length with h0 | h0
  · obtain ⟨a, cap, e, h1, h2, _⟩ := h
    exact ⟨a, cap, e, h1, h2, .inl (List.eq_nil_of_length_eq_zero h0)⟩
  · exact h.kept ht (hn h0)
theorem crash_nil (fv : Value) (w : World) : Calls Try.prog 9 #[.pointer none, fv] w fun e w' => e = .returned (.tuple #[]) ∧ w = w' := by
  go_enter Try.func9, Try.ntmps9
  go_wp2_with (go_at_call 17; refine (on_nil _).mono ?_; rintro e w' ⟨rfl, rfl⟩)
  ((try simp only [Exit.inBlock, Exit.then]); refine bodyPost_ret (results_none rfl _ _ _) rfl ?_); exact ⟨rfl, rfl⟩
theorem crash_off {w : World} {b lb mb c n : Nat} {L : List UInt8} {C : List Ent} {t : Nat} {f : Int} (h : DkAt w b lb mb c n L C t f false) (fv : Value) :
    Calls Try.prog 9 #[.pointer (some ⟨b, 0, none⟩), fv] w fun e w' => e = .returned (.tuple #[]) ∧ w = w' := by
  have H := Lib.hid h
  clear h
  go_enter Try.func9, Try.ntmps9
  go_wp2_with (go_at_call 17; refine (on_calls H.out).mono ?_; rintro e w' ⟨rfl, rfl⟩)
  ((try simp only [Exit.inBlock, Exit.then]); refine bodyPost_ret (results_none rfl _ _ _) rfl ?_); exact ⟨rfl, rfl⟩

set_option maxHeartbeats 1000000 in
theorem crash_calls {w : World} {b lb mb c n : Nat} {L : List UInt8} {C : List Ent} {t : Nat} {f : Int} (h : DkAt w b lb mb c n L C t f true) (fv : Value) (fs : List Int) (hf : Reads w fv (fs.map (Value.int .i64))) (hfo : 0 < fs.length → ∀ g, fv.ownBlock = some g → ¬ DkS b lb mb g)
    (hfw : ∀ z ∈ fs, -9223372036854775808 ≤ z ∧ z ≤ 9223372036854775807) :
    Calls Try.prog 9 #[.pointer (some ⟨b, 0, none⟩), fv] w fun e w' => e = .returned (.tuple #[]) ∧ DkAt w' b lb mb c n (crashL L C fs) [] t (-1) false ∧ Touch (DkS b lb mb) w w' := by
  obtain ⟨fa, fcap, hfv, hf1, hf2⟩ := hf.form
  rw [List.length_map] at hfv hf1
  unfold maxLen at hf2
  have hCs := h.map.size_le
  have ht2 := h.t2
  have hn2 := h.n2
  have H := Lib.hid h
  have HF := Lib.hid hf
  clear h hf
  subst hfv
  go_enter Try.func9, Try.ntmps9
  go_wp2_with fail
  refine (on_calls H.out).mono ?_
  rintro e w' ⟨rfl, rfl⟩
  go_wp2_with fail
  refine (dirty_calls H.out).mono ?_
  rintro e w1 ⟨v, rfl, hrow, hvo, hT⟩
  obtain ⟨a, cap, hv, hc1, hc2⟩ := hrow.form
  rw [natVs_length, List.length_map] at hv hc1
  unfold maxLen at hc2
  have hD1 := H.out.still hT
  have HR1 := Lib.hid hrow
  subst hv
  have hfo1 : ∀ g, (Value.slice a C.length cap).ownBlock = some g → ¬ DkS b lb mb g := fun g hg hd => by
    have := hvo g hg
    have := H.out.lt
    rcases hd with rfl | rfl | rfl <;> omega
  have HV := Lib.hid hfo1
  have HFO := Lib.hid hfo
  have HFW := Lib.hid hfw
  have HF1 := Lib.hid (HF.out.still hT)
  have HD1 := Lib.hid hD1
  clear hrow hD1 hfo hfo1 hfw hvo
  go_wp2_with fail
  go_loopw [4, 5, 12] (fun _ _ idx wr => ∃ j : Nat, j ≤ C.length ∧ idx = .int .i64 j ∧ DkAt wr b lb mb c n (crashL L (C.take j) fs) C t f true ∧ Row wr 3 (.slice a C.length cap) (natVs (C.map Ent.k)) ∧ Reads wr (.slice fa fs.length fcap) (fs.map (Value.int .i64)) ∧ Touch (DkS b lb mb) w1 wr) (fun _ _ idx _ => C.length - (intOf idx).toNat)
  case atStart => exact ⟨0, Nat.zero_le _, rfl, by simpa [crashL] using HD1.out, by simpa using HR1.out, HF1.out, Touch.refl _ _⟩
  case round =>
    obtain ⟨j, hj, rfl, hD, hR, hFr, hTr⟩ := hrel
    by_cases hlt : j < C.length
    · obtain ⟨e, he⟩ : ∃ e, C[j] = e := ⟨_, rfl⟩
      have hem : e ∈ C := by rw [← he]; exact List.getElem_mem hlt
      obtain ⟨hek, hes, het⟩ := H.out.ents e hem
      obtain ⟨g, off, cp, hsl, _, hg, hcell⟩ := hR.addr (by rw [natVs_length, List.length_map]; omega)
      injection hsl with ha hlq hcap
      have q0 : wr.cell? ⟨g, off + j, none⟩ = some (.int .i64 e.k) := hcell j _ (by simp [natVs, hlt, he])
      have hjc : (j : Int) < (C.length : Int) := by omega
      have hj0 : (0 : Int) ≤ (j : Int) := by omega
      subst ha
      have HFr := Lib.hid hFr
      have HDr := Lib.hid hD
      have HRr := Lib.hid hR
      have HE := Lib.hid he
      clear hcell hR hFr hD he hcap hlq
      by_cases hf : j < fs.length
      · have hfc : (j : Int) < (fs.length : Int) := by omega
        go_upto_region 5 with fail
        obtain ⟨g2, off2, cp2, hsl2, _, _, hg2, hcell2⟩ := HFr.out.addr (by rw [List.length_map]; omega)
        injection hsl2 with ha2 hlq2 hcap2
        subst ha2
        have hTd := (Touch.refl (fun _ => False) wr).drew
        have hD2 := HDr.out.still hTd
        have q1 := hTd.cell (hcell2 j (.int .i64 fs[j]) (by simp [hf])) id
        have hlk := (hD2.map.look e.k (by omega) (by omega)).2
        have hF2 := HFr.out.still hTd
        have hR2 := HRr.out.kept hTd (fun _ _ => id)
        have hT2 : Touch (DkS b lb mb) w1 wr.drew := hTr.drew
        refine wp_region_still_tail 14 (by kernel_rfl) (by kernel_rfl) ?_
        simp only [List.take_succ_cons, List.take_zero, List.drop_succ_cons, List.drop_zero]
        show wpStill _ _ wr.drew (fun a' => wpList _ _ _ _ a' wr.drew) _ _
        generalize wr.drew = w2 at hD2 q1 hlk hF2 hR2 hT2 ⊢
        rw [lookV_eq] at hlk
        have ht : textE C e.k = e.s := by unfold textE; rw [find_of_mem (H.out.map.cached.1) hem]
        rw [ht] at hlk
        generalize timeE C e.k = tt at hlk
        have hfS := fieldS
        have c1 := hD2.cells.2.1
        have HD2 := Lib.hid hD2
        clear hTd hcell2 ht hD2 hcap2 hlq2
        generalize hz : fs[j] = z at q1
        have HZ := Lib.hid hz
        clear hz
        still_step
        still_step
        still_call ((sector_calls HD2.out _ hek).mono fun _ _ ⟨h1, h2⟩ => ⟨h1, h2.symm⟩)
        repeat still_step
        refine wpStill_nil ?_
        clear hlk hfS q1 q0 c1
        go_wp2_with fail
        have hrw := HD2.out.row
        rw [HD2.out.len] at hrw
        have hcap3 := HD2.out.cap
        refine (settle_calls hrw HD2.out.len HD2.out.n2 hcap3.1 hcap3.2 e.k hek e.s hes z).mono ?_
        rintro e' w3 ⟨rfl, hrow3, hT3⟩
        have hsl3 : e.s.data.toList.length = 64 := by rw [Array.length_toList]; exact hes
        have hD3 := HD2.out.setL hrow3 (setS_len HD2.out.len hek (fateT_len (sec_len HD2.out.len hek) hsl3 z)) hT3
        have hR3 := hR2.kept hT3 (fun g' hg' e' => HV.out g' hg' (.inr (.inl e')))
        have hF3 := hF2.kept0 hT3 (fun h0 g' hg' e' => HFO.out (by simpa using h0) g' hg' (.inr (.inl e')))
        have hT13 : Touch (DkS b lb mb) w1 w3 := hT2.trans (hT3.mono fun k hk => .inr (.inl hk))
        have HD3 := Lib.hid hD3
        clear hrw hcap3 hrow3 hsl3 hD3
        go_wp2_with fail
        go_roundw
        case rel =>
          refine ⟨j + 1, by omega, by go_num, ?_, hR3, hF3, hT13⟩
          have := HD3.out
          have e1 : crashL L (C.take (j + 1)) fs = setS (crashL L (C.take j) fs) e.k (fateT (sec (crashL L (C.take j) fs) e.k) e.s.data.toList z) := by
            unfold crashL
            rw [zip_take_lt hlt hf, List.foldl_append, HE.out, HZ.out]
            rfl
          rw [e1]; exact this
        case measure => simp [intOf]; omega
      · have hfn : decide (j < fs.length) = false := decide_eq_false hf
        go_wp2_with fail
        go_roundw
        case rel =>
          refine ⟨j + 1, by omega, by go_num, ?_, HRr.out, HFr.out, hTr⟩
          have := HDr.out
          unfold crashL at this ⊢
          rw [zip_take_ge (by omega)]
          exact this
        case measure => simp [intOf]; omega
    · obtain rfl : j = C.length := by omega
      rw [List.take_length] at hD
      obtain ⟨w5, hrun, hm5, hg5⟩ := hD.map.clear
      have hT5 : Touch (fun k => k = mb) wr w5 := (Touch.of_grown hg5).mono fun k hk => by injection hk
      have c1 := hD.cells.2.1
      have hD5 := hD.setC (hm5.mono (Nat.zero_le _)) (fun e he => (by cases he)) hT5
      obtain ⟨_, d1, d2, d3, d4⟩ := hD5.cells
      have f3 := hD5.box.free 3
      have f4 := hD5.box.free 4
      have HD5 := Lib.hid hD5
      clear hD hR hFr hm5 hg5 hlt hD5 d1 d2 HV HR1
      go_wp2
      go_end0
      have hD6 := (HD5.out.setF (-1) (by omega) (by omega)).setOn false
      have hTa := (Touch.refl (DkS b lb mb) w5).setCell (p := ⟨b, 3, none⟩) (Or.inl (Or.inl rfl)) (.int .i64 (-1))
      have hTb := hTa.setCell (p := ⟨b, 4, none⟩) (Or.inl (Or.inl rfl)) (.bool false)
      exact ⟨rfl, hD6, ((hT.mono fun k hk => hk.elim).trans hTr).trans ((hT5.mono fun k hk => .inr (.inr hk)).trans hTb)⟩

end Go.Proofs.Ytjjpknmjkhaahaa

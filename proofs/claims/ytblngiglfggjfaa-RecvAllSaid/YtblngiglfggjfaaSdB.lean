
/- Contracts of package send, second part: mark, advance, Ack. -/
import Derived.Test.YtblngiglfggjfaaSdA
namespace Go.Proofs.Ytblngiglfggjfaa
open Go Go.RowKit Go.Maps Go.MapKept Go.ChangeMaps
set_option maxRecDepth 100000

theorem WinAt.mono {w : World} {p mb n n' f cnt sz b s : Nat} {A : Nat → Bool} (h : WinAt w p mb n f cnt sz b s A) (hn : n ≤ n') (hn2 : n' ≤ 1000000000) : WinAt w p mb n' f cnt sz b s A := by
  obtain ⟨c, h1, h2⟩ := h.set
  exact { h with set := ⟨c, h1.mono hn, h2⟩, hn := hn2 }

set_option maxHeartbeats 1000000 in
theorem wmark_calls {w : World} {p mb n f cnt sz b s : Nat} {A : Nat → Bool} (h : WinAt w p mb n f cnt sz b s A) (d : Nat) (hd1 : 1 ≤ d) (hd : d < 4294967296) (hn : n < 1000000000) :
    Calls Try.prog 39 #[.pointer (some ⟨p, 0, none⟩), .int .u32 (numU f (b + d) : Nat)] w fun e w' =>
      e = .returned (.bool (decide (d < s - b) && !A (b + d))) ∧ WinAt w' p mb (n + 1) f cnt sz b s (fun i => A i || (decide (i = b + d) && decide (d < s - b))) ∧ Touch (WnS p mb) w w' := by
  have hin := fun W => sin_calls (numU f (b + d)) (numU f b) ((s - b : Nat) : Int) (numU_lt _ _) (numU_lt _ _) (by have := h.sc; have := h.c2; omega) W
  rw [inS_num f b d hd] at hin
  obtain ⟨c0, c1, c2, c3, c4⟩ := h.box.cells
  have hlt := numU_lt f (b + d)
  by_cases hds : d < s - b
  · have e1 : decide (d < s - b) = true := decide_eq_true hds
    have e2 : decide ((d : Int) < ((s - b : Nat) : Int)) = true := decide_eq_true (by omega)
    rw [e2] at hin
    have HIN := Lib.hid hin
    obtain ⟨c, hset, hcA⟩ := h.set
    have hcd := hcA (b + d) (by omega) (by have := h.sc; omega)
    have hlook : ∀ q, (Instr.lookup 82 (.map (some mb)) (.int .u32 (numU f (b + d) : Nat)) true).run Try.prog (w.drewN q) = .ok (.tuple #[.agg #[], .bool (A (b + d))]) (w.drewN q) := fun q => by
      have := (hset.kept ((Touch.refl (fun _ => False) w).drewN q) id).look _ hlt
      rw [hcd] at this; exact this
    rw [e1]
    by_cases hA : A (b + d) = true
    · have HW : Hid (WinAt w p mb (n + 1) f cnt sz b s (fun i => A i || (decide (i = b + d) && true))) := Lib.hid ((h.mono (Nat.le_succ _) hn).congr fun i => by
        by_cases hi : i = b + d
        · rw [hi, hA]; rfl
        · rw [decide_eq_false hi]; simp)
      rw [hA] at hlook ⊢
      clear hin h hset hcA hcd e2 e1 hds hA
      generalize numU f (b + d) = u at *
      generalize numU f b = nb at *
      generalize s - b = sn at *
      go_enter Try.func39, Try.ntmps39
      go_upto_region 1 with fail
      go_quiet (first | (go_at_call 36; with_reducible exact quiet_same (HIN.out _)))
      go_wp2_with fail
      go_ret
      refine ⟨rfl, HW.out.still ?_, ?_⟩
      · exact ((Touch.refl _ w).drewN _).alloc _
      · exact ((Touch.refl _ w).drewN _).alloc _
    · have hA' : A (b + d) = false := by simpa using hA
      rw [hA'] at hlook ⊢
      have hsu := fun q => (hset.kept (((Touch.refl (fun _ => False) w).drewN q).alloc (.cells #[] 85)) id).store (by unfold maxLen; have := h.hn; omega) _ hlt
      have HX := Lib.hid (⟨h, hcA, (by omega : b + d < s)⟩ : WinAt w p mb n f cnt sz b s A ∧ (∀ i, b ≤ i → i < cnt → c (numU f i) = A i) ∧ b + d < s)
      have HSU := Lib.hid hsu
      have hneI : Hid (∀ i, i < cnt → numU f i = numU f (b + d) → i = b + d) := Lib.hid (fun i hi e => numU_inj (by have := h.c2; omega) (by have := h.c2; have := h.sc; omega) e)
      clear hin h hset hcA hcd e2 e1 hds hA hA' hsu
      generalize hu : numU f (b + d) = u at *
      generalize hb : numU f b = nb at *
      have HU := Lib.hid hu
      clear hu hb
      generalize hsn : s - b = sn at *
      clear hsn
      go_enter Try.func39, Try.ntmps39
      go_upto_region 1 with fail
      go_quiet (first | (go_at_call 36; with_reducible exact quiet_same (HIN.out _)))
      go_upto_region 6 with fail
      obtain ⟨w3, hrun, hs3, hg3⟩ := HSU.out nq
      have hT2 : Touch (fun _ => False) w ((w.drewN nq).alloc (.cells #[] 85)) := ((Touch.refl _ w).drewN nq).alloc _
      have hT3 : Touch (fun k => k = mb) w w3 := (hT2.mono (fun _ e => e.elim)).grown hg3 (fun k hk => Or.inl (Option.some.inj hk).symm)
      have HW : Hid (WinAt w3 p mb (n + 1) f cnt sz b s (fun i => A i || (decide (i = b + d) && true))) := Lib.hid { HX.out.1 with
        box := HX.out.1.box.kept hT3 HX.out.1.ne
        set := ⟨_, hs3, fun i h1 h2 => by
          by_cases hi : i = b + d
          · have e : numU f i = u := by rw [hi]; exact HU.out
            rw [e, hi]; simp
          · have e : ¬ numU f i = u := fun e => hi (hneI.out i h2 e)
            rw [if_neg e, HX.out.2.1 i h1 h2, decide_eq_false hi]; simp⟩
        hA := fun i hi => by
          by_cases e : i = b + d
          · exact ⟨by omega, by have := HX.out.2.2; omega⟩
          · rw [decide_eq_false e] at hi
            exact HX.out.1.hA i (by simpa using hi)
        hn := hn }
      have HT := Lib.hid (hT3.mono (S' := WnS p mb) (fun _ e => Or.inr e))
      have g4 := hT2.cell (p := ⟨p, 4, none⟩) c4 id
      clear hs3 hg3 hT2 hT3
      go_wp2_with fail
      go_ret
      exact ⟨rfl, HW.out, HT.out⟩
  · have e1 : decide (d < s - b) = false := decide_eq_false hds
    have e2 : decide ((d : Int) < ((s - b : Nat) : Int)) = false := decide_eq_false (by omega)
    rw [e2] at hin
    have HIN := Lib.hid hin
    rw [e1]
    have HW : Hid (WinAt w p mb (n + 1) f cnt sz b s (fun i => A i || (decide (i = b + d) && false))) := Lib.hid ((h.mono (Nat.le_succ _) hn).congr fun i => by simp)
    clear hin h e2 e1 hds
    generalize numU f (b + d) = u at *
    generalize numU f b = nb at *
    generalize s - b = sn at *
    go_enter Try.func39, Try.ntmps39
    go_upto_region 1 with fail
    go_quiet (first | (go_at_call 36; with_reducible exact quiet_same (HIN.out _)))
    go_wp2_with fail
    go_ret
    exact ⟨rfl, HW.out.still ((Touch.refl _ w).drewN _), (Touch.refl _ w).drewN _⟩

/-- The window is one more place on: so much is still told of its map. -/
theorem adv_step {f b i cnt : Nat} {A c : Nat → Bool} (hc : cnt ≤ 1048576) (hb : b + i ≤ 1048640) (h : ∀ j, b ≤ j → j < cnt → c (numU f j) = (A j && decide (b + i ≤ j))) :
    ∀ j, b ≤ j → j < cnt → (if numU f j = numU f (b + i) then false else c (numU f j)) = (A j && decide (b + (i + 1) ≤ j)) := by
  intro j h1 h2
  by_cases e : j = b + i
  · rw [e, if_pos rfl, decide_eq_false (by omega)]; simp
  · rw [if_neg (fun e' => e (numU_inj (by omega) (by omega) e')), h j h1 h2]
    congr 1
    by_cases hl : b + i ≤ j
    · rw [decide_eq_true hl, decide_eq_true (by omega)]
    · rw [decide_eq_false hl, decide_eq_false (by omega)]

set_option maxHeartbeats 2000000 in
theorem wadv_calls {w : World} {p mb n f cnt sz b s : Nat} {A : Nat → Bool} (h : WinAt w p mb n f cnt sz b s A) (d : Nat) (hds : d ≤ s - b) :
    Calls Try.prog 38 #[.pointer (some ⟨p, 0, none⟩), .int .u32 (numU f (b + d) : Nat)] w fun e w' =>
      e = .returned (.bool (decide (0 < d))) ∧ WinAt w' p mb n f cnt sz (b + d) s (fun i => A i && decide (b + (d + 1) ≤ i)) ∧ Touch (WnS p mb) w w' := by
  have hbs := h.bs
  have hss := h.ss
  have hz2 := h.z2
  have hsc := h.sc
  have hcc := h.c2
  have hgap := fun W => sgap_calls (numU f b) (numU f (b + d)) (numU_lt _ _) (numU_lt _ _) W
  rw [gap_num f b d (by omega)] at hgap
  obtain ⟨c0, c1, c2, c3, c4⟩ := h.box.cells
  obtain ⟨c, hset, hcA⟩ := h.set
  have hd32 : d ≤ 32 := by omega
  have HGAP := Lib.hid hgap
  have HX := Lib.hid h
  have HS := Lib.hid hset
  have HC := Lib.hid hcA
  have HNE := Lib.hid h.ne
  obtain ⟨L, hL⟩ : ∃ L, L = cnt - b := ⟨_, rfl⟩
  obtain ⟨M, hM⟩ : ∃ M, M = s - b := ⟨_, rfl⟩
  obtain ⟨nb, hnb⟩ : ∃ nb, nb = numU f b := ⟨_, rfl⟩
  obtain ⟨u, hu⟩ : ∃ u, u = numU f (b + d) := ⟨_, rfl⟩
  rw [← hL] at c1
  rw [← hM] at c2 hds
  rw [← hnb] at c0 HGAP
  rw [← hu] at HGAP ⊢
  have HF := Lib.hid (⟨hL, hM, hnb, hu⟩ : L = cnt - b ∧ M = s - b ∧ nb = numU f b ∧ u = numU f (b + d))
  clear hgap h hset hcA hL hM hnb hu
  go_enter Try.func38, Try.ntmps38
  go_wp2_with fail
  refine (HGAP.out _).mono ?_
  rintro e w' ⟨rfl, rfl⟩
  go_wp2_with fail
  go_loopw [14] (fun iv wr => ∃ (i : Nat) (ci : Nat → Bool), i ≤ d ∧ iv = .int .i64 (i : Nat) ∧ RowKit.Hid (SetU wr mb n ci) ∧ RowKit.Hid (∀ j, b ≤ j → j < cnt → ci (numU f j) = (A j && decide (b + i ≤ j))) ∧ RowKit.Hid (Touch (fun k => k = mb) w wr)) (fun iv _ => d - (intOf iv).toNat)
  case atStart => exact ⟨0, c, Nat.zero_le _, rfl, HS, Lib.hid (fun j h1 h2 => by rw [HC.out j h1 h2, decide_eq_true (by omega)]; simp), Lib.hid (Touch.refl _ _)⟩
  case round =>
    obtain ⟨i, ci, hi, rfl, HSi, HCi, HTi⟩ := hrel
    by_cases hlt : i < d
    · have hltI : (i : Int) < (d : Int) := by omega
      have d0 := HTi.out.cell (p := ⟨p, 0, none⟩) c0 HNE.out
      have d4 := HTi.out.cell (p := ⟨p, 4, none⟩) c4 HNE.out
      go_upto_region 5 with fail
      go_still_tail 11, (by kernel_rfl)
      change wpList _ _ _ _ _ wr.drew
      have e2 : IntKind.u32.wrap ((nb : Int) + IntKind.u32.wrap (i : Int)) = ((numU f (b + i) : Nat) : Int) := by
        have := HF.out.2.2.1
        rw [this, IntKind.wrap_u32, IntKind.wrap_u32]
        unfold numU
        omega
      rw [e2]
      obtain ⟨w3, hrun, hs3, hg3⟩ := (HSi.out.kept ((Touch.refl (fun _ => False) wr).drew) id).drop (numU f (b + i)) (numU_lt _ _) 0
      have hT3 : Touch (fun k => k = mb) wr w3 := ((Touch.refl (fun k => k = mb) wr).drew).grown hg3 (fun k hk => Or.inl (Option.some.inj hk).symm)
      have HS3 := Lib.hid hs3
      have HT3 := Lib.hid (HTi.out.trans hT3)
      clear hs3 hg3 hT3 e2
      go_wp2_with fail
      go_roundw
      case rel => exact ⟨i + 1, _, by omega, by go_num, HS3, Lib.hid (adv_step hcc (by omega) HCi.out), HT3⟩
      case measure => simp [intOf]; omega
    · obtain rfl : i = d := by omega
      have hisb : b + i ≤ s := by have := HF.out.2.1; omega
      have hltI : ¬ (i : Int) < (i : Int) := by omega
      have d0 := HTi.out.cell (p := ⟨p, 0, none⟩) c0 HNE.out
      have d1 := HTi.out.cell (p := ⟨p, 1, none⟩) c1 HNE.out
      have d2 := HTi.out.cell (p := ⟨p, 2, none⟩) c2 HNE.out
      have d4 := HTi.out.cell (p := ⟨p, 4, none⟩) c4 HNE.out
      obtain ⟨w3, hrun, hs3, hg3⟩ := HSi.out.drop u (by have := HF.out.2.2.2; rw [this]; exact numU_lt _ _) 0
      have hT3 : Touch (fun k => k = mb) wr w3 := (Touch.refl (fun k => k = mb) wr).grown hg3 (fun k hk => Or.inl (Option.some.inj hk).symm)
      have e0 := hT3.cell (p := ⟨p, 0, none⟩) d0 HNE.out
      have e1 := hT3.cell (p := ⟨p, 1, none⟩) d1 HNE.out
      have e2 := hT3.cell (p := ⟨p, 2, none⟩) d2 HNE.out
      have hbox3 := HX.out.box.kept (HTi.out.trans hT3) HNE.out
      have f0 := Block.free hbox3 0
      have f1 := Block.free hbox3 1
      have f2 := Block.free hbox3 2
      have HS3 := Lib.hid hs3
      have HT3 := Lib.hid (HTi.out.trans hT3)
      have HB3 := Lib.hid hbox3
      have y1 : IntKind.i64.wrap ((M : Int) - (i : Int)) = ((M - i : Nat) : Int) := by rw [IntWalk.i64_in _ (by have := HF.out.2.1; omega)]; omega
      have y2 : IntKind.i64.wrap ((L : Int) - (i : Int)) = ((L - i : Nat) : Int) := by rw [IntWalk.i64_in _ (by have := HF.out.1; omega)]; have := HF.out; omega
      clear hs3 hg3 hT3 hbox3
      obtain ⟨M', hM'⟩ : ∃ x, x = M - i := ⟨_, rfl⟩
      obtain ⟨L', hL'⟩ : ∃ x, x = L - i := ⟨_, rfl⟩
      rw [← hM'] at y1
      rw [← hL'] at y2
      have HE := Lib.hid (⟨hM', hL'⟩ : M' = M - i ∧ L' = L - i)
      clear hM' hL'
      go_wp2_with fail
      go_ret
      have hb0 : BoxW _ p mb u L' M' sz := (show Block (((w3.setCell ⟨p, 0, none⟩ (.int .u32 (u : Nat))).setCell ⟨p, 2, none⟩ (.int .i64 (M' : Nat))).setCell ⟨p, 1, none⟩ (.int .i64 (L' : Nat))) p 84 _ from Block.set (Block.set (Block.set HB3.out 0 (.int .u32 (u : Nat))) 2 (.int .i64 (M' : Nat))) 1 (.int .i64 (L' : Nat)))
      have hTs : Touch (fun k => k = p) w3 (((w3.setCell ⟨p, 0, none⟩ (.int .u32 (u : Nat))).setCell ⟨p, 2, none⟩ (.int .i64 (M' : Nat))).setCell ⟨p, 1, none⟩ (.int .i64 (L' : Nat))) :=
        (((Touch.refl (fun k => k = p) w3).setCell (p := ⟨p, 0, none⟩) (Or.inl rfl) _).setCell (p := ⟨p, 2, none⟩) (Or.inl rfl) _).setCell (p := ⟨p, 1, none⟩) (Or.inl rfl) _
      have hbb : u = numU f (b + i) ∧ L' = cnt - (b + i) ∧ M' = s - (b + i) := ⟨HF.out.2.2.2, by have := HF.out; have := HE.out; omega, by have := HF.out; have := HE.out; omega⟩
      rw [hbb.2.1, hbb.2.2] at hb0
      refine ⟨rfl, { HX.out with box := ?_, set := ⟨_, HS3.out.kept hTs (fun e => HNE.out e.symm), fun j h1 h2 => ?_⟩, bs := by omega, ss := by omega, hA := fun j hj => ?_ }, (HT3.out.mono (fun _ e => Or.inr e)).trans (hTs.mono (fun _ e => Or.inl e))⟩
      · rw [← hbb.1, hbb.2.1, hbb.2.2]; exact hb0
      · rw [hbb.1]; exact adv_step hcc (by omega) HCi.out j (by omega) h2
      · rw [Bool.and_eq_true, decide_eq_true_iff] at hj
        exact ⟨by omega, (HX.out.hA j hj.1).2⟩
end Go.Proofs.Ytblngiglfggjfaa


/- Contracts of package send, fourth part: Fresh, Open. -/
import Derived.Test.YtblngiglfggjfaaSdB
namespace Go.Proofs.Ytblngiglfggjfaa
open Go Go.RowKit Go.Maps Go.MapKept Go.ChangeMaps
set_option maxRecDepth 100000

def u32V (l : List Nat) : List Value := l.map fun (n : Nat) => Value.int .u32 (n : Int)
theorem u32V_length (l : List Nat) : (u32V l).length = l.length := List.length_map ..
theorem u32V_snoc (l : List Nat) (x : Nat) : u32V (l ++ [x]) = u32V l ++ [.int .u32 (x : Int)] := by simp [u32V]
theorem Try.infoU32 : (Try.prog.info? 22).map (fun i => (i.zero, i.size, i.bytes)) = some (some (.int .u32 0), 1, 4) := by kernel_rfl

/-- The numbers of the places from b on, t of them. -/
def numsL (f b t : Nat) : List Nat := (List.range t).map fun i => numU f (b + i)
theorem numsL_snoc (f b t : Nat) : numsL f b (t + 1) = numsL f b t ++ [numU f (b + t)] := by unfold numsL; rw [List.range_succ]; simp
theorem numsL_len (f b t : Nat) : (numsL f b t).length = t := by simp [numsL]

def lenOf : Value → Nat
  | .slice _ n _ => n
  | _ => 0
/-- A value whose block, if any, is new. -/
def NewB (w : World) (v : Value) : Prop := ∀ g, v.ownBlock = some g → w.heap.size ≤ g
theorem NewB.nil (w : World) : NewB w (.slice none 0 0) := fun g h => by simp [Value.ownBlock] at h
theorem NewB.grown {w wr : World} {v v' : Value} (h : NewB w v) (ho : v'.ownBlock = v.ownBlock ∨ v'.ownBlock = some wr.heap.size) (hs : w.heap.size ≤ wr.heap.size) : NewB w v' := fun g hg => by
  rcases ho with e | e
  · exact h g (e ▸ hg)
  · rw [e] at hg
    injection hg with hg
    omega

set_option maxHeartbeats 4000000 in
theorem wfresh_calls {w : World} {p mb n f cnt sz b s : Nat} {A : Nat → Bool} (h : WinAt w p mb n f cnt sz b s A) :
    Calls Try.prog 24 #[.pointer (some ⟨p, 0, none⟩)] w fun e w' =>
      ∃ r, e = .returned r ∧ Row w' 22 r (u32V (numsL f s (min (b + sz) cnt - s))) ∧ NewB w r ∧ WinAt w' p mb n f cnt sz b (min (b + sz) cnt) A ∧ Touch (fun k => k = p) w w' := by
  obtain ⟨i0, hi, hz0, hz1, hz2⟩ := info_parts Try.infoU32
  have hbs := h.bs
  have hss := h.ss
  have hz := h.z2
  have hsc := h.sc
  have hcc := h.c2
  have HX := Lib.hid h
  have hbox := h.box
  obtain ⟨nb, hnb⟩ : ∃ nb, nb = numU f b := ⟨_, rfl⟩
  obtain ⟨L, hL⟩ : ∃ L, L = cnt - b := ⟨_, rfl⟩
  obtain ⟨T, hT⟩ : ∃ T, T = min (b + sz) cnt := ⟨_, rfl⟩
  obtain ⟨m, hm⟩ : ∃ m, m = T - s := ⟨_, rfl⟩
  rw [← hT, ← hm]
  have HF := Lib.hid (⟨hnb, hL, hT, hm⟩ : nb = numU f b ∧ L = cnt - b ∧ T = min (b + sz) cnt ∧ m = T - s)
  rw [← hnb, ← hL] at hbox
  have HB := Lib.hid hbox
  have hm32 : m ≤ 32 := by omega
  have hmin1 : min (sz : Int) (L : Int) = ((T - b : Nat) : Int) := by omega
  clear h hbox hnb hL hT hm
  go_enter Try.func24, Try.ntmps24
  go_wp2_with fail
  go_loopw [3] (fun rv wr => ∃ k : Nat, k ≤ m ∧ RowKit.Hid (Row wr 22 rv (u32V (numsL f s k))) ∧ RowKit.Hid (NewB w rv) ∧ RowKit.Hid (BoxW wr p mb nb L (s + k - b) sz) ∧ RowKit.Hid (Touch (fun j => j = p) w wr)) (fun rv _ => 100 - lenOf rv)
  case atStart => exact ⟨0, Nat.zero_le _, Lib.hid (Row.nil _ _), Lib.hid (NewB.nil w), HB, Lib.hid (Touch.refl _ _)⟩
  case round =>
    obtain ⟨k, hk, HR, HSP, HBk, HT⟩ := hrel
    obtain ⟨c0, c1, c2, c3, c4⟩ := HBk.out.cells
    by_cases hlt : k < m
    · have hlt2 : s + k - b < T - b := by have := HF.out; omega
      have hltI : ((s + k - b : Nat) : Int) < ((T - b : Nat) : Int) := by omega
      generalize hq : s + k - b = q at *
      generalize hTb : T - b = tb at *
      have hmin2 : (if L < sz then (L : Int) else (sz : Int)) = (tb : Int) := by rw [← hmin1]; split <;> omega
      go_upto_region 4 with fail
      go_region
      have hTx : Touch (fun _ => False) wr wr.drew := (Touch.refl (fun _ => False) wr).drew
      have hBx := HBk.out.kept hTx id
      have hRx := HR.out.kept hTx (fun _ _ => id)
      generalize wr.drew = wx at *
      clear c0 c1 c2 c3 c4
      obtain ⟨c0, c1, c2, c3, c4⟩ := hBx.cells
      have HBx := Lib.hid hBx
      have HRx := Lib.hid hRx
      have HTx := Lib.hid (HT.out.trans (hTx.mono (fun _ e => e.elim)))
      clear hBx hRx hTx
      have e2 : IntKind.u32.wrap ((nb : Int) + IntKind.u32.wrap (q : Int)) = ((numU f (s + k) : Nat) : Int) := by
        have := HF.out.1
        rw [this, IntKind.wrap_u32, IntKind.wrap_u32]
        unfold numU
        omega
      have e2' : ((nb : Int) + (q : Int)) % 4294967296 = ((numU f (s + k) : Nat) : Int) := by
        have := HF.out.1
        rw [this]
        unfold numU
        omega
      have e2'' : ((nb : Int) + (q : Int) % 4294967296) % 4294967296 = ((numU f (s + k) : Nat) : Int) := by
        have := HF.out.1
        rw [this]
        unfold numU
        omega
      have hp0 : Hid (p < w.heap.size) := Lib.hid (Block.lt HX.out.box)
      obtain ⟨ar, cap, hu3, hc1, hc2⟩ := HRx.out.form
      rw [u32V_length, numsL_len] at hu3 hc1
      subst hu3
      clear hmin1 hmin2
      go_upto_region 5 with fail
      go_region_law ((refine step_append_row _ (by rfl) _ _ _ _ (by rfl) 22 i0 _ 4 Try.underlying54 hi hz0 hz1 hz2 rfl (.slice ar k cap) (u32V (numsL f s k)) (by rfl) (by exact HRx.out.kept (S := fun _ => False) (((Touch.refl _ _).alloc _).drew) (fun _ _ => id)) (.slice (some ⟨wx.heap.size, 0, none⟩) 1 1) (by rfl) 1 [.int .u32 (numU f (s + k) : Nat)] (by exact Src.ofCell Try.underlying54 (heap_alloc_new wx _) rfl) (by rw [u32V_length, numsL_len]; unfold maxLen; omega) (by rw [u32V_length, numsL_len]; omega) ?_; intro v2 w2 hrow2 hgrow hown2; have hT2 : Touch (fun j => w.heap.size ≤ j) wx w2 := Touch.grown (((Touch.refl (fun j => w.heap.size ≤ j) wx).alloc _).drew) hgrow (fun g hg => Or.inl (HSP.out g hg)); have hB2 := HBx.out.kept hT2 (by have := hp0.out; omega); obtain ⟨c0, c1, c2, c3, c4⟩ := hB2.cells; have f2 := Block.free hB2 2; have HB2 := Lib.hid hB2; have HT2 := Lib.hid hT2))
      all_goals
        have y1 : IntKind.i64.wrap ((q : Int) + 1) = ((q + 1 : Nat) : Int) := by rw [IntWalk.i64_in _ (by omega)]; omega
        obtain ⟨q1, hq1⟩ : ∃ x, x = q + 1 := ⟨_, rfl⟩
        rw [← hq1] at y1
        have HQ1 := Lib.hid hq1
        clear hq1
        go_wp2_with fail
        go_roundw
        case rel =>
          refine ⟨k + 1, by omega, Lib.hid ?_, Lib.hid ?_, Lib.hid ?_, Lib.hid ?_⟩
          · have e := hrow2.kept (S := fun j => j = p) ((Touch.refl (fun j => j = p) w2).setCell (p := ⟨p, 2, none⟩) (Or.inl rfl) (.int .i64 (q1 : Nat))) (fun g hg e => by
              rcases hown2 with e' | e'
              · have := HSP.out g (e' ▸ hg); have := hp0.out; omega
              · rw [e'] at hg; have := Block.lt HBx.out; injection hg with hg; simp at hg; omega)
            rw [← u32V_snoc, ← numsL_snoc] at e
            exact e
          · exact HSP.out.grown (wr := wx.alloc (.cells #[.int .u32 (numU f (s + k) : Nat)] 22)) hown2 (by have := HTx.out.size; rw [alloc_size]; omega)
          · have e : s + (k + 1) - b = q1 := by have := HQ1.out; omega
            rw [e]
            exact Block.set HB2.out 2 _
          · exact (HTx.out.trans' HT2.out (fun i e => Or.inr e)).setCell (p := ⟨p, 2, none⟩) (Or.inl rfl) _
        case measure =>
          obtain ⟨a2, cap2, hv2, _, _⟩ := hrow2.form
          rw [hv2]
          simp [lenOf, u32V_length, numsL_len]
          omega
    · have hkm : k = m := by omega
      subst hkm
      have hlt2 : ¬ s + k - b < T - b := by have := HF.out; omega
      have hltI : ¬ ((s + k - b : Nat) : Int) < ((T - b : Nat) : Int) := by omega
      have hTsk : s + k = T := by have := HF.out; omega
      generalize hq : s + k - b = q at *
      generalize hTb : T - b = tb at *
      have hmin2 : (if L < sz then (L : Int) else (sz : Int)) = (tb : Int) := by rw [← hmin1]; split <;> omega
      go_upto_region 4 with fail
      go_region
      go_wp2_with fail
      go_ret
      have hTx : Touch (fun _ => False) wr wr.drew := (Touch.refl (fun _ => False) wr).drew
      obtain ⟨c, hs1, hs2⟩ := HX.out.set
      refine ⟨_, rfl, HR.out.kept hTx (fun _ _ => id), HSP.out, ?_, HT.out.trans (hTx.mono (fun _ e => e.elim))⟩
      have hb := HBk.out.kept hTx id
      refine { HX.out with box := ?_, set := ⟨c, hs1.kept (HT.out.trans (hTx.mono (fun _ e => e.elim))) (fun e => HX.out.ne e.symm), hs2⟩, bs := by omega, sc := by have := HF.out; omega, ss := by have := HF.out; omega, hA := fun i hi => ⟨(HX.out.hA i hi).1, by have := (HX.out.hA i hi).2; omega⟩ }
      have htq : tb = q := by omega
      rw [← HF.out.1, ← HF.out.2.1, hTb, htq]
      exact hb
end Go.Proofs.Ytblngiglfggjfaa

/- Contracts of package wal, fifth part: write, Put. -/
import Derived.Test.YtmcakilpdecacaaWlE
import Derived.Deep.CutBlock
namespace Go.Proofs.Ytmcakilpdecacaa
open Go Go.RowKit Go.Maps
set_option maxRecDepth 100000

/-- What comes of a sector that is written so that it lasts. -/
def WOut (b lb mb c n : Nat) (L : List UInt8) (t : Nat) (f : Int) (p : Nat) (S : List UInt8) (e : Ending) (w' : World) : Prop :=
      ((f ≠ 0 ∧ f ≠ 1 ∧ e = .returned (.int .i64 0) ∧ ∃ L', (∀ k : Nat, k < n → sec L' k = if k = p then S else sec L k) ∧ DkAt w' b lb mb c n L' [] (t + 1) (burnF f) true) ∨
       ((f = 0 ∨ f = 1) ∧ e = .returned (.int .i64 14) ∧ ∃ t', t' ≤ t + 1 ∧ DkAt w' b lb mb c n L [] t' (-1) false))

theorem Touch.weak {S : Nat → Prop} {a w : World} (h : Touch (fun _ => False) a w) : Touch S a w := h.mono fun _ hk => hk.elim
theorem slotS_list (n : Nat) (s : ByteArray) : (slotS n s).data.toList = slotB n s.data.toList := rfl
theorem findE_put (k i : Nat) (s : ByteArray) (t : Nat) : findE (putE [] k s t) i = if k = i then some ⟨k, s, t⟩ else none := by
  unfold putE findE
  by_cases h : k = i
  · subst h; simp
  · have : ((k : Nat) : Int) ≠ i := by omega
    simp [h, this]
theorem readS_put_same (L : List UInt8) (k : Nat) (s : ByteArray) (t : Nat) : readS L (putE [] k s t) k = s := by
  unfold readS; rw [findE_put, if_pos rfl]
theorem readS_put_other (L : List UInt8) (k i : Nat) (s : ByteArray) (t : Nat) (h : i ≠ k) : readS L (putE [] k s t) i = readS L [] i := by
  unfold readS; rw [findE_put, if_neg (fun e => h e.symm)]; rfl

set_option maxHeartbeats 2000000 in
theorem lwrite_calls {w : World} {b lb mb c n : Nat} {L : List UInt8} {t : Nat} {f : Int} (h : DkAt w b lb mb c n L [] t f true) {gb at' sn N : Nat} {note : ByteArray} {fl : Bool} (hL : LogAt w gb b at' sn N note fl) (hsep : ¬ DkS b lb mb gb) (h2 : 2 ≤ sn) (hfit : at' + sn ≤ n) (M : Nat) (s : ByteArray) (h0 : M ≠ 0) (hM : M < 18446744073709551616) (hs : s.size ≤ 23) (ht : t < 1000000) :
    Calls Try.prog 105 #[.pointer (some ⟨gb, 0, none⟩), .agg #[.int .u64 M, .string s]] w fun e w' => Touch (DkS b lb mb) w w' ∧ WOut b lb mb c n L t f (at' + M % sn) (slotB M s.data.toList) e w' := by
  have hn2 := h.n2
  have q0 : w.cell? ⟨gb, 0, none⟩ = some (.pointer (some ⟨b, 0, none⟩)) := hL.cell 0
  have q1 : w.cell? ⟨gb, 1, none⟩ = some (.int .i64 at') := hL.cell 1
  have q2 : w.cell? ⟨gb, 2, none⟩ = some (.int .i64 sn) := hL.cell 2
  have hgl : gb < w.heap.size := hL.lt
  have H := Lib.hid h
  have HL := Lib.hid hL
  have HS := Lib.hid hsep
  have hlt := h.lt
  have HBL : Hid (¬ DkS b lb mb w.heap.size) := Lib.hid (by rintro (h | h | h) <;> omega)
  clear h hL hsep hlt
  obtain ⟨r, hr⟩ : ∃ r : Nat, M % sn = r := ⟨_, rfl⟩
  have hrl : r < sn := by rw [← hr]; exact Nat.mod_lt _ (by omega)
  obtain ⟨p, hp⟩ : ∃ p : Nat, at' + r = p := ⟨_, rfl⟩
  have hpI : (at' : Int) + (r : Int) = (p : Int) := by omega
  have hpn : p < n := by omega
  have hwp : IntKind.i64.wrap ((at' : Int) + (r : Int)) = (p : Int) := by rw [hpI]; exact IntWalk.i64_in _ (by omega)
  have hmod : (M : Int).tmod (sn : Int) = (r : Int) := by rw [← hr]; exact Int.ofNat_tmod M sn
  have hws : IntKind.u64.wrap (sn : Int) = (sn : Int) := by rw [IntKind.wrap_u64]; omega
  have hwr : IntKind.i64.wrap (r : Int) = (r : Int) := IntWalk.i64_in _ (by omega)
  have hwr2 : IntKind.u64.wrap (r : Int) = (r : Int) := by rw [IntKind.wrap_u64]; omega
  have hsn0 : ¬ ((sn : Int) = 0) := by omega
  rw [hr, hp]
  have HSN := Lib.hid hs
  have HM0 := Lib.hid h0
  clear hs h0
  go_enter Try.func105, Try.ntmps105
  go_upto_region 1 with fail
  go_quiet (fail)
  generalize hW : (w.alloc (.cells #[.int .u64 (M : Int), .string s] 136)).drewN _ = w0
  have hT0 : Touch (fun _ => False) w w0 := by rw [← hW]; exact ((Touch.refl _ w).alloc _).drewN _
  have hBx : Block w0 w.heap.size 136 [.int .u64 (M : Int), .string s] := by rw [← hW]; exact Block.new w _ _
  clear hW
  generalize w.heap.size = eb at hBx HBL hgl ⊢
  have y0 : w0.cell? ⟨eb, 0, none⟩ = some (.int .u64 (M : Int)) := hBx.cell 0
  have y1 : w0.cell? ⟨eb, 1, none⟩ = some (.string s) := hBx.cell 1
  have q0 : w0.cell? ⟨gb, 0, none⟩ = some (.pointer (some ⟨b, 0, none⟩)) := hT0.cell q0 id
  have HY := Lib.hid (⟨y0, y1, q0⟩ : _ ∧ _ ∧ _)
  have HT0 := Lib.hid hT0
  have HB := Lib.hid hBx
  clear q1 q2 hT0 hBx hmod hws hwr hwr2 hwp hpI
  go_upto_region 2 with fail
  by_cases hf0 : f = 0
  · subst hf0
    go_region_law (first
          | (go_simp; go_at_call 113; refine (slotX_calls M s _ HM0.out hM HSN.out).mono ?_; rintro e wa ⟨rfl, hTa⟩; have a0 := hTa.cell (p := ⟨eb, 0, none⟩) HY.out.1 id; have a1 := hTa.cell (p := ⟨eb, 1, none⟩) HY.out.2.1 id; have a2 := hTa.cell (p := ⟨gb, 0, none⟩) HY.out.2.2 id; have HTA : Hid (Touch (fun _ => False) w0 wa) := Lib.hid ((Touch.refl (fun _ => False) w0).drew.trans hTa); clear hTa)
          | (go_simp; go_at_call 19; refine (write_burn (H.out.still (HT0.out.trans HTA.out)) p (slotS M s) (slotS_size M s HSN.out) hpn).mono ?_; rintro e wb ⟨rfl, hDb, hTb⟩; have HDb := Lib.hid hDb; clear hDb; have c2 := hTb.cell (p := ⟨gb, 0, none⟩) a2 HS.out))
    all_goals
      go_wp2_with fail
      go_ret
      exact ⟨(HT0.out.trans HTA.out).weak.trans hTb, .inr ⟨.inl rfl, rfl, t, by omega, HDb.out⟩⟩
  · by_cases hf1 : f = 1
    · subst hf1
      go_region_law (first
            | (go_simp; go_at_call 113; refine (slotX_calls M s _ HM0.out hM HSN.out).mono ?_; rintro e wa ⟨rfl, hTa⟩; have a0 := hTa.cell (p := ⟨eb, 0, none⟩) HY.out.1 id; have a1 := hTa.cell (p := ⟨eb, 1, none⟩) HY.out.2.1 id; have a2 := hTa.cell (p := ⟨gb, 0, none⟩) HY.out.2.2 id; have HTA : Hid (Touch (fun _ => False) w0 wa) := Lib.hid ((Touch.refl (fun _ => False) w0).drew.trans hTa); clear hTa)
            | (go_simp; go_at_call 19; refine (write_ok (H.out.still (HT0.out.trans HTA.out)) p (slotS M s) (slotS_size M s HSN.out) hpn (by omega) ht).mono ?_; rintro e wb ⟨rfl, hDb, hTb⟩; have HDb := Lib.hid hDb; clear hDb; have c2 := hTb.cell (p := ⟨gb, 0, none⟩) a2 HS.out))
      all_goals
        go_wp2_with (go_at_call 14; refine (sync_burn HDb.out).mono ?_; rintro e wc ⟨rfl, hDc, hTc⟩)
        go_ret
        exact ⟨((HT0.out.trans HTA.out).weak.trans hTb).trans hTc, .inr ⟨.inr rfl, rfl, t + 1, Nat.le_refl _, hDc⟩⟩
    · have hbf : burnF f ≠ 0 := by unfold burnF; split <;> omega
      have HBF := Lib.hid hbf
      clear hbf
      go_region_law (first
            | (go_simp; go_at_call 113; refine (slotX_calls M s _ HM0.out hM HSN.out).mono ?_; rintro e wa ⟨rfl, hTa⟩; have a0 := hTa.cell (p := ⟨eb, 0, none⟩) HY.out.1 id; have a1 := hTa.cell (p := ⟨eb, 1, none⟩) HY.out.2.1 id; have a2 := hTa.cell (p := ⟨gb, 0, none⟩) HY.out.2.2 id; have HTA : Hid (Touch (fun _ => False) w0 wa) := Lib.hid ((Touch.refl (fun _ => False) w0).drew.trans hTa); clear hTa)
            | (go_simp; go_at_call 19; refine (write_ok (H.out.still (HT0.out.trans HTA.out)) p (slotS M s) (slotS_size M s HSN.out) hpn (by omega) ht).mono ?_; rintro e wb ⟨rfl, hDb, hTb⟩; have HDb := Lib.hid hDb; clear hDb; have c2 := hTb.cell (p := ⟨gb, 0, none⟩) a2 HS.out))
      all_goals
        go_wp2_with (go_at_call 14; refine (sync_ok HDb.out HBF.out).mono ?_; rintro e wc ⟨rfl, L', ⟨hl1, hl2⟩, hDc, hTc⟩)
        go_ret
        refine ⟨((HT0.out.trans HTA.out).weak.trans hTb).trans hTc, .inl ⟨hf0, hf1, rfl, L', fun k hk => ?_, hDc⟩⟩
        rw [hl2 k hk]
        by_cases hkp : k = p
        · rw [if_pos hkp, hkp, readS_put_same]; exact slotS_list M s
        · rw [if_neg hkp, readS_put_other _ _ _ _ _ hkp]; exact readS_list L k


end Go.Proofs.Ytmcakilpdecacaa

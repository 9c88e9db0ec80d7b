
/- Contracts of package disk, seventh part: Sync. -/
import Derived.Test.YtjjpknmjkhaahaaDkG
namespace Go.Proofs.Ytjjpknmjkhaahaa
open Go Go.RowKit Go.Maps
set_option maxRecDepth 100000

theorem sync_nil (w : World) : Calls Try.prog 7 #[.pointer none] w fun e w' => e = .returned (.int .i64 1) ∧ w = w' := by
  go_enter Try.func7, Try.ntmps7
  go_wp2
  go_ret
  exact ⟨rfl, rfl⟩
theorem sync_off {w : World} {b lb mb c n : Nat} {L : List UInt8} {C : List Ent} {t : Nat} {f : Int} (h : DkAt w b lb mb c n L C t f false) :
    Calls Try.prog 7 #[.pointer (some ⟨b, 0, none⟩)] w fun e w' => e = .returned (.int .i64 14) ∧ w = w' := by
  have c4 := h.cells.2.2.2.2
  clear h
  go_enter Try.func7, Try.ntmps7
  go_wp2
  go_ret
  exact ⟨rfl, rfl⟩
theorem sync_burn {w : World} {b lb mb c n : Nat} {L : List UInt8} {C : List Ent} {t : Nat} (h : DkAt w b lb mb c n L C t 0 true) :
    Calls Try.prog 7 #[.pointer (some ⟨b, 0, none⟩)] w fun e w' => e = .returned (.int .i64 14) ∧ DkAt w' b lb mb c n L [] t (-1) false ∧ Touch (DkS b lb mb) w w' := by
  have c4 := h.cells.2.2.2.2
  have H := Lib.hid h
  clear h
  go_enter Try.func7, Try.ntmps7
  go_wp2_with (go_at_call 21; refine (burns_yes H.out).mono ?_; rintro e w' ⟨rfl, hd, ht⟩)
  go_ret
  exact ⟨rfl, hd, ht⟩

theorem ranges_of {P : Program} {k : TypeId} {R : Value → Option (DataW Unit × List MemPlace)} {w w' : World} {b r n : Nat} {D : DataW Unit} {left : Lit → Bool} {cnt : Nat} (h : w.ranges P k R b r n D left cnt) (hb : w'.heap[b]? = w.heap[b]?) (hr : w'.heap[r]? = w.heap[r]?) : w'.ranges P k R b r n D left cnt := by
  obtain ⟨es, clock, since, seen, c0, h1, F, hs, hD, h2, rest⟩ := h
  exact ⟨es, clock, since, seen, c0, hb.trans h1, F, hs, hD, hr.trans h2, rest⟩

/-- What lasts when the entries that are no longer to come have been written. -/
def SyncAt (n : Nat) (L : List UInt8) (C : List Ent) (left : Lit → Bool) (L' : List UInt8) : Prop :=
  L'.length = n * 64 ∧ ∀ k : Nat, k < n → sec L' k = if left (.int .i64 (k : Int)) = true then sec L k else (readS L C k).data.toList

theorem sec_set_same {n : Nat} {L : List UInt8} (h : L.length = n * 64) {i : Nat} (hi : i < n) {T : List UInt8} (hT : T.length = 64) : sec (setS L i T) i = T := by
  unfold sec setS putB
  rw [List.append_assoc, List.drop_append_of_le_length (by rw [List.length_take]; omega), List.drop_eq_nil_of_le (by rw [List.length_take]; omega), List.nil_append, List.take_append_of_le_length (by omega), List.take_of_length_le (by omega)]
theorem sec_set_other {n : Nat} {L : List UInt8} (h : L.length = n * 64) {i j : Nat} (hi : i < n) (_hj : j < n) (hne : j ≠ i) {T : List UInt8} (hT : T.length = 64) : sec (setS L i T) j = sec L j := by
  unfold sec setS putB
  apply List.ext_getElem?
  intro q
  by_cases hq : q < 64
  · rw [List.getElem?_take_of_lt hq, List.getElem?_take_of_lt hq, List.getElem?_drop, List.getElem?_drop]
    have hlt : (L.take (i * 64)).length = i * 64 := by rw [List.length_take]; omega
    by_cases hji : j < i
    · rw [List.append_assoc, List.getElem?_append_left (by omega), List.getElem?_take_of_lt (by omega)]
    · have : i < j := by omega
      rw [List.getElem?_append_right (by rw [List.length_append]; omega), List.getElem?_drop, List.length_append, hlt]
      congr 1
      omega
  · rw [List.getElem?_take_eq_none (by omega), List.getElem?_take_eq_none (by omega)]
theorem readS_mem {L : List UInt8} {C : List Ent} (hn : (C.map Ent.k).Nodup) {e : Ent} (he : e ∈ C) : readS L C e.k = e.s := by
  unfold readS; rw [find_of_mem hn he]
theorem readS_none {L : List UInt8} {C : List Ent} {k : Nat} (h : hasE C k = false) : (readS L C k).data.toList = sec L k := by
  unfold readS
  rw [hasE_find] at h
  cases hf : findE C k with
  | some e => rw [hf] at h; cases h
  | none => rfl

theorem SyncAt.start {n : Nat} {L : List UInt8} {C : List Ent} {D : DataW Unit} (hC : Cached D C) (h : L.length = n * 64) : SyncAt n L C (Maps.has D) L := by
  refine ⟨h, fun k hk => ?_⟩
  rw [hC.has]
  cases hh : hasE C k
  · rw [if_neg (by simp), readS_none hh]
  · rw [if_pos rfl]
theorem SyncAt.step {n : Nat} {L L' : List UInt8} {C : List Ent} {left : Lit → Bool} (h : SyncAt n L C left L') (hn : (C.map Ent.k).Nodup) {e : Ent} (he : e ∈ C) (hk : e.k < n) (hs : e.s.size = 64) :
    SyncAt n L C (fun z => left z && !z.sameKey (.int .i64 (e.k : Int))) (setS L' e.k e.s.data.toList) := by
  have hl : e.s.data.toList.length = 64 := by rw [Array.length_toList]; exact hs
  refine ⟨setS_len h.1 hk hl, fun k hk' => ?_⟩
  by_cases hke : k = e.k
  · subst hke
    rw [sec_set_same h.1 hk hl, if_neg (by simp [Lit.sameKey]), readS_mem hn he]
  · rw [sec_set_other h.1 hk hk' hke hl, h.2 k hk']
    have : Lit.sameKey (.int .i64 (k : Int)) (.int .i64 (e.k : Int)) = false := sameKey_ne (int_ne (by omega))
    simp only [this, Bool.not_false, Bool.and_true]
theorem SyncAt.done {n : Nat} {L L' : List UInt8} {C : List Ent} {left : Lit → Bool} (h : SyncAt n L C left L') (hl : ∀ kl, left kl = false) : L'.length = n * 64 ∧ ∀ k : Nat, k < n → sec L' k = (readS L C k).data.toList := by
  refine ⟨h.1, fun k hk => ?_⟩
  rw [h.2 k hk, hl]; simp

def mkV2 (p : ByteArray × Int) : Value := .agg #[.string p.1, .int .i64 p.2]

set_option maxHeartbeats 1000000 in
theorem sync_ok {w : World} {b lb mb c n : Nat} {L : List UInt8} {C : List Ent} {t : Nat} {f : Int} (h : DkAt w b lb mb c n L C t f true) (hf : f ≠ 0) :
    Calls Try.prog 7 #[.pointer (some ⟨b, 0, none⟩)] w fun e w' => e = .returned (.int .i64 0) ∧ ∃ L', (L'.length = n * 64 ∧ ∀ k : Nat, k < n → sec L' k = (readS L C k).data.toList) ∧ DkAt w' b lb mb c n L' [] t f true ∧ Touch (DkS b lb mb) w w' := by
  obtain ⟨c0, c1, c2, c3, c4⟩ := h.cells
  obtain ⟨D, hown, hCd⟩ := h.map
  have hlt := h.lt
  have hnd := hCd.nodup
  have H := Lib.hid h
  have HFN := Lib.hid hf
  clear h hf c0 c2 c3
  go_enter Try.func7, Try.ntmps7
  go_wp2_with (first
    | (go_at_call 21; refine (burns_no H.out HFN.out).mono ?_; rintro e w' ⟨rfl, rfl⟩)
    | (at_range; refine wpList_range_own _ rfl _ 54 rfl 3 58 Try.keyedI Try.underlying54 _ mb t D rfl hown ?_; intro w0 hrg0 hg0 hs0)
    | go_in)
  go_frame
  have hT0 : Touch (fun _ => False) w w0 := (Touch.of_grown hg0).mono fun k hk => by cases hk
  have hD0 := H.out.still hT0
  clear hown hs0 hg0
  go_loopw [3, 4] (fun _ _ wr => ∃ left cnt L', wr.ranges Try.prog 3 rdW mb w.heap.size t D left cnt ∧ DkAt wr b lb mb c n L' C t f true ∧ SyncAt n L C left L' ∧ Touch (DkS b lb mb) w wr) (fun _ _ wr => wr.rangeLeft mb w.heap.size)
  case atStart => exact ⟨_, _, L, hrg0, hD0, SyncAt.start hCd H.out.len, hT0.mono fun k hk => hk.elim⟩
  case round =>
    obtain ⟨left, cnt, L', hrg, hD, hS, hT⟩ := hrel
    go_wp2_with (first
      | (at_next; refine wpList_next_ranges _ rfl _ rfl 3 Try.keyedI rdW encZ mkV2 (fun key kl hk => by obtain ⟨x, hx, _⟩ := Maps.keyOf_i64 Try.underlying3 hk; exact ⟨x, hx⟩) (fun v y hv => by obtain ⟨s, t', hv', _⟩ := rdW_inv hv; exact ⟨(s, t'), hv'⟩) mb w.heap.size t _ _ _ rfl hrg ?_ ?_)
      | go_in)
    · intro hc0 hl0
      obtain ⟨w5, hrun, hm5, hg5⟩ := hD.map.clear
      have hT5 : Touch (fun k => k = mb) wr w5 := (Touch.of_grown hg5).mono fun k hk => by injection hk
      have d1 := hD.cells.2.1
      have hD5 := hD.setC (hm5.mono (Nat.zero_le _)) (fun e he => (by cases he)) hT5
      have HS := Lib.hid (hS.done hl0)
      clear hD hm5 hg5 hrg hl0 hS hrg0 hCd c1 c4
      go_wp2
      go_ret
      exact ⟨rfl, L', HS.out, hD5, hT.trans (hT5.mono fun k hk => .inr (.inr hk))⟩
    · intro x ps pt kl yd yp w2 cnt2 hkey hlk hv hat hrg2 hlt2 hg2 hs2 hen
      obtain ⟨x', ex, rfl, _⟩ := Maps.keyOf_i64 Try.underlying3 hkey
      obtain rfl : x = x' := encZ_inj ex
      have hy : yd = elD ps pt := by have : rdW (mkV2 (ps, pt)) = some (elD ps pt, []) := rfl; rw [this] at hv; injection hv with hv; injection hv with hv _; exact hv.symm
      have hhas : Maps.has D (.int .i64 x) = true := has_true_of_atKey hat
      rw [hCd.has] at hhas
      obtain ⟨e, he, hek⟩ := hasE_true.1 hhas
      have hat2 := hCd.at' e he (.nil)
      rw [hek, hat, hy] at hat2
      obtain ⟨hse, hte⟩ := elD_inj hat2
      obtain ⟨hekn, hes, het⟩ := H.out.ents e he
      have hT2 : Touch (fun k => k = w.heap.size) wr w2 := (Touch.of_grown hg2).mono fun k hk => (by injection hk)
      have hD2 := hD.kept hT2 (by omega) (by omega) (by omega)
      subst hek hse hte
      have hTw2 : Touch (DkS b lb mb) w w2 := hT.trans' hT2 (fun i hi => .inr (by omega))
      have hrw := hD2.row
      rw [hD2.len] at hrw
      have hcap := hD2.cap
      -- the world behind the element's box
      have hTa := (Touch.refl (fun _ => False) w2).alloc (.cells #[.string e.s, .int .i64 (e.t : Int)] 58)
      have hrwa := hrw.kept hTa (fun _ _ => id)
      obtain ⟨cs, hcp, hrow⟩ := Row.put hrwa (e.k * 64) e.s (by rw [hD2.len]; omega)
      have hrc := hrg.lt
      have hbx : (w2.alloc (.cells #[.string e.s, .int .i64 (e.t : Int)] 58)).cell? ⟨w2.heap.size, 0, none⟩ = some (.string e.s) := cell_of_row _ _ 0 _ _ _ (heap_alloc_new w2 _)
      have HP := Lib.hid (⟨hrow, hrg2, hlt2, hlk, hTw2, hs2, hS, hD2⟩ : _ ∧ _ ∧ _ ∧ _ ∧ _ ∧ _ ∧ _ ∧ _)
      have HCP := Lib.hid hcp
      have HRG := Lib.hid hrg
      clear hrow hrg2 hlt2 hlk hTw2 hcp hrg hS hs2 hat hat2 hy hv hkey hhas hT2 hg2 hrw hrwa hD ex hCd hrg0 c1 c4
      unfold mkV2 encZ at hen ⊢
      simp only at hen ⊢
      go_upto_region 8 with fail
      have hTd : Touch (fun _ => False) w2 (w2.alloc (.cells #[.string e.s, .int .i64 (e.t : Int)] 58)).drew := hTa.drew
      have hD4 := hD2.still hTd
      have hb4 : (w2.alloc (.cells #[.string e.s, .int .i64 (e.t : Int)] 58)).drew.cell? ⟨w2.heap.size, 0, none⟩ = some (.string e.s) := hbx
      have hcp4 := HCP.out (w2.alloc (.cells #[.string e.s, .int .i64 (e.t : Int)] 58)).drew rfl 3 64 (c - e.k * 64) (by omega)
      have hrow4 := HP.out.1 (w2.alloc (.cells #[.string e.s, .int .i64 (e.t : Int)] 58)).drew rfl
      refine wp_region_still_tail 5 (by kernel_rfl) (by kernel_rfl) ?_
      simp only [List.take_succ_cons, List.take_zero, List.drop_succ_cons, List.drop_zero]
      show wpStill _ _ (w2.alloc (.cells #[.string e.s, .int .i64 (e.t : Int)] 58)).drew (fun a' => wpList _ _ _ _ a' (w2.alloc (.cells #[.string e.s, .int .i64 (e.t : Int)] 58)).drew) _ _
      generalize (w2.alloc (.cells #[.string e.s, .int .i64 (e.t : Int)] 58)).drew = w4 at hTd hD4 hb4 hcp4 hrow4 ⊢
      have HD4 := Lib.hid hD4
      have HR4 := Lib.hid hrow4
      have HCAP := Lib.hid hcap
      clear hen hbx hD4 hTa hrow4 hcap
      still_step
      still_step
      still_call ((sector_calls HD4.out _ hekn).mono fun _ _ ⟨h1, h2⟩ => ⟨h1, h2.symm⟩)
      repeat still_step
      refine wpStill_nil ?_
      unfold secS
      go_wp2
      obtain ⟨_, hrg2, hlt2, hlk, hTw2, hs2, hS, _⟩ := HP.out
      have hT5 : Touch (fun k => k = lb) w4 (w4.setRow lb cs) := (Touch.refl (fun k => k = lb) w4).setRow (Or.inl rfl) _
      have hsl : e.s.data.toList.length = 64 := by rw [Array.length_toList]; exact hes
      have hT25 : Touch (fun k => k = lb) w2 (w4.setRow lb cs) := (hTd.mono fun k hk => hk.elim).trans hT5
      have hrg5 := ranges_of hrg2 (hT25.block mb hD2.lt.2.2 hD2.mne.2) (hT25.block w.heap.size (by omega) (by omega))
      have hD5 := HD4.out.setL HR4.out (setS_len hD2.len hekn hsl) hT5
      go_roundw
      case rel => exact ⟨_, cnt2, setS L' e.k e.s.data.toList, hrg5, hD5, hS.step hnd he hekn hes, hTw2.trans (hT25.mono fun k hk => .inr (.inl hk))⟩
      case measure => rw [hrg5.left_eq, HRG.out.left_eq]; exact hlt2

end Go.Proofs.Ytjjpknmjkhaahaa

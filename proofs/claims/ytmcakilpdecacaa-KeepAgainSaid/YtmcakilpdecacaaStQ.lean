/- Contracts of package stage, fourth part: Append, Sync. -/
import Derived.Test.YtmcakilpdecacaaStP
import Derived.Test.YtmcakilpdecacaaDkH
namespace Go.Proofs.Ytmcakilpdecacaa
open Go Go.RowKit Go.Maps
set_option maxRecDepth 100000

/-- The image with some bytes told at a place. -/
def ImgUp (L : List UInt8) (C C' : List Ent) (a : Nat) (T : List UInt8) : Prop := ∀ p, imgB L C' p = if a ≤ p ∧ p < a + T.length then T.getD (p - a) 0 else imgB L C p
/-- What lies elsewhere is kept. -/
def KeepUp (L : List UInt8) (C C' : List Ent) (a m : Nat) : Prop := ∀ (D : Nat → Prop) (g : Nat → UInt8), (∀ p, D p → ¬ (a ≤ p ∧ p < a + m)) → Keeps D g L C → Keeps D g L C'

theorem ImgUp.nil (L : List UInt8) (C : List Ent) (a : Nat) : ImgUp L C C a [] := fun p => by rw [if_neg (by simp)]
theorem KeepUp.nil (L : List UInt8) (C : List Ent) (a m : Nat) : KeepUp L C C a m := fun _ _ _ h => h
theorem ImgUp.step {n : Nat} {L : List UInt8} {C C' : List Ent} {a : Nat} {T : List UInt8} (h : ImgUp L C C' a T) (hL : L.length = n * 64) (hc : ∀ e ∈ C', e.k < n ∧ e.s.size = 64) {k : Nat} (hk : k < n) (o : Nat) (s : ByteArray) (ho : o + s.size ≤ 64) (t : Nat) (he : k * 64 + o = a + T.length) :
    ImgUp L C (putE C' k (ptS (readS L C' k) o s) t) a (T ++ s.data.toList) := by
  intro p
  rw [img_put hL hc hk o s ho, h p, he, List.length_append, ba_len]
  simp only [List.getD_eq_getElem?_getD]
  by_cases h1 : a ≤ p ∧ p < a + T.length
  · rw [if_neg (by omega), if_pos h1, if_pos (by omega), List.getElem?_append_left (by omega)]
  · by_cases h2 : a + T.length ≤ p ∧ p < a + T.length + s.size
    · rw [if_pos h2, if_pos (by omega), List.getElem?_append_right (by omega)]
      congr 2
      omega
    · rw [if_neg h2, if_neg h1, if_neg (by omega)]
theorem KeepUp.step {n : Nat} {L : List UInt8} {C C' : List Ent} {a m : Nat} (h : KeepUp L C C' a m) (hL : L.length = n * 64) (hc : ∀ e ∈ C', e.k < n ∧ e.s.size = 64) {k : Nat} (hk : k < n) (o : Nat) (s : ByteArray) (ho : o + s.size ≤ 64) (t : Nat) (h1 : a ≤ k * 64 + o) (h2 : k * 64 + o + s.size ≤ a + m) :
    KeepUp L C (putE C' k (ptS (readS L C' k) o s) t) a m := fun D g hD hK =>
  keeps_put (h D g hD hK) hL hc hk o s ho t (fun p hp hh => hD p hp (by omega))

/-- What comes of an Append that has room. -/
def AppOut (w' : World) (b lb mb c n : Nat) (L : List UInt8) (C : List Ent) (t : Nat) (f : Int) (fb fi mo sz : Nat) (s : ByteArray) (e : Ending) : Prop :=
  (e = .returned (.int .i64 0) ∧ ∃ C' t' f', (f = -1 → f' = -1) ∧ t' ≤ t + s.size ∧ DkAt w' b lb mb c n L C' t' f' true ∧ FlAt w' fb b fi mo (sz + s.size) ∧ ImgUp L C C' (fi * 64 + sz) s.data.toList ∧ KeepUp L C C' (fi * 64 + sz) s.size) ∨
  (f ≠ -1 ∧ e = .returned (.int .i64 14) ∧ ∃ t', t' ≤ t + s.size ∧ DkAt w' b lb mb c n L [] t' (-1) false ∧ FlAt w' fb b fi mo sz)

theorem stEmpty {a : ByteArray} : a.toList.isEmpty = decide (a.size = 0) := by
  rw [ByteArray.toList_eq]
  have h := ba_len a
  cases hh : a.data.toList with
  | nil => rw [hh] at h; exact (decide_eq_true (by simpa using h.symm)).symm
  | cons x r => rw [hh, List.length_cons] at h; exact (decide_eq_false (by omega)).symm

theorem stappend_nil (s : ByteArray) (w : World) : Calls Try.prog 32 #[.pointer none, .string s] w fun e w' => e = .returned (.int .i64 1) ∧ w = w' := by
  go_enter Try.func32, Try.ntmps32
  go_wp2
  go_ret
  exact ⟨rfl, rfl⟩
theorem stappend_full {w : World} {fb b fi mo sz : Nat} (h : FlAt w fb b fi mo sz) (hm : mo ≤ 4194304) (hsz : sz ≤ mo) (s : ByteArray) (hs : mo - sz < s.size) :
    Calls Try.prog 32 #[.pointer (some ⟨fb, 0, none⟩), .string s] w fun e w' => e = .returned (.int .i64 15) ∧ Touch (fun _ => False) w w' := by
  have H := Lib.hid h
  obtain ⟨q, hq⟩ : ∃ q : Nat, mo - sz = q := ⟨_, rfl⟩
  have hr := stroom_calls h hsz hm
  rw [hq] at hr hs
  have HR := Lib.hid hr
  have d1 : decide ((q : Int) < (s.size : Int)) = true := decide_eq_true (by omega)
  have d2 : decide (q < s.size) = true := decide_eq_true (by omega)
  clear h hr
  go_enter Try.func32, Try.ntmps32
  go_wp2_with (go_at_call 34; refine HR.out.mono ?_; rintro e wa ⟨rfl, hTa⟩)
  go_ret
  exact ⟨rfl, hTa⟩

theorem rest_len {R s : ByteArray} {j : Nat} (h : R.data.toList = s.data.toList.drop j) : R.size = s.size - j := by
  rw [← ba_len, h, List.length_drop, ba_len]
theorem rest_head {R s : ByteArray} {j d : Nat} (h : R.data.toList = s.data.toList.drop j) : s.data.toList.take j ++ (R.extract 0 d).data.toList = s.data.toList.take (j + d) := by
  rw [ByteArray.data_extract, Array.toList_extract, List.extract, List.drop_zero, Nat.sub_zero, h, List.take_add]
theorem rest_tail {R s : ByteArray} {j d : Nat} (h : R.data.toList = s.data.toList.drop j) : (R.extract d R.size).data.toList = s.data.toList.drop (j + d) := by
  rw [ByteArray.data_extract, Array.toList_extract, List.extract, h, List.drop_drop]
  exact List.take_of_length_le (by rw [List.length_drop, ba_len, rest_len h]; omega)

set_option maxHeartbeats 2000000 in
theorem stappend_calls {w : World} {b lb mb c n : Nat} {L : List UInt8} {C : List Ent} {t : Nat} {f : Int} (h : DkAt w b lb mb c n L C t f true) {fb fi mo sz : Nat} (hF : FlAt w fb b fi mo sz) (hsep : ¬ DkS b lb mb fb) (hfit : fi * 64 + mo ≤ n * 64) (hsz : sz ≤ mo) (s : ByteArray) (hs : s.size ≤ mo - sz) (ht : t + s.size ≤ 1000000) :
    Calls Try.prog 32 #[.pointer (some ⟨fb, 0, none⟩), .string s] w fun e w' => AppOut w' b lb mb c n L C t f fb fi mo sz s e ∧ Touch (fun k => DkS b lb mb k ∨ k = fb) w w' := by
  have hn := h.n2
  have H := Lib.hid h
  have HF := Lib.hid hF
  have HSP := Lib.hid hsep
  obtain ⟨c0, c1, c2, c3⟩ := hF.cells
  have f3 := Block.free hF 3
  obtain ⟨q, hq⟩ : ∃ q : Nat, mo - sz = q := ⟨_, rfl⟩
  have hr := stroom_calls hF hsz (by omega)
  rw [hq] at hr hs
  have HR := Lib.hid hr
  have d1 : decide ((q : Int) < (s.size : Int)) = false := decide_eq_false (by omega)
  have d2 : decide (q < s.size) = false := decide_eq_false (by omega)
  clear h hF hsep hr
  go_enter Try.func32, Try.ntmps32
  go_upto_region 3 with fail
  go_wp2_with (go_at_call 34; refine HR.out.mono ?_; rintro e wa ⟨rfl, hTa⟩; have HTa := Lib.hid hTa; have c3 := hTa.cell (p := ⟨fb, 3, none⟩) c3 id; clear hTa)
  go_loopw [5, 6] (fun v5 v6 wr => ∃ (j : Nat) (R : ByteArray) (C' : List Ent) (t' : Nat) (f' : Int), j ≤ s.size ∧ v5 = .int .i64 ((sz + j : Nat) : Int) ∧ v6 = .string R ∧ R.data.toList = s.data.toList.drop j ∧ (f = -1 → f' = -1) ∧ t' ≤ t + j ∧ DkAt wr b lb mb c n L C' t' f' true ∧ ImgUp L C C' (fi * 64 + sz) (s.data.toList.take j) ∧ KeepUp L C C' (fi * 64 + sz) s.size ∧ Touch (DkS b lb mb) w wr) (fun v5 _ _ => sz + s.size - (Go.RowKit.intOf v5).toNat)
  case atStart => exact ⟨0, s, C, t, f, Nat.zero_le _, rfl, rfl, rfl, id, Nat.le_refl _, H.out.still HTa.out, ImgUp.nil _ _ _, KeepUp.nil _ _ _ _, HTa.out.weak0⟩
  case round =>
    obtain ⟨j, R, C', t', f', hj, rfl, rfl, hR, hff, ht', hD, hI, hK, hT⟩ := hrel
    have hRl := rest_len hR
    have HRR := Lib.hid hR
    have HFF := Lib.hid hff
    have HD := Lib.hid hD
    have HI := Lib.hid hI
    have HK := Lib.hid hK
    have HT := Lib.hid hT
    clear hR hff hD hI hK hT
    by_cases hlt : j < s.size
    · have hfull : R.toList.isEmpty = false := by rw [stEmpty]; exact decide_eq_false (by omega)
      obtain ⟨p, hp⟩ : ∃ p : Nat, sz + j = p := ⟨_, rfl⟩
      obtain ⟨m, hm⟩ : ∃ m : Nat, R.size = m := ⟨_, rfl⟩
      obtain ⟨r, hr⟩ : ∃ r : Nat, p % 64 = r := ⟨_, rfl⟩
      obtain ⟨d, hd⟩ : ∃ d : Nat, min m (64 - r) = d := ⟨_, rfl⟩
      obtain ⟨u, hu⟩ : ∃ u : Nat, 64 - r = u := ⟨_, rfl⟩
      obtain ⟨x, hx⟩ : ∃ x : Nat, p / 64 = x := ⟨_, rfl⟩
      rw [hp]
      have hmI : (R.size : Int) = (m : Int) := by omega
      have hdm : d ≤ m := by omega
      have hdI : (d : Int) ≤ (m : Int) := by omega
      have hd0 : (0 : Int) ≤ (d : Int) := by omega
      have hd1 : 1 ≤ d := by omega
      have hp4 : p ≤ 4194304 := by omega
      have hpd : p + d ≤ 4194304 := by omega
      have hd64 : r + d ≤ 64 := by omega
      have hmin1 : min (m : Int) (u : Int) = (d : Int) := by omega
      have hmin2 : (if (u : Int) < (m : Int) then (u : Int) else (m : Int)) = (d : Int) := by split <;> omega
      have hmin3 : (if u < m then (u : Int) else (m : Int)) = (d : Int) := by split <;> omega
      have hys : (R.extract 0 d).size = d := by rw [ByteArray.size_extract]; omega
      have hxn : fi + x < n := by omega
      have HLF : Hid (∀ W, Calls Try.prog 61 #[.int .i64 p] W fun e w' => e = .returned (.int .i64 u) ∧ W = w') := Lib.hid (fun W => by rw [← hu, ← hr]; exact left_calls p (by omega) W)
      have hpc := stput_calls HD.out (HF.out.kept HT.out HSP.out) HSP.out p (by rw [hx]; exact hxn) (R.extract 0 d) (by rw [hr, hys]; exact hd64) (by omega)
      rw [hx, hr] at hpc
      have HPC := Lib.hid hpc
      have HQ := Lib.hid (⟨hp, hm, hr, hd, hu, hx, hRl⟩ : _ ∧ _ ∧ _ ∧ _ ∧ _ ∧ _ ∧ _)
      clear hp hr hd hu hx hpc hRl hm
      go_wp2_with (first
        | (go_at_call 61; refine (HLF.out _).mono ?_; rintro e w' ⟨rfl, rfl⟩)
        | (go_at_call 64; refine HPC.out.mono ?_; rintro e wb ⟨hout, hTb⟩; have HTb := Lib.hid hTb; clear hTb; rcases hout with ⟨hf0, rfl, hDb⟩ | ⟨hf0, rfl, hDb⟩ <;> have HDb := Lib.hid hDb <;> clear hDb))
      · go_quiet (fail)
        go_wp2_with fail
        go_roundw
        case rel =>
          obtain ⟨hp, hm, hr, hd, hu, hx, hRl⟩ := HQ.out
          have hents : ∀ e ∈ C', e.k < n ∧ e.s.size = 64 := fun e he => ⟨(HD.out.ents e he).1, (HD.out.ents e he).2.1⟩
          have htl : (s.data.toList.take j).length = j := by rw [List.length_take, ba_len]; omega
          have hst := HI.out.step HD.out.len hents hxn r (R.extract 0 d) (by rw [hys]; exact hd64) (t' + 1) (by rw [htl]; omega)
          rw [rest_head HRR.out] at hst
          exact ⟨j + d, R.extract d R.size, _, _, _, by omega, by congr 1; omega, by rw [hm], rest_tail HRR.out, fun h => by rw [HFF.out h]; rfl, by omega, HDb.out.still ((Touch.refl _ _).drewN _), hst, HK.out.step HD.out.len hents hxn r (R.extract 0 d) (by rw [hys]; exact hd64) (t' + 1) (by omega) (by rw [hys]; omega), (HT.out.trans HTb.out).drewN _⟩
        case measure =>
          obtain ⟨hp, hm, hr, hd, hu, hx, hRl⟩ := HQ.out
          simp [Go.RowKit.intOf]; omega
      · go_ret
        have hfb : f ≠ -1 := fun h => by have := HFF.out h; omega
        have hT2 := HT.out.trans HTb.out
        exact ⟨.inr ⟨hfb, rfl, t', by omega, HDb.out, HF.out.kept hT2 HSP.out⟩, hT2.mono fun _ hk => .inl hk⟩
    · have hjs : j = s.size := by omega
      subst hjs
      have hfull : R.toList.isEmpty = true := by rw [stEmpty]; exact decide_eq_true (by omega)
      have f3 := (HT.out.frozen (p := ⟨fb, 3, none⟩) HF.out.lt HSP.out).trans f3
      have hFr := HF.out.kept HT.out HSP.out
      have c3 := hFr.cells.2.2.2
      have HFR := Lib.hid hFr
      obtain ⟨v, hv⟩ : ∃ v : Nat, sz + s.size = v := ⟨_, rfl⟩
      have HV := Lib.hid hv
      rw [hv]
      clear hFr hv
      go_wp2_with fail
      go_ret
      have hTf : Touch (fun k => k = fb) wr (wr.setCell ⟨fb, 3, none⟩ (.int .i64 (v : Int))) := (Touch.refl (fun k => k = fb) wr).setCell (p := ⟨fb, 3, none⟩) (Or.inl rfl) _
      have hI := HI.out
      rw [List.take_of_length_le (Nat.le_of_eq (ba_len s))] at hI
      exact ⟨.inl ⟨rfl, C', t', f', HFF.out, ht', HD.out.kept hTf (fun e => HSP.out (e ▸ .inl rfl)) (fun e => HSP.out (e ▸ .inr (.inl rfl))) (fun e => HSP.out (e ▸ .inr (.inr rfl))), by rw [HV.out]; exact Block.set HFR.out 3 _, hI, HK.out⟩, (HT.out.mono fun _ hk => .inl hk).trans (hTf.mono fun _ hk => .inr hk)⟩

theorem stsync_nil (w : World) : Calls Try.prog 31 #[.pointer none] w fun e w' => e = .returned (.int .i64 1) ∧ w = w' := by
  go_enter Try.func31, Try.ntmps31
  go_wp2
  go_ret
  exact ⟨rfl, rfl⟩
/-- Sync is the disk's. -/
theorem stsync_any {w : World} {fb b fi mo sz : Nat} (h : FlAt w fb b fi mo sz) {v : Value} {Q : World → Prop} (hs : Calls Try.prog 14 #[.pointer (some ⟨b, 0, none⟩)] w fun e w' => e = .returned v ∧ Q w') :
    Calls Try.prog 31 #[.pointer (some ⟨fb, 0, none⟩)] w fun e w' => e = .returned v ∧ Q w' := by
  obtain ⟨c0, _⟩ := h.cells
  have HS := Lib.hid hs
  clear h hs
  go_enter Try.func31, Try.ntmps31
  go_wp2_with (go_at_call 14; refine HS.out.mono ?_; rintro e wa ⟨rfl, hQ⟩)
  go_ret
  exact ⟨rfl, hQ⟩

end Go.Proofs.Ytmcakilpdecacaa

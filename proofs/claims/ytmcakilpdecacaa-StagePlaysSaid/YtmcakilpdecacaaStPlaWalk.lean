/- The statement StagePlays over the translated program. -/
import Derived.Test.YtmcakilpdecacaaStS
import Derived.Test.YtmcakilpdecacaaStOpen
import Derived.Deep.CutBlock
namespace Go.Proofs.Ytmcakilpdecacaa
open Go Go.RowKit Go.Maps
set_option maxRecDepth 100000

theorem st_and7 (n : Int) : bits .and .i64 n 7 = n % 8 := by
  have hk : (BitVec.ofInt 64 7).toNat = 2 ^ 3 - 1 := by decide
  have key : (BitVec.ofInt 64 n &&& BitVec.ofInt 64 7).toNat = (n % ((2 ^ 64 : Nat) : Int)).toNat % 2 ^ 3 := by
    rw [BitVec.toNat_and, BitVec.toNat_ofInt, hk, Nat.and_two_pow_sub_one_eq_mod]
  show IntKind.i64.wrap ((BitVec.ofInt 64 n &&& BitVec.ofInt 64 7).toNat : Nat) = n % 8
  rw [key, IntKind.wrap_i64]
  omega
theorem st_mod6 (z : Int) : ∃ (r : Int) (c : Nat), z.tmod 6 = r ∧ -6 < r ∧ r < 6 ∧ (r + 6).tmod 6 = c ∧ (r + 6) % 6 = c ∧ c < 6 := by
  have h1 := Int.tmod_lt_of_pos z (show (0 : Int) < 6 by decide)
  have h2 := Int.lt_tmod_of_pos z (show (0 : Int) < 6 by decide)
  refine ⟨z.tmod 6, ((z.tmod 6 + 6) % 6).toNat, rfl, h2, h1, ?_, by omega, by omega⟩
  rw [Int.tmod_eq_emod_of_nonneg (by omega)]; omega
theorem head_size (x : ByteArray) (m : Nat) : (x.extract 0 (min x.size m)).size ≤ m := by rw [ByteArray.size_extract]; omega
theorem cat_size (A s : ByteArray) : (A ++ s).size = A.size + s.size := ByteArray.size_append
theorem cat_list (A s : ByteArray) : (A ++ s).data.toList = A.data.toList ++ s.data.toList := by rw [ByteArray.data_append, Array.toList_append]
theorem ext_list (A : ByteArray) (p k : Nat) : (A.extract p (p + k)).data.toList = (A.data.toList.drop p).take k := by
  rw [ByteArray.data_extract, Array.toList_extract, List.extract, Nat.add_sub_cancel_left]
theorem ext0_list (A : ByteArray) (k : Nat) : (A.extract 0 k).data.toList = A.data.toList.take k := by
  rw [ByteArray.data_extract, Array.toList_extract, List.extract, List.drop_zero, Nat.sub_zero]

theorem fil_len' {w : World} {b lb mb c n t fb fi mo : Nat} {A : ByteArray} (h : Fil w b lb mb c n t fb fi mo A.data.toList) : Calls Try.prog 33 #[.pointer (some ⟨fb, 0, none⟩)] w fun e w' => e = .returned (.int .i64 A.size) ∧ w = w' := by
  have := fil_len h
  rwa [ba_len] at this
theorem fil_room' {w : World} {b lb mb c n t fb fi mo q : Nat} {A : ByteArray} (h : Fil w b lb mb c n t fb fi mo A.data.toList) (hq : mo - A.size = q) : Calls Try.prog 34 #[.pointer (some ⟨fb, 0, none⟩)] w fun e w' => e = .returned (.int .i64 q) ∧ Touch (fun _ => False) w w' := by
  have := fil_room h
  rwa [ba_len, hq] at this
theorem fil_size {w : World} {b lb mb c n t fb fi mo : Nat} {A : ByteArray} (h : Fil w b lb mb c n t fb fi mo A.data.toList) : A.size ≤ mo := by
  obtain ⟨_, _, _, _, _, _, _, h6⟩ := h
  rwa [ba_len] at h6
theorem fil_read' {w : World} {b lb mb c n t fb fi mo : Nat} {A : ByteArray} (h : Fil w b lb mb c n t fb fi mo A.data.toList) (p k : Nat) (hk : p + k ≤ A.size) :
    Calls Try.prog 28 #[.pointer (some ⟨fb, 0, none⟩), .int .i64 p, .int .i64 k] w fun e w' => e = .returned (.tuple #[.string (A.extract p (p + k)), .int .i64 0]) ∧ Touch (fun _ => False) w w' := by
  have := fil_read h p k (by rw [ba_len]; exact hk)
  rw [← ext_list] at this
  have e1 : (⟨(A.extract p (p + k)).data.toList.toArray⟩ : ByteArray) = A.extract p (p + k) := ba_ext rfl
  rwa [e1] at this
theorem fil_cut' {w : World} {b lb mb c n t fb fi mo : Nat} {A : ByteArray} (h : Fil w b lb mb c n t fb fi mo A.data.toList) (k : Nat) (hk : k ≤ A.size) : Calls Try.prog 30 #[.pointer (some ⟨fb, 0, none⟩), .int .i64 k] w fun e w' => e = .returned (.int .i64 0) ∧ Fil w' b lb mb c n t fb fi mo (A.extract 0 k).data.toList ∧ Touch (fun k => k = fb) w w' := by
  rw [ext0_list]
  exact fil_cut h k (by rw [ba_len]; exact hk)
theorem stcut_bad' {w : World} {b lb mb c n t fb fi mo : Nat} {A : List UInt8} (h : Fil w b lb mb c n t fb fi mo A) (k : Int) (hk : k < 0 ∨ A.length < k) : Calls Try.prog 30 #[.pointer (some ⟨fb, 0, none⟩), .int .i64 k] w fun e w' => e = .returned (.int .i64 20) ∧ w = w' := by
  obtain ⟨L, C, h1, h2, h3, h4, h5, h6⟩ := h
  exact stcut_bad h2 k hk
theorem fil_append' {w : World} {b lb mb c n t fb fi mo : Nat} {A : ByteArray} (h : Fil w b lb mb c n t fb fi mo A.data.toList) (s : ByteArray) (hs : A.size + s.size ≤ mo) (ht : t + s.size ≤ 1000000) :
    Calls Try.prog 32 #[.pointer (some ⟨fb, 0, none⟩), .string s] w fun e w' => e = .returned (.int .i64 0) ∧ ∃ t', t' ≤ t + s.size ∧ Fil w' b lb mb c n t' fb fi mo (A ++ s).data.toList ∧ Touch (fun k => DkS b lb mb k ∨ k = fb) w w' := by
  rw [cat_list]
  exact fil_append h s (by rw [ba_len]; omega) ht

set_option maxHeartbeats 8000000 in
theorem stplays_calls (z : Int) (l : List SAct) (v1 : Value) (w : World) (hl : SActs w v1 l) :
    Calls Try.prog 4 #[.int .i64 z, v1] w fun e w' => e = .returned (.bool true) ∧ Touch (fun _ => False) w w' := by
  obtain ⟨a, cap, hv, hc1, hc2⟩ := hl.form
  unfold maxLen at hc2
  have HL := Lib.hid hl
  clear hl
  subst hv
  obtain ⟨r, hr⟩ : ∃ r : Nat, z % 8 = (r : Int) := ⟨(z % 8).toNat, by omega⟩
  have hr8 : r < 8 := by omega
  have h7 : bits .and .i64 z 7 = (r : Int) := by rw [st_and7, hr]
  obtain ⟨sn, hsn⟩ : ∃ sn : Nat, 1 + r = sn := ⟨_, rfl⟩
  have hsnI : (1 : Int) + (r : Int) = (sn : Int) := by omega
  have hwsn : IntKind.i64.wrap (sn : Int) = (sn : Int) := IntWalk.i64_in _ (by omega)
  have hs1 : 1 ≤ sn := by omega
  have hs8 : sn ≤ 8 := by omega
  have hsm : IntKind.i64.wrap (64 * (sn : Int)) = 64 * (sn : Int) := IntWalk.i64_in _ (by omega)
  clear hr hsn
  go_enter Try.func4, Try.ntmps4
  go_wp2_with fail
  refine (speaks19_calls w).mono ?_
  rintro e w0 ⟨rfl, hT0⟩
  go_wp2_with fail
  refine (new_calls 12 w0 (by omega) (by omega)).mono ?_
  rintro e w1 ⟨b, lb, mb, rfl, hD1, hN, hT1⟩
  have HD1 := Lib.hid hD1
  have HNB := Lib.hid hN
  clear hD1 hN
  go_wp2_with fail
  refine (fil_new HD1.out 2 sn (A := []) (holds_nil _ _ _) hs1 (by omega) (by simp)).mono ?_
  rintro e w2 ⟨fb0, rfl, hF2, hfb, hT2⟩
  have HF2 := Lib.hid hF2
  have HNN : Hid (∀ k, DkS b lb mb k → w.heap.size ≤ k) := Lib.hid (fun k hk => by
    have := HNB.out; have := hT0.size
    rcases hk with h | h | h <;> omega)
  have hfb0 : w.heap.size ≤ fb0 := by have := hT0.size; have := hT1.size; omega
  have HT2 := Lib.hid ((hT0.trans hT1).trans hT2)
  clear hF2 hT0 hT1 hT2 hfb
  go_wp2_with fail
  go_loopw [7, 9, 10] (fun v7 v9 v10 wr => ∃ (j : Nat) (A : ByteArray) (t fb : Nat), v7 = .pointer (some ⟨fb, 0, none⟩) ∧ v9 = .string A ∧ v10 = .int .i64 j ∧ j ≤ 40 ∧ j ≤ l.length ∧ t ≤ 200 * j ∧ w.heap.size ≤ fb ∧ Fil wr b lb mb (12 * 64) 12 t fb 2 (sn * 64) A.data.toList ∧ Touch (fun _ => False) w wr) (fun _ _ i _ => l.length - (Go.RowKit.intOf i).toNat)
  case atStart => exact ⟨0, ⟨#[]⟩, 0, fb0, rfl, rfl, rfl, by omega, by omega, by omega, hfb0, HF2.out, HT2.out⟩
  case round =>
    obtain ⟨j, A, t, fb, rfl, rfl, rfl, hj40, hjl, ht, hfb, hF, hT⟩ := hrel
    have HF := Lib.hid hF
    have HT := Lib.hid hT
    have hAm := fil_size hF
    have hAs : A.size ≤ 512 := by omega
    clear hF hT
    by_cases hlt : j < l.length ∧ j < 40
    · obtain ⟨hlt, hlt40⟩ := hlt
      have hI1 : (j : Int) < (l.length : Int) := by omega
      have hI2 : (j : Int) < 40 := by omega
      obtain ⟨g, off, cp, hsl, hgl, hok, p0, p1, p2, p3⟩ := (HL.out.still HT.out).at' hlt
      injection hsl with ha hlq hcap
      subst ha
      generalize l[j] = y at hok p0 p1 p2 p3
      obtain ⟨tw, tx, tp, tn⟩ := y
      simp only at p0 p1 p2 p3
      obtain ⟨⟨_, _⟩, hxs, ⟨hp1, hp2⟩, ⟨hn1, hn2⟩⟩ := hok
      simp only at hxs hp1 hp2 hn1 hn2
      obtain ⟨r6, c, hr6, hr61, hr62, hc6, hc6', hc⟩ := st_mod6 tw
      obtain ⟨k, hk⟩ : ∃ k, k = min tx.size 200 := ⟨_, rfl⟩
      obtain ⟨s, hs⟩ : ∃ s, tx.extract 0 k = s := ⟨_, rfl⟩
      have hs200 : s.size ≤ 200 := by rw [← hs, hk]; exact head_size tx 200
      have hk1 : min (tx.size : Int) 200 = (k : Int) := by omega
      have hk3 : (if (200 : Int) < (tx.size : Int) then (200 : Int) else (tx.size : Int)) = (k : Int) := by split <;> omega
      have hk2 : (k : Int) ≤ (tx.size : Int) := by omega
      have hk0 : (0 : Int) ≤ (k : Int) := by omega
      clear hlq hcap hk
      go_upto_region 14 with fail
      have hbx := Block.new wr 55 [.int .i64 tw, .string tx, .int .i64 tp, .int .i64 tn]
      have hT3 := HT.out.alloc (.cells #[.int .i64 tw, .string tx, .int .i64 tp, .int .i64 tn] 55)
      have hF3 := HF.out.still ((Touch.refl (fun _ => False) wr).alloc (.cells #[.int .i64 tw, .string tx, .int .i64 tp, .int .i64 tn] 55))
      have hxb : fb ≠ wr.heap.size := Nat.ne_of_lt HF.out.le.2.2
      clear p0 p1 p2 p3 hk1 hk2 hk3 hk0 hs hgl
      generalize wr.alloc (.cells #[.int .i64 tw, .string tx, .int .i64 tp, .int .i64 tn] 55) = w3 at hbx hT3 hF3 ⊢
      generalize wr.heap.size = xb at hbx hxb ⊢
      have q0 : w3.cell? ⟨xb, 0, none⟩ = some (.int .i64 tw) := hbx.cell 0
      have q2 : w3.cell? ⟨xb, 2, none⟩ = some (.int .i64 tp) := hbx.cell 2
      have q3 : w3.cell? ⟨xb, 3, none⟩ = some (.int .i64 tn) := hbx.cell 3
      have HF3 := Lib.hid hF3
      have HT3 := Lib.hid hT3
      clear hbx hT3 hF3
      have hcase : c = 0 ∨ c = 1 ∨ c = 2 ∨ c = 3 ∨ c = 4 ∨ c = 5 := by omega
      rcases hcase with rfl | rfl | rfl | rfl | rfl | rfl
      · as_aux_lemma =>
        obtain ⟨ts, hts⟩ : ∃ ts : Nat, s.size = ts := ⟨_, rfl⟩
        have hsumI : (A.size : Int) + (ts : Int) = ((A.size + ts : Nat) : Int) := by omega
        obtain ⟨sm, hsm2⟩ : ∃ sm : Nat, A.size + ts = sm := ⟨_, rfl⟩
        have hsmI : (A.size : Int) + (ts : Int) = (sm : Int) := by omega
        clear hsumI
        by_cases hroom : sm ≤ sn * 64
        · have dm : decide (64 * (sn : Int) < (sm : Int)) = false := decide_eq_false (by omega)
          have hbig : (9223372036854775807 < A.size + ts) = False := eq_false (by omega)
          have hap := fil_append' HF3.out s (by omega) (by omega)
          obtain ⟨A2, hA2⟩ : ∃ A2, A ++ s = A2 := ⟨_, rfl⟩
          have hcs := cat_size A s
          rw [hA2] at hap hcs
          have HAP := Lib.hid hap
          have HCS := Lib.hid hcs
          have HTS := Lib.hid (⟨hts, hsm2⟩ : _ ∧ _)
          clear hap hcs hsm2
          go_wp2_with (go_at_call 32; refine HAP.out.mono ?_; rintro e w4 ⟨rfl, t2, ht2, hF4, hT4⟩; have HF4 := Lib.hid hF4; have HT4 : Hid (Touch (fun _ => False) w w4) := Lib.hid (HT3.out.trans' hT4 (fun i hi => .inr (hi.elim (HNN.out i) (fun h => h ▸ hfb)))); clear hF4 hT4)
          obtain ⟨q, hq⟩ : ∃ q : Nat, sn * 64 - A2.size = q := ⟨_, rfl⟩
          have hqI : 64 * (sn : Int) - (A2.size : Int) = (q : Int) := by have := fil_size HF4.out; omega
          have hqw : IntKind.i64.wrap (q : Int) = (q : Int) := IntWalk.i64_in _ (by omega)
          have HRM : Hid (∀ W, Touch (fun _ => False) w4 W → Calls Try.prog 34 #[.pointer (some ⟨fb, 0, none⟩)] W fun e w' => e = .returned (.int .i64 q) ∧ Touch (fun _ => False) W w') := Lib.hid (fun W hW => fil_room' (HF4.out.still hW) hq)
          clear hq
          go_wp2_with (first
            | (go_at_call 28; with_reducible refine (fil_read_all HF4.out).mono ?_; rintro e wx ⟨rfl, hTx⟩; have HTx0 := Lib.hid hTx; have HFx := Lib.hid (HF4.out.still hTx); have HTx := Lib.hid (HT4.out.trans hTx); clear hTx)
            | (go_at_call 33; refine (fil_len' HFx.out).mono ?_; rintro e w' ⟨rfl, rfl⟩)
            | (go_at_call 34; refine (HRM.out _ HTx0.out).mono ?_; rintro e wy ⟨rfl, hTy⟩; have HTy := Lib.hid (HTx.out.trans hTy); have HFy := Lib.hid (HFx.out.still hTy); clear hTy))
          go_roundw
          case rel => exact ⟨j + 1, A2, t2, fb, rfl, rfl, by go_num, by omega, by omega, by (obtain ⟨_, _⟩ := HTS.out; omega), hfb, HFy.out, HTy.out⟩
          case measure => simp [Go.RowKit.intOf]; omega
        · have dm : decide (64 * (sn : Int) < (sm : Int)) = true := decide_eq_true (by omega)
          have hap := fil_full HF3.out s (by rw [ba_len]; omega)
          have HAP := Lib.hid hap
          clear hap hsm2
          go_wp2_with (go_at_call 32; refine HAP.out.mono ?_; rintro e w4 ⟨rfl, hT4⟩; have HF4 := Lib.hid (HF3.out.still hT4); have HT4 := Lib.hid (HT3.out.trans hT4); clear hT4)
          obtain ⟨q, hq⟩ : ∃ q : Nat, sn * 64 - A.size = q := ⟨_, rfl⟩
          have hqI : 64 * (sn : Int) - (A.size : Int) = (q : Int) := by have := fil_size HF4.out; omega
          have hqw : IntKind.i64.wrap (q : Int) = (q : Int) := IntWalk.i64_in _ (by omega)
          have HRM : Hid (∀ W, Touch (fun _ => False) w4 W → Calls Try.prog 34 #[.pointer (some ⟨fb, 0, none⟩)] W fun e w' => e = .returned (.int .i64 q) ∧ Touch (fun _ => False) W w') := Lib.hid (fun W hW => fil_room' (HF4.out.still hW) hq)
          clear hq
          go_wp2_with (first
            | (go_at_call 28; with_reducible refine (fil_read_all HF4.out).mono ?_; rintro e wx ⟨rfl, hTx⟩; have HTx0 := Lib.hid hTx; have HFx := Lib.hid (HF4.out.still hTx); have HTx := Lib.hid (HT4.out.trans hTx); clear hTx)
            | (go_at_call 33; refine (fil_len' HFx.out).mono ?_; rintro e w' ⟨rfl, rfl⟩)
            | (go_at_call 34; refine (HRM.out _ HTx0.out).mono ?_; rintro e wy ⟨rfl, hTy⟩; have HTy := Lib.hid (HTx.out.trans hTy); have HFy := Lib.hid (HFx.out.still hTy); clear hTy))
          go_roundw
          case rel => exact ⟨j + 1, A, t, fb, rfl, rfl, by go_num, by omega, by omega, by omega, hfb, HFy.out, HTy.out⟩
          case measure => simp [Go.RowKit.intOf]; omega
      · as_aux_lemma =>
        obtain ⟨ts, hts⟩ : ∃ ts : Nat, s.size = ts := ⟨_, rfl⟩
        have hsumI : (A.size : Int) + (ts : Int) = ((A.size + ts : Nat) : Int) := by omega
        obtain ⟨sm, hsm2⟩ : ∃ sm : Nat, A.size + ts = sm := ⟨_, rfl⟩
        have hsmI : (A.size : Int) + (ts : Int) = (sm : Int) := by omega
        clear hsumI
        by_cases hroom : sm ≤ sn * 64
        · have dm : decide (64 * (sn : Int) < (sm : Int)) = false := decide_eq_false (by omega)
          have hbig : (9223372036854775807 < A.size + ts) = False := eq_false (by omega)
          have hap := fil_append' HF3.out s (by omega) (by omega)
          obtain ⟨A2, hA2⟩ : ∃ A2, A ++ s = A2 := ⟨_, rfl⟩
          have hcs := cat_size A s
          rw [hA2] at hap hcs
          have HAP := Lib.hid hap
          have HCS := Lib.hid hcs
          have HTS := Lib.hid (⟨hts, hsm2⟩ : _ ∧ _)
          clear hap hcs hsm2
          go_wp2_with (go_at_call 32; refine HAP.out.mono ?_; rintro e w4 ⟨rfl, t2, ht2, hF4, hT4⟩; have HF4 := Lib.hid hF4; have HT4 : Hid (Touch (fun _ => False) w w4) := Lib.hid (HT3.out.trans' hT4 (fun i hi => .inr (hi.elim (HNN.out i) (fun h => h ▸ hfb)))); clear hF4 hT4)
          obtain ⟨q, hq⟩ : ∃ q : Nat, sn * 64 - A2.size = q := ⟨_, rfl⟩
          have hqI : 64 * (sn : Int) - (A2.size : Int) = (q : Int) := by have := fil_size HF4.out; omega
          have hqw : IntKind.i64.wrap (q : Int) = (q : Int) := IntWalk.i64_in _ (by omega)
          have HRM : Hid (∀ W, Touch (fun _ => False) w4 W → Calls Try.prog 34 #[.pointer (some ⟨fb, 0, none⟩)] W fun e w' => e = .returned (.int .i64 q) ∧ Touch (fun _ => False) W w') := Lib.hid (fun W hW => fil_room' (HF4.out.still hW) hq)
          clear hq
          go_wp2_with (first
            | (go_at_call 28; with_reducible refine (fil_read_all HF4.out).mono ?_; rintro e wx ⟨rfl, hTx⟩; have HTx0 := Lib.hid hTx; have HFx := Lib.hid (HF4.out.still hTx); have HTx := Lib.hid (HT4.out.trans hTx); clear hTx)
            | (go_at_call 33; refine (fil_len' HFx.out).mono ?_; rintro e w' ⟨rfl, rfl⟩)
            | (go_at_call 34; refine (HRM.out _ HTx0.out).mono ?_; rintro e wy ⟨rfl, hTy⟩; have HTy := Lib.hid (HTx.out.trans hTy); have HFy := Lib.hid (HFx.out.still hTy); clear hTy))
          go_roundw
          case rel => exact ⟨j + 1, A2, t2, fb, rfl, rfl, by go_num, by omega, by omega, by (obtain ⟨_, _⟩ := HTS.out; omega), hfb, HFy.out, HTy.out⟩
          case measure => simp [Go.RowKit.intOf]; omega
        · have dm : decide (64 * (sn : Int) < (sm : Int)) = true := decide_eq_true (by omega)
          have hap := fil_full HF3.out s (by rw [ba_len]; omega)
          have HAP := Lib.hid hap
          clear hap hsm2
          go_wp2_with (go_at_call 32; refine HAP.out.mono ?_; rintro e w4 ⟨rfl, hT4⟩; have HF4 := Lib.hid (HF3.out.still hT4); have HT4 := Lib.hid (HT3.out.trans hT4); clear hT4)
          obtain ⟨q, hq⟩ : ∃ q : Nat, sn * 64 - A.size = q := ⟨_, rfl⟩
          have hqI : 64 * (sn : Int) - (A.size : Int) = (q : Int) := by have := fil_size HF4.out; omega
          have hqw : IntKind.i64.wrap (q : Int) = (q : Int) := IntWalk.i64_in _ (by omega)
          have HRM : Hid (∀ W, Touch (fun _ => False) w4 W → Calls Try.prog 34 #[.pointer (some ⟨fb, 0, none⟩)] W fun e w' => e = .returned (.int .i64 q) ∧ Touch (fun _ => False) W w') := Lib.hid (fun W hW => fil_room' (HF4.out.still hW) hq)
          clear hq
          go_wp2_with (first
            | (go_at_call 28; with_reducible refine (fil_read_all HF4.out).mono ?_; rintro e wx ⟨rfl, hTx⟩; have HTx0 := Lib.hid hTx; have HFx := Lib.hid (HF4.out.still hTx); have HTx := Lib.hid (HT4.out.trans hTx); clear hTx)
            | (go_at_call 33; refine (fil_len' HFx.out).mono ?_; rintro e w' ⟨rfl, rfl⟩)
            | (go_at_call 34; refine (HRM.out _ HTx0.out).mono ?_; rintro e wy ⟨rfl, hTy⟩; have HTy := Lib.hid (HTx.out.trans hTy); have HFy := Lib.hid (HFx.out.still hTy); clear hTy))
          go_roundw
          case rel => exact ⟨j + 1, A, t, fb, rfl, rfl, by go_num, by omega, by omega, by omega, hfb, HFy.out, HTy.out⟩
          case measure => simp [Go.RowKit.intOf]; omega
      · as_aux_lemma =>
        by_cases hg : 0 ≤ tp ∧ 0 ≤ tn ∧ tp + tn ≤ A.size
        · obtain ⟨p, rfl⟩ : ∃ p : Nat, tp = (p : Int) := ⟨tp.toNat, by omega⟩
          obtain ⟨n, rfl⟩ : ∃ n : Nat, tn = (n : Int) := ⟨tn.toNat, by omega⟩
          have hpn : p + n ≤ A.size := by omega
          have hrd := fil_read' HF3.out p n hpn
          have hrr := fun W => refread_ok A p n hpn (by omega) W
          obtain ⟨X, hX⟩ : ∃ X, A.extract p (p + n) = X := ⟨_, rfl⟩
          rw [hX] at hrd hrr
          have HRD := Lib.hid hrd
          have HRR := Lib.hid hrr
          clear hrd hrr hX hg hpn
          go_wp2_with fail
          refine HRD.out.mono ?_
          rintro e w4 ⟨rfl, hT4⟩
          have q2 := hT4.cell (p := ⟨xb, 2, none⟩) q2 id
          have q3 := hT4.cell (p := ⟨xb, 3, none⟩) q3 id
          have HF4 := Lib.hid (HF3.out.still hT4)
          have HT4 := Lib.hid (HT3.out.trans hT4)
          clear hT4
          go_wp2_with fail
          refine (HRR.out _).mono ?_
          rintro e w' ⟨rfl, rfl⟩
          obtain ⟨q, hq⟩ : ∃ q : Nat, sn * 64 - A.size = q := ⟨_, rfl⟩
          have hqI : 64 * (sn : Int) - (A.size : Int) = (q : Int) := by have := fil_size HF4.out; omega
          have hqw : IntKind.i64.wrap (q : Int) = (q : Int) := IntWalk.i64_in _ (by omega)
          have HRM : Hid (∀ W, Touch (fun _ => False) w4 W → Calls Try.prog 34 #[.pointer (some ⟨fb, 0, none⟩)] W fun e w' => e = .returned (.int .i64 q) ∧ Touch (fun _ => False) W w') := Lib.hid (fun W hW => fil_room' (HF4.out.still hW) hq)
          clear hq
          go_wp2_with (first
            | (go_at_call 28; with_reducible refine (fil_read_all HF4.out).mono ?_; rintro e wx ⟨rfl, hTx⟩; have HTx0 := Lib.hid hTx; have HFx := Lib.hid (HF4.out.still hTx); have HTx := Lib.hid (HT4.out.trans hTx); clear hTx)
            | (go_at_call 33; refine (fil_len' HFx.out).mono ?_; rintro e w' ⟨rfl, rfl⟩)
            | (go_at_call 34; refine (HRM.out _ HTx0.out).mono ?_; rintro e wy ⟨rfl, hTy⟩; have HTy := Lib.hid (HTx.out.trans hTy); have HFy := Lib.hid (HFx.out.still hTy); clear hTy))
          go_roundw
          case rel => exact ⟨j + 1, A, t, fb, rfl, rfl, by go_num, by omega, by omega, by omega, hfb, HFy.out, HTy.out⟩
          case measure => simp [Go.RowKit.intOf]; omega
        · have hb : tp < 0 ∨ tn < 0 ∨ A.size - tn < tp := by omega
          have HRD := Lib.hid (fil_bad HF3.out tp tn hn2 (by rw [ba_len]; exact hb))
          have HRR := Lib.hid (fun W => refread_bad A tp tn (by omega) hn2 hb W)
          clear hb hg
          go_wp2_with fail
          refine HRD.out.mono ?_
          rintro e w' ⟨rfl, rfl⟩
          go_wp2_with fail
          refine (HRR.out _).mono ?_
          rintro e w' ⟨rfl, rfl⟩
          obtain ⟨q, hq⟩ : ∃ q : Nat, sn * 64 - A.size = q := ⟨_, rfl⟩
          have hqI : 64 * (sn : Int) - (A.size : Int) = (q : Int) := by have := fil_size HF3.out; omega
          have hqw : IntKind.i64.wrap (q : Int) = (q : Int) := IntWalk.i64_in _ (by omega)
          have HRM : Hid (∀ W, Touch (fun _ => False) w3 W → Calls Try.prog 34 #[.pointer (some ⟨fb, 0, none⟩)] W fun e w' => e = .returned (.int .i64 q) ∧ Touch (fun _ => False) W w') := Lib.hid (fun W hW => fil_room' (HF3.out.still hW) hq)
          clear hq
          go_wp2_with (first
            | (go_at_call 28; with_reducible refine (fil_read_all HF3.out).mono ?_; rintro e wx ⟨rfl, hTx⟩; have HTx0 := Lib.hid hTx; have HFx := Lib.hid (HF3.out.still hTx); have HTx := Lib.hid (HT3.out.trans hTx); clear hTx)
            | (go_at_call 33; refine (fil_len' HFx.out).mono ?_; rintro e w' ⟨rfl, rfl⟩)
            | (go_at_call 34; refine (HRM.out _ HTx0.out).mono ?_; rintro e wy ⟨rfl, hTy⟩; have HTy := Lib.hid (HTx.out.trans hTy); have HFy := Lib.hid (HFx.out.still hTy); clear hTy))
          go_roundw
          case rel => exact ⟨j + 1, A, t, fb, rfl, rfl, by go_num, by omega, by omega, by omega, hfb, HFy.out, HTy.out⟩
          case measure => simp [Go.RowKit.intOf]; omega
      · as_aux_lemma =>
        by_cases hg : 0 ≤ tn ∧ tn ≤ A.size
        · obtain ⟨n, rfl⟩ : ∃ n : Nat, tn = (n : Int) := ⟨tn.toNat, by omega⟩
          have d1 : decide (0 ≤ (n : Int)) = true := decide_eq_true (by omega)
          have hn0 : (0 : Int) ≤ (n : Int) := by omega
          have hnI : (n : Int) ≤ (A.size : Int) := by omega
          have d2 : decide ((n : Int) ≤ (A.size : Int)) = true := decide_eq_true (by omega)
          have hcu := fil_cut' HF3.out n (by omega)
          obtain ⟨A2, hA2⟩ : ∃ A2, A.extract 0 n = A2 := ⟨_, rfl⟩
          have hcs : A2.size ≤ A.size := by rw [← hA2, ByteArray.size_extract]; omega
          rw [hA2] at hcu
          have HCU := Lib.hid hcu
          clear hcu hg
          go_wp2_with fail
          refine HCU.out.mono ?_
          rintro e w4 ⟨rfl, hF4, hT4⟩
          have q2 := hT4.cell (p := ⟨xb, 2, none⟩) q2 (fun h => hxb h.symm)
          have q3 := hT4.cell (p := ⟨xb, 3, none⟩) q3 (fun h => hxb h.symm)
          have HF4 := Lib.hid hF4
          have HT4 : Hid (Touch (fun _ => False) w w4) := Lib.hid (HT3.out.trans' hT4 (fun i hi => .inr (hi ▸ hfb)))
          clear hF4 hT4
          obtain ⟨q, hq⟩ : ∃ q : Nat, sn * 64 - A2.size = q := ⟨_, rfl⟩
          have hqI : 64 * (sn : Int) - (A2.size : Int) = (q : Int) := by have := fil_size HF4.out; omega
          have hqw : IntKind.i64.wrap (q : Int) = (q : Int) := IntWalk.i64_in _ (by omega)
          have HRM : Hid (∀ W, Touch (fun _ => False) w4 W → Calls Try.prog 34 #[.pointer (some ⟨fb, 0, none⟩)] W fun e w' => e = .returned (.int .i64 q) ∧ Touch (fun _ => False) W w') := Lib.hid (fun W hW => fil_room' (HF4.out.still hW) hq)
          clear hq
          go_wp2_with (first
            | (go_at_call 28; with_reducible refine (fil_read_all HF4.out).mono ?_; rintro e wx ⟨rfl, hTx⟩; have HTx0 := Lib.hid hTx; have HFx := Lib.hid (HF4.out.still hTx); have HTx := Lib.hid (HT4.out.trans hTx); clear hTx)
            | (go_at_call 33; refine (fil_len' HFx.out).mono ?_; rintro e w' ⟨rfl, rfl⟩)
            | (go_at_call 34; refine (HRM.out _ HTx0.out).mono ?_; rintro e wy ⟨rfl, hTy⟩; have HTy := Lib.hid (HTx.out.trans hTy); have HFy := Lib.hid (HFx.out.still hTy); clear hTy))
          go_roundw
          case rel => exact ⟨j + 1, A2, t, fb, rfl, rfl, by go_num, by omega, by omega, by omega, hfb, HFy.out, HTy.out⟩
          case measure => simp [Go.RowKit.intOf]; omega
        · have d2 : decide (0 ≤ tn) = false ∨ (decide (0 ≤ tn) = true ∧ decide (tn ≤ (A.size : Int)) = false) := by
            by_cases h0 : 0 ≤ tn
            · exact .inr ⟨decide_eq_true h0, decide_eq_false (by omega)⟩
            · exact .inl (decide_eq_false h0)
          have HCU := Lib.hid (stcut_bad' HF3.out tn (by rw [ba_len]; omega))
          rcases d2 with d2 | ⟨d2, d3⟩
          all_goals
            go_wp2_with fail
            refine HCU.out.mono ?_
            rintro e w' ⟨rfl, rfl⟩
            obtain ⟨q, hq⟩ : ∃ q : Nat, sn * 64 - A.size = q := ⟨_, rfl⟩
            have hqI : 64 * (sn : Int) - (A.size : Int) = (q : Int) := by have := fil_size HF3.out; omega
            have hqw : IntKind.i64.wrap (q : Int) = (q : Int) := IntWalk.i64_in _ (by omega)
            have HRM : Hid (∀ W, Touch (fun _ => False) w3 W → Calls Try.prog 34 #[.pointer (some ⟨fb, 0, none⟩)] W fun e w' => e = .returned (.int .i64 q) ∧ Touch (fun _ => False) W w') := Lib.hid (fun W hW => fil_room' (HF3.out.still hW) hq)
            clear hq
            go_wp2_with (first
              | (go_at_call 28; with_reducible refine (fil_read_all HF3.out).mono ?_; rintro e wx ⟨rfl, hTx⟩; have HTx0 := Lib.hid hTx; have HFx := Lib.hid (HF3.out.still hTx); have HTx := Lib.hid (HT3.out.trans hTx); clear hTx)
              | (go_at_call 33; refine (fil_len' HFx.out).mono ?_; rintro e w' ⟨rfl, rfl⟩)
              | (go_at_call 34; refine (HRM.out _ HTx0.out).mono ?_; rintro e wy ⟨rfl, hTy⟩; have HTy := Lib.hid (HTx.out.trans hTy); have HFy := Lib.hid (HFx.out.still hTy); clear hTy))
            go_roundw
            case rel => exact ⟨j + 1, A, t, fb, rfl, rfl, by go_num, by omega, by omega, by omega, hfb, HFy.out, HTy.out⟩
            case measure => simp [Go.RowKit.intOf]; omega
      · as_aux_lemma =>
        go_wp2_with fail
        refine (fil_sync HF3.out).mono ?_
        rintro e w4 ⟨rfl, hF4, hT4⟩
        have HF4 := Lib.hid hF4
        have HT4 : Hid (Touch (fun _ => False) w w4) := Lib.hid (HT3.out.trans' hT4 (fun i hi => .inr (HNN.out i hi)))
        clear hF4 hT4
        obtain ⟨q, hq⟩ : ∃ q : Nat, sn * 64 - A.size = q := ⟨_, rfl⟩
        have hqI : 64 * (sn : Int) - (A.size : Int) = (q : Int) := by have := fil_size HF4.out; omega
        have hqw : IntKind.i64.wrap (q : Int) = (q : Int) := IntWalk.i64_in _ (by omega)
        have HRM : Hid (∀ W, Touch (fun _ => False) w4 W → Calls Try.prog 34 #[.pointer (some ⟨fb, 0, none⟩)] W fun e w' => e = .returned (.int .i64 q) ∧ Touch (fun _ => False) W w') := Lib.hid (fun W hW => fil_room' (HF4.out.still hW) hq)
        clear hq
        go_wp2_with (first
          | (go_at_call 28; with_reducible refine (fil_read_all HF4.out).mono ?_; rintro e wx ⟨rfl, hTx⟩; have HTx0 := Lib.hid hTx; have HFx := Lib.hid (HF4.out.still hTx); have HTx := Lib.hid (HT4.out.trans hTx); clear hTx)
          | (go_at_call 33; refine (fil_len' HFx.out).mono ?_; rintro e w' ⟨rfl, rfl⟩)
          | (go_at_call 34; refine (HRM.out _ HTx0.out).mono ?_; rintro e wy ⟨rfl, hTy⟩; have HTy := Lib.hid (HTx.out.trans hTy); have HFy := Lib.hid (HFx.out.still hTy); clear hTy))
        go_roundw
        case rel => exact ⟨j + 1, A, t, fb, rfl, rfl, by go_num, by omega, by omega, by omega, hfb, HFy.out, HTy.out⟩
        case measure => simp [Go.RowKit.intOf]; omega
      · as_aux_lemma =>
        have hag := fil_again HF3.out sn hs1 rfl
        rw [ba_len] at hag
        have HAG := Lib.hid hag
        clear hag
        go_wp2_with fail
        refine HAG.out.mono ?_
        rintro e w4 ⟨fb2, rfl, hF4, hfb2, hT4⟩
        have HF4 := Lib.hid hF4
        have hT34 := HT3.out.size
        have hfbw : w.heap.size ≤ fb2 := by omega
        have HT4 := Lib.hid (HT3.out.trans hT4)
        clear hF4 hT4 hfb2 hT34
        obtain ⟨q, hq⟩ : ∃ q : Nat, sn * 64 - A.size = q := ⟨_, rfl⟩
        have hqI : 64 * (sn : Int) - (A.size : Int) = (q : Int) := by have := fil_size HF4.out; omega
        have hqw : IntKind.i64.wrap (q : Int) = (q : Int) := IntWalk.i64_in _ (by omega)
        have HRM : Hid (∀ W, Touch (fun _ => False) w4 W → Calls Try.prog 34 #[.pointer (some ⟨fb2, 0, none⟩)] W fun e w' => e = .returned (.int .i64 q) ∧ Touch (fun _ => False) W w') := Lib.hid (fun W hW => fil_room' (HF4.out.still hW) hq)
        clear hq
        go_wp2_with (first
          | (go_at_call 28; with_reducible refine (fil_read_all HF4.out).mono ?_; rintro e wx ⟨rfl, hTx⟩; have HTx0 := Lib.hid hTx; have HFx := Lib.hid (HF4.out.still hTx); have HTx := Lib.hid (HT4.out.trans hTx); clear hTx)
          | (go_at_call 33; refine (fil_len' HFx.out).mono ?_; rintro e w' ⟨rfl, rfl⟩)
          | (go_at_call 34; refine (HRM.out _ HTx0.out).mono ?_; rintro e wy ⟨rfl, hTy⟩; have HTy := Lib.hid (HTx.out.trans hTy); have HFy := Lib.hid (HFx.out.still hTy); clear hTy))
        go_roundw
        case rel => exact ⟨j + 1, A, t, fb2, rfl, rfl, by go_num, by omega, by omega, by omega, hfbw, HFy.out, HTy.out⟩
        case measure => simp [Go.RowKit.intOf]; omega
    · have hcase : ¬ ((j : Int) < (l.length : Int)) ∨ ((j : Int) < (l.length : Int) ∧ ¬ ((j : Int) < 40)) := by omega
      rcases hcase with hA' | ⟨hA', hA2⟩
      all_goals
        go_wp2_with fail
        go_ret
        exact ⟨rfl, HT.out⟩

end Go.Proofs.Ytmcakilpdecacaa

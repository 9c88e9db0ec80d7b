/- The reference of layer 24, fifth part: an Ack that fits. -/
import Derived.Test.YtjlpggffbmcmnaaSdU
namespace Go.Proofs.Ytjlpggffbmcmnaa
open Go Go.RowKit Go.Maps Go.MapKept Go.ChangeMaps
set_option maxRecDepth 100000

set_option maxHeartbeats 4000000 in
theorem rack_near (f sz cnt b s : Nat) (sv av : Value) (A : Nat → Bool) (w : World) (hs : Reads w sv (bV cnt fun i => decide (i < s))) (ha : Reads w av (bV cnt fun i => decide (i < b) || A i)) (hf : f < 4294967296) (hc : cnt ≤ 64) (hb : b ≤ cnt)
    (hbs : b ≤ s) (hsc : s ≤ cnt) (hsz : s ≤ b + 32) (hA : ∀ i, A i = true → b < i ∧ i < s) (d q : Nat) (hds : d ≤ s - b) (hq : q < 4294967296) :
    Calls Try.prog 28 #[.agg #[.int .u32 (f : Nat), .int .i64 (sz : Nat), sv, av], .int .u32 (numU f (b + d) : Nat), .int .u32 (q : Nat)] w fun e w' =>
      ∃ a' k', e = .returned (.tuple #[.agg #[.int .u32 (f : Nat), .int .i64 (sz : Nat), sv, .slice a' cnt k'], .bool (decide (0 < d) || ackN A (b + d) s q 32)]) ∧ Row w' 4 (.slice a' cnt k') (bV cnt fun j => decide (j < b + d) || ackA A (b + d) s q 32 j) ∧ NewB w (.slice a' cnt k') ∧ Touch (fun _ => False) w w' := by
  obtain ⟨i0, hi, hz0, hz1, hz2⟩ := info_parts Try.infoBool
  obtain ⟨a1, k1, rfl, hl1, hl2⟩ := hs.form
  have hAb : A b = false := by
    cases e : A b
    · rfl
    · have := hA _ e; omega
  have hbase := fun W hT => rbase_calls f sz cnt b a1 (bV cnt fun i => decide (i < s)).length k1 av _ W (ha.still (w' := W) hT) hc hb (fun i h => by rw [decide_eq_true h]; rfl) (fun _ => by rw [decide_eq_false (Nat.lt_irrefl b), hAb]; rfl)
  obtain ⟨a2, k2, rfl, hk1, hk2⟩ := ha.form
  have hsent := fun W hT => rsent_calls f sz cnt s a2 (bV cnt fun i => decide (i < b) || A i).length k2 _ _ W (hs.still (w' := W) hT) hc hsc (fun i h => by rw [decide_eq_true h]) (fun _ => by rw [decide_eq_false (Nat.lt_irrefl s)])
  unfold maxLen at hk2 hl2
  rw [bV_len] at hk1 ha hbase hl1 hs hsent ⊢
  rw [bV_len] at hbase hsent ⊢
  have HS := Lib.hid hs
  have HA := Lib.hid ha
  have HBS := Lib.hid hbase
  have HSE := Lib.hid hsent
  have HAA := Lib.hid hA
  have HNU := Lib.hid (fun i (hi : i < 1000000) W => rnumber_calls f sz i a1 a2 cnt cnt k1 k2 hf hi W)
  obtain ⟨u, hu⟩ : ∃ u, u = numU f (b + d) := ⟨_, rfl⟩
  rw [← hu]
  have HU := Lib.hid hu
  clear ha hs hbase hsent hA hu hAb
  go_enter Try.func28, Try.ntmps28
  go_upto_region 1 with fail
  obtain ⟨x, hx⟩ : ∃ x, x = w.heap.size := ⟨_, rfl⟩
  obtain ⟨rb, hrb⟩ : ∃ x, x = w.heap.size + 1 := ⟨_, rfl⟩
  rw [← hrb, ← hx]
  generalize hw1 : World.alloc (w.alloc _) _ = w1
  have hM1 : MAt w1 x f sz (.slice a1 cnt k1) (.slice a2 cnt k2) := by
    rw [← hw1, hx]
    exact MAt.kept (S := fun _ => False) (Block.new w _ _) ((Touch.refl _ _).alloc _) id
  have hR1 : MAt w1 rb 0 0 (.slice none 0 0) (.slice none 0 0) := by
    rw [← hw1, hrb, ← alloc_size w]
    exact Block.new _ _ _
  have hT1 : Touch (fun _ => False) w w1 := by rw [← hw1]; exact ((Touch.refl _ w).alloc _).alloc _
  have hlt1 : x < w1.heap.size ∧ rb < w1.heap.size ∧ x ≠ rb ∧ w.heap.size ≤ x ∧ w.heap.size ≤ rb := ⟨Block.lt hM1, Block.lt hR1, by omega, by omega, by omega⟩
  obtain ⟨c0, c1, c2, c3⟩ := hM1.cells
  have HM1 := Lib.hid hM1
  have HR1 := Lib.hid hR1
  have HT1 := Lib.hid hT1
  have HLT := Lib.hid hlt1
  clear hw1 hx hrb hM1 hR1 hT1 hlt1
  go_upto_region 2 with fail
  go_wp2_with fail
  refine (HBS.out _ HT1.out).mono ?_
  rintro e w2 ⟨rfl, hT2⟩
  have HM2 := Lib.hid (HM1.out.kept hT2 id)
  have HR2 := Lib.hid (HR1.out.kept hT2 id)
  have HT2 := Lib.hid (HT1.out.trans hT2)
  have HLT2 : Hid (x < w2.heap.size ∧ rb < w2.heap.size ∧ x ≠ rb ∧ w.heap.size ≤ x ∧ w.heap.size ≤ rb) := Lib.hid ⟨Nat.lt_of_lt_of_le HLT.out.1 hT2.size, Nat.lt_of_lt_of_le HLT.out.2.1 hT2.size, HLT.out.2.2⟩
  clear c0 c1 c2 c3 hT2
  go_wp2_with fail
  go_loopw [9, 10] (fun tv iv wr => ∃ (i : Nat) (tt : Int), b ≤ i ∧ i ≤ s + 1 ∧ iv = .int .i64 (i : Nat) ∧ tv = .int .i64 tt ∧ RowKit.Hid (tt = if b + d < i then ((b + d : Nat) : Int) else -1) ∧ RowKit.Hid (Touch (fun _ => False) w2 wr)) (fun _ iv _ => s + 1 - (intOf iv).toNat)
  case atStart => exact ⟨b, -1, Nat.le_refl _, by omega, rfl, rfl, Lib.hid (by rw [if_neg (by omega)]), Lib.hid (Touch.refl _ _)⟩
  case round =>
    obtain ⟨i, tt, hi1, hi2, rfl, rfl, HTT, HTi⟩ := hrel
    obtain ⟨c0, c1, c2, c3⟩ := (HM2.out.kept HTi.out id).cells
    go_wp2_with fail
    refine (HSE.out _ (HT2.out.trans HTi.out)).mono ?_
    rintro e w3 ⟨rfl, hT3⟩
    have HT3 := Lib.hid (HTi.out.trans hT3)
    clear c0 c1 c2 c3 hT3
    obtain ⟨c0, c1, c2, c3⟩ := (HM2.out.kept HT3.out id).cells
    by_cases hlt : i ≤ s
    · have hltI : (i : Int) ≤ (s : Int) := by omega
      obtain ⟨nu, hnu⟩ : ∃ x, x = numU f i := ⟨_, rfl⟩
      by_cases hm : i = b + d
      · have hau : nu = u := by rw [hnu, hm]; exact HU.out.symm
        obtain rfl : tt = -1 := by have := HTT.out; rw [if_neg (by omega)] at this; exact this
        have hnew : (if b + d < i + 1 then ((b + d : Nat) : Int) else -1) = (i : Int) := by rw [if_pos (by omega), hm]
        have HN := Lib.hid hnew
        have hcall := HNU.out i (by omega)
        rw [← hnu, hau] at hcall
        have HC := Lib.hid hcall
        clear hnu hau hnew hcall hm
        go_wp2_with fail
        refine (HC.out _).mono ?_
        rintro e w4 ⟨rfl, hT4⟩
        have HT4 := Lib.hid (HT3.out.trans hT4)
        clear hT4
        go_wp2_with fail
        go_roundw
        case rel => exact ⟨i + 1, _, by omega, by omega, by go_num, rfl, Lib.hid (by rw [HN.out]), HT4⟩
        case measure => simp [intOf]; omega
      · have hau : ((nu : Int) == (u : Int)) = false := by
          rw [beq_eq_false_iff_ne]
          intro e
          have e' : numU f (b + (i - b)) = numU f (b + d) := by rw [show b + (i - b) = i by omega, ← hnu, ← HU.out]; omega
          have := numU_ne (show d < 4294967296 by omega) (by omega) e'
          omega
        have hnew : (if b + d < i + 1 then ((b + d : Nat) : Int) else -1) = tt := by
          rw [HTT.out]
          by_cases h : b + d < i
          · rw [if_pos h, if_pos (by omega)]
          · rw [if_neg h, if_neg (by omega)]
        have HN := Lib.hid hnew
        have hcall := HNU.out i (by omega)
        rw [← hnu] at hcall
        have HC := Lib.hid hcall
        clear hnu hnew hcall hm
        go_wp2_with fail
        refine (HC.out _).mono ?_
        rintro e w4 ⟨rfl, hT4⟩
        have HT4 := Lib.hid (HT3.out.trans hT4)
        clear hT4
        go_wp2_with fail
        go_roundw
        case rel => exact ⟨i + 1, _, by omega, by omega, by go_num, rfl, Lib.hid (by rw [HN.out]), HT4⟩
        case measure => simp [intOf]; omega
    · have hltI : ¬ (i : Int) ≤ (s : Int) := by omega
      obtain rfl : i = s + 1 := by omega
      obtain ⟨t, ht⟩ : ∃ t, t = b + d := ⟨_, rfl⟩
      obtain rfl : tt = (t : Int) := by have := HTT.out; rw [if_pos (by omega)] at this; rw [this, ht]
      have hts : t ≤ s := by omega
      have hbt : b ≤ t := by omega
      have HTD := Lib.hid ht
      clear ht
      have HSRC := Lib.hid (fun W (hT : Touch (fun _ => False) w3 W) => Reads.src ((HA.out.still (HT2.out.trans HT3.out)).still hT) Try.underlying42 (bV_one cnt fun i => decide (i < b) || A i))
      have g3 := ((Touch.refl (fun _ => False) w3).alloc (.cells #[] 4)).cell (p := ⟨x, 3, none⟩) c3 id
      have HM3 := Lib.hid (HM2.out.kept HT3.out id)
      have HR3 := Lib.hid (HR2.out.kept HT3.out id)
      have HLT3 : Hid (x < w3.heap.size ∧ rb < w3.heap.size ∧ x ≠ rb ∧ w.heap.size ≤ x ∧ w.heap.size ≤ rb) := Lib.hid ⟨Nat.lt_of_lt_of_le HLT2.out.1 HT3.out.size, Nat.lt_of_lt_of_le HLT2.out.2.1 HT3.out.size, HLT2.out.2.2⟩
      clear c0 c1 c2 c3
      obtain ⟨c0, c1, c2, c3⟩ := HM3.out.cells
      go_upto_region 10 with fail
      go_wp2_with (at_builtin; refine wpList_append_row _ rfl (.tmp 40) (.tmp 42) 42 42 rfl 4 i0 _ 1 Try.underlying42 hi hz0 hz1 hz2 rfl (.slice (some ⟨w3.heap.size, 0, none⟩) 0 0) [] rfl (by exact .inr ⟨_, 0, 0, #[], rfl, heap_alloc_new w3 _, Nat.le_refl _, Nat.zero_le _, Nat.le_refl _, rfl⟩) (.slice a2 cnt k2) rfl (bV cnt fun i => decide (i < b) || A i).length (bV cnt fun i => decide (i < b) || A i) (by exact HSRC.out _ ((Touch.refl _ _).alloc _)) (by rw [bV_len]; unfold maxLen; simp; omega) (by rw [bV_len]; simp; omega) ?_; intro v4 w4 hrow4 hgrow4 hown4)
      rw [List.nil_append] at hrow4
      have hT4 : Touch (fun j => w3.heap.size ≤ j) w3 w4 := Touch.grown ((Touch.refl (fun j => w3.heap.size ≤ j) w3).alloc _) hgrow4 (fun g hg => Or.inl (by simp [Value.ownBlock] at hg; omega))
      have hnew : ∀ g, v4.ownBlock = some g → w3.heap.size ≤ g := fun g hg => by
        rcases hown4 with e | e
        · rw [e] at hg; simp [Value.ownBlock] at hg; omega
        · rw [e] at hg; injection hg with hg; rw [alloc_size] at hg; omega
      obtain ⟨a3, k3, hv4, hk3, hk4⟩ := hrow4.form
      rw [bV_len] at hv4 hk3
      subst hv4
      have HROW := Lib.hid hrow4
      have HNEW := Lib.hid hnew
      have HM4 := Lib.hid (HM3.out.kept hT4 (by have := HLT3.out; omega))
      have HR4 := Lib.hid (HR3.out.kept hT4 (by have := HLT3.out; omega))
      have HT4 := Lib.hid hT4
      have HT24 : Hid (Touch (fun j => w.heap.size ≤ j) w w4) := Lib.hid (((HT2.out.trans HT3.out).mono (fun j e => e.elim)).trans (hT4.mono (fun j e => by have := (HT2.out.trans HT3.out).size; omega)))
      clear hrow4 hgrow4 hown4 hnew hT4 c0 c1 c2 c3 g3 HSRC
      unfold maxLen at hk4
      go_loopw [12, 13] (fun nv iv wr => ∃ i : Nat, b ≤ i ∧ i ≤ s ∧ iv = .int .i64 (i : Nat) ∧ nv = .bool (newF A b t q (i - b)) ∧ RowKit.Hid (Row wr 4 (.slice a3 cnt k3) (bV cnt (RF A b t q i))) ∧ RowKit.Hid (Touch (fun j => w3.heap.size ≤ j) w4 wr)) (fun _ iv _ => s - (intOf iv).toNat)
      case atStart =>
        refine ⟨b, Nat.le_refl _, hbs, rfl, by rw [Nat.sub_self]; rfl, Lib.hid ?_, Lib.hid (Touch.refl _ _)⟩
        rw [bV_congr (g' := fun j => decide (j < b) || A j) (fun j _ => by unfold RF; by_cases e : j < b <;> simp [e])]
        exact HROW.out
      case round =>
        obtain ⟨i, hi1, hi2, rfl, rfl, HRi, HTi⟩ := hrel
        have hMi := HM4.out.kept HTi.out (by have := HLT3.out; omega)
        obtain ⟨c0, c1, c2, c3⟩ := hMi.cells
        have HMi := Lib.hid hMi
        clear hMi
        generalize hN0 : newF A b t q (i - b) = N0 at *
        have HN0 := Lib.hid hN0
        clear hN0
        go_wp2_with fail
        refine (HSE.out _ (touch_new (HT24.out.trans (HTi.out.mono (fun j e => by have := (HT2.out.trans HT3.out).size; omega))))).mono ?_
        rintro e w5 ⟨rfl, hT5⟩
        have HR5 := Lib.hid (HRi.out.kept hT5 (fun _ _ => id))
        have HT5 := Lib.hid (HTi.out.trans (hT5.mono (fun j e => e.elim)))
        have HM5 := Lib.hid (HMi.out.kept hT5 id)
        clear c0 c1 c2 c3 hT5 HMi HRi
        by_cases hlt : i < s
        · have hltI : (i : Int) < (s : Int) := by omega
          have hic : i < cnt := by omega
          obtain ⟨gb, off, k, hv, hcell, hfree⟩ := row_addr HR5.out (bV_len _ _) (by omega)
          injection hv with e1 _ e3
          subst e1
          have hx := hcell i _ (bV_get hic)
          have fx := hfree i
          have hgb := HNEW.out gb rfl
          have hRi : RF A b t q i i = A i := by unfold RF; rw [decide_eq_false (show ¬ i < b by omega), decide_eq_false (Nat.lt_irrefl i), Bool.false_and, Bool.or_false, Bool.false_or]
          rw [hRi] at hx
          clear hRi
          have HNS := Lib.hid (newF_succ A b t q (i - b))
          rw [HN0.out, show b + (i - b) = i by omega, show i - b + 1 = i + 1 - b by omega] at HNS
          clear hcell hfree e3
          rcases (show i < t ∨ i = t ∨ t < i by omega) with h1 | h1 | h1
          · have HSF : Hid (setF t q i = true) := Lib.hid (by unfold setF; rw [if_pos h1])
            have hI1 : (i : Int) < (t : Int) := by omega
            have hk1 : ¬ (0 : Int) ≤ (i : Int) - (t : Int) - 1 := by omega
            have hk1' : decide ((0 : Int) ≤ (i : Int) - (t : Int) - 1) = false := decide_eq_false hk1
            by_cases hAi : A i = true
            · rw [hAi] at hx
              have HAI := Lib.hid hAi
              clear hAi
              have HK : Hid (bV cnt (RF A b t q i) = bV cnt (RF A b t q (i + 1))) := Lib.hid (bV_congr fun j _ => RF_keep A b t q i (.inr HAI.out) j)
              go_wp2_with fail
              go_roundw
              case rel => exact ⟨i + 1, by omega, by omega, by go_num, by rw [HNS.out, HSF.out, HAI.out]; simp, Lib.hid (by rw [← HK.out]; exact HR5.out), HT5⟩
              case measure => simp [intOf]; omega
            · have hAi' : A i = false := by simpa using hAi
              rw [hAi'] at hx
              have HAI := Lib.hid hAi'
              clear hAi hAi'
              go_wp2_with fail
              go_roundw
              case rel =>
                refine ⟨i + 1, by omega, by omega, by go_num, by rw [HNS.out, HSF.out, HAI.out]; simp, Lib.hid ?_, Lib.hid (HT5.out.setCell (p := ⟨gb, off + i, none⟩) (Or.inl hgb) _)⟩
                have h := Row.set HR5.out hic (.bool true)
                rw [bV_set, bV_congr (g' := RF A b t q (i + 1)) (fun j _ => RF_store A b t q i HSF.out j)] at h
                exact h
              case measure => simp [intOf]; omega
          · have HSF : Hid (setF t q i = false) := Lib.hid (by unfold setF; rw [if_neg (by omega), if_pos h1])
            have hI1 : ¬ (i : Int) < (t : Int) := by omega
            have hkm : (i : Int) - (t : Int) - 1 = -1 := by omega
            have HK : Hid (bV cnt (RF A b t q i) = bV cnt (RF A b t q (i + 1))) := Lib.hid (bV_congr fun j _ => RF_keep A b t q i (.inl HSF.out) j)
            go_wp2_with fail
            go_roundw
            case rel => exact ⟨i + 1, by omega, by omega, by go_num, by rw [HNS.out, HSF.out]; simp, Lib.hid (by rw [← HK.out]; exact HR5.out), HT5⟩
            case measure => simp [intOf]; omega
          · obtain ⟨kk, hkk⟩ : ∃ kk : Nat, kk = i - t - 1 := ⟨_, rfl⟩
            have HSF0 : Hid (setF t q i = bitB q kk) := Lib.hid (by unfold setF; rw [if_neg (by omega), if_neg (by omega), hkk])
            have hI1 : ¬ (i : Int) < (t : Int) := by omega
            have hkI : (i : Int) - (t : Int) - 1 = (kk : Int) := by omega
            have hk32 : kk < 32 := by omega
            have hk32I : (kk : Int) < 32 := by omega
            have hkw : IntKind.i64.wrap ((i : Int) - (t : Int)) = ((kk + 1 : Nat) : Int) := by rw [IntWalk.i64_in _ (by omega)]; omega
            clear hkk
            go_upto_region 19 with fail
            go_wp2_with fail
            go_loopw [16, 17] (fun vv jv wr => wr = w5 ∧ ∃ j : Nat, j ≤ kk ∧ jv = .int .i64 (j : Nat) ∧ vv = .int .u32 ((q / 2 ^ j : Nat) : Int)) (fun _ jv _ => kk - (intOf jv).toNat)
            case atStart => exact ⟨rfl, 0, Nat.zero_le _, rfl, by rw [Nat.pow_zero, Nat.div_one]⟩
            case round =>
              obtain ⟨rfl, j, hj, rfl, rfl⟩ := hrel
              by_cases hjl : j < kk
              · have hjI : (j : Int) < (kk : Int) := by omega
                obtain ⟨y, hy⟩ : ∃ y, y = q / 2 ^ j := ⟨_, rfl⟩
                have hy2 : q / 2 ^ (j + 1) = y / 2 := by rw [hy, Nat.pow_succ, Nat.div_div_eq_div_mul]
                have HY := Lib.hid hy2
                have hyq : y < 4294967296 := by rw [hy]; exact Nat.lt_of_le_of_lt (Nat.div_le_self _ _) hq
                rw [← hy]
                clear hy hy2
                go_wp2_with fail
                go_roundw
                case rel => exact ⟨trivial, j + 1, by omega, by go_num, by rw [HY.out]; go_num⟩
                case measure => simp [intOf]; omega
              · obtain rfl : j = kk := by omega
                have hjI : ¬ (j : Int) < (j : Int) := by omega
                obtain ⟨y, hy⟩ : ∃ y, y = q / 2 ^ j := ⟨_, rfl⟩
                have hbb : bitB q j = decide (y % 2 = 1) := by unfold bitB; rw [hy]
                rw [← hy]
                clear hy
                by_cases hm : y % 2 = 1
                · have hmI : (y : Int) % 2 = 1 := by omega
                  have HSF : Hid (setF t q i = true) := Lib.hid (by rw [HSF0.out, hbb, decide_eq_true hm])
                  clear hbb
                  by_cases hAi : A i = true
                  · rw [hAi] at hx
                    have HAI := Lib.hid hAi
                    clear hAi
                    have HK : Hid (bV cnt (RF A b t q i) = bV cnt (RF A b t q (i + 1))) := Lib.hid (bV_congr fun j _ => RF_keep A b t q i (.inr HAI.out) j)
                    go_wp2_with fail
                    go_roundw
                    case rel => exact ⟨i + 1, by omega, by omega, by go_num, by rw [HNS.out, HSF.out, HAI.out]; simp, Lib.hid (by rw [← HK.out]; exact HR5.out), HT5⟩
                    case measure => simp [intOf]; omega
                  · have hAi' : A i = false := by simpa using hAi
                    rw [hAi'] at hx
                    have HAI := Lib.hid hAi'
                    clear hAi hAi'
                    go_wp2_with fail
                    go_roundw
                    case rel =>
                      refine ⟨i + 1, by omega, by omega, by go_num, by rw [HNS.out, HSF.out, HAI.out]; simp, Lib.hid ?_, Lib.hid (HT5.out.setCell (p := ⟨gb, off + i, none⟩) (Or.inl hgb) _)⟩
                      have h := Row.set HR5.out hic (.bool true)
                      rw [bV_set, bV_congr (g' := RF A b t q (i + 1)) (fun j _ => RF_store A b t q i HSF.out j)] at h
                      exact h
                    case measure => simp [intOf]; omega
                · have hmI : (y : Int) % 2 = 0 := by omega
                  have HSF : Hid (setF t q i = false) := Lib.hid (by rw [HSF0.out, hbb, decide_eq_false hm])
                  clear hbb
                  have HK : Hid (bV cnt (RF A b t q i) = bV cnt (RF A b t q (i + 1))) := Lib.hid (bV_congr fun j _ => RF_keep A b t q i (.inl HSF.out) j)
                  go_wp2_with fail
                  go_roundw
                  case rel => exact ⟨i + 1, by omega, by omega, by go_num, by rw [HNS.out, HSF.out]; simp, Lib.hid (by rw [← HK.out]; exact HR5.out), HT5⟩
                  case measure => simp [intOf]; omega
        · have his : i = s := by omega
          have hltI : ¬ (i : Int) < (s : Int) := by omega
          have HNA : Hid (N0 = (decide (0 < d) || ackN A (b + d) s q 32)) := Lib.hid (by rw [← HN0.out, HTD.out, his]; exact newF_all A b s d q hds hsz hbs HAA.out)
          have HRE := Lib.hid (fun j => RF_end A b s d q hbs hds hsz j)
          rw [← HTD.out] at HRE
          have HR5' := HR5.out
          rw [his] at HR5'
          by_cases htc : t < cnt
          · have htI : (t : Int) < (cnt : Int) := by omega
            obtain ⟨gb, off, k, hv, hcell, hfree⟩ := row_addr HR5' (bV_len _ _) (by omega)
            injection hv with e1 _ e3
            subst e1
            have hx := hcell t _ (bV_get htc)
            have fx := hfree t
            have hgb := HNEW.out gb rfl
            have hRowz := Row.set HR5' htc (.bool false)
            rw [bV_set, bV_congr (g' := fun j => decide (j < b + d) || ackA A (b + d) s q 32 j) (fun j _ => by rw [← HTD.out]; exact HRE.out j)] at hRowz
            have hTs : Touch (fun j => w3.heap.size ≤ j) w5 (w5.setCell ⟨gb, off + t, none⟩ (.bool false)) := (Touch.refl _ w5).setCell (p := ⟨gb, off + t, none⟩) (Or.inl hgb) _
            have hTz := HT5.out.trans hTs
            have hMz := HM5.out.kept hTs (by have := HLT3.out; omega)
            have hRz := HR4.out.kept hTz (by have := HLT3.out; omega)
            clear hcell hfree e3 HR5'
            go_upto_region 29 with fail
            generalize w5.setCell ⟨gb, off + t, none⟩ (.bool false) = wz at *
            have hne := HLT3.out.2.2.1
            have hne' : rb ≠ x := fun e => hne e.symm
            obtain ⟨c0, c1, c2, c3⟩ := hMz.cells
            obtain ⟨d0, d1, d2, d3⟩ := hRz.cells
            have f3 := Block.free hMz 3
            have q0 := Block.free hRz 0
            have q1 := Block.free hRz 1
            have q2 := Block.free hRz 2
            have q3 := Block.free hRz 3
            have hT6 : Touch (fun j => j = x) wz (wz.setCell ⟨x, 3, none⟩ (.slice (some ⟨gb, off, none⟩) cnt k3)) := (Touch.refl (fun j => j = x) wz).setCell (p := ⟨x, 3, none⟩) (Or.inl rfl) _
            have hR6 := hRz.kept hT6 hne'
            have HRf := Lib.hid (m_set4 (f' := f) (sz' := sz) (sv' := .slice a1 cnt k1) (av' := .slice (some ⟨gb, off, none⟩) cnt k3) hR6)
            have HT7 := Lib.hid (m_touch4 (w := wz.setCell ⟨x, 3, none⟩ (.slice (some ⟨gb, off, none⟩) cnt k3)) rb (.int .u32 (f : Nat)) (.int .i64 (sz : Nat)) (.slice a1 cnt k1) (.slice (some ⟨gb, off, none⟩) cnt k3))
            have HT6 := Lib.hid hT6
            have HROWz := Lib.hid hRowz
            have HTz := Lib.hid hTz
            clear hMz hRz hT6 hR6 hRowz hTz
            go_wp2_with fail
            refine bodyPost_ret (results_cell_slot rfl _ _ rb _ _ _ _ rfl HRf.out Try.underlying44 rfl Try.sizeRw) rfl ⟨(some ⟨gb, off, none⟩), k3, by rw [HNA.out]; rfl, ?_, fun g hg => by have := HNEW.out g hg; have := (HT2.out.trans HT3.out).size; omega, touch_new ?_⟩
            · exact (HROWz.out.kept HT6.out (fun g hg e => by have := HNEW.out g hg; have := HLT3.out; omega)).kept HT7.out (fun g hg e => by have := HNEW.out g hg; have := HLT3.out; omega)
            · refine (((HT24.out.trans (HTz.out.mono (fun j e => ?_))).trans (HT6.out.mono (fun j e => ?_))).trans (HT7.out.mono (fun j e => ?_)))
              · have := (HT2.out.trans HT3.out).size; omega
              · have := HLT3.out; omega
              · have := HLT3.out; omega
          · have htI : ¬ (t : Int) < (cnt : Int) := by omega
            have hRowz := HR5'
            rw [bV_congr (g' := fun j => decide (j < b + d) || ackA A (b + d) s q 32 j) (fun j hj => by rw [← HTD.out, ← HRE.out j, if_neg (by omega)])] at hRowz
            have hTz := HT5.out
            have hMz := HM5.out
            have hRz := HR4.out.kept hTz (by have := HLT3.out; omega)
            clear HR5'
            generalize w5 = wz at *
            have hne := HLT3.out.2.2.1
            have hne' : rb ≠ x := fun e => hne e.symm
            obtain ⟨c0, c1, c2, c3⟩ := hMz.cells
            obtain ⟨d0, d1, d2, d3⟩ := hRz.cells
            have f3 := Block.free hMz 3
            have q0 := Block.free hRz 0
            have q1 := Block.free hRz 1
            have q2 := Block.free hRz 2
            have q3 := Block.free hRz 3
            have hT6 : Touch (fun j => j = x) wz (wz.setCell ⟨x, 3, none⟩ (.slice a3 cnt k3)) := (Touch.refl (fun j => j = x) wz).setCell (p := ⟨x, 3, none⟩) (Or.inl rfl) _
            have hR6 := hRz.kept hT6 hne'
            have HRf := Lib.hid (m_set4 (f' := f) (sz' := sz) (sv' := .slice a1 cnt k1) (av' := .slice a3 cnt k3) hR6)
            have HT7 := Lib.hid (m_touch4 (w := wz.setCell ⟨x, 3, none⟩ (.slice a3 cnt k3)) rb (.int .u32 (f : Nat)) (.int .i64 (sz : Nat)) (.slice a1 cnt k1) (.slice a3 cnt k3))
            have HT6 := Lib.hid hT6
            have HROWz := Lib.hid hRowz
            have HTz := Lib.hid hTz
            clear hMz hRz hT6 hR6 hRowz hTz
            go_wp2_with fail
            refine bodyPost_ret (results_cell_slot rfl _ _ rb _ _ _ _ rfl HRf.out Try.underlying44 rfl Try.sizeRw) rfl ⟨a3, k3, by rw [HNA.out]; rfl, ?_, fun g hg => by have := HNEW.out g hg; have := (HT2.out.trans HT3.out).size; omega, touch_new ?_⟩
            · exact (HROWz.out.kept HT6.out (fun g hg e => by have := HNEW.out g hg; have := HLT3.out; omega)).kept HT7.out (fun g hg e => by have := HNEW.out g hg; have := HLT3.out; omega)
            · refine (((HT24.out.trans (HTz.out.mono (fun j e => ?_))).trans (HT6.out.mono (fun j e => ?_))).trans (HT7.out.mono (fun j e => ?_)))
              · have := (HT2.out.trans HT3.out).size; omega
              · have := HLT3.out; omega
              · have := HLT3.out; omega

end Go.Proofs.Ytjlpggffbmcmnaa

/- The contract of package match's longest over the translated program. -/
import Derived.Test.YtbjkoepldccaaaaMatP
import Derived.WalkMore
import Derived.Deep.LoopGhost
namespace Go.Proofs.Ytbjkoepldccaaaa
open Go Go.RowKit Go.Maps
set_option maxRecDepth 100000

theorem longest_few (b a : Nat) (n : Int) (T : ByteArray) (w : World) (hc : w.cell? ⟨b, 0, none⟩ = some (.string T)) (ha : T.size < a + 3) (hT : T.size ≤ 1000000) (ha2 : a ≤ 1000000) :
    Calls Try.prog 13 #[.pointer (some ⟨b, 0, none⟩), .int .i64 (a : Nat), .int .i64 n] w fun e w' => e = .returned (.tuple #[.int .i64 0, .int .i64 0]) ∧ w = w' := by
  have h1 : min ((T.size : Int) - (a : Int)) 258 = (T.size : Int) - (a : Int) := by omega
  have h2 : (T.size : Int) - (a : Int) < 3 := by omega
  go_enter Try.func13, Try.ntmps13
  go_wp2_with fail
  go_step3
  go_wp2_with fail
  try rw [Exit.noGoto_ret]
  go_ret2
  exact ⟨rfl, rfl⟩

theorem byte_at (T : ByteArray) (k : Nat) (h : k < T.size) : T[k] = T.data.toList.getD k 0 := by
  have h1 : k < T.data.toList.length := by rw [data_length]; exact h
  rw [List.getD_eq_getElem?_getD, List.getElem?_eq_getElem h1, Option.getD_some]
  rfl

theorem sum_wrap (p i : Nat) (h : p + i ≤ 100000000) : IntKind.i64.wrap ((p : Int) + (i : Int)) = ((p + i : Nat) : Int) := by
  rw [IntKind.wrap_i64]
  omega

theorem look_run {w : World} {mb n : Nat} {D : DataW Unit} (hown : w.ownsMap Try.prog 49 (plainElem Try.prog 3) mb n D) {X : List UInt8} {ps : List Nat} {h : Nat} (hh : h < 65536)
    (hD : has D (.int .u32 (h : Nat)) = !(chainP X ps h).isEmpty ∧ D.atKey (.int .u32 (h : Nat)) (.lit (.int .i64 0)) = .lit (.int .i64 ((chainP X ps h).headD 0 : Nat))) (W : World) (hW : Touch (fun _ => False) w W) :
    (Instr.lookup 41 (.map (some mb)) (.int .u32 (h : Nat)) true).run Try.prog W = .ok (.tuple #[.int .i64 ((chainP X ps h).headD 0 : Nat), .bool (!(chainP X ps h).isEmpty)]) W := by
  obtain ⟨v, qs, hr, hv⟩ := (map_kept hown hW id).look_ok Try.keyU Try.underlying41 (Try.zeroI W) (zd := .lit (.int .i64 0)) (zp := []) (plainElem_int Try.underlying3 (by decide)) (keyOf_int_mk (P := Try.prog) Try.underlying49 (wf_u32i _ hh))
  rw [hr, hD.1]
  obtain ⟨c, rfl, hc, _⟩ := plainElem_int_inv Try.underlying3 hv
  have h2 := hD.2.symm.trans (congrArg Prod.fst hc)
  injection h2 with h2
  injection h2 with _ h2
  rw [← h2]


set_option maxHeartbeats 4000000 in
theorem longest_A (b a fr mb pb tries M : Nat) (T : ByteArray) (ps : List Nat) (w : World) (h : FAt w b T fr mb pb ps) (ha : a + 3 ≤ T.size) (hn : ∀ p ∈ ps, p < a) (hT : T.size ≤ 1000000) (ht : tries ≤ 1000000) (hM : M = min (T.size - a) 258) (hA : 258 < T.size - a) :
    Calls Try.prog 13 #[.pointer (some ⟨b, 0, none⟩), .int .i64 (a : Nat), .int .i64 (tries : Nat)] w fun e w' => (∃ s d : Nat, e = .returned (.tuple #[.int .i64 (s : Nat), .int .i64 (d : Nat)]) ∧ FoundE T.data.toList a M tries (chainP T.data.toList ps (hashN T.data.toList a)) s d) ∧ Touch (fun _ => False) w w' := by
  have c0 := h.c0
  have c2 := h.c2
  have c3 := h.c3
  obtain ⟨D, hown, hD⟩ := h.mp
  obtain ⟨xs, x1, x2, x3⟩ := h.row
  have hlt := hashN_lt T.data.toList a
  have HRUN := Lib.hid (look_run hown hlt (hD _ hlt))
  have HC := Lib.hid (fun n : Nat => hash_calls b T a (w.drewN n) (((Touch.refl (fun _ => False) w).drewN n).cell c0 id) ha hT)
  have hang := x3.hang (hashN T.data.toList a)
  have hfall : (chainP T.data.toList ps (hashN T.data.toList a)).Pairwise (· > ·) := List.Pairwise.sublist List.filter_sublist h.falls
  have hca : ∀ p ∈ chainP T.data.toList ps (hashN T.data.toList a), p < a := fun p hp => hn p (List.mem_filter.1 hp).1
  obtain rfl : M = 258 := by omega
  have hsub : (258 : Int) < (T.size : Int) - (a : Int) := by omega
  clear hA
  have hM3 : 3 ≤ 258 := by omega
  have hMT : a + 258 ≤ T.size := by omega
  have hXT := data_length T
  have HXT := Lib.hid hXT
  have HX2 := Lib.hid x2
  have HX1 := Lib.hid x1
  generalize chainP T.data.toList ps (hashN T.data.toList a) = C at HRUN hang hfall hca ⊢
  generalize hashN T.data.toList a = hv at HRUN HC hlt
  clear h hown hD x1 x2 x3 hM hXT
  cases C with
  | nil =>
    have hrun : ∀ n, (Instr.lookup 41 (.map (some mb)) (.int .u32 (hv : Nat)) true).run Try.prog (w.drewN n) = .ok (.tuple #[.int .i64 0, .bool false]) (w.drewN n) := fun n => HRUN.out _ ((Touch.refl _ _).drewN n)
    clear HRUN hang hfall hca
    go_enter Try.func13, Try.ntmps13
    go_wp2_with fail
    go_step3
    go_wp2_with fail
    go_quiet ((go_at_call 18; exact Calls.quiet_of (HC.out _)))
    go_wp2_with fail
    go_step3
    go_wp2_with fail
    go_loopg [2, 9, 11, 12, 13] 0 (fun g t pl s d _ wr => (t = .int .i64 (tries : Nat) ∧ pl = .int .i64 0 ∧ s = .int .i64 0 ∧ d = .int .i64 0) ∧ Touch (fun _ => False) w wr)
    case atStart => exact ⟨⟨rfl, rfl, rfl, rfl⟩, (Touch.refl _ _).drewN _⟩
    case round =>
      obtain ⟨⟨rfl, rfl, rfl, rfl⟩, hT5⟩ := hrel
      go_wp2_with fail
      try rw [Exit.noGoto_ret]
      go_ret2
      exact ⟨⟨0, 0, rfl, ⟨0, 0, by rw [show candP a tries [] = [] by simp [candP]]; exact Best.nil _ _ _, .inl ⟨by decide, rfl, rfl⟩⟩⟩, hT5⟩
  | cons p0 C0 =>
    have hrun : ∀ n, (Instr.lookup 41 (.map (some mb)) (.int .u32 (hv : Nat)) true).run Try.prog (w.drewN n) = .ok (.tuple #[.int .i64 (p0 : Nat), .bool true]) (w.drewN n) := fun n => HRUN.out _ ((Touch.refl _ _).drewN n)
    have hp0 := hca p0 List.mem_cons_self
    obtain ⟨C, hC⟩ : ∃ C, C = p0 :: C0 := ⟨_, rfl⟩
    have hang' : Hang xs C := by rw [hC]; exact hang
    have hfall' : C.Pairwise (· > ·) := by rw [hC]; exact hfall
    have hca' : ∀ p ∈ C, p < a := by rw [hC]; exact hca
    have hhd : headI C = (p0 : Nat) := by rw [hC]; rfl
    rw [← hC]
    have HFALL := Lib.hid hfall'
    have HCA := Lib.hid hca'
    have HANG := Lib.hid hang'
    have HHD := Lib.hid hhd
    clear HRUN hang hfall hca hC hang' hfall' hca' hhd
    go_enter Try.func13, Try.ntmps13
    go_wp2_with fail
    go_step3
    go_wp2_with fail
    go_quiet ((go_at_call 18; exact Calls.quiet_of (HC.out _)))
    go_wp2_with fail
    go_step3
    go_wp2_with fail
    clear hrun
    go_loopg [2, 9, 11, 12, 13] C.length (fun g t pl s d _ wr => ∃ (done rest : List Nat) (S Dd : Nat), rest.length = g ∧ RowKit.Hid (C = done ++ rest) ∧ pl = .int .i64 (headI rest) ∧ done.length ≤ tries ∧ t = .int .i64 ((tries - done.length : Nat)) ∧ s = .int .i64 (S : Nat) ∧ d = .int .i64 (Dd : Nat) ∧
      RowKit.Hid (Best T.data.toList a 258 done S Dd) ∧ RowKit.Hid (∀ q ∈ done, a - q ≤ 32768) ∧ RowKit.Hid (∀ q ∈ rest, q + done.length + 1 ≤ a) ∧ RowKit.Hid (Hang xs rest) ∧ S ≤ 258 ∧ Touch (fun _ => False) w wr)
    case atStart => exact ⟨[], C, 0, 0, rfl, Lib.hid rfl, by rw [HHD.out], Nat.zero_le _, rfl, rfl, rfl, Lib.hid (Best.nil _ _ _), Lib.hid (fun _ h => by cases h), Lib.hid (fun q hq => by have := HCA.out q hq; simp; omega), HANG, Nat.zero_le _, (Touch.refl _ _).drewN _⟩
    case round =>
      obtain ⟨done, rest, S, Dd, hg, HCC, rfl, hdt, rfl, rfl, rfl, HB, HDO, HRE, HHA, hSM, hTw⟩ := hrel
      clear HHD HANG
      cases rest with
      | nil =>
        have hfin := found_E (tries := tries) HB.out (by rw [← HCC.out]; exact HFALL.out) HDO.out hdt (.inl rfl)
        rw [← HCC.out] at hfin
        clear HB HDO HRE HHA HCC HFALL HCA
        simp only [headI]
        by_cases hS3 : S < 3
        · rw [if_pos hS3] at hfin
          have HFIN := Lib.hid hfin
          have hS3' : (S : Int) < 3 := by omega
          clear hfin
          go_wp2_with fail
          try rw [Exit.noGoto_ret]
          go_ret2
          exact ⟨⟨0, 0, rfl, HFIN.out⟩, hTw⟩
        · rw [if_neg hS3] at hfin
          have HFIN := Lib.hid hfin
          have hS3' : ¬ (S : Int) < 3 := by omega
          clear hfin
          go_wp2_with fail
          try rw [Exit.noGoto_ret]
          go_ret2
          exact ⟨⟨S, Dd, rfl, HFIN.out⟩, hTw⟩
      | cons p R =>
        have hpa : p + done.length + 1 ≤ a := HRE.out p List.mem_cons_self
        have hpT : (p : Int) < (T.size : Int) := by omega
        have hp0 : (0 : Int) ≤ (p : Int) := by omega
        simp only [headI]
        by_cases hfar : 32768 < a - p
        · have hfin := found_E (tries := tries) HB.out (by rw [← HCC.out]; exact HFALL.out) HDO.out hdt (.inr (.inl ⟨p, R, rfl, hfar⟩))
          rw [← HCC.out] at hfin
          have hfar' : ¬ ((a : Int) - (p : Int) ≤ 32768) := by omega
          clear HB HDO HRE HHA HCC HFALL HCA
          by_cases hS3 : S < 3
          · rw [if_pos hS3] at hfin
            have HFIN := Lib.hid hfin
            have hS3' : (S : Int) < 3 := by omega
            clear hfin
            go_wp2_with fail
            try rw [Exit.noGoto_ret]
            go_ret2
            exact ⟨⟨0, 0, rfl, HFIN.out⟩, hTw⟩
          · rw [if_neg hS3] at hfin
            have HFIN := Lib.hid hfin
            have hS3' : ¬ (S : Int) < 3 := by omega
            clear hfin
            go_wp2_with fail
            try rw [Exit.noGoto_ret]
            go_ret2
            exact ⟨⟨S, Dd, rfl, HFIN.out⟩, hTw⟩
        · have hfar' : (a : Int) - (p : Int) ≤ 32768 := by omega
          by_cases htr : tries = done.length
          · have hfin := found_E (tries := tries) HB.out (by rw [← HCC.out]; exact HFALL.out) HDO.out hdt (.inr (.inr (.inl htr)))
            rw [← HCC.out] at hfin
            have ht0 : tries - done.length = 0 := by omega
            rw [ht0]
            clear HB HDO HRE HHA HCC HFALL HCA htr ht0
            by_cases hS3 : S < 3
            · rw [if_pos hS3] at hfin
              have HFIN := Lib.hid hfin
              have hS3' : (S : Int) < 3 := by omega
              clear hfin
              go_wp2_with fail
              try rw [Exit.noGoto_ret]
              go_ret2
              exact ⟨⟨0, 0, rfl, HFIN.out⟩, hTw⟩
            · rw [if_neg hS3] at hfin
              have HFIN := Lib.hid hfin
              have hS3' : ¬ (S : Int) < 3 := by omega
              clear hfin
              go_wp2_with fail
              try rw [Exit.noGoto_ret]
              go_ret2
              exact ⟨⟨S, Dd, rfl, HFIN.out⟩, hTw⟩
          · obtain ⟨tt, htt⟩ : ∃ tt, tries - done.length = tt := ⟨_, rfl⟩
            rw [htt]
            have htt1 : (0 : Int) < (tt : Int) := by omega
            have htt2 : (tt : Int) ≤ 1000000 := by omega
            have hpa2 : p < a := by omega
            by_cases hSe : S = 258
            · have hfin := found_E (tries := tries) HB.out (by rw [← HCC.out]; exact HFALL.out) HDO.out hdt (.inr (.inr (.inr hSe)))
              rw [← HCC.out] at hfin
              clear HB HDO HRE HHA HCC HFALL HCA
              have HFIN := Lib.hid hfin
              have hS3 : ¬ S < 3 := by omega
              have hS3' : ¬ (S : Int) < 3 := by omega
              have hSn : ¬ (S : Int) < 258 := by omega
              clear hfin hSe
              go_wp2_with fail
              try rw [Exit.noGoto_ret]
              go_ret2
              exact ⟨⟨S, Dd, rfl, by have := HFIN.out; rw [if_neg hS3] at this; exact this⟩, hTw⟩
            · have hSlt : (S : Int) < 258 := by omega
              have hSb : S < 258 := by omega
              have HDT := Lib.hid (show done.length + 1 ≤ tries by omega)
              have HTT := Lib.hid htt
              have HPA := Lib.hid hpa
              have hprev0 := HX2.out.cells.2 p (.int .i64 (headI R)) (by simp [zsV, HHA.out.1])
              rw [Nat.zero_add] at hprev0
              have HPREV := Lib.hid hprev0
              have hDO2 : ∀ q ∈ done ++ [p], a - q ≤ 32768 := fun q hq => by
                rcases List.mem_append.1 hq with hq | hq
                · exact HDO.out q hq
                · obtain rfl : q = p := by simpa using hq
                  omega
              have hRE2 : ∀ q ∈ R, q + (done ++ [p]).length + 1 ≤ a := fun q hq => by
                have hf := HFALL.out
                rw [HCC.out] at hf
                have := (List.pairwise_cons.1 (List.pairwise_append.1 hf).2.1).1 q hq
                rw [List.length_append, List.length_singleton]
                omega
              have hlast : ∀ q ∈ done, p < q := fun q hq => by
                have hf := HFALL.out
                rw [HCC.out] at hf
                exact (List.pairwise_append.1 hf).2.2 q hq p List.mem_cons_self
              have HDO2 := Lib.hid hDO2
              have HRE2 := Lib.hid hRE2
              have HLAST := Lib.hid hlast
              have HCC2 : RowKit.Hid (C = (done ++ [p]) ++ R) := Lib.hid (by rw [HCC.out]; simp)
              have HLT1 := Lib.hid (show tries - (done ++ [p]).length = tt - 1 by rw [List.length_append, List.length_singleton]; omega)
              have HHA2 := Lib.hid HHA.out.2
              have HRL := Lib.hid (show R.length + 1 = gk by rw [← hg, List.length_cons])
              clear hprev0 hDO2 hRE2 hlast hdt htt hpa htr HHA HRE HDO HCC hg
              go_wp2_with fail
              go_loopg [13] (S + 1) (fun g k wr2 => k = .int .i64 ((g : Int) - 1) ∧ g ≤ S + 1 ∧ RowKit.Hid (∀ i, g ≤ i → i < S + 1 → T.data.toList.getD (p + i) 0 = T.data.toList.getD (a + i) 0) ∧ Touch (fun _ => False) w wr2)
              case atStart => exact ⟨by go_num, Nat.le_refl _, Lib.hid (fun i h1 h2 => by omega), hTw⟩
              case round =>
                obtain ⟨rfl, hgS, HEQ, hT2⟩ := hrel
                clear hTw
                cases gk with
                | zero =>
                  have hm1 : ((0 : Nat) : Int) - 1 = -1 := by omega
                  rw [hm1]
                  clear hm1
                  go_wp2_with fail
                  go_loopg [11] (258 - (S + 1)) (fun g s wr3 => ∃ m, m + g = 258 ∧ S + 1 ≤ m ∧ s = .int .i64 (m : Nat) ∧ RowKit.Hid (∀ i, i < m → T.data.toList.getD (p + i) 0 = T.data.toList.getD (a + i) 0) ∧ Touch (fun _ => False) w wr3)
                  case atStart => exact ⟨S + 1, by omega, Nat.le_refl _, by go_num, Lib.hid (fun i hi => HEQ.out i (Nat.zero_le _) hi), hT2⟩
                  case round =>
                    obtain ⟨m, hmg, hmS, rfl, HE3, hT3⟩ := hrel
                    clear HEQ hT2
                    have hprev := hT3.cell HPREV.out id
                    have d3 := hT3.cell c3 id
                    have d0 := hT3.cell c0 id
                    cases gk with
                    | zero =>
                      have hmM : m = 258 := by omega
                      have hmn : decide ((m : Int) < 258) = false := decide_eq_false (by omega)
                      have hmn2 : decide (m < 258) = false := decide_eq_false (by omega)
                      have HML := Lib.hid (mlen_eq T.data.toList p a 258 m (by omega) HE3.out (.inl hmM))
                      clear hmM
                      go_wp2_with fail
                      go_quiet (fail)
                      go_wp2_with fail
                      go_roundg R.length
                      case measure => have := HRL.out; omega
                      case rel => exact ⟨done ++ [p], R, m, a - p, rfl, HCC2, rfl, by rw [List.length_append]; exact HDT.out, by rw [HLT1.out]; go_num, rfl, congrArg (Value.int .i64) (by omega), Lib.hid (by have := HB.out.more p (by rw [HML.out]; omega); rw [HML.out] at this; exact this), HDO2, HRE2, HHA2, by omega, hT3.drewN _⟩
                    | succ g3 =>
                      have hmM : m < 258 := by omega
                      have hmn : decide ((m : Int) < 258) = true := decide_eq_true (by omega)
                      have hmn2 : decide (m < 258) = true := decide_eq_true (by omega)
                      obtain ⟨x, hx⟩ : ∃ x, x = T.data.toList.getD (p + m) 0 := ⟨_, rfl⟩
                      obtain ⟨y, hy⟩ : ∃ y, y = T.data.toList.getD (a + m) 0 := ⟨_, rfl⟩
                      have hbx0 : T[p + m]'(by omega) = x := by rw [hx]; exact byte_at T (p + m) (by omega)
                      have hby0 : T[a + m]'(by omega) = y := by rw [hy]; exact byte_at T (a + m) (by omega)
                      obtain ⟨pi, hpie⟩ : ∃ pi, pi = p + m := ⟨_, rfl⟩
                      obtain ⟨ai, haie⟩ : ∃ ai, ai = a + m := ⟨_, rfl⟩
                      have hw1 : IntKind.i64.wrap ((p : Int) + (m : Int)) = (pi : Int) := by rw [hpie]; exact sum_wrap p m (by omega)
                      have hw2 : IntKind.i64.wrap ((a : Int) + (m : Int)) = (ai : Int) := by rw [haie]; exact sum_wrap a m (by omega)
                      have hpiT : pi < T.size := by omega
                      have haiT : ai < T.size := by omega
                      have hbx : T[pi] = x := by subst hpie; exact hbx0
                      have hby : T[ai] = y := by subst haie; exact hby0
                      have HX := Lib.hid hx
                      have HY := Lib.hid hy
                      have hm0 : (0 : Int) ≤ (m : Int) := by omega
                      have hpi0 : (0 : Int) ≤ (pi : Int) := by omega
                      have hai0 : (0 : Int) ≤ (ai : Int) := by omega
                      have hpi' : (pi : Int) < (T.size : Int) := by omega
                      have hai' : (ai : Int) < (T.size : Int) := by omega
                      clear hx hy hpie haie hbx0 hby0
                      by_cases hxy : x = y
                      · subst hxy
                        clear hprev d3
                        go_wp2_with fail
                        go_quiet (fail)
                        go_wp2_with fail
                        go_roundg g3
                        case measure => omega
                        case rel =>
                          refine ⟨m + 1, by omega, by omega, by go_num, Lib.hid (fun j h1 => ?_), hT3.drewN _⟩
                          rcases Nat.lt_or_ge j m with h3 | h3
                          · exact HE3.out j h3
                          · obtain rfl : j = m := by omega
                            rw [← HX.out, ← HY.out]
                      · have hne : ((x.toNat : Int) == (y.toNat : Int)) = false := beq_eq_false_iff_ne.2 (fun e => hxy (UInt8.toNat_inj.1 (by omega)))
                        have HML := Lib.hid (mlen_eq T.data.toList p a 258 m (by omega) HE3.out (.inr (by rw [← HX.out, ← HY.out]; exact hxy)))
                        go_wp2_with fail
                        go_quiet (fail)
                        go_wp2_with fail
                        go_roundg R.length
                        case measure => have := HRL.out; omega
                        case rel => exact ⟨done ++ [p], R, m, a - p, rfl, HCC2, rfl, by rw [List.length_append]; exact HDT.out, by rw [HLT1.out]; go_num, rfl, congrArg (Value.int .i64) (by omega), Lib.hid (by have := HB.out.more p (by rw [HML.out]; omega); rw [HML.out] at this; exact this), HDO2, HRE2, HHA2, by omega, hT3.drewN _⟩
                | succ i =>
                  have hk : ((i + 1 : Nat) : Int) - 1 = (i : Int) := by omega
                  rw [hk]
                  clear hk
                  have hi0 : (0 : Int) ≤ (i : Int) := by omega
                  have hpi : p + i < T.size := by omega
                  have hai : a + i < T.size := by omega
                  obtain ⟨x, hx⟩ : ∃ x, x = T.data.toList.getD (p + i) 0 := ⟨_, rfl⟩
                  obtain ⟨y, hy⟩ : ∃ y, y = T.data.toList.getD (a + i) 0 := ⟨_, rfl⟩
                  have hbx0 : T[p + i] = x := by rw [hx]; exact byte_at T (p + i) hpi
                  have hby0 : T[a + i] = y := by rw [hy]; exact byte_at T (a + i) hai
                  obtain ⟨pi, hpie⟩ : ∃ pi, pi = p + i := ⟨_, rfl⟩
                  obtain ⟨ai, haie⟩ : ∃ ai, ai = a + i := ⟨_, rfl⟩
                  have hw1 : IntKind.i64.wrap ((p : Int) + (i : Int)) = (pi : Int) := by rw [hpie]; exact sum_wrap p i (by omega)
                  have hw2 : IntKind.i64.wrap ((a : Int) + (i : Int)) = (ai : Int) := by rw [haie]; exact sum_wrap a i (by omega)
                  have hpiT : pi < T.size := by omega
                  have haiT : ai < T.size := by omega
                  have hbx : T[pi] = x := by subst hpie; exact hbx0
                  have hby : T[ai] = y := by subst haie; exact hby0
                  have HX := Lib.hid hx
                  have HY := Lib.hid hy
                  have d0 := hT2.cell c0 id
                  have hpi0 : (0 : Int) ≤ (pi : Int) := by omega
                  have hai0 : (0 : Int) ≤ (ai : Int) := by omega
                  have hpi' : (pi : Int) < (T.size : Int) := by omega
                  have hai' : (ai : Int) < (T.size : Int) := by omega
                  clear hx hy hpie haie hbx0 hby0
                  by_cases hxy : x = y
                  · subst hxy
                    go_wp2_with fail
                    go_quiet (fail)
                    go_wp2_with fail
                    go_roundg i
                    case measure => omega
                    case rel =>
                      refine ⟨by go_num, by omega, Lib.hid (fun j h1 h2 => ?_), hT2.drewN _⟩
                      rcases Nat.lt_or_ge i j with h3 | h3
                      · exact HEQ.out j (by omega) h2
                      · obtain rfl : j = i := by omega
                        rw [← HX.out, ← HY.out]
                  · have hne : ((x.toNat : Int) == (y.toNat : Int)) = false := beq_eq_false_iff_ne.2 (fun e => hxy (UInt8.toNat_inj.1 (by omega)))
                    have hne2 : ((x.toNat : Int) != (y.toNat : Int)) = true := by rw [bne_iff_ne]; exact fun e => hxy (UInt8.toNat_inj.1 (by omega))
                    have hprev := hT2.cell HPREV.out id
                    have d3 := hT2.cell c3 id
                    go_wp2_with fail
                    go_quiet (fail)
                    go_wp2_with fail
                    go_roundg R.length
                    case measure => have := HRL.out; omega
                    case rel => exact ⟨done ++ [p], R, S, Dd, rfl, HCC2, rfl, by rw [List.length_append]; exact HDT.out, by rw [HLT1.out]; go_num, rfl, rfl, Lib.hid (HB.out.same p (Nat.le_trans (mlen_lt _ _ _ _ i (by rw [← HX.out, ← HY.out]; exact hxy)) (by omega)) HLAST.out), HDO2, HRE2, HHA2, hSM, hT2.drewN _⟩

set_option maxHeartbeats 4000000 in
theorem longest_B (b a fr mb pb tries M : Nat) (T : ByteArray) (ps : List Nat) (w : World) (h : FAt w b T fr mb pb ps) (ha : a + 3 ≤ T.size) (hn : ∀ p ∈ ps, p < a) (hT : T.size ≤ 1000000) (ht : tries ≤ 1000000) (hM : M = min (T.size - a) 258) (hB : T.size - a ≤ 258) :
    Calls Try.prog 13 #[.pointer (some ⟨b, 0, none⟩), .int .i64 (a : Nat), .int .i64 (tries : Nat)] w fun e w' => (∃ s d : Nat, e = .returned (.tuple #[.int .i64 (s : Nat), .int .i64 (d : Nat)]) ∧ FoundE T.data.toList a M tries (chainP T.data.toList ps (hashN T.data.toList a)) s d) ∧ Touch (fun _ => False) w w' := by
  have c0 := h.c0
  have c2 := h.c2
  have c3 := h.c3
  obtain ⟨D, hown, hD⟩ := h.mp
  obtain ⟨xs, x1, x2, x3⟩ := h.row
  have hlt := hashN_lt T.data.toList a
  have HRUN := Lib.hid (look_run hown hlt (hD _ hlt))
  have HC := Lib.hid (fun n : Nat => hash_calls b T a (w.drewN n) (((Touch.refl (fun _ => False) w).drewN n).cell c0 id) ha hT)
  have hang := x3.hang (hashN T.data.toList a)
  have hfall : (chainP T.data.toList ps (hashN T.data.toList a)).Pairwise (· > ·) := List.Pairwise.sublist List.filter_sublist h.falls
  have hca : ∀ p ∈ chainP T.data.toList ps (hashN T.data.toList a), p < a := fun p hp => hn p (List.mem_filter.1 hp).1
  have hsub : (T.size : Int) - (a : Int) = (M : Int) := by omega
  have hM2 : ¬ (258 : Int) < (M : Int) := by omega
  have hM4 : ¬ (M : Int) < 3 := by omega
  clear hB
  have hM3 : 3 ≤ M := by omega
  have hMT : a + M ≤ T.size := by omega
  have hXT := data_length T
  have HXT := Lib.hid hXT
  have HX2 := Lib.hid x2
  have HX1 := Lib.hid x1
  generalize chainP T.data.toList ps (hashN T.data.toList a) = C at HRUN hang hfall hca ⊢
  generalize hashN T.data.toList a = hv at HRUN HC hlt
  clear h hown hD x1 x2 x3 hM hXT
  cases C with
  | nil =>
    have hrun : ∀ n, (Instr.lookup 41 (.map (some mb)) (.int .u32 (hv : Nat)) true).run Try.prog (w.drewN n) = .ok (.tuple #[.int .i64 0, .bool false]) (w.drewN n) := fun n => HRUN.out _ ((Touch.refl _ _).drewN n)
    clear HRUN hang hfall hca
    go_enter Try.func13, Try.ntmps13
    go_wp2_with fail
    go_step3
    go_wp2_with fail
    go_quiet ((go_at_call 18; exact Calls.quiet_of (HC.out _)))
    go_wp2_with fail
    go_step3
    go_wp2_with fail
    go_loopg [2, 9, 11, 12, 13] 0 (fun g t pl s d _ wr => (t = .int .i64 (tries : Nat) ∧ pl = .int .i64 0 ∧ s = .int .i64 0 ∧ d = .int .i64 0) ∧ Touch (fun _ => False) w wr)
    case atStart => exact ⟨⟨rfl, rfl, rfl, rfl⟩, (Touch.refl _ _).drewN _⟩
    case round =>
      obtain ⟨⟨rfl, rfl, rfl, rfl⟩, hT5⟩ := hrel
      go_wp2_with fail
      try rw [Exit.noGoto_ret]
      go_ret2
      exact ⟨⟨0, 0, rfl, ⟨0, 0, by rw [show candP a tries [] = [] by simp [candP]]; exact Best.nil _ _ _, .inl ⟨by decide, rfl, rfl⟩⟩⟩, hT5⟩
  | cons p0 C0 =>
    have hrun : ∀ n, (Instr.lookup 41 (.map (some mb)) (.int .u32 (hv : Nat)) true).run Try.prog (w.drewN n) = .ok (.tuple #[.int .i64 (p0 : Nat), .bool true]) (w.drewN n) := fun n => HRUN.out _ ((Touch.refl _ _).drewN n)
    have hp0 := hca p0 List.mem_cons_self
    obtain ⟨C, hC⟩ : ∃ C, C = p0 :: C0 := ⟨_, rfl⟩
    have hang' : Hang xs C := by rw [hC]; exact hang
    have hfall' : C.Pairwise (· > ·) := by rw [hC]; exact hfall
    have hca' : ∀ p ∈ C, p < a := by rw [hC]; exact hca
    have hhd : headI C = (p0 : Nat) := by rw [hC]; rfl
    rw [← hC]
    have HFALL := Lib.hid hfall'
    have HCA := Lib.hid hca'
    have HANG := Lib.hid hang'
    have HHD := Lib.hid hhd
    clear HRUN hang hfall hca hC hang' hfall' hca' hhd
    go_enter Try.func13, Try.ntmps13
    go_wp2_with fail
    go_step3
    go_wp2_with fail
    go_quiet ((go_at_call 18; exact Calls.quiet_of (HC.out _)))
    go_wp2_with fail
    go_step3
    go_wp2_with fail
    clear hrun
    go_loopg [2, 9, 11, 12, 13] C.length (fun g t pl s d _ wr => ∃ (done rest : List Nat) (S Dd : Nat), rest.length = g ∧ RowKit.Hid (C = done ++ rest) ∧ pl = .int .i64 (headI rest) ∧ done.length ≤ tries ∧ t = .int .i64 ((tries - done.length : Nat)) ∧ s = .int .i64 (S : Nat) ∧ d = .int .i64 (Dd : Nat) ∧
      RowKit.Hid (Best T.data.toList a M done S Dd) ∧ RowKit.Hid (∀ q ∈ done, a - q ≤ 32768) ∧ RowKit.Hid (∀ q ∈ rest, q + done.length + 1 ≤ a) ∧ RowKit.Hid (Hang xs rest) ∧ S ≤ M ∧ Touch (fun _ => False) w wr)
    case atStart => exact ⟨[], C, 0, 0, rfl, Lib.hid rfl, by rw [HHD.out], Nat.zero_le _, rfl, rfl, rfl, Lib.hid (Best.nil _ _ _), Lib.hid (fun _ h => by cases h), Lib.hid (fun q hq => by have := HCA.out q hq; simp; omega), HANG, Nat.zero_le _, (Touch.refl _ _).drewN _⟩
    case round =>
      obtain ⟨done, rest, S, Dd, hg, HCC, rfl, hdt, rfl, rfl, rfl, HB, HDO, HRE, HHA, hSM, hTw⟩ := hrel
      clear HHD HANG
      cases rest with
      | nil =>
        have hfin := found_E (tries := tries) HB.out (by rw [← HCC.out]; exact HFALL.out) HDO.out hdt (.inl rfl)
        rw [← HCC.out] at hfin
        clear HB HDO HRE HHA HCC HFALL HCA
        simp only [headI]
        by_cases hS3 : S < 3
        · rw [if_pos hS3] at hfin
          have HFIN := Lib.hid hfin
          have hS3' : (S : Int) < 3 := by omega
          clear hfin
          go_wp2_with fail
          try rw [Exit.noGoto_ret]
          go_ret2
          exact ⟨⟨0, 0, rfl, HFIN.out⟩, hTw⟩
        · rw [if_neg hS3] at hfin
          have HFIN := Lib.hid hfin
          have hS3' : ¬ (S : Int) < 3 := by omega
          clear hfin
          go_wp2_with fail
          try rw [Exit.noGoto_ret]
          go_ret2
          exact ⟨⟨S, Dd, rfl, HFIN.out⟩, hTw⟩
      | cons p R =>
        have hpa : p + done.length + 1 ≤ a := HRE.out p List.mem_cons_self
        have hpT : (p : Int) < (T.size : Int) := by omega
        have hp0 : (0 : Int) ≤ (p : Int) := by omega
        simp only [headI]
        by_cases hfar : 32768 < a - p
        · have hfin := found_E (tries := tries) HB.out (by rw [← HCC.out]; exact HFALL.out) HDO.out hdt (.inr (.inl ⟨p, R, rfl, hfar⟩))
          rw [← HCC.out] at hfin
          have hfar' : ¬ ((a : Int) - (p : Int) ≤ 32768) := by omega
          clear HB HDO HRE HHA HCC HFALL HCA
          by_cases hS3 : S < 3
          · rw [if_pos hS3] at hfin
            have HFIN := Lib.hid hfin
            have hS3' : (S : Int) < 3 := by omega
            clear hfin
            go_wp2_with fail
            try rw [Exit.noGoto_ret]
            go_ret2
            exact ⟨⟨0, 0, rfl, HFIN.out⟩, hTw⟩
          · rw [if_neg hS3] at hfin
            have HFIN := Lib.hid hfin
            have hS3' : ¬ (S : Int) < 3 := by omega
            clear hfin
            go_wp2_with fail
            try rw [Exit.noGoto_ret]
            go_ret2
            exact ⟨⟨S, Dd, rfl, HFIN.out⟩, hTw⟩
        · have hfar' : (a : Int) - (p : Int) ≤ 32768 := by omega
          by_cases htr : tries = done.length
          · have hfin := found_E (tries := tries) HB.out (by rw [← HCC.out]; exact HFALL.out) HDO.out hdt (.inr (.inr (.inl htr)))
            rw [← HCC.out] at hfin
            have ht0 : tries - done.length = 0 := by omega
            rw [ht0]
            clear HB HDO HRE HHA HCC HFALL HCA htr ht0
            by_cases hS3 : S < 3
            · rw [if_pos hS3] at hfin
              have HFIN := Lib.hid hfin
              have hS3' : (S : Int) < 3 := by omega
              clear hfin
              go_wp2_with fail
              try rw [Exit.noGoto_ret]
              go_ret2
              exact ⟨⟨0, 0, rfl, HFIN.out⟩, hTw⟩
            · rw [if_neg hS3] at hfin
              have HFIN := Lib.hid hfin
              have hS3' : ¬ (S : Int) < 3 := by omega
              clear hfin
              go_wp2_with fail
              try rw [Exit.noGoto_ret]
              go_ret2
              exact ⟨⟨S, Dd, rfl, HFIN.out⟩, hTw⟩
          · obtain ⟨tt, htt⟩ : ∃ tt, tries - done.length = tt := ⟨_, rfl⟩
            rw [htt]
            have htt1 : (0 : Int) < (tt : Int) := by omega
            have htt2 : (tt : Int) ≤ 1000000 := by omega
            have hpa2 : p < a := by omega
            by_cases hSe : S = M
            · have hfin := found_E (tries := tries) HB.out (by rw [← HCC.out]; exact HFALL.out) HDO.out hdt (.inr (.inr (.inr hSe)))
              rw [← HCC.out] at hfin
              clear HB HDO HRE HHA HCC HFALL HCA
              have HFIN := Lib.hid hfin
              have hS3 : ¬ S < 3 := by omega
              have hS3' : ¬ (S : Int) < 3 := by omega
              have hSn : ¬ (S : Int) < (M : Int) := by omega
              clear hfin hSe
              go_wp2_with fail
              try rw [Exit.noGoto_ret]
              go_ret2
              exact ⟨⟨S, Dd, rfl, by have := HFIN.out; rw [if_neg hS3] at this; exact this⟩, hTw⟩
            · have hSlt : (S : Int) < (M : Int) := by omega
              have hSb : S < M := by omega
              have HDT := Lib.hid (show done.length + 1 ≤ tries by omega)
              have HTT := Lib.hid htt
              have HPA := Lib.hid hpa
              have hprev0 := HX2.out.cells.2 p (.int .i64 (headI R)) (by simp [zsV, HHA.out.1])
              rw [Nat.zero_add] at hprev0
              have HPREV := Lib.hid hprev0
              have hDO2 : ∀ q ∈ done ++ [p], a - q ≤ 32768 := fun q hq => by
                rcases List.mem_append.1 hq with hq | hq
                · exact HDO.out q hq
                · obtain rfl : q = p := by simpa using hq
                  omega
              have hRE2 : ∀ q ∈ R, q + (done ++ [p]).length + 1 ≤ a := fun q hq => by
                have hf := HFALL.out
                rw [HCC.out] at hf
                have := (List.pairwise_cons.1 (List.pairwise_append.1 hf).2.1).1 q hq
                rw [List.length_append, List.length_singleton]
                omega
              have hlast : ∀ q ∈ done, p < q := fun q hq => by
                have hf := HFALL.out
                rw [HCC.out] at hf
                exact (List.pairwise_append.1 hf).2.2 q hq p List.mem_cons_self
              have HDO2 := Lib.hid hDO2
              have HRE2 := Lib.hid hRE2
              have HLAST := Lib.hid hlast
              have HCC2 : RowKit.Hid (C = (done ++ [p]) ++ R) := Lib.hid (by rw [HCC.out]; simp)
              have HLT1 := Lib.hid (show tries - (done ++ [p]).length = tt - 1 by rw [List.length_append, List.length_singleton]; omega)
              have HHA2 := Lib.hid HHA.out.2
              have HRL := Lib.hid (show R.length + 1 = gk by rw [← hg, List.length_cons])
              clear hprev0 hDO2 hRE2 hlast hdt htt hpa htr HHA HRE HDO HCC hg
              go_wp2_with fail
              go_loopg [13] (S + 1) (fun g k wr2 => k = .int .i64 ((g : Int) - 1) ∧ g ≤ S + 1 ∧ RowKit.Hid (∀ i, g ≤ i → i < S + 1 → T.data.toList.getD (p + i) 0 = T.data.toList.getD (a + i) 0) ∧ Touch (fun _ => False) w wr2)
              case atStart => exact ⟨by go_num, Nat.le_refl _, Lib.hid (fun i h1 h2 => by omega), hTw⟩
              case round =>
                obtain ⟨rfl, hgS, HEQ, hT2⟩ := hrel
                clear hTw
                cases gk with
                | zero =>
                  have hm1 : ((0 : Nat) : Int) - 1 = -1 := by omega
                  rw [hm1]
                  clear hm1
                  go_wp2_with fail
                  go_loopg [11] (M - (S + 1)) (fun g s wr3 => ∃ m, m + g = M ∧ S + 1 ≤ m ∧ s = .int .i64 (m : Nat) ∧ RowKit.Hid (∀ i, i < m → T.data.toList.getD (p + i) 0 = T.data.toList.getD (a + i) 0) ∧ Touch (fun _ => False) w wr3)
                  case atStart => exact ⟨S + 1, by omega, Nat.le_refl _, by go_num, Lib.hid (fun i hi => HEQ.out i (Nat.zero_le _) hi), hT2⟩
                  case round =>
                    obtain ⟨m, hmg, hmS, rfl, HE3, hT3⟩ := hrel
                    clear HEQ hT2
                    have hprev := hT3.cell HPREV.out id
                    have d3 := hT3.cell c3 id
                    have d0 := hT3.cell c0 id
                    cases gk with
                    | zero =>
                      have hmM : m = M := by omega
                      have hmn : decide ((m : Int) < (M : Int)) = false := decide_eq_false (by omega)
                      have hmn2 : decide (m < M) = false := decide_eq_false (by omega)
                      have HML := Lib.hid (mlen_eq T.data.toList p a M m (by omega) HE3.out (.inl hmM))
                      clear hmM
                      go_wp2_with fail
                      go_quiet (fail)
                      go_wp2_with fail
                      go_roundg R.length
                      case measure => have := HRL.out; omega
                      case rel => exact ⟨done ++ [p], R, m, a - p, rfl, HCC2, rfl, by rw [List.length_append]; exact HDT.out, by rw [HLT1.out]; go_num, rfl, congrArg (Value.int .i64) (by omega), Lib.hid (by have := HB.out.more p (by rw [HML.out]; omega); rw [HML.out] at this; exact this), HDO2, HRE2, HHA2, by omega, hT3.drewN _⟩
                    | succ g3 =>
                      have hmM : m < M := by omega
                      have hmn : decide ((m : Int) < (M : Int)) = true := decide_eq_true (by omega)
                      have hmn2 : decide (m < M) = true := decide_eq_true (by omega)
                      obtain ⟨x, hx⟩ : ∃ x, x = T.data.toList.getD (p + m) 0 := ⟨_, rfl⟩
                      obtain ⟨y, hy⟩ : ∃ y, y = T.data.toList.getD (a + m) 0 := ⟨_, rfl⟩
                      have hbx0 : T[p + m]'(by omega) = x := by rw [hx]; exact byte_at T (p + m) (by omega)
                      have hby0 : T[a + m]'(by omega) = y := by rw [hy]; exact byte_at T (a + m) (by omega)
                      obtain ⟨pi, hpie⟩ : ∃ pi, pi = p + m := ⟨_, rfl⟩
                      obtain ⟨ai, haie⟩ : ∃ ai, ai = a + m := ⟨_, rfl⟩
                      have hw1 : IntKind.i64.wrap ((p : Int) + (m : Int)) = (pi : Int) := by rw [hpie]; exact sum_wrap p m (by omega)
                      have hw2 : IntKind.i64.wrap ((a : Int) + (m : Int)) = (ai : Int) := by rw [haie]; exact sum_wrap a m (by omega)
                      have hpiT : pi < T.size := by omega
                      have haiT : ai < T.size := by omega
                      have hbx : T[pi] = x := by subst hpie; exact hbx0
                      have hby : T[ai] = y := by subst haie; exact hby0
                      have HX := Lib.hid hx
                      have HY := Lib.hid hy
                      have hm0 : (0 : Int) ≤ (m : Int) := by omega
                      have hpi0 : (0 : Int) ≤ (pi : Int) := by omega
                      have hai0 : (0 : Int) ≤ (ai : Int) := by omega
                      have hpi' : (pi : Int) < (T.size : Int) := by omega
                      have hai' : (ai : Int) < (T.size : Int) := by omega
                      clear hx hy hpie haie hbx0 hby0
                      by_cases hxy : x = y
                      · subst hxy
                        clear hprev d3
                        go_wp2_with fail
                        go_quiet (fail)
                        go_wp2_with fail
                        go_roundg g3
                        case measure => omega
                        case rel =>
                          refine ⟨m + 1, by omega, by omega, by go_num, Lib.hid (fun j h1 => ?_), hT3.drewN _⟩
                          rcases Nat.lt_or_ge j m with h3 | h3
                          · exact HE3.out j h3
                          · obtain rfl : j = m := by omega
                            rw [← HX.out, ← HY.out]
                      · have hne : ((x.toNat : Int) == (y.toNat : Int)) = false := beq_eq_false_iff_ne.2 (fun e => hxy (UInt8.toNat_inj.1 (by omega)))
                        have HML := Lib.hid (mlen_eq T.data.toList p a M m (by omega) HE3.out (.inr (by rw [← HX.out, ← HY.out]; exact hxy)))
                        go_wp2_with fail
                        go_quiet (fail)
                        go_wp2_with fail
                        go_roundg R.length
                        case measure => have := HRL.out; omega
                        case rel => exact ⟨done ++ [p], R, m, a - p, rfl, HCC2, rfl, by rw [List.length_append]; exact HDT.out, by rw [HLT1.out]; go_num, rfl, congrArg (Value.int .i64) (by omega), Lib.hid (by have := HB.out.more p (by rw [HML.out]; omega); rw [HML.out] at this; exact this), HDO2, HRE2, HHA2, by omega, hT3.drewN _⟩
                | succ i =>
                  have hk : ((i + 1 : Nat) : Int) - 1 = (i : Int) := by omega
                  rw [hk]
                  clear hk
                  have hi0 : (0 : Int) ≤ (i : Int) := by omega
                  have hpi : p + i < T.size := by omega
                  have hai : a + i < T.size := by omega
                  obtain ⟨x, hx⟩ : ∃ x, x = T.data.toList.getD (p + i) 0 := ⟨_, rfl⟩
                  obtain ⟨y, hy⟩ : ∃ y, y = T.data.toList.getD (a + i) 0 := ⟨_, rfl⟩
                  have hbx0 : T[p + i] = x := by rw [hx]; exact byte_at T (p + i) hpi
                  have hby0 : T[a + i] = y := by rw [hy]; exact byte_at T (a + i) hai
                  obtain ⟨pi, hpie⟩ : ∃ pi, pi = p + i := ⟨_, rfl⟩
                  obtain ⟨ai, haie⟩ : ∃ ai, ai = a + i := ⟨_, rfl⟩
                  have hw1 : IntKind.i64.wrap ((p : Int) + (i : Int)) = (pi : Int) := by rw [hpie]; exact sum_wrap p i (by omega)
                  have hw2 : IntKind.i64.wrap ((a : Int) + (i : Int)) = (ai : Int) := by rw [haie]; exact sum_wrap a i (by omega)
                  have hpiT : pi < T.size := by omega
                  have haiT : ai < T.size := by omega
                  have hbx : T[pi] = x := by subst hpie; exact hbx0
                  have hby : T[ai] = y := by subst haie; exact hby0
                  have HX := Lib.hid hx
                  have HY := Lib.hid hy
                  have d0 := hT2.cell c0 id
                  have hpi0 : (0 : Int) ≤ (pi : Int) := by omega
                  have hai0 : (0 : Int) ≤ (ai : Int) := by omega
                  have hpi' : (pi : Int) < (T.size : Int) := by omega
                  have hai' : (ai : Int) < (T.size : Int) := by omega
                  clear hx hy hpie haie hbx0 hby0
                  by_cases hxy : x = y
                  · subst hxy
                    go_wp2_with fail
                    go_quiet (fail)
                    go_wp2_with fail
                    go_roundg i
                    case measure => omega
                    case rel =>
                      refine ⟨by go_num, by omega, Lib.hid (fun j h1 h2 => ?_), hT2.drewN _⟩
                      rcases Nat.lt_or_ge i j with h3 | h3
                      · exact HEQ.out j (by omega) h2
                      · obtain rfl : j = i := by omega
                        rw [← HX.out, ← HY.out]
                  · have hne : ((x.toNat : Int) == (y.toNat : Int)) = false := beq_eq_false_iff_ne.2 (fun e => hxy (UInt8.toNat_inj.1 (by omega)))
                    have hne2 : ((x.toNat : Int) != (y.toNat : Int)) = true := by rw [bne_iff_ne]; exact fun e => hxy (UInt8.toNat_inj.1 (by omega))
                    have hprev := hT2.cell HPREV.out id
                    have d3 := hT2.cell c3 id
                    go_wp2_with fail
                    go_quiet (fail)
                    go_wp2_with fail
                    go_roundg R.length
                    case measure => have := HRL.out; omega
                    case rel => exact ⟨done ++ [p], R, S, Dd, rfl, HCC2, rfl, by rw [List.length_append]; exact HDT.out, by rw [HLT1.out]; go_num, rfl, rfl, Lib.hid (HB.out.same p (Nat.le_trans (mlen_lt _ _ _ _ i (by rw [← HX.out, ← HY.out]; exact hxy)) (by omega)) HLAST.out), HDO2, HRE2, HHA2, hSM, hT2.drewN _⟩
end Go.Proofs.Ytbjkoepldccaaaa

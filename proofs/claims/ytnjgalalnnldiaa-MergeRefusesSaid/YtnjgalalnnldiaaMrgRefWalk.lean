/- The walk of layer 4's statement on counts and bounds that may not be. -/
import Derived.Test.YtnjgalalnnldiaaMrgL
import Derived.Deep.CutBlock
import Derived.Deep.DeepCutAuto
namespace Go.Proofs.Ytnjgalalnnldiaa
open Go Go.RowKit Go.Shelf
set_option maxRecDepth 100000

theorem wrap_pow2 (N : Nat) (h : N ≤ 15) : IntKind.i64.wrap ((2 : Int) ^ N) = ((2 ^ N : Nat) : Int) := by
  have : ∀ n : Fin 16, IntKind.i64.wrap ((2 : Int) ^ n.val) = ((2 ^ n.val : Nat) : Int) := by decide +kernel
  exact this ⟨N, by omega⟩
theorem good_cnt (xs : List Int) (h : xs.any badCnt = false) : xs = (xs.map Int.toNat).map Int.ofNat ∧ ∀ x ∈ xs.map Int.toNat, x ≤ 1099511627776 := by
  have h1 : ∀ x ∈ xs, ¬ x < 0 ∧ ¬ 1099511627776 < x := fun x hx => by
    have := List.any_eq_false.1 h x hx
    unfold badCnt at this
    simp at this
    omega
  refine ⟨?_, ?_⟩
  · rw [List.map_map]
    conv => lhs; rw [← List.map_id xs]
    refine List.map_congr_left fun x hx => ?_
    have := h1 x hx
    simp
    omega
  · intro y hy
    obtain ⟨x, hx, rfl⟩ := List.mem_map.1 hy
    have := h1 x hx
    omega

set_option maxHeartbeats 2000000 in
theorem refuses_size (xs : List Int) (most : Int) (v : Value) (w : World) (hv : Reads w v (intsV xs)) (hbad : 288 < xs.length ∨ most < 1 ∨ 15 < most) :
    Calls Try.prog 5 #[v, .int .i64 most] w fun e w' => e = .returned (.bool true) ∧ Touch (fun _ => False) w w' := by
  have HL := Lib.hid (fun W (hW : Touch (fun _ => False) w W) => mlen_arg xs most v W (hv.still hW) (.inr hbad))
  obtain ⟨a, cap, hv', hc1, hc2⟩ := hv.form
  subst hv'
  rw [intsV_length] at HL hc1 ⊢
  clear hv
  by_cases h1 : 288 < xs.length
  · have h1' : (288 : Int) < (xs.length : Int) := by omega
    clear hbad
    go_enter Try.func5, Try.ntmps5
    go_wp2_with (go_at_call 7; refine (speaks4_calls _).mono ?_; rintro e w1 ⟨rfl, ht1⟩)
    go_loopw [5, 6] (fun b i wr => b = .bool true ∧ i = .int .i64 0 ∧ wr = w1) (fun _ _ _ => 0)
    case atStart => exact ⟨rfl, rfl, rfl⟩
    case round =>
      obtain ⟨rfl, rfl, rfl⟩ := hrel
      go_wp2_with (go_at_call 8; refine (HL.out _ ht1).mono ?_; rintro e w2 ⟨rfl, ht2⟩)
      all_goals
        go_ret
        exact ⟨rfl, ht1.trans ht2⟩
  · have h1' : decide ((288 : Int) < (xs.length : Int)) = false := decide_eq_false (by omega)
    by_cases h2 : most < 1
    · clear hbad
      go_enter Try.func5, Try.ntmps5
      go_wp2_with (go_at_call 7; refine (speaks4_calls _).mono ?_; rintro e w1 ⟨rfl, ht1⟩)
      go_loopw [5, 6] (fun b i wr => b = .bool true ∧ i = .int .i64 0 ∧ wr = w1) (fun _ _ _ => 0)
      case atStart => exact ⟨rfl, rfl, rfl⟩
      case round =>
        obtain ⟨rfl, rfl, rfl⟩ := hrel
        go_wp2_with (go_at_call 8; refine (HL.out _ ht1).mono ?_; rintro e w2 ⟨rfl, ht2⟩)
        all_goals
          go_ret
          exact ⟨rfl, ht1.trans ht2⟩
    · have h3 : 15 < most := by omega
      have h2' : decide (most < 1) = false := decide_eq_false h2
      clear hbad h2
      go_enter Try.func5, Try.ntmps5
      go_wp2_with (go_at_call 7; refine (speaks4_calls _).mono ?_; rintro e w1 ⟨rfl, ht1⟩)
      go_loopw [5, 6] (fun b i wr => b = .bool true ∧ i = .int .i64 0 ∧ wr = w1) (fun _ _ _ => 0)
      case atStart => exact ⟨rfl, rfl, rfl⟩
      case round =>
        obtain ⟨rfl, rfl, rfl⟩ := hrel
        go_wp2_with (go_at_call 8; refine (HL.out _ ht1).mono ?_; rintro e w2 ⟨rfl, ht2⟩)
        all_goals
          go_ret
          exact ⟨rfl, ht1.trans ht2⟩

set_option maxHeartbeats 4000000 in
theorem refuses_rest (xs : List Int) (N : Nat) (v : Value) (w : World) (hv : Reads w v (intsV xs)) (h288 : xs.length ≤ 288) (hN1 : 1 ≤ N) (hN2 : N ≤ 15) :
    Calls Try.prog 5 #[v, .int .i64 (N : Nat)] w fun e w' => e = .returned (.bool true) ∧ Touch (fun _ => False) w w' := by
  have HV := Lib.hid hv
  obtain ⟨a, cap, hv', hc1, hc2⟩ := hv.form
  have hcells : ∀ W, Touch (fun _ => False) w W → ∀ k (hk : k < xs.length), ∃ g off, a = some ⟨g, off, none⟩ ∧ W.cell? ⟨g, off + k, none⟩ = some (.int .i64 xs[k]) := by
    intro W hW k hk
    obtain ⟨g, off, cap', he, _, _, _, hc⟩ := hv.addr (by rw [intsV_length]; omega)
    rw [hv'] at he
    injection he with he _ _
    exact ⟨g, off, he, hW.cell (hc k _ (by simp [intsV, hk])) id⟩
  subst hv'
  rw [intsV_length] at HV hc1 ⊢
  have HCELLS := Lib.hid hcells
  clear hv hcells
  have h1 : decide ((288 : Int) < (xs.length : Int)) = false := decide_eq_false (by omega)
  have h2 : decide ((N : Int) < 1) = false := decide_eq_false (by omega)
  have h3 : decide ((15 : Int) < (N : Int)) = false := decide_eq_false (by omega)
  have h0 : (0 : Int) ≤ (N : Int) := by omega
  go_enter Try.func5, Try.ntmps5
  go_upto_block 0 with (go_at_call 7; refine (speaks4_calls _).mono ?_; rintro e w1 ⟨rfl, ht1⟩)
  go_cut [5, 6] (fun v5 _ wx => v5 = .bool (xs.any badCnt) ∧ Touch (fun _ => False) w wx)
  case first =>
    go_wp2_with fail
    go_loopw [5, 6] (fun b i wr => ∃ k : Nat, k ≤ xs.length ∧ i = .int .i64 (k : Nat) ∧ b = .bool ((xs.take k).any badCnt) ∧ RowKit.Hid (∀ j, j < k → (xs.take j).any badCnt = false) ∧ Touch (fun _ => False) w wr) (fun _ i _ => xs.length - (intOf i).toNat)
    case atStart => exact ⟨0, Nat.zero_le _, rfl, rfl, Lib.hid (fun j hj => absurd hj (Nat.not_lt_zero _)), ht1⟩
    case round =>
      obtain ⟨k, hk, rfl, rfl, HF, hT⟩ := hrel
      have hk0 : (0 : Int) ≤ (k : Int) := by omega
      by_cases hb : (xs.take k).any badCnt = true
      · have hall : xs.any badCnt = true := by
          obtain ⟨x, hx, hxb⟩ := List.any_eq_true.1 hb
          exact List.any_eq_true.2 ⟨x, List.mem_of_mem_take hx, hxb⟩
        have HALL := Lib.hid hall
        rw [hb]
        clear hb hall
        by_cases hlt : k < xs.length
        · have hk1 : (k : Int) < (xs.length : Int) := by omega
          go_wp2_with fail
          go_meet
          exact ⟨by rw [HALL.out], hT⟩
        · have hk1 : ¬ (k : Int) < (xs.length : Int) := by omega
          go_wp2_with fail
          go_meet
          exact ⟨by rw [HALL.out], hT⟩
      · have hb' : (xs.take k).any badCnt = false := by simpa using hb
        by_cases hlt : k < xs.length
        · have hk1 : (k : Int) < (xs.length : Int) := by omega
          obtain ⟨g, off, rfl, hc⟩ := HCELLS.out _ hT k hlt
          have hnx : (xs.take (k + 1)).any badCnt = badCnt xs[k] := by
            rw [List.take_succ_eq_append_getElem hlt, List.any_append, hb']
            simp
          have HNX := Lib.hid hnx
          have HF2 : RowKit.Hid (∀ j, j < k + 1 → (xs.take j).any badCnt = false) := Lib.hid (fun j hj => by
            rcases Nat.lt_or_ge j k with h | h
            · exact HF.out j h
            · obtain rfl : j = k := by omega
              exact hb')
          rw [hb']
          clear hb hb' hnx
          generalize xs[k] = x at hc HNX
          by_cases hx0 : x < 0
          · have hx0' : decide (x < 0) = true := decide_eq_true hx0
            go_wp2_with fail
            go_roundw
            case rel => exact ⟨k + 1, by omega, by go_num, by rw [HNX.out]; simp [badCnt, hx0], HF2, hT⟩
            case measure => simp [intOf]; omega
          · have hx0' : decide (x < 0) = false := decide_eq_false hx0
            by_cases hx1 : 1099511627776 < x
            · go_wp2_with fail
              go_roundw
              case rel => exact ⟨k + 1, by omega, by go_num, by rw [HNX.out]; simp [badCnt, hx1], HF2, hT⟩
              case measure => simp [intOf]; omega
            · go_wp2_with fail
              go_roundw
              case rel => exact ⟨k + 1, by omega, by go_num, by rw [HNX.out]; simp [badCnt, hx0, hx1], HF2, hT⟩
              case measure => simp [intOf]; omega
        · obtain rfl : k = xs.length := by omega
          have hk1 : ¬ (xs.length : Int) < (xs.length : Int) := by omega
          rw [List.take_length] at hb' ⊢
          have HALL := Lib.hid hb'
          rw [hb']
          clear hb hb'
          go_wp2_with fail
          go_meet
          exact ⟨by rw [HALL.out], hT⟩
  case rest =>
    obtain ⟨h5, hT⟩ := hcut
    subst h5
    cases hb : xs.any badCnt with
    | true =>
      have HL := Lib.hid (fun W (hW : Touch (fun _ => False) w W) => mlen_arg xs N _ W (HV.out.still hW) (.inl hb))
      clear hb
      go_wp2_with (go_at_call 8; refine (HL.out _ hT).mono ?_; rintro e w2 ⟨rfl, ht2⟩)
      go_ret
      exact ⟨rfl, hT.trans ht2⟩
    | false =>
      obtain ⟨hx1, hx2⟩ := good_cnt xs hb
      have hlen : (xs.map Int.toNat).length = xs.length := by simp
      have e2 : intsV xs = intVs (xs.map Int.toNat) := by
        conv => lhs; rw [hx1]
        rw [intsV_nat]
      have hV2 := HV.out
      rw [e2] at hV2
      have HV2 := Lib.hid hV2
      clear hV2 e2 HV HCELLS hx1 hb
      generalize xs.map Int.toNat = c at hx2 hlen HV2
      rw [← hlen] at HV2 hc1 h1 h288 ⊢
      clear hlen
      have hcl := comesL_length c c.length
      have hcome : ∀ W, Touch (fun _ => False) w W → Calls Try.prog 9 #[.slice a c.length cap] W fun e w' => e = .returned (.int .i64 ((symsM c).length : Nat)) ∧ Touch (fun _ => False) W w' := fun W hW => by
        rw [symsM_length]
        exact come_calls c _ W h288 (HV2.out.still hW)
      have HCO := Lib.hid hcome
      have hw := wrap_pow N hN2
      have hw2 := wrap_pow2 N hN2
      by_cases hn : 2 ^ N < (symsM c).length
      · have HL := Lib.hid (fun W (hW : Touch (fun _ => False) w W) => mlen_many c N _ W (HV2.out.still hW) hx2 h288 hN1 hN2 hn)
        clear hx2 hcome
        generalize (symsM c).length = n at HCO hn
        generalize 2 ^ N = P at hw hw2 hn
        have hn1 : decide (P < n) = true := decide_eq_true hn
        have hn2 : (P : Int) < (n : Int) := by omega
        go_wp2_with (go_at_call 8; refine (HL.out _ hT).mono ?_; rintro e w2 ⟨rfl, ht2⟩; have hT2 := hT.trans ht2)
        go_region_with (go_at_call 9; refine (HCO.out _ (by first | exact hT2 | exact hT2.drew)).mono ?_; rintro e w3 ⟨rfl, ht3⟩)
        all_goals go_wp2
        all_goals
          go_ret
          exact ⟨rfl, by first | exact hT2.trans ht3 | exact hT2.drew.trans ht3⟩
      · have HL : RowKit.Hid (∀ W, Touch (fun _ => False) w W → Calls Try.prog 8 #[.slice a c.length cap, .int .i64 (N : Nat)] W fun e w' => ∃ r, e = .returned (.tuple #[r, .int .i64 0]) ∧ Row w' 3 r (intVs (lensM c N)) ∧ Sep W.heap.size none r.ownBlock ∧ Touch (fun _ => False) W w') := Lib.hid (fun W hW => by
          by_cases h1 : (symsM c).length = 1
          · exact mlen_one c N _ W (HV2.out.still hW) hx2 h288 hN1 hN2 h1
          · exact mlen_some c N _ W (HV2.out.still hW) hx2 h288 hN1 hN2 (by omega) h1)
        have hll := lensM_length c N
        clear hx2 hcome
        generalize (symsM c).length = n at HCO hn
        generalize lensM c N = L at HL hll
        generalize 2 ^ N = P at hw hw2 hn
        have HLL := Lib.hid hll
        clear hll
        have hn1 : decide (P < n) = false := decide_eq_false hn
        have hn2 : ¬ (P : Int) < (n : Int) := by omega
        go_wp2_with (go_at_call 8; refine (HL.out _ hT).mono ?_; rintro e w2 ⟨r, rfl, hr, _, ht2⟩; obtain ⟨ra, rcap, hre, _, _⟩ := hr.form; rw [intVs_length, HLL.out] at hre; subst hre; clear hr; have hT2 := hT.trans ht2)
        go_region_with (go_at_call 9; refine (HCO.out _ (by first | exact hT2 | exact hT2.drew)).mono ?_; rintro e w3 ⟨rfl, ht3⟩)
        all_goals go_wp2
        all_goals
          go_ret
          exact ⟨rfl, by first | exact hT2.trans ht3 | exact hT2.drew.trans ht3⟩

theorem refuses_calls (xs : List Int) (most : Int) (v : Value) (w : World) (hv : Reads w v (intsV xs)) :
    Calls Try.prog 5 #[v, .int .i64 most] w fun e w' => e = .returned (.bool true) ∧ Touch (fun _ => False) w w' := by
  by_cases h : 288 < xs.length ∨ most < 1 ∨ 15 < most
  · exact refuses_size xs most v w hv h
  · obtain ⟨N, rfl⟩ : ∃ N : Nat, most = N := ⟨most.toNat, by omega⟩
    exact refuses_rest xs N v w hv (by omega) (by omega) (by omega)
end Go.Proofs.Ytnjgalalnnldiaa

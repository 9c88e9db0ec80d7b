
/- Contracts of package send, third part: Ack. -/
import Derived.Test.YtblngiglfggjfaaSdB
namespace Go.Proofs.Ytblngiglfggjfaa
open Go Go.RowKit Go.Maps Go.MapKept Go.ChangeMaps
set_option maxRecDepth 100000

/-- A bit of a number. -/
def bitB (q k : Nat) : Bool := decide (q / 2 ^ k % 2 = 1)
/-- What is acknowledged behind an Ack that tells of k bits. -/
def ackA (A : Nat → Bool) (b s q k : Nat) : Nat → Bool := fun i => (A i && decide (b + 1 ≤ i)) || (decide (b + 1 ≤ i ∧ i < s ∧ i < b + 1 + k) && bitB q (i - b - 1))
/-- Is something new? -/
def ackN (A : Nat → Bool) (b s q k : Nat) : Bool := (List.range k).any fun j => bitB q j && (decide (b + 1 + j < s) && !A (b + 1 + j))
theorem ackN_succ (A : Nat → Bool) (b s q k : Nat) : ackN A b s q (k + 1) = (ackN A b s q k || (bitB q k && (decide (b + 1 + k < s) && !A (b + 1 + k)))) := by
  unfold ackN; rw [List.range_succ, List.any_append]; simp
theorem ackA_zero (A : Nat → Bool) (b s q : Nat) (i : Nat) : ackA A b s q 0 i = (A i && decide (b + 1 ≤ i)) := by
  unfold ackA; rw [decide_eq_false (show ¬ (b + 1 ≤ i ∧ i < s ∧ i < b + 1 + 0) by omega)]; simp
theorem ackA_at (A : Nat → Bool) (b s q k : Nat) : ackA A b s q k (b + (1 + k)) = A (b + 1 + k) := by
  unfold ackA
  rw [decide_eq_false (show ¬ (b + 1 ≤ b + (1 + k) ∧ b + (1 + k) < s ∧ b + (1 + k) < b + 1 + k) by omega), decide_eq_true (show b + 1 ≤ b + (1 + k) by omega), show b + (1 + k) = b + 1 + k by omega]; simp
theorem ackA_set (A : Nat → Bool) (b s q k : Nat) (hb : bitB q k = true) (i : Nat) : (ackA A b s q k i || (decide (i = b + (1 + k)) && decide (1 + k < s - b))) = ackA A b s q (k + 1) i := by
  unfold ackA
  by_cases e : i = b + (1 + k)
  · subst e
    rw [show b + (1 + k) - b - 1 = k by omega, hb]
    by_cases h : 1 + k < s - b
    · rw [decide_eq_true h, decide_eq_true (show b + 1 ≤ b + (1 + k) ∧ b + (1 + k) < s ∧ b + (1 + k) < b + 1 + (k + 1) by omega)]; simp
    · rw [decide_eq_false h, decide_eq_false (show ¬ (b + 1 ≤ b + (1 + k) ∧ b + (1 + k) < s ∧ b + (1 + k) < b + 1 + (k + 1)) by omega), decide_eq_false (show ¬ (b + 1 ≤ b + (1 + k) ∧ b + (1 + k) < s ∧ b + (1 + k) < b + 1 + k) by omega)]; simp
  · rw [decide_eq_false e]
    have : (b + 1 ≤ i ∧ i < s ∧ i < b + 1 + (k + 1)) ↔ (b + 1 ≤ i ∧ i < s ∧ i < b + 1 + k) := by omega
    simp only [this]; simp
theorem ackA_skip (A : Nat → Bool) (b s q k : Nat) (hb : bitB q k = false) (i : Nat) : ackA A b s q k i = ackA A b s q (k + 1) i := by
  unfold ackA
  by_cases e : i = b + (1 + k)
  · subst e
    rw [show b + (1 + k) - b - 1 = k by omega, hb]; simp
  · have : (b + 1 ≤ i ∧ i < s ∧ i < b + 1 + (k + 1)) ↔ (b + 1 ≤ i ∧ i < s ∧ i < b + 1 + k) := by omega
    simp only [this]

theorem u32_and1 (n : Int) : bits .and .u32 n 1 = n % 2 := by
  have hk : (BitVec.ofInt 32 1).toNat = 2 ^ 1 - 1 := by decide
  have key : (BitVec.ofInt 32 n &&& BitVec.ofInt 32 1).toNat = (n % ((2 ^ 32 : Nat) : Int)).toNat % 2 ^ 1 := by
    rw [BitVec.toNat_and, BitVec.toNat_ofInt, hk, Nat.and_two_pow_sub_one_eq_mod]
  show IntKind.u32.wrap ((BitVec.ofInt 32 n &&& BitVec.ofInt 32 1).toNat : Nat) = n % 2
  rw [key, IntKind.wrap_u32]
  omega
theorem bit_val (q k : Nat) : bits .and .u32 ((q : Int) / 2 ^ k) 1 = if bitB q k then 1 else 0 := by
  have e : ((q : Int) / 2 ^ k) = ((q / 2 ^ k : Nat) : Int) := by norm_cast
  rw [u32_and1, e]
  unfold bitB
  by_cases h : q / 2 ^ k % 2 = 1
  · rw [decide_eq_true h, if_pos rfl]; omega
  · rw [decide_eq_false h, if_neg (by decide)]; omega

set_option maxHeartbeats 2000000 in
theorem wack_far {w : World} {p mb n f cnt sz b s : Nat} {A : Nat → Bool} (h : WinAt w p mb n f cnt sz b s A) (d : Nat) (hd : d < 4294967296) (hds : s - b < d) (q : Int) :
    Calls Try.prog 26 #[.pointer (some ⟨p, 0, none⟩), .int .u32 (numU f (b + d) : Nat), .int .u32 q] w fun e w' => e = .returned (.bool false) ∧ Touch (fun _ => False) w w' := by
  have hin := fun W => sin_calls (numU f (b + d)) (numU f b) ((s - b + 1 : Nat) : Int) (numU_lt _ _) (numU_lt _ _) (by have := h.sc; have := h.c2; omega) W
  rw [inS_num f b d hd, decide_eq_false (by omega)] at hin
  obtain ⟨c0, c1, c2, c3, c4⟩ := h.box.cells
  have hM : s - b ≤ 1048576 := by have := h.sc; have := h.c2; omega
  have HIN := Lib.hid hin
  clear hin hds
  generalize numU f (b + d) = u at *
  generalize numU f b = nb at *
  generalize s - b = M at *
  have y1 : IntKind.i64.wrap ((M : Int) + 1) = ((M + 1 : Nat) : Int) := by rw [IntWalk.i64_in _ (by omega)]; omega
  generalize M + 1 = M1 at *
  go_enter Try.func26, Try.ntmps26
  go_upto_region 1 with fail
  go_quiet (first | (go_at_call 36; with_reducible exact quiet_same (HIN.out _)))
  go_wp2_with fail
  go_ret
  exact ⟨rfl, (Touch.refl _ w).drewN _⟩

set_option maxHeartbeats 4000000 in
theorem wack_calls {w : World} {p mb n f cnt sz b s : Nat} {A : Nat → Bool} (h : WinAt w p mb n f cnt sz b s A) (d : Nat) (hds : d ≤ s - b) (q : Nat) (_hq : q < 4294967296) (hn : n + 32 ≤ 1000000000) :
    Calls Try.prog 26 #[.pointer (some ⟨p, 0, none⟩), .int .u32 (numU f (b + d) : Nat), .int .u32 (q : Nat)] w fun e w' =>
      e = .returned (.bool (decide (0 < d) || ackN A (b + d) s q 32)) ∧ WinAt w' p mb (n + 32) f cnt sz (b + d) s (ackA A (b + d) s q 32) ∧ Touch (WnS p mb) w w' := by
  have hbs := h.bs
  have hss := h.ss
  have hz2 := h.z2
  have hsc := h.sc
  have hcc := h.c2
  have hin := fun W => sin_calls (numU f (b + d)) (numU f b) ((s - b + 1 : Nat) : Int) (numU_lt _ _) (numU_lt _ _) (by omega) W
  rw [inS_num f b d (by omega), decide_eq_true (by omega)] at hin
  obtain ⟨c0, c1, c2, c3, c4⟩ := h.box.cells
  have hM : s - b ≤ 1048576 := by omega
  have hadv := fun W hT => wadv_calls (h.still (w' := W) hT) d hds
  have HIN := Lib.hid hin
  have HADV := Lib.hid hadv
  have HX := Lib.hid h
  clear hin hadv h
  obtain ⟨nb, hnb⟩ : ∃ nb, nb = numU f b := ⟨_, rfl⟩
  obtain ⟨u, hu⟩ : ∃ u, u = numU f (b + d) := ⟨_, rfl⟩
  obtain ⟨M, hMe⟩ : ∃ M, M = s - b := ⟨_, rfl⟩
  rw [← hnb] at c0 HIN
  rw [← hu] at HIN HADV ⊢
  rw [← hMe] at hds hM c2 HIN
  have HF := Lib.hid (⟨hMe, hu⟩ : M = s - b ∧ u = numU f (b + d))
  clear hnb hu hMe
  have y1 : IntKind.i64.wrap ((M : Int) + 1) = ((M + 1 : Nat) : Int) := by rw [IntWalk.i64_in _ (by omega)]; omega
  generalize M + 1 = M1 at *
  go_enter Try.func26, Try.ntmps26
  go_upto_region 1 with fail
  go_quiet (first | (go_at_call 36; with_reducible exact quiet_same (HIN.out _)))
  go_wp2_with fail
  refine (HADV.out _ ((Touch.refl _ w).drewN _)).mono ?_
  rintro e w2 ⟨rfl, h2, hT2⟩
  have HT2 := Lib.hid (((Touch.refl (WnS p mb) w).drewN _).trans hT2)
  have H2 := Lib.hid h2
  clear h2 hT2 c0 c1 c2 c3 c4
  go_wp2_with fail
  go_loopw [7, 28] (fun nv kv wr => ∃ k : Nat, k ≤ 32 ∧ kv = .int .u32 (k : Nat) ∧ nv = .bool (decide (0 < d) || ackN A (b + d) s q k) ∧ RowKit.Hid (WinAt wr p mb (n + k) f cnt sz (b + d) s (ackA A (b + d) s q k)) ∧ RowKit.Hid (Touch (WnS p mb) w wr)) (fun _ kv _ => 32 - (intOf kv).toNat)
  case atStart => exact ⟨0, by omega, rfl, by unfold ackN; simp, Lib.hid (H2.out.congr fun i => (ackA_zero A (b + d) s q i).symm), HT2⟩
  case round =>
    obtain ⟨k, hk, rfl, rfl, HW, HT⟩ := hrel
    by_cases hlt : k < 32
    · have hltI : (k : Int) < 32 := by omega
      have hbv := bit_val q k
      by_cases hb : bitB q k = true
      · rw [hb, if_pos rfl] at hbv
        have hnum : (((u : Int) + 1 + (k : Int)) % 4294967296) = ((numU f (b + d + (1 + k)) : Nat) : Int) := by
          have := HF.out.2; rw [this]; unfold numU; omega
        have hmk := wmark_calls HW.out (1 + k) (by omega) (by omega) (by omega)
        rw [ackA_at] at hmk
        have HMK := Lib.hid hmk
        have HB := Lib.hid hb
        have HNS := Lib.hid (ackN_succ A (b + d) s q k)
        rw [hb] at HNS
        have HDE : Hid (decide (1 + k < s - (b + d)) = decide (b + d + 1 + k < s)) := Lib.hid (decide_eq_decide.2 (by omega))
        clear hmk hb
        generalize ackN A (b + d) s q k = N0 at *
        go_wp2_with fail
        refine HMK.out.mono ?_
        rintro e w4 ⟨rfl, h4, hT4⟩
        rw [HDE.out]
        have H4 := Lib.hid h4
        have HT4 := Lib.hid (HT.out.trans hT4)
        clear h4 hT4 hbv hnum
        have HA4 : Hid (WinAt w4 p mb (n + (k + 1)) f cnt sz (b + d) s (ackA A (b + d) s q (k + 1))) := Lib.hid (H4.out.congr fun i => ackA_set A (b + d) s q k HB.out i)
        generalize (decide (b + d + 1 + k < s) && !A (b + d + 1 + k)) = m at *
        cases m
        · go_wp2_with fail
          go_roundw
          case rel => exact ⟨k + 1, by omega, by go_num, by rw [HNS.out]; simp, HA4, HT4⟩
          case measure => simp [intOf]; omega
        · go_wp2_with fail
          go_roundw
          case rel => exact ⟨k + 1, by omega, by go_num, by rw [HNS.out]; simp, HA4, HT4⟩
          case measure => simp [intOf]; omega
      · have hb' : bitB q k = false := by simpa using hb
        rw [hb', if_neg (by decide)] at hbv
        have HB := Lib.hid hb'
        have HNS := Lib.hid (ackN_succ A (b + d) s q k)
        rw [hb'] at HNS
        have HA4 : Hid (WinAt wr p mb (n + (k + 1)) f cnt sz (b + d) s (ackA A (b + d) s q (k + 1))) := Lib.hid ((HW.out.mono (by omega) (by omega)).congr fun i => ackA_skip A (b + d) s q k HB.out i)
        clear hb hb'
        generalize ackN A (b + d) s q k = N0 at *
        go_wp2_with fail
        go_roundw
        case rel => exact ⟨k + 1, by omega, by go_num, by rw [HNS.out]; simp, HA4, HT⟩
        case measure => simp [intOf]; omega
    · obtain rfl : k = 32 := by omega
      go_wp2_with fail
      go_ret
      exact ⟨rfl, HW.out, HT.out⟩
end Go.Proofs.Ytblngiglfggjfaa

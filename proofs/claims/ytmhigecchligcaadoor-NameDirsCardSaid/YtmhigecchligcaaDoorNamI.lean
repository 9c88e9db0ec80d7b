
/- The contract of the reference's reading of a text. -/
import Derived.Test.YtmhigecchligcaaDoorNamH
namespace Go.Proofs.YtmhigecchligcaaDoor
open Go Go.RowKit
set_option maxRecDepth 100000

set_option maxHeartbeats 8000000 in
theorem refGood_calls (s : ByteArray) (w : World) (hs : s.size ≤ 1000000) : Calls Tryd.prog 24 #[.string s] w fun e w' => e = .returned (.bool (goodFrom s s.size 0)) ∧ w = w' := by
  have hs' : (s.size : Int) ≤ 1000000 := by omega
  obtain ⟨R, hR⟩ : ∃ R, goodFrom s s.size 0 = R := ⟨_, rfl⟩
  rw [hR]
  have HR := Lib.hid hR
  clear hR
  go_enter Tryd.func24, Tryd.ntmps24
  go_wp2
  go_loop [3] (fun i => ∃ pos f : Nat, i = .int .i64 (pos : Int) ∧ pos ≤ s.size ∧ s.size ≤ pos + f ∧ goodFrom s f pos = R) (fun i => s.size - (intOf i).toNat)
  case atStart => exact ⟨0, s.size, rfl, Nat.zero_le _, by omega, HR.out⟩
  case round =>
    obtain ⟨pos, f, rfl, hp0, hf, hgf⟩ := hrel
    by_cases hp : pos < s.size
    · obtain ⟨f, rfl⟩ : ∃ g, f = g + 1 := ⟨f - 1, by omega⟩
      have e0 := byteAt_eq s pos hp
      have hb0 := byteAt_lt s pos
      have hpI : (pos : Int) < (s.size : Int) := by omega
      have HGF := Lib.hid hgf
      clear hgf
      rcases (by omega : byteAt s pos < 128 ∨ (128 ≤ byteAt s pos ∧ byteAt s pos < 192) ∨ (192 ≤ byteAt s pos ∧ byteAt s pos < 224) ∨ (224 ≤ byteAt s pos ∧ byteAt s pos < 240) ∨ (240 ≤ byteAt s pos ∧ byteAt s pos < 248) ∨ 248 ≤ byteAt s pos) with c | c | c | c | c | c
      · obtain ⟨V, hV⟩ : ∃ V, V = byteAt s pos := ⟨_, rfl⟩
        have hst := step_n s pos (s.size - pos) 1 V 0 (by rw [hV]; omega) (by omega)
        have HST := Lib.hid hst
        have hVI : (s[pos].toNat : Int) = (V : Int) := by rw [← e0]; omega
        have hV1 : V < 128 := by omega
        rw [e0] at c hb0
        have c1 : (s[pos].toNat : Int) < 128 := by omega
        have HAB : RowKit.Hid (∀ j, j < 4 → accN s pos V j ≤ 300000000) := Lib.hid (fun j hj => by
          have ha := accN_le s pos V j
          have hp3 : (128 : Nat) ^ j ≤ 128 ^ 3 := Nat.pow_le_pow_right (by decide) (by omega)
          have h2 : (V + 1) * 128 ^ j ≤ 128 * 128 ^ 3 := Nat.mul_le_mul (by omega) hp3
          have h3 : 128 * 128 ^ 3 = 268435456 := by decide
          omega)
        clear hst e0 hV
        by_cases hm : pos + 1 ≤ s.size
        · have hmI : (pos : Int) + 1 ≤ (s.size : Int) := by omega
          have HM := Lib.hid hm
          go_wp2
          go_loop [8, 6] (fun k v => ∃ j : Nat, j < 1 ∧ k = .int .i64 ((j : Int) + 1) ∧ v = .int .i64 ((accN s pos V j : Nat) : Int) ∧ midAll s pos j = true) (fun k _ => 1 - (intOf k).toNat)
          case atStart => exact ⟨0, by omega, rfl, rfl, rfl⟩
          case round =>
            obtain ⟨j, hj, rfl, rfl, hmid⟩ := hrel
            have hA := HAB.out j (by omega)
            have HMID := Lib.hid hmid
            clear hmid
            have HMJ := Lib.hid (show midAll s pos (j + 1) = (midAll s pos j && midB (byteAt s (pos + (j + 1)))) from rfl)
            obtain ⟨A, hAe⟩ : ∃ A, accN s pos V j = A := ⟨_, rfl⟩
            have HACJ' : RowKit.Hid (accN s pos V (j + 1) = 64 * A + byteAt s (pos + (j + 1)) - 128) := Lib.hid (by rw [← hAe]; rfl)
            rw [hAe] at hA ⊢
            have HAE := Lib.hid hAe
            clear hAe c c1 hVI hV1 hm hmI hb0
            by_cases hlt : j + 1 < 1
            · exact absurd hlt (by omega)
            · obtain rfl : j = 0 := by omega
              have HBAD : RowKit.Hid (chkN 1 A 0 = none → R = false) := Lib.hid (fun h => by
                refine from_bad s f pos R hp ?_ HGF.out
                rw [HST.out, if_neg (by have := HM.out; omega), if_pos HMID.out]
                show chkN 1 (accN s pos V 0) 0 = none
                rw [HAE.out]; exact h)
              have HGOOD : RowKit.Hid (chkN 1 A 0 = some 1 → goodFrom s f (pos + 1) = R) := Lib.hid (fun h => by
                refine from_good s f pos 1 R hp ?_ HGF.out
                rw [HST.out, if_neg (by have := HM.out; omega), if_pos HMID.out]
                show chkN 1 (accN s pos V 0) 0 = some 1
                rw [HAE.out]; exact h)
              rcases (by omega : (0 ≤ A ∧ 1114111 < A) ∨ (0 ≤ A ∧ A ≤ 1114111 ∧ 55296 ≤ A ∧ A ≤ 57343) ∨ (0 ≤ A ∧ A < 32) ∨ (0 ≤ A ∧ A = 127) ∨ (0 ≤ A ∧ A = 92) ∨ (0 ≤ A ∧ A < 55296 ∧ 32 ≤ A ∧ A ≠ 127 ∧ A ≠ 92) ∨ (0 ≤ A ∧ 57343 < A ∧ A ≤ 1114111)) with h | h | h | h | h | h | h
              · have x0 : ¬ (A : Int) < 0 := by omega
                have x1 : (1114111 : Int) < (A : Int) := by omega
                have hr := HBAD.out (by unfold chkN; rw [if_pos (by omega)])
                subst hr
                go_wp2
                go_ret
                exact ⟨rfl, rfl⟩
              · have x0 : ¬ (A : Int) < 0 := by omega
                have x1 : ¬ (1114111 : Int) < (A : Int) := by omega
                have x2 : (55296 : Int) ≤ (A : Int) := by omega
                have x3 : (A : Int) ≤ 57343 := by omega
                have hr := HBAD.out (by unfold chkN; rw [if_pos (by omega)])
                subst hr
                go_wp2
                go_ret
                exact ⟨rfl, rfl⟩
              · have x0 : ¬ (A : Int) < 0 := by omega
                have x1 : ¬ (1114111 : Int) < (A : Int) := by omega
                have x2 : ¬ (55296 : Int) ≤ (A : Int) := by omega
                have x3 : (A : Int) < 32 := by omega
                have hr := HBAD.out (by unfold chkN; rw [if_pos (by omega)])
                subst hr
                go_wp2
                go_ret
                exact ⟨rfl, rfl⟩
              · obtain rfl : A = 127 := h.2
                have hr := HBAD.out (by decide)
                subst hr
                go_wp2
                go_ret
                exact ⟨rfl, rfl⟩
              · obtain rfl : A = 92 := h.2
                have hr := HBAD.out (by decide)
                subst hr
                go_wp2
                go_ret
                exact ⟨rfl, rfl⟩
              · have x0 : ¬ (A : Int) < 0 := by omega
                have x1 : ¬ (1114111 : Int) < (A : Int) := by omega
                have x2 : ¬ (55296 : Int) ≤ (A : Int) := by omega
                have x3 : ¬ (A : Int) < 32 := by omega
                have y1 : ((A : Int) == 127) = false := by simp; omega
                have y2 : ((A : Int) == 92) = false := by simp; omega
                have hgo := Lib.hid (HGOOD.out (by unfold chkN; rw [if_neg (by omega)]))
                go_wp2
                go_round
                case rel => exact ⟨pos + 1, f, by go_num, by have := HM.out; omega, by omega, hgo.out⟩
                case measure => simp [intOf]; omega
              · have x0 : ¬ (A : Int) < 0 := by omega
                have x1 : ¬ (1114111 : Int) < (A : Int) := by omega
                have x2 : (55296 : Int) ≤ (A : Int) := by omega
                have x3 : ¬ (A : Int) ≤ 57343 := by omega
                have x4 : ¬ (A : Int) < 32 := by omega
                have y1 : ((A : Int) == 127) = false := by simp; omega
                have y2 : ((A : Int) == 92) = false := by simp; omega
                have hgo := Lib.hid (HGOOD.out (by unfold chkN; rw [if_neg (by omega)]))
                go_wp2
                go_round
                case rel => exact ⟨pos + 1, f, by go_num, by have := HM.out; omega, by omega, hgo.out⟩
                case measure => simp [intOf]; omega
        · exact absurd hp (by omega)
      · have hr := from_bad s f pos R hp (by unfold refStep; rw [if_neg (by omega), if_neg (by omega), if_neg (by omega), if_neg (by omega)]) HGF.out
        subst hr
        rw [e0] at c hb0
        clear e0
        have c1 : ¬ (s[pos].toNat : Int) < 128 := by omega
        have c2 : ¬ (192 : Int) ≤ (s[pos].toNat : Int) := by omega
        have c3 : ¬ (224 : Int) ≤ (s[pos].toNat : Int) := by omega
        have c4 : ¬ (240 : Int) ≤ (s[pos].toNat : Int) := by omega
        go_wp2
        go_ret
        exact ⟨rfl, rfl⟩
      · obtain ⟨V, hV⟩ : ∃ V, V = byteAt s pos - 192 := ⟨_, rfl⟩
        have hst := step_n s pos (s.size - pos) 2 V 128 (by rw [hV]; omega) (by omega)
        have HST := Lib.hid hst
        have hVI : (s[pos].toNat : Int) - 192 = (V : Int) := by rw [← e0]; omega
        have hV1 : V < 128 := by omega
        rw [e0] at c hb0
        have c1 : ¬ (s[pos].toNat : Int) < 128 := by omega
        have c2 : (192 : Int) ≤ (s[pos].toNat : Int) := by omega
        have c3 : (s[pos].toNat : Int) < 224 := by omega
        have HAB : RowKit.Hid (∀ j, j < 4 → accN s pos V j ≤ 300000000) := Lib.hid (fun j hj => by
          have ha := accN_le s pos V j
          have hp3 : (128 : Nat) ^ j ≤ 128 ^ 3 := Nat.pow_le_pow_right (by decide) (by omega)
          have h2 : (V + 1) * 128 ^ j ≤ 128 * 128 ^ 3 := Nat.mul_le_mul (by omega) hp3
          have h3 : 128 * 128 ^ 3 = 268435456 := by decide
          omega)
        clear hst e0 hV
        by_cases hm : pos + 2 ≤ s.size
        · have hmI : (pos : Int) + 2 ≤ (s.size : Int) := by omega
          have HM := Lib.hid hm
          go_wp2
          go_loop [8, 6] (fun k v => ∃ j : Nat, j < 2 ∧ k = .int .i64 ((j : Int) + 1) ∧ v = .int .i64 ((accN s pos V j : Nat) : Int) ∧ midAll s pos j = true) (fun k _ => 2 - (intOf k).toNat)
          case atStart => exact ⟨0, by omega, rfl, rfl, rfl⟩
          case round =>
            obtain ⟨j, hj, rfl, rfl, hmid⟩ := hrel
            have hA := HAB.out j (by omega)
            have HMID := Lib.hid hmid
            clear hmid
            have HMJ := Lib.hid (show midAll s pos (j + 1) = (midAll s pos j && midB (byteAt s (pos + (j + 1)))) from rfl)
            obtain ⟨A, hAe⟩ : ∃ A, accN s pos V j = A := ⟨_, rfl⟩
            have HACJ' : RowKit.Hid (accN s pos V (j + 1) = 64 * A + byteAt s (pos + (j + 1)) - 128) := Lib.hid (by rw [← hAe]; rfl)
            rw [hAe] at hA ⊢
            have HAE := Lib.hid hAe
            clear hAe c c1 c2 c3 hVI hV1 hm hmI hb0
            by_cases hlt : j + 1 < 2
            · have hlt' : (j : Int) + 1 < 2 := by omega
              have hin : pos + (j + 1) < s.size := by have := HM.out; omega
              have hinI : (pos : Int) + ((j : Int) + 1) < (s.size : Int) := by omega
              have hbj := byteAt_eq s (pos + (j + 1)) hin
              obtain ⟨d, hd⟩ : ∃ d, byteAt s (pos + (j + 1)) = d := ⟨_, rfl⟩
              have hd256 : d < 256 := by rw [← hd]; exact byteAt_lt _ _
              rw [hd] at hbj
              have HDD := Lib.hid hd
              clear hd
              have hbj' := hbj.symm
              clear hbj
              have HBAD : RowKit.Hid (¬ (128 ≤ d ∧ d < 192) → R = false) := Lib.hid (fun h => by
                refine from_bad s f pos R hp ?_ HGF.out
                rw [HST.out, if_neg (by have := HM.out; omega), if_neg]
                rw [midAll_mono s pos (j + 1) (2 - 1) (by omega) (by rw [HMJ.out, HDD.out]; unfold midB; cases midAll s pos j <;> simp; omega)]
                decide)
              rcases (by omega : (128 ≤ d ∧ d < 192) ∨ d < 128 ∨ 192 ≤ d) with ⟨q1, q2⟩ | q1 | q1
              · have q1' : ¬ (d : Int) < 128 := by omega
                have q2' : ¬ (192 : Int) ≤ (d : Int) := by omega
                go_wp2
                go_round
                case rel => exact ⟨j + 1, by omega, by go_num, by rw [HACJ'.out, HDD.out]; congr 1; omega, by rw [HMJ.out, HMID.out, HDD.out]; unfold midB; simp; omega⟩
                case measure => simp [intOf]; omega
              · have q1' : (d : Int) < 128 := by omega
                have hr := HBAD.out (by omega)
                subst hr
                go_wp2
                go_ret
                exact ⟨rfl, rfl⟩
              · have q1' : ¬ (d : Int) < 128 := by omega
                have q2' : (192 : Int) ≤ (d : Int) := by omega
                have hr := HBAD.out (by omega)
                subst hr
                go_wp2
                go_ret
                exact ⟨rfl, rfl⟩
            · obtain rfl : j = 1 := by omega
              have HBAD : RowKit.Hid (chkN 2 A 128 = none → R = false) := Lib.hid (fun h => by
                refine from_bad s f pos R hp ?_ HGF.out
                rw [HST.out, if_neg (by have := HM.out; omega), if_pos HMID.out]
                show chkN 2 (accN s pos V 1) 128 = none
                rw [HAE.out]; exact h)
              have HGOOD : RowKit.Hid (chkN 2 A 128 = some 2 → goodFrom s f (pos + 2) = R) := Lib.hid (fun h => by
                refine from_good s f pos 2 R hp ?_ HGF.out
                rw [HST.out, if_neg (by have := HM.out; omega), if_pos HMID.out]
                show chkN 2 (accN s pos V 1) 128 = some 2
                rw [HAE.out]; exact h)
              rcases (by omega : (A < 128) ∨ (128 ≤ A ∧ 1114111 < A) ∨ (128 ≤ A ∧ A ≤ 1114111 ∧ 55296 ≤ A ∧ A ≤ 57343) ∨ (128 ≤ A ∧ A < 32) ∨ (128 ≤ A ∧ A = 127) ∨ (128 ≤ A ∧ A = 92) ∨ (128 ≤ A ∧ A < 55296 ∧ 32 ≤ A ∧ A ≠ 127 ∧ A ≠ 92) ∨ (128 ≤ A ∧ 57343 < A ∧ A ≤ 1114111)) with h | h | h | h | h | h | h | h
              · have x0 : (A : Int) < 128 := by omega
                have hr := HBAD.out (by unfold chkN; rw [if_pos (by omega)])
                subst hr
                go_wp2
                go_ret
                exact ⟨rfl, rfl⟩
              · have x0 : ¬ (A : Int) < 128 := by omega
                have x1 : (1114111 : Int) < (A : Int) := by omega
                have hr := HBAD.out (by unfold chkN; rw [if_pos (by omega)])
                subst hr
                go_wp2
                go_ret
                exact ⟨rfl, rfl⟩
              · have x0 : ¬ (A : Int) < 128 := by omega
                have x1 : ¬ (1114111 : Int) < (A : Int) := by omega
                have x2 : (55296 : Int) ≤ (A : Int) := by omega
                have x3 : (A : Int) ≤ 57343 := by omega
                have hr := HBAD.out (by unfold chkN; rw [if_pos (by omega)])
                subst hr
                go_wp2
                go_ret
                exact ⟨rfl, rfl⟩
              · have x0 : ¬ (A : Int) < 128 := by omega
                have x1 : ¬ (1114111 : Int) < (A : Int) := by omega
                have x2 : ¬ (55296 : Int) ≤ (A : Int) := by omega
                have x3 : (A : Int) < 32 := by omega
                have hr := HBAD.out (by unfold chkN; rw [if_pos (by omega)])
                subst hr
                go_wp2
                go_ret
                exact ⟨rfl, rfl⟩
              · exact absurd h (by omega)
              · exact absurd h (by omega)
              · have x0 : ¬ (A : Int) < 128 := by omega
                have x1 : ¬ (1114111 : Int) < (A : Int) := by omega
                have x2 : ¬ (55296 : Int) ≤ (A : Int) := by omega
                have x3 : ¬ (A : Int) < 32 := by omega
                have y1 : ((A : Int) == 127) = false := by simp; omega
                have y2 : ((A : Int) == 92) = false := by simp; omega
                have hgo := Lib.hid (HGOOD.out (by unfold chkN; rw [if_neg (by omega)]))
                go_wp2
                go_round
                case rel => exact ⟨pos + 2, f, by go_num, by have := HM.out; omega, by omega, hgo.out⟩
                case measure => simp [intOf]; omega
              · have x0 : ¬ (A : Int) < 128 := by omega
                have x1 : ¬ (1114111 : Int) < (A : Int) := by omega
                have x2 : (55296 : Int) ≤ (A : Int) := by omega
                have x3 : ¬ (A : Int) ≤ 57343 := by omega
                have x4 : ¬ (A : Int) < 32 := by omega
                have y1 : ((A : Int) == 127) = false := by simp; omega
                have y2 : ((A : Int) == 92) = false := by simp; omega
                have hgo := Lib.hid (HGOOD.out (by unfold chkN; rw [if_neg (by omega)]))
                go_wp2
                go_round
                case rel => exact ⟨pos + 2, f, by go_num, by have := HM.out; omega, by omega, hgo.out⟩
                case measure => simp [intOf]; omega
        · have hmI : ¬ (pos : Int) + 2 ≤ (s.size : Int) := by omega
          have hmI2 : (s.size : Int) < (pos : Int) + 2 := by omega
          have hr := from_bad s f pos R hp (by rw [HST.out, if_pos (by omega)]) HGF.out
          subst hr
          go_wp2
          go_ret
          exact ⟨rfl, rfl⟩
      · obtain ⟨V, hV⟩ : ∃ V, V = byteAt s pos - 224 := ⟨_, rfl⟩
        have hst := step_n s pos (s.size - pos) 3 V 2048 (by rw [hV]; omega) (by omega)
        have HST := Lib.hid hst
        have hVI : (s[pos].toNat : Int) - 224 = (V : Int) := by rw [← e0]; omega
        have hV1 : V < 128 := by omega
        rw [e0] at c hb0
        have c1 : ¬ (s[pos].toNat : Int) < 128 := by omega
        have c2 : (192 : Int) ≤ (s[pos].toNat : Int) := by omega
        have c3 : ¬ (s[pos].toNat : Int) < 224 := by omega
        have c4 : (224 : Int) ≤ (s[pos].toNat : Int) := by omega
        have c5 : (s[pos].toNat : Int) < 240 := by omega
        have HAB : RowKit.Hid (∀ j, j < 4 → accN s pos V j ≤ 300000000) := Lib.hid (fun j hj => by
          have ha := accN_le s pos V j
          have hp3 : (128 : Nat) ^ j ≤ 128 ^ 3 := Nat.pow_le_pow_right (by decide) (by omega)
          have h2 : (V + 1) * 128 ^ j ≤ 128 * 128 ^ 3 := Nat.mul_le_mul (by omega) hp3
          have h3 : 128 * 128 ^ 3 = 268435456 := by decide
          omega)
        clear hst e0 hV
        by_cases hm : pos + 3 ≤ s.size
        · have hmI : (pos : Int) + 3 ≤ (s.size : Int) := by omega
          have HM := Lib.hid hm
          go_wp2
          go_loop [8, 6] (fun k v => ∃ j : Nat, j < 3 ∧ k = .int .i64 ((j : Int) + 1) ∧ v = .int .i64 ((accN s pos V j : Nat) : Int) ∧ midAll s pos j = true) (fun k _ => 3 - (intOf k).toNat)
          case atStart => exact ⟨0, by omega, rfl, rfl, rfl⟩
          case round =>
            obtain ⟨j, hj, rfl, rfl, hmid⟩ := hrel
            have hA := HAB.out j (by omega)
            have HMID := Lib.hid hmid
            clear hmid
            have HMJ := Lib.hid (show midAll s pos (j + 1) = (midAll s pos j && midB (byteAt s (pos + (j + 1)))) from rfl)
            obtain ⟨A, hAe⟩ : ∃ A, accN s pos V j = A := ⟨_, rfl⟩
            have HACJ' : RowKit.Hid (accN s pos V (j + 1) = 64 * A + byteAt s (pos + (j + 1)) - 128) := Lib.hid (by rw [← hAe]; rfl)
            rw [hAe] at hA ⊢
            have HAE := Lib.hid hAe
            clear hAe c c1 c2 c3 c4 c5 hVI hV1 hm hmI hb0
            by_cases hlt : j + 1 < 3
            · have hlt' : (j : Int) + 1 < 3 := by omega
              have hin : pos + (j + 1) < s.size := by have := HM.out; omega
              have hinI : (pos : Int) + ((j : Int) + 1) < (s.size : Int) := by omega
              have hbj := byteAt_eq s (pos + (j + 1)) hin
              obtain ⟨d, hd⟩ : ∃ d, byteAt s (pos + (j + 1)) = d := ⟨_, rfl⟩
              have hd256 : d < 256 := by rw [← hd]; exact byteAt_lt _ _
              rw [hd] at hbj
              have HDD := Lib.hid hd
              clear hd
              have hbj' := hbj.symm
              clear hbj
              have HBAD : RowKit.Hid (¬ (128 ≤ d ∧ d < 192) → R = false) := Lib.hid (fun h => by
                refine from_bad s f pos R hp ?_ HGF.out
                rw [HST.out, if_neg (by have := HM.out; omega), if_neg]
                rw [midAll_mono s pos (j + 1) (3 - 1) (by omega) (by rw [HMJ.out, HDD.out]; unfold midB; cases midAll s pos j <;> simp; omega)]
                decide)
              rcases (by omega : (128 ≤ d ∧ d < 192) ∨ d < 128 ∨ 192 ≤ d) with ⟨q1, q2⟩ | q1 | q1
              · have q1' : ¬ (d : Int) < 128 := by omega
                have q2' : ¬ (192 : Int) ≤ (d : Int) := by omega
                go_wp2
                go_round
                case rel => exact ⟨j + 1, by omega, by go_num, by rw [HACJ'.out, HDD.out]; congr 1; omega, by rw [HMJ.out, HMID.out, HDD.out]; unfold midB; simp; omega⟩
                case measure => simp [intOf]; omega
              · have q1' : (d : Int) < 128 := by omega
                have hr := HBAD.out (by omega)
                subst hr
                go_wp2
                go_ret
                exact ⟨rfl, rfl⟩
              · have q1' : ¬ (d : Int) < 128 := by omega
                have q2' : (192 : Int) ≤ (d : Int) := by omega
                have hr := HBAD.out (by omega)
                subst hr
                go_wp2
                go_ret
                exact ⟨rfl, rfl⟩
            · obtain rfl : j = 2 := by omega
              have HBAD : RowKit.Hid (chkN 3 A 2048 = none → R = false) := Lib.hid (fun h => by
                refine from_bad s f pos R hp ?_ HGF.out
                rw [HST.out, if_neg (by have := HM.out; omega), if_pos HMID.out]
                show chkN 3 (accN s pos V 2) 2048 = none
                rw [HAE.out]; exact h)
              have HGOOD : RowKit.Hid (chkN 3 A 2048 = some 3 → goodFrom s f (pos + 3) = R) := Lib.hid (fun h => by
                refine from_good s f pos 3 R hp ?_ HGF.out
                rw [HST.out, if_neg (by have := HM.out; omega), if_pos HMID.out]
                show chkN 3 (accN s pos V 2) 2048 = some 3
                rw [HAE.out]; exact h)
              rcases (by omega : (A < 2048) ∨ (2048 ≤ A ∧ 1114111 < A) ∨ (2048 ≤ A ∧ A ≤ 1114111 ∧ 55296 ≤ A ∧ A ≤ 57343) ∨ (2048 ≤ A ∧ A < 32) ∨ (2048 ≤ A ∧ A = 127) ∨ (2048 ≤ A ∧ A = 92) ∨ (2048 ≤ A ∧ A < 55296 ∧ 32 ≤ A ∧ A ≠ 127 ∧ A ≠ 92) ∨ (2048 ≤ A ∧ 57343 < A ∧ A ≤ 1114111)) with h | h | h | h | h | h | h | h
              · have x0 : (A : Int) < 2048 := by omega
                have hr := HBAD.out (by unfold chkN; rw [if_pos (by omega)])
                subst hr
                go_wp2
                go_ret
                exact ⟨rfl, rfl⟩
              · have x0 : ¬ (A : Int) < 2048 := by omega
                have x1 : (1114111 : Int) < (A : Int) := by omega
                have hr := HBAD.out (by unfold chkN; rw [if_pos (by omega)])
                subst hr
                go_wp2
                go_ret
                exact ⟨rfl, rfl⟩
              · have x0 : ¬ (A : Int) < 2048 := by omega
                have x1 : ¬ (1114111 : Int) < (A : Int) := by omega
                have x2 : (55296 : Int) ≤ (A : Int) := by omega
                have x3 : (A : Int) ≤ 57343 := by omega
                have hr := HBAD.out (by unfold chkN; rw [if_pos (by omega)])
                subst hr
                go_wp2
                go_ret
                exact ⟨rfl, rfl⟩
              · have x0 : ¬ (A : Int) < 2048 := by omega
                have x1 : ¬ (1114111 : Int) < (A : Int) := by omega
                have x2 : ¬ (55296 : Int) ≤ (A : Int) := by omega
                have x3 : (A : Int) < 32 := by omega
                have hr := HBAD.out (by unfold chkN; rw [if_pos (by omega)])
                subst hr
                go_wp2
                go_ret
                exact ⟨rfl, rfl⟩
              · exact absurd h (by omega)
              · exact absurd h (by omega)
              · have x0 : ¬ (A : Int) < 2048 := by omega
                have x1 : ¬ (1114111 : Int) < (A : Int) := by omega
                have x2 : ¬ (55296 : Int) ≤ (A : Int) := by omega
                have x3 : ¬ (A : Int) < 32 := by omega
                have y1 : ((A : Int) == 127) = false := by simp; omega
                have y2 : ((A : Int) == 92) = false := by simp; omega
                have hgo := Lib.hid (HGOOD.out (by unfold chkN; rw [if_neg (by omega)]))
                go_wp2
                go_round
                case rel => exact ⟨pos + 3, f, by go_num, by have := HM.out; omega, by omega, hgo.out⟩
                case measure => simp [intOf]; omega
              · have x0 : ¬ (A : Int) < 2048 := by omega
                have x1 : ¬ (1114111 : Int) < (A : Int) := by omega
                have x2 : (55296 : Int) ≤ (A : Int) := by omega
                have x3 : ¬ (A : Int) ≤ 57343 := by omega
                have x4 : ¬ (A : Int) < 32 := by omega
                have y1 : ((A : Int) == 127) = false := by simp; omega
                have y2 : ((A : Int) == 92) = false := by simp; omega
                have hgo := Lib.hid (HGOOD.out (by unfold chkN; rw [if_neg (by omega)]))
                go_wp2
                go_round
                case rel => exact ⟨pos + 3, f, by go_num, by have := HM.out; omega, by omega, hgo.out⟩
                case measure => simp [intOf]; omega
        · have hmI : ¬ (pos : Int) + 3 ≤ (s.size : Int) := by omega
          have hmI2 : (s.size : Int) < (pos : Int) + 3 := by omega
          have hr := from_bad s f pos R hp (by rw [HST.out, if_pos (by omega)]) HGF.out
          subst hr
          go_wp2
          go_ret
          exact ⟨rfl, rfl⟩
      · obtain ⟨V, hV⟩ : ∃ V, V = byteAt s pos - 240 := ⟨_, rfl⟩
        have hst := step_n s pos (s.size - pos) 4 V 65536 (by rw [hV]; omega) (by omega)
        have HST := Lib.hid hst
        have hVI : (s[pos].toNat : Int) - 240 = (V : Int) := by rw [← e0]; omega
        have hV1 : V < 128 := by omega
        rw [e0] at c hb0
        have c1 : ¬ (s[pos].toNat : Int) < 128 := by omega
        have c2 : (192 : Int) ≤ (s[pos].toNat : Int) := by omega
        have c3 : ¬ (s[pos].toNat : Int) < 224 := by omega
        have c4 : (224 : Int) ≤ (s[pos].toNat : Int) := by omega
        have c5 : ¬ (s[pos].toNat : Int) < 240 := by omega
        have c6 : (240 : Int) ≤ (s[pos].toNat : Int) := by omega
        have c7 : (s[pos].toNat : Int) < 248 := by omega
        have HAB : RowKit.Hid (∀ j, j < 4 → accN s pos V j ≤ 300000000) := Lib.hid (fun j hj => by
          have ha := accN_le s pos V j
          have hp3 : (128 : Nat) ^ j ≤ 128 ^ 3 := Nat.pow_le_pow_right (by decide) (by omega)
          have h2 : (V + 1) * 128 ^ j ≤ 128 * 128 ^ 3 := Nat.mul_le_mul (by omega) hp3
          have h3 : 128 * 128 ^ 3 = 268435456 := by decide
          omega)
        clear hst e0 hV
        by_cases hm : pos + 4 ≤ s.size
        · have hmI : (pos : Int) + 4 ≤ (s.size : Int) := by omega
          have HM := Lib.hid hm
          go_wp2
          go_loop [8, 6] (fun k v => ∃ j : Nat, j < 4 ∧ k = .int .i64 ((j : Int) + 1) ∧ v = .int .i64 ((accN s pos V j : Nat) : Int) ∧ midAll s pos j = true) (fun k _ => 4 - (intOf k).toNat)
          case atStart => exact ⟨0, by omega, rfl, rfl, rfl⟩
          case round =>
            obtain ⟨j, hj, rfl, rfl, hmid⟩ := hrel
            have hA := HAB.out j (by omega)
            have HMID := Lib.hid hmid
            clear hmid
            have HMJ := Lib.hid (show midAll s pos (j + 1) = (midAll s pos j && midB (byteAt s (pos + (j + 1)))) from rfl)
            obtain ⟨A, hAe⟩ : ∃ A, accN s pos V j = A := ⟨_, rfl⟩
            have HACJ' : RowKit.Hid (accN s pos V (j + 1) = 64 * A + byteAt s (pos + (j + 1)) - 128) := Lib.hid (by rw [← hAe]; rfl)
            rw [hAe] at hA ⊢
            have HAE := Lib.hid hAe
            clear hAe c c1 c2 c3 c4 c5 c6 c7 hVI hV1 hm hmI hb0
            by_cases hlt : j + 1 < 4
            · have hlt' : (j : Int) + 1 < 4 := by omega
              have hin : pos + (j + 1) < s.size := by have := HM.out; omega
              have hinI : (pos : Int) + ((j : Int) + 1) < (s.size : Int) := by omega
              have hbj := byteAt_eq s (pos + (j + 1)) hin
              obtain ⟨d, hd⟩ : ∃ d, byteAt s (pos + (j + 1)) = d := ⟨_, rfl⟩
              have hd256 : d < 256 := by rw [← hd]; exact byteAt_lt _ _
              rw [hd] at hbj
              have HDD := Lib.hid hd
              clear hd
              have hbj' := hbj.symm
              clear hbj
              have HBAD : RowKit.Hid (¬ (128 ≤ d ∧ d < 192) → R = false) := Lib.hid (fun h => by
                refine from_bad s f pos R hp ?_ HGF.out
                rw [HST.out, if_neg (by have := HM.out; omega), if_neg]
                rw [midAll_mono s pos (j + 1) (4 - 1) (by omega) (by rw [HMJ.out, HDD.out]; unfold midB; cases midAll s pos j <;> simp; omega)]
                decide)
              rcases (by omega : (128 ≤ d ∧ d < 192) ∨ d < 128 ∨ 192 ≤ d) with ⟨q1, q2⟩ | q1 | q1
              · have q1' : ¬ (d : Int) < 128 := by omega
                have q2' : ¬ (192 : Int) ≤ (d : Int) := by omega
                go_wp2
                go_round
                case rel => exact ⟨j + 1, by omega, by go_num, by rw [HACJ'.out, HDD.out]; congr 1; omega, by rw [HMJ.out, HMID.out, HDD.out]; unfold midB; simp; omega⟩
                case measure => simp [intOf]; omega
              · have q1' : (d : Int) < 128 := by omega
                have hr := HBAD.out (by omega)
                subst hr
                go_wp2
                go_ret
                exact ⟨rfl, rfl⟩
              · have q1' : ¬ (d : Int) < 128 := by omega
                have q2' : (192 : Int) ≤ (d : Int) := by omega
                have hr := HBAD.out (by omega)
                subst hr
                go_wp2
                go_ret
                exact ⟨rfl, rfl⟩
            · obtain rfl : j = 3 := by omega
              have HBAD : RowKit.Hid (chkN 4 A 65536 = none → R = false) := Lib.hid (fun h => by
                refine from_bad s f pos R hp ?_ HGF.out
                rw [HST.out, if_neg (by have := HM.out; omega), if_pos HMID.out]
                show chkN 4 (accN s pos V 3) 65536 = none
                rw [HAE.out]; exact h)
              have HGOOD : RowKit.Hid (chkN 4 A 65536 = some 4 → goodFrom s f (pos + 4) = R) := Lib.hid (fun h => by
                refine from_good s f pos 4 R hp ?_ HGF.out
                rw [HST.out, if_neg (by have := HM.out; omega), if_pos HMID.out]
                show chkN 4 (accN s pos V 3) 65536 = some 4
                rw [HAE.out]; exact h)
              rcases (by omega : (A < 65536) ∨ (65536 ≤ A ∧ 1114111 < A) ∨ (65536 ≤ A ∧ A ≤ 1114111 ∧ 55296 ≤ A ∧ A ≤ 57343) ∨ (65536 ≤ A ∧ A < 32) ∨ (65536 ≤ A ∧ A = 127) ∨ (65536 ≤ A ∧ A = 92) ∨ (65536 ≤ A ∧ A < 55296 ∧ 32 ≤ A ∧ A ≠ 127 ∧ A ≠ 92) ∨ (65536 ≤ A ∧ 57343 < A ∧ A ≤ 1114111)) with h | h | h | h | h | h | h | h
              · have x0 : (A : Int) < 65536 := by omega
                have hr := HBAD.out (by unfold chkN; rw [if_pos (by omega)])
                subst hr
                go_wp2
                go_ret
                exact ⟨rfl, rfl⟩
              · have x0 : ¬ (A : Int) < 65536 := by omega
                have x1 : (1114111 : Int) < (A : Int) := by omega
                have hr := HBAD.out (by unfold chkN; rw [if_pos (by omega)])
                subst hr
                go_wp2
                go_ret
                exact ⟨rfl, rfl⟩
              · have x0 : ¬ (A : Int) < 65536 := by omega
                have x1 : ¬ (1114111 : Int) < (A : Int) := by omega
                have x2 : (55296 : Int) ≤ (A : Int) := by omega
                have x3 : (A : Int) ≤ 57343 := by omega
                have hr := HBAD.out (by unfold chkN; rw [if_pos (by omega)])
                subst hr
                go_wp2
                go_ret
                exact ⟨rfl, rfl⟩
              · have x0 : ¬ (A : Int) < 65536 := by omega
                have x1 : ¬ (1114111 : Int) < (A : Int) := by omega
                have x2 : ¬ (55296 : Int) ≤ (A : Int) := by omega
                have x3 : (A : Int) < 32 := by omega
                have hr := HBAD.out (by unfold chkN; rw [if_pos (by omega)])
                subst hr
                go_wp2
                go_ret
                exact ⟨rfl, rfl⟩
              · exact absurd h (by omega)
              · exact absurd h (by omega)
              · have x0 : ¬ (A : Int) < 65536 := by omega
                have x1 : ¬ (1114111 : Int) < (A : Int) := by omega
                have x2 : ¬ (55296 : Int) ≤ (A : Int) := by omega
                have x3 : ¬ (A : Int) < 32 := by omega
                have y1 : ((A : Int) == 127) = false := by simp; omega
                have y2 : ((A : Int) == 92) = false := by simp; omega
                have hgo := Lib.hid (HGOOD.out (by unfold chkN; rw [if_neg (by omega)]))
                go_wp2
                go_round
                case rel => exact ⟨pos + 4, f, by go_num, by have := HM.out; omega, by omega, hgo.out⟩
                case measure => simp [intOf]; omega
              · have x0 : ¬ (A : Int) < 65536 := by omega
                have x1 : ¬ (1114111 : Int) < (A : Int) := by omega
                have x2 : (55296 : Int) ≤ (A : Int) := by omega
                have x3 : ¬ (A : Int) ≤ 57343 := by omega
                have x4 : ¬ (A : Int) < 32 := by omega
                have y1 : ((A : Int) == 127) = false := by simp; omega
                have y2 : ((A : Int) == 92) = false := by simp; omega
                have hgo := Lib.hid (HGOOD.out (by unfold chkN; rw [if_neg (by omega)]))
                go_wp2
                go_round
                case rel => exact ⟨pos + 4, f, by go_num, by have := HM.out; omega, by omega, hgo.out⟩
                case measure => simp [intOf]; omega
        · have hmI : ¬ (pos : Int) + 4 ≤ (s.size : Int) := by omega
          have hmI2 : (s.size : Int) < (pos : Int) + 4 := by omega
          have hr := from_bad s f pos R hp (by rw [HST.out, if_pos (by omega)]) HGF.out
          subst hr
          go_wp2
          go_ret
          exact ⟨rfl, rfl⟩
      · have hr := from_bad s f pos R hp (by unfold refStep; rw [if_neg (by omega), if_neg (by omega), if_neg (by omega), if_neg (by omega)]) HGF.out
        subst hr
        rw [e0] at c hb0
        clear e0
        have c1 : ¬ (s[pos].toNat : Int) < 128 := by omega
        have c2 : (192 : Int) ≤ (s[pos].toNat : Int) := by omega
        have c3 : ¬ (s[pos].toNat : Int) < 224 := by omega
        have c4 : (224 : Int) ≤ (s[pos].toNat : Int) := by omega
        have c5 : ¬ (s[pos].toNat : Int) < 240 := by omega
        have c6 : (240 : Int) ≤ (s[pos].toNat : Int) := by omega
        have c7 : ¬ (s[pos].toNat : Int) < 248 := by omega
        go_wp2
        go_ret
        exact ⟨rfl, rfl⟩
    · have hpI : ¬ (pos : Int) < (s.size : Int) := by omega
      have hRt : R = true := by
        rw [← hgf]
        cases f with
        | zero => rfl
        | succ f => unfold goodFrom; rw [if_neg hp]
      subst hRt
      clear hgf HR
      go_wp2
      go_ret
      exact ⟨rfl, rfl⟩
end Go.Proofs.YtmhigecchligcaaDoor

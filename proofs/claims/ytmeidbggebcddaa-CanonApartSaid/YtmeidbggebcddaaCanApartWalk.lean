/- The walk of layer 3's statement that no word begins another one. -/
import Derived.Test.YtmeidbggebcddaaCanW
namespace Go.Proofs.Ytmeidbggebcddaa
open Go Go.RowKit
set_option maxRecDepth 100000

set_option maxHeartbeats 800000 in
theorem apart_calls (xs : List Int) (v : Value) (w : World) (hv : Reads w v (intsV xs)) : Calls Try.prog 6 #[v] w fun e w' => e = .returned (.bool true) ∧ Touch (fun _ => False) w w' := by
  obtain ⟨a, cap, hvf, hxl⟩ := ints_form hv
  subst hvf
  go_enter Try.func6, Try.ntmps6
  go_wp2_with fail
  refine (speaks3_calls w).mono ?_
  rintro e w1 ⟨rfl, ht1⟩
  go_wp2_with fail
  refine (new_calls xs true _ w1 (hv.still ht1)).mono ?_
  rintro e w2 ⟨ht2, ⟨hne, rfl⟩ | ⟨hw0, hxs, b, rfl, hC⟩⟩
  · have hne' : ((whyN xs true : Nat) : Int) ≠ 0 := by omega
    have HT := Lib.hid (ht1.trans ht2)
    clear ht1 ht2 hne
    generalize ((whyN xs true : Nat) : Int) = z at hne'
    go_wp2_with fail
    go_ret
    exact ⟨rfl, HT.out⟩
  · have hT := ht1.trans ht2
    have hlen : (xs.map Int.toNat).length = xs.length := List.length_map ..
    clear hw0 hxs hv ht1 ht2
    generalize xs.map Int.toNat = ls at hC hlen
    have HLEN := Lib.hid hlen
    clear hlen
    have H15 := Lib.hid hC.h15
    have HK := Lib.hid hC.hk
    have hln := hC.hn
    generalize w1.heap.size = n0 at hC
    generalize w2.heap.size = n1 at hC
    go_wp2_with fail
    go_loopw [2, 5, 6, 7, 8, 9, 10] (fun r i _ _ _ _ _ wr => r = .bool false ∧ ∃ k : Nat, k ≤ xs.length ∧ i = .int .i64 k ∧ CodeAt wr b ls n0 n1 ∧ Touch (fun _ => False) w wr) (fun _ i _ _ _ _ _ _ => xs.length - (intOf i).toNat)
    case atStart => exact ⟨rfl, 0, Nat.zero_le _, rfl, hC, hT⟩
    case round =>
      clear hC hT
      obtain ⟨rfl, i, hi, rfl, hC, hT⟩ := hrel
      by_cases hlt : i < xs.length
      · have hil : i < ls.length := by rw [HLEN.out]; exact hlt
        go_wp2_with fail
        go_loopw [2, 6, 7, 8, 9, 10] (fun r j _ _ _ _ wr => r = .bool false ∧ ∃ k : Nat, k ≤ xs.length ∧ j = .int .i64 k ∧ CodeAt wr b ls n0 n1 ∧ Touch (fun _ => False) w wr) (fun _ j _ _ _ _ _ => xs.length - (intOf j).toNat)
        case atStart => exact ⟨rfl, 0, Nat.zero_le _, rfl, hC, hT⟩
        case round =>
          clear hC hT
          obtain ⟨rfl, k, hk, rfl, hC, hT⟩ := hrel
          by_cases hltk : k < xs.length
          · have hkl : k < ls.length := by rw [HLEN.out]; exact hltk
            have hw1 := Lib.hid (word_in b n0 n1 ls i wr hC hil)
            have hC' := Lib.hid (fun q => hC.still ((Touch.refl (fun _ => False) _).drewN q))
            have hw2 := Lib.hid (fun q => word_in b n0 n1 ls k (wr.drewN q) (hC'.out q) hkl)
            have HT := Lib.hid hT
            have hb1 := wordN_lt ls H15.out i hil
            have hb2 := wordN_lt ls H15.out k hkl
            have HAP := Lib.hid (fun hne h0 hle => words_apart ls H15.out HK.out hil hkl hne h0 hle)
            have hd1 := mem_15 ls H15.out i hil
            have hd2 := mem_15 ls H15.out k hkl
            generalize wordN ls i = A at hw1 hb1 HAP
            generalize wordN ls k = B at hw2 hb2 HAP
            generalize ls.getD i 0 = n at hw1 hd1 HAP
            generalize ls.getD k 0 = m at hw2 hd2 HAP
            have hand := peek_and B n (by omega) (by omega)
            obtain ⟨r, hr⟩ : ∃ r, r = B % 2 ^ n := ⟨_, rfl⟩
            rw [← hr] at hand
            have HR := Lib.hid hr
            clear hC hT hr
            go_wp2_with fail
            refine hw1.out.mono ?_
            rintro e w3 ⟨rfl, q1, rfl⟩
            go_wp2_with fail
            refine (hw2.out q1).mono ?_
            rintro e w4 ⟨rfl, q2, rfl⟩
            have HC2 := Lib.hid (((hC'.out q1).still ((Touch.refl (fun _ => False) _).drewN q2)))
            have HT2 := Lib.hid ((HT.out.drewN q1).drewN q2)
            clear hw1 hw2 HT hC'
            generalize (wr.drewN q1).drewN q2 = w5 at HC2 HT2 ⊢
            by_cases hik : i = k
            · subst hik
              clear HAP HR hand
              go_wp2_with fail
              go_roundw
              case rel => exact ⟨rfl, i + 1, by omega, by go_num, HC2.out, HT2.out⟩
              case measure => simp [intOf]; omega
            · have hfin : n ≠ 0 → n ≤ m → A ≠ r := fun h0 hle => by rw [HR.out]; exact HAP.out hik h0 hle
              clear HAP HR
              by_cases hc : n ≠ 0 ∧ n ≤ m
              · have hne := hfin hc.1 hc.2
                clear hfin
                go_wp2_with fail
                all_goals first
                  | omega
                  | (exfalso; have hx : ((i : Int) != (k : Int)) = true ∧ ((A : Int) == (r : Int)) = true := by assumption
                     have h2 := hx.2
                     simp at h2
                     omega)
                  | (go_roundw
                     case rel => exact ⟨rfl, k + 1, by omega, by go_num, HC2.out, HT2.out⟩
                     case measure => simp [intOf]; omega)
              · clear hfin
                go_wp2_with fail
                all_goals first
                  | omega
                  | (exfalso; have hx : ((i : Int) != (k : Int)) = true ∧ ((A : Int) == (r : Int)) = true := by assumption
                     have h2 := hx.2
                     simp at h2
                     omega)
                  | (go_roundw
                     case rel => exact ⟨rfl, k + 1, by omega, by go_num, HC2.out, HT2.out⟩
                     case measure => simp [intOf]; omega)
          · obtain rfl : k = xs.length := by omega
            go_wp2_with fail
            go_roundw
            case rel => exact ⟨rfl, i + 1, by omega, by go_num, hC, hT⟩
            case measure => simp [intOf]; omega
      · obtain rfl : i = xs.length := by omega
        go_wp2_with fail
        go_ret
        exact ⟨rfl, hT⟩
end Go.Proofs.Ytmeidbggebcddaa

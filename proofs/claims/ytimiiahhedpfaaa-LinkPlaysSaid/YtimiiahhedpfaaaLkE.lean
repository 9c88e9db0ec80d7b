/- The document's own Spoil (layer 26). -/
import Derived.Test.YtimiiahhedpfaaaLkD
import Derived.Test.YtimiiahhedpfaaaBitsF
namespace Go.Proofs.Ytimiiahhedpfaaa
open Go Go.RowKit
set_option maxRecDepth 100000

theorem numN_bit (l : List Nat) (h : ∀ x ∈ l, x < 2) (i : Nat) : (numN l).testBit i = decide (l[i]? = some 1) := by
  induction l generalizing i with
  | nil => simp [numN]
  | cons b r ih =>
    have hb := h b List.mem_cons_self
    have hr := fun x hx => h x (List.mem_cons_of_mem b hx)
    cases i with
    | zero =>
      simp only [numN, Nat.testBit_zero, List.getElem?_cons_zero, Option.some.injEq]
      rw [decide_eq_decide]; omega
    | succ i =>
      simp only [numN, Nat.testBit_succ, List.getElem?_cons_succ]
      rw [show (b + 2 * numN r) / 2 = numN r by omega, ih hr]
theorem bytesK_leB (k : Nat) (l : List Nat) (h : ∀ x ∈ l, x < 2) (hl : l.length = 8 * k) : bytesK k l = leB k (numN l) := by
  induction k generalizing l with
  | zero => rfl
  | succ k ih =>
    rw [bytesK, leB, numN_take l h, ih (l.drop 8) (fun x hx => h x (List.mem_of_mem_drop hx)) (by rw [List.length_drop]; omega), numN_drop l h]

/-- Bits of which those are turned that the first K of v's bits hit, and the first I of them by one more. -/
def flipL (a : Int) (v K I : Nat) (b : List Nat) : List Nat := b.mapIdx fun i x => if hitB a v (if i < I then K + 1 else K) i = true then 1 - x else x
theorem flipL_length (a : Int) (v K I : Nat) (b : List Nat) : (flipL a v K I b).length = b.length := by unfold flipL; simp
theorem flipL_at (a : Int) (v K I : Nat) (b : List Nat) (i : Nat) : (flipL a v K I b)[i]? = b[i]?.map fun x => if hitB a v (if i < I then K + 1 else K) i = true then 1 - x else x := by
  unfold flipL; rw [List.getElem?_mapIdx]
theorem flipL_lt {a : Int} {v K I : Nat} {b : List Nat} (h : ∀ x ∈ b, x < 2) : ∀ x ∈ flipL a v K I b, x < 2 := by
  intro x hx
  obtain ⟨i, hi, rfl⟩ := List.mem_iff_getElem.1 hx
  have h1 := flipL_at a v K I b i
  rw [List.getElem?_eq_getElem hi] at h1
  rw [flipL_length] at hi
  rw [List.getElem?_eq_getElem hi] at h1
  have h2 := h _ (List.getElem_mem hi)
  injection h1 with h1
  rw [h1]
  show (if hitB a v (if i < I then K + 1 else K) i = true then 1 - b[i] else b[i]) < 2
  generalize hitB a v (if i < I then K + 1 else K) i = hb
  cases hb
  · exact h2
  · show 1 - b[i] < 2
    omega
theorem flipL_start (a : Int) (v : Nat) (b : List Nat) : flipL a v 0 0 b = b := by
  apply List.ext_getElem?
  intro i
  rw [flipL_at]
  cases b[i]? with
  | none => rfl
  | some x =>
    have : hitB a v 0 i = false := by unfold hitB; rw [decide_eq_false (by omega)]; rfl
    simp [this]
theorem flipL_end (a : Int) (v K : Nat) (b : List Nat) : flipL a v K b.length b = flipL a v (K + 1) 0 b := by
  apply List.ext_getElem?
  intro i
  rw [flipL_at, flipL_at]
  by_cases hi : i < b.length
  · rw [List.getElem?_eq_getElem hi]; simp [hi]
  · rw [List.getElem?_eq_none (by omega)]; rfl
theorem hitB_same {a : Int} {v K i : Nat} (h : ¬ (v.testBit K = true ∧ (i : Int) - K = a)) : hitB a v (K + 1) i = hitB a v K i := by
  unfold hitB
  by_cases e : a ≤ i ∧ (i : Int) < a + K
  · rw [decide_eq_true e, decide_eq_true (show a ≤ i ∧ (i : Int) < a + (K + 1 : Nat) by omega)]
  · by_cases e2 : a ≤ i ∧ (i : Int) < a + (K + 1 : Nat)
    · rw [decide_eq_false e, decide_eq_true e2]
      have ei : (i : Int) = a + K := by omega
      cases hb : v.testBit K with
      | false => rw [show ((i : Int) - a).toNat = K by omega, hb]; rfl
      | true => exact absurd ⟨hb, by omega⟩ h
    · rw [decide_eq_false e, decide_eq_false e2]
theorem hitB_new {a : Int} {v K i : Nat} (h1 : v.testBit K = true) (h2 : (i : Int) - K = a) : hitB a v (K + 1) i = true ∧ hitB a v K i = false := by
  unfold hitB
  rw [decide_eq_true (show a ≤ i ∧ (i : Int) < a + (K + 1 : Nat) by omega), decide_eq_false (show ¬ (a ≤ i ∧ (i : Int) < a + K) by omega), show ((i : Int) - a).toNat = K by omega, h1]
  exact ⟨rfl, rfl⟩
theorem flipL_stay {a : Int} {v K I : Nat} {b : List Nat} (h : ¬ (v.testBit K = true ∧ (I : Int) - K = a)) : flipL a v K (I + 1) b = flipL a v K I b := by
  apply List.ext_getElem?
  intro i
  rw [flipL_at, flipL_at]
  by_cases e : i = I
  · subst e
    rw [if_pos (by omega), if_neg (by omega), hitB_same h]
  · by_cases e2 : i < I
    · rw [if_pos (by omega), if_pos e2]
    · rw [if_neg (by omega), if_neg e2]
theorem flipL_hit {a : Int} {v K I : Nat} {b : List Nat} (h1 : v.testBit K = true) (h2 : (I : Int) - K = a) {x : Nat} (hx : b[I]? = some x) : (flipL a v K I b)[I]? = some x ∧ flipL a v K (I + 1) b = (flipL a v K I b).set I (1 - x) := by
  obtain ⟨e1, e2⟩ := hitB_new h1 h2
  have hat : (flipL a v K I b)[I]? = some x := by
    rw [flipL_at, hx, if_neg (Nat.lt_irrefl I), e2]; rfl
  have hI : I < (flipL a v K I b).length := (List.getElem?_eq_some_iff.1 hat).1
  refine ⟨hat, ?_⟩
  apply List.ext_getElem?
  intro i
  rw [List.getElem?_set]
  by_cases e : I = i
  · subst e
    rw [if_pos rfl, if_pos hI, flipL_at, hx, if_pos (by omega), e1]; rfl
  · rw [if_neg e, flipL_at, flipL_at]
    by_cases e3 : i < I
    · rw [if_pos (by omega), if_pos e3]
    · rw [if_neg (by omega), if_neg e3]
theorem flipL_num (a : Int) (v : Nat) (b : List Nat) (h : ∀ x ∈ b, x < 2) : numN (flipL a v 32 0 b) = numN b ^^^ hitN b.length a v 32 := by
  apply Nat.eq_of_testBit_eq
  intro i
  unfold hitN
  rw [Nat.testBit_xor, packF_bit, numN_bit _ (flipL_lt h), numN_bit _ h, flipL_at, if_neg (Nat.not_lt_zero i)]
  by_cases hi : i < b.length
  · have hx := h _ (List.getElem_mem hi)
    rw [List.getElem?_eq_getElem hi, decide_eq_true hi]
    generalize b[i] = x at hx
    cases hitB a v 32 i with
    | true =>
      rcases (show x = 0 ∨ x = 1 by omega) with rfl | rfl <;> decide
    | false =>
      rcases (show x = 0 ∨ x = 1 by omega) with rfl | rfl <;> decide
  · rw [List.getElem?_eq_none (by omega), decide_eq_false hi]; simp
theorem flipL_bytes (s : ByteArray) (a : Int) (v : Nat) : (⟨(bytesL (flipL a v 32 0 (bitsL s.data.toList))).toArray⟩ : ByteArray) = turnT s a v := by
  have hl : (bitsL s.data.toList).length = 8 * s.size := by rw [bitsL_length, lk_data]
  unfold turnT bytesL
  rw [flipL_length, hl, show 8 * s.size / 8 = s.size by omega, bytesK_leB _ _ (flipL_lt (bitsL_lt _)) (by rw [flipL_length, hl]), flipL_num _ _ _ (bitsL_lt _), numN_bitsL, hl]

set_option maxHeartbeats 4000000 in
theorem refspoil_calls (s : ByteArray) (a : Int) (v : Nat) (w : World) (hs : s.size ≤ 20) (hv : v < 4294967296) :
    Calls Try.prog 35 #[.string s, .int .i64 a, .int .u32 (v : Nat)] w fun e w' => e = .returned (.string (turnT s a v)) ∧ Touch (fun _ => False) w w' := by
  go_enter Try.func35, Try.ntmps35
  go_wp2_with fail
  refine (bits_calls s w (by omega)).mono ?_
  rintro e w1 ⟨r, rfl, hr, hsep, ht1⟩
  have hlen : (bitsL s.data.toList).length = 8 * s.size := by rw [bitsL_length, lk_data]
  obtain ⟨b, hb⟩ : ∃ b, b = bitsL s.data.toList := ⟨_, rfl⟩
  have HB := Lib.hid hb
  have HB2 : Hid (∀ x ∈ b, x < 2) := Lib.hid (by rw [hb]; exact bitsL_lt _)
  rw [← hb] at hr hlen
  obtain ⟨n, hn⟩ : ∃ n, n = b.length := ⟨_, rfl⟩
  have hn160 : n ≤ 160 := by omega
  obtain ⟨ar, cap, hre, hc1, hc2⟩ := hr.form
  rw [intVs_length, ← hn] at hre hc1
  unfold maxLen at hc2
  subst hre
  have HN := Lib.hid hn
  have HSEP := Lib.hid hsep
  have HR : Hid (Row w1 3 (.slice ar n cap) (intVs (flipL a v 0 0 b))) := Lib.hid (by rw [flipL_start]; exact hr)
  have HT1 := Lib.hid ht1
  clear hb hn hr hsep ht1 hlen
  go_wp2_with fail
  go_loopw [8] (fun kv wy => ∃ k : Nat, k ≤ 32 ∧ kv = .int .i64 (k : Nat) ∧ RowKit.Hid (Row wy 3 (.slice ar n cap) (intVs (flipL a v k 0 b))) ∧ RowKit.Hid (Touch (fun _ => False) w wy)) (fun kv _ => 32 - (intOf kv).toNat)
  case atStart => exact ⟨0, Nat.zero_le _, rfl, HR, HT1⟩
  case round =>
    clear HR HT1
    obtain ⟨k, hk, rfl, HR, HT⟩ := hrel
    by_cases hk32 : k < 32
    · have hkI : (k : Int) < 32 := by omega
      obtain ⟨wo, rfl⟩ : ∃ wo : World, wo = wr := ⟨_, rfl⟩
      go_wp2_with fail
      go_loopw [9, 10] (fun vv jv wy => ∃ j m : Nat, j ≤ k ∧ RowKit.Hid (m = v / 2 ^ j) ∧ m < 4294967296 ∧ vv = .int .u32 (m : Nat) ∧ jv = .int .i64 (j : Nat) ∧ RowKit.Hid (wy = wo)) (fun _ jv _ => k - (intOf jv).toNat)
      case atStart => exact ⟨0, v, Nat.zero_le _, Lib.hid (by simp), hv, rfl, rfl, Lib.hid rfl⟩
      case round =>
        obtain ⟨j, m, hj, HM, hm, rfl, rfl, hwq⟩ := hrel
        obtain rfl : wo = wr := hwq.out.symm
        by_cases hjk : j < k
        · have hjI : (j : Int) < (k : Int) := by omega
          go_wp2_with fail
          go_roundw
          case rel => exact ⟨j + 1, m / 2, by omega, Lib.hid (by rw [HM.out, Nat.div_div_eq_div_mul, Nat.pow_succ]), by omega, by go_num, by go_num, Lib.hid trivial⟩
          case measure => simp [intOf]; omega
        · obtain rfl : j = k := by omega
          have hjI : ¬ (j : Int) < (j : Int) := by omega
          go_wp2_with fail
          go_loopw [11] (fun iv wy => ∃ i : Nat, i ≤ n ∧ iv = .int .i64 (i : Nat) ∧ RowKit.Hid (Row wy 3 (.slice ar n cap) (intVs (flipL a v j i b))) ∧ RowKit.Hid (Touch (fun _ => False) w wy)) (fun iv _ => n - (intOf iv).toNat)
          case atStart => exact ⟨0, Nat.zero_le _, rfl, HR, HT⟩
          case round =>
            clear HR HT
            obtain ⟨i, hi, rfl, HR, HT⟩ := hrel
            by_cases hin : i < n
            · have hinI : (i : Int) < (n : Int) := by omega
              obtain ⟨x, hx⟩ : ∃ x, b[i]? = some x := ⟨_, List.getElem?_eq_getElem (by rw [← HN.out]; exact hin)⟩
              by_cases hm2 : m % 2 = 1
              · have hmI : (m : Int) % 2 = 1 := by omega
                have hbit : v.testBit j = true := by
                  rw [Nat.testBit_eq_decide_div_mod_eq, ← HM.out]; exact decide_eq_true hm2
                by_cases hia : (i : Int) - j = a
                · obtain ⟨hat, hset⟩ := flipL_hit hbit hia hx
                  have hx2 : x < 2 := HB2.out x (List.mem_of_getElem? hx)
                  have hrow := HR.out
                  obtain ⟨g, off, cp, hv2, _, hg, hcell⟩ := hrow.addr (by rw [intVs_length, flipL_length, ← HN.out]; omega)
                  rw [intVs_length, flipL_length, ← HN.out] at hv2
                  injection hv2 with e1 _ e3
                  subst e1
                  obtain rfl : cp = cap := e3.symm
                  have hc := hcell i (.int .i64 (x : Nat)) (by simp [intVs, hat])
                  have hf := hrow.free (k := i)
                  have hx1 : (1 : Int) - (x : Int) = ((1 - x : Nat) : Int) := by omega
                  obtain ⟨y, hy⟩ : ∃ y, y = 1 - x := ⟨_, rfl⟩
                  rw [← hy] at hx1 hset
                  have hnew := hrow.set (k := i) hin (.int .i64 (y : Nat))
                  have hnewL : (intVs (flipL a v j i b)).set i (.int .i64 (y : Nat)) = intVs (flipL a v j (i + 1) b) := by
                    rw [hset]; simp [intVs, List.map_set]
                  rw [hnewL] at hnew
                  have HNEW := Lib.hid hnew
                  have hgw : w.heap.size ≤ g := by
                    rcases HSEP.out with h | ⟨g', h1, h2⟩
                    · cases h
                    · injection h1 with h1
                      have h3 : g = g' := h1
                      omega
                  have HTS := Lib.hid (HT.out.setCell (p := ⟨g, off + i, none⟩) (Or.inr hgw) (.int .i64 (y : Nat)))
                  have hiaB : ((i : Int) - (j : Int) == a) = true := by rw [hia]; simp
                  clear hnew hnewL hset hy hx hat hcell hrow hm2 hbit hx2 hgw
                  go_wp2_with fail
                  go_roundw
                  case rel => exact ⟨i + 1, by omega, by go_num, HNEW, HTS⟩
                  case measure => simp [intOf]; omega
                · have HST := Lib.hid (flipL_stay (b := b) (fun h => hia h.2 : ¬ (v.testBit j = true ∧ (i : Int) - j = a)))
                  have hiaB : ((i : Int) - (j : Int) == a) = false := by rw [beq_eq_false_iff_ne]; exact hia
                  clear hx hm2 hbit
                  go_wp2_with fail
                  go_roundw
                  case rel => exact ⟨i + 1, by omega, by go_num, Lib.hid (by rw [HST.out]; exact HR.out), HT⟩
                  case measure => simp [intOf]; omega
              · have hmI : (m : Int) % 2 = 0 := by omega
                have hbit : v.testBit j = false := by
                  rw [Nat.testBit_eq_decide_div_mod_eq, ← HM.out]; exact decide_eq_false hm2
                have HST := Lib.hid (flipL_stay (b := b) (a := a) (I := i) (fun h => by rw [hbit] at h; cases h.1 : ¬ (v.testBit j = true ∧ (i : Int) - j = a)))
                clear hx hm2 hbit
                go_wp2_with fail
                go_roundw
                case rel => exact ⟨i + 1, by omega, by go_num, Lib.hid (by rw [HST.out]; exact HR.out), HT⟩
                case measure => simp [intOf]; omega
            · obtain rfl : i = n := by omega
              have hinI : ¬ (i : Int) < (i : Int) := by omega
              have HR2 := Lib.hid HR.out
              have HEN : Hid (flipL a v j i b = flipL a v (j + 1) 0 b) := Lib.hid (by rw [HN.out]; exact flipL_end a v j b)
              go_wp2_with fail
              go_roundw
              case rel => exact ⟨j + 1, by omega, by go_num, Lib.hid (by rw [← HEN.out]; exact HR2.out), HT⟩
              case measure => simp [intOf]; omega
    · obtain rfl : k = 32 := by omega
      have hkI : ¬ (32 : Int) < 32 := by omega
      have hby := bytes_calls (flipL a v 32 0 b) (.slice ar n cap) wr HR.out (by rw [flipL_length, ← HN.out]; omega) (flipL_lt HB2.out)
      have HE := flipL_bytes s a v
      rw [← HB.out] at HE
      rw [HE] at hby
      have HBY := Lib.hid hby
      clear hby HE
      go_wp2_with fail
      refine HBY.out.mono ?_
      rintro e w2 ⟨rfl, ht2⟩
      go_wp2_with fail
      go_ret
      exact ⟨rfl, HT.out.trans ht2⟩
end Go.Proofs.Ytimiiahhedpfaaa

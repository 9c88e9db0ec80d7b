/- The statement MatchFar over the translated program. -/
import Derived.Test.YtbjkoepldccaaaaMatQ
import Derived.Test.YtbjkoepldccaaaaMatX
namespace Go.Proofs.Ytbjkoepldccaaaa
open Go Go.RowKit Go.Maps
set_option maxRecDepth 100000

theorem tokF_dist (X : List UInt8) (lv tr : Nat) : ∀ f a m, FoundL X a m → ∀ t ∈ tokF X lv tr f a m, t.d ≤ 32768 := by
  intro f
  induction f with
  | zero => intro a m _ t ht; rw [tokF] at ht; cases ht
  | succ f ih =>
    intro a m hm t ht
    rw [tokF] at ht
    split at ht
    · cases ht
    · split at ht
      · rcases List.mem_cons.1 ht with e | e
        · rw [e]; show (0 : Int) ≤ 32768; decide
        · exact ih _ _ (look_found _ _ _) t e
      · rcases List.mem_cons.1 ht with e | e
        · have := FoundL.le (z := m.1) (d := m.2) hm
          rw [e]; show (m.2 : Int) ≤ 32768; omega
        · exact ih _ _ (look_found _ _ _) t e
theorem tokL_dist (X : List UInt8) (fr lv : Nat) : ∀ t ∈ tokL X fr lv, t.d ≤ 32768 := by
  intro t ht
  unfold tokL at ht
  split at ht
  · obtain ⟨x, _, rfl⟩ := List.mem_map.1 ht
    show (0 : Int) ≤ 32768; decide
  · exact tokF_dist X _ _ _ _ _ (look_found _ _ _) t ht
theorem near_fill (A F : ByteArray) (hF : F.size = 32768) : (A ++ F).extract ((A ++ F).size - 32768) (A ++ F).size = F := by
  have h1 : (A ++ F).size = A.size + F.size := by simp
  rw [h1, show A.size + F.size - 32768 = A.size by omega]
  apply ByteArray.ext
  rw [ByteArray.data_extract, ByteArray.data_append]
  rw [Array.extract_append]
  have e1 : A.data.extract A.size (A.size + F.size) = #[] := Array.eq_empty_of_size_eq_zero (by rw [Array.size_extract]; show min _ A.size - A.size = 0; omega)
  have e2 : F.data.extract (A.size - A.data.size) (A.size + F.size - A.data.size) = F.data := by
    rw [show A.size - A.data.size = 0 from Nat.sub_self _, show A.size + F.size - A.data.size = F.data.size by show A.size + F.size - A.size = F.size; omega]
    exact Array.extract_size
  rw [e1, e2]
  exact Array.empty_append
theorem made_bytes (n : Nat) : (madeCells (Value.int .u8 0).cells (n * 1)).toList = byteVs (List.replicate n 0) := by
  rw [Nat.mul_one, show (Value.int .u8 0).cells = #[Value.int .u8 0] from rfl, toList_madeCells_one]
  simp [byteVs]
theorem buf_own {w : World} {base : Nat} {e : TypeId} {g n cap : Nat} {xs : List Value} (h : w.ownsRow base e 1 (.slice (some ⟨g, 0, none⟩) n cap) n xs) : Buf w e (.slice (some ⟨g, 0, none⟩) n cap) xs := by
  rcases h.2 with ⟨h1, _⟩ | ⟨g', cap', cur, h1, _, hh, h2, h3, h4, h5⟩
  · cases h1
  · cases h1
    have hl := h.1
    rw [Nat.mul_one] at hl
    exact ⟨g, cap, cur, _, by rw [hl], hh, .inl rfl, by omega, h3, by omega, by rw [← h5, List.length_take]; congr 1; simp; omega⟩

set_option maxHeartbeats 2000000 in
theorem mfar_calls (a b s : ByteArray) (w : World) :
    Calls Try.prog 6 #[.string a, .string b, .string s] w fun e w' => e = .returned (.bool true) ∧ Touch (fun _ => False) w w' := by
  obtain ⟨k, hk⟩ : ∃ k, k = min a.size 50 := ⟨_, rfl⟩
  obtain ⟨q, hq⟩ : ∃ q, q = min b.size 50 := ⟨_, rfl⟩
  obtain ⟨m, hm⟩ : ∃ m, m = min s.size 60 := ⟨_, rfl⟩
  obtain ⟨A, hA⟩ : ∃ A, a.extract 0 k = A := ⟨_, rfl⟩
  obtain ⟨B, hB⟩ : ∃ B, b.extract 0 q = B := ⟨_, rfl⟩
  obtain ⟨S, hS⟩ : ∃ S, s.extract 0 m = S := ⟨_, rfl⟩
  have hk1 : min (a.size : Int) 50 = (k : Int) := by omega
  have hq1 : min (b.size : Int) 50 = (q : Int) := by omega
  have hm1 : min (s.size : Int) 60 = (m : Int) := by omega
  have hk3 : (if (50 : Int) < (a.size : Int) then (50 : Int) else (a.size : Int)) = (k : Int) := by split <;> omega
  have hq3 : (if (50 : Int) < (b.size : Int) then (50 : Int) else (b.size : Int)) = (q : Int) := by split <;> omega
  have hm3 : (if (60 : Int) < (s.size : Int) then (60 : Int) else (s.size : Int)) = (m : Int) := by split <;> omega
  have hk2 : (k : Int) ≤ (a.size : Int) := by omega
  have hq2 : (q : Int) ≤ (b.size : Int) := by omega
  have hm2 : (m : Int) ≤ (s.size : Int) := by omega
  have hk0 : (0 : Int) ≤ (k : Int) := by omega
  have hq0 : (0 : Int) ≤ (q : Int) := by omega
  have hm0 : (0 : Int) ≤ (m : Int) := by omega
  have hAs : A.size ≤ 50 := by rw [← hA]; simp; omega
  have hBs : B.size ≤ 50 := by rw [← hB]; simp; omega
  have hSs : S.size ≤ 60 := by rw [← hS]; simp; omega
  obtain ⟨i0, hi, hz0, hz1, hz2⟩ := info_parts Try.infoU8
  obtain ⟨n, hn⟩ : ∃ n : Nat, n = 32768 := ⟨_, rfl⟩
  have hni : (32768 : Int) = (n : Int) := by omega
  have HNI := Lib.hid hni
  have HN := Lib.hid hn
  have hnb : n ≤ 32768 := by omega
  clear hn
  have HSP := Lib.hid (speaks8_calls w)
  clear hk hm hq hni
  go_enter Try.func6, Try.ntmps6
  go_wp2_with fail
  refine HSP.out.mono ?_
  rintro e w1 ⟨rfl, ht⟩
  have HT := Lib.hid ht
  clear ht
  go_wp2_with fail
  go_quiet (fail)
  go_wp2_with (at_make; refine wpList_make_full _ rfl (.const (.int .i64 32768)) (.const (.int .i64 32768)) 35 rfl (w1.drewN nq).heap.size 5 i0 _ 1 Try.underlying35 hi hz0 hz1 .i64 .i64 _ _ n rfl rfl HNI.out HNI.out (by rw [hz2]; omega) (by unfold maxLen; omega) (Nat.le_refl _) ?_; intro w2 hown hgrow)
  rw [made_bytes] at hown
  obtain ⟨X0, hX0⟩ : ∃ X : List UInt8, X = List.replicate n 0 := ⟨_, rfl⟩
  have hXl : X0.length = n := by rw [hX0]; simp
  rw [← hX0] at hown
  have hcv := run_convert_buf (P := Try.prog) w2 35 5 9 Try.underlying35 Try.underlying5 Try.underlying9 (buf_own hown) (q := 0) (Nat.zero_le _)
  obtain ⟨F, hF⟩ : ∃ F : ByteArray, F = ⟨X0.toArray⟩ := ⟨_, rfl⟩
  have hFs : F.size = n := by rw [hF, ← hXl]; show X0.toArray.size = _; simp
  rw [List.drop_zero, ← hF, Nat.sub_zero] at hcv
  have HT2 := Lib.hid ((HT.out.drewN nq).grown hgrow (fun k h => by cases h))
  have hF32 : F.size = 32768 := by rw [hFs]; exact HN.out
  have HFS := Lib.hid hF32
  have hFb : F.size ≤ 32768 := by omega
  clear hown hgrow hX0 hXl hF hFs HT hF32
  rw [show (w1.drewN nq).heap.size = w1.heap.size by simp] at hcv
  rw [hcv]
  clear hcv
  have hAF : (A ++ F).size = A.size + F.size := by simp
  have hBF : (B ++ F).size = B.size + F.size := by simp
  have HLA := Lib.hid (fun W => Tokens_calls (A ++ F) S F (F ++ S) 9 W (by omega) (by omega) (by omega) (near_fill A F HFS.out).symm rfl)
  have HLB := Lib.hid (fun W => Tokens_calls (B ++ F) S F (F ++ S) 9 W (by omega) (by omega) (by omega) (near_fill B F HFS.out).symm rfl)
  obtain ⟨L, hL⟩ : ∃ L, L = tokL (F ++ S).data.toList F.size 9 := ⟨_, rfl⟩
  have hLl : L.length ≤ S.size := by
    have := tokL_len (F ++ S).data.toList F.size 9
    have e : (F ++ S).size = F.size + S.size := by simp
    rw [← hL, data_length] at this
    omega
  have hDI : ∀ t ∈ L, t.d ≤ 32768 := by rw [hL]; exact tokL_dist _ _ _
  have HDI := Lib.hid hDI
  have hee : expV F.size (expandL F.data.toList L) = .tuple #[.string S, .bool true] := by rw [hL]; exact exp_tokL F S 9
  have HE : RowKit.Hid (∀ v W, Toks W v L → Calls Try.prog 11 #[.string (A ++ F), v] W fun e w' => e = .returned (.tuple #[.string S, .bool true]) ∧ Touch (fun _ => False) W w') := Lib.hid (fun v W hv => by
    rcases Nat.eq_zero_or_pos A.size with h0 | h0
    · have e : A ++ F = F := by
        have : A = ByteArray.empty := by
          apply ByteArray.ext
          exact Array.eq_empty_of_size_eq_zero h0
        rw [this]; simp
      rw [e, ← hee]
      exact expand_calls F L v W hv (by omega) (by omega)
    · rw [← hee]
      refine expand_far (A ++ F) F L v W hv (by omega) (by have := HFS.out; omega) (by omega) ?_ (by omega)
      rw [show (((A ++ F).size : Int) - 32768).toNat = (A ++ F).size - 32768 by omega]
      exact near_fill A F HFS.out)
  rw [← hL] at HLA HLB
  clear hee hL hDI
  go_wp2_with fail
  refine (HLA.out _).mono ?_
  rintro e w3 ⟨⟨va, rfl, hva, _⟩, ht⟩
  have HT3 := Lib.hid (HT2.out.trans ht)
  have HVA := Lib.hid hva
  obtain ⟨ada, capa, rfl, ha1, ha2, _⟩ := hva
  clear ht HT2
  go_wp2_with fail
  refine (HLB.out _).mono ?_
  rintro e w4 ⟨⟨vb, rfl, hvb, _⟩, ht⟩
  have HT4 := Lib.hid (HT3.out.trans ht)
  have HVA4 := Lib.hid (HVA.out.still ht)
  have HVB := Lib.hid hvb
  obtain ⟨adb, capb, rfl, hb1, hb2, _⟩ := hvb
  clear ht HT3 HVA HLA HLB
  go_wp2_with fail
  go_loopw [12] (fun i wr => ∃ j : Nat, i = .int .i64 (j : Nat) ∧ j ≤ L.length ∧ RowKit.Hid (Touch (fun _ => False) w4 wr)) (fun i _ => L.length - (intOf i).toNat)
  case atStart => exact ⟨0, rfl, Nat.zero_le _, Lib.hid (Touch.refl _ _)⟩
  case round =>
    obtain ⟨j, rfl, hj, HT5⟩ := hrel
    by_cases hlt : j < L.length
    · have hj0 : (0 : Int) ≤ (j : Int) := by omega
      have hj1 : (j : Int) < (L.length : Int) := by omega
      obtain ⟨t, ht⟩ : ∃ t, L[j]? = some t := ⟨_, List.getElem?_eq_getElem hlt⟩
      have htd : t.d ≤ 32768 := HDI.out t (List.mem_of_getElem? ht)
      obtain ⟨ga, oa, ca, he, _, _, hca⟩ := (HVA4.out.still HT5.out).form (by omega)
      cases he
      obtain ⟨gb, ob, cb, he, _, _, hcb⟩ := (HVB.out.still HT5.out).form (by omega)
      cases he
      obtain ⟨a0, a1, a2⟩ := hca j t ht
      obtain ⟨b0, b1, b2⟩ := hcb j t ht
      clear hca hcb ht
      have hd1 : decide ((j : Int) < (L.length : Int)) = true := decide_eq_true hj1
      have hd2 : decide (j < L.length) = true := decide_eq_true hlt
      have hd3 : decide ((32768 : Int) < t.d) = false := decide_eq_false (by omega)
      obtain ⟨x, n0, d0⟩ := t
      simp only at a0 a1 a2 b0 b1 b2 htd hd3
      generalize x.toNat = xn at a0 b0
      go_wp2_with fail
      go_quiet (fail)
      go_wp2_with fail
      go_roundw
      case rel => exact ⟨j + 1, by go_num, by omega, Lib.hid (HT5.out.drewN _)⟩
      case measure => simp [intOf]; omega
    · obtain rfl : j = L.length := by omega
      have HT6 := Lib.hid (HT4.out.trans HT5.out)
      have HV6 := Lib.hid (HVA4.out.still HT5.out)
      clear HT4 HT5 HVA4 HVB
      go_wp2_with fail
      refine (HE.out _ _ HV6.out).mono ?_
      rintro e w7 ⟨rfl, ht⟩
      have HT7 := Lib.hid (HT6.out.trans ht)
      clear ht
      go_wp2_with fail
      go_ret
      exact ⟨rfl, HT7.out⟩
end Go.Proofs.Ytbjkoepldccaaaa

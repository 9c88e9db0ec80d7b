/- The reference of layer 24, fourth part: Ack. -/
import Derived.Test.YtjlpggffbmcmnaaSdT
import Derived.Test.YtjlpggffbmcmnaaSdC
namespace Go.Proofs.Ytjlpggffbmcmnaa
open Go Go.RowKit Go.Maps Go.MapKept Go.ChangeMaps
set_option maxRecDepth 100000

theorem numU_ne {f b d e : Nat} (hd : d < 4294967296) (he : e < 4294967296) (h : numU f (b + e) = numU f (b + d)) : e = d := by unfold numU at h; omega
/-- Is a place told as acknowledged by an Ack of the place t with the bits q? -/
def setF (t q j : Nat) : Bool := if j < t then true else if j = t then false else bitB q (j - t - 1)
def newF (A : Nat → Bool) (b t q k : Nat) : Bool := (List.range k).any fun e => setF t q (b + e) && !A (b + e)
theorem newF_succ (A : Nat → Bool) (b t q k : Nat) : newF A b t q (k + 1) = (newF A b t q k || (setF t q (b + k) && !A (b + k))) := by
  unfold newF; rw [List.range_succ, List.any_append]; simp
theorem newF_all (A : Nat → Bool) (b s d q : Nat) (hds : d ≤ s - b) (hs : s ≤ b + 32) (hbs : b ≤ s) (hA : ∀ i, A i = true → b < i ∧ i < s) : newF A b (b + d) q (s - b) = (decide (0 < d) || ackN A (b + d) s q 32) := by
  rw [Bool.eq_iff_iff, Bool.or_eq_true, decide_eq_true_iff]
  unfold newF ackN
  rw [List.any_eq_true, List.any_eq_true]
  constructor
  · rintro ⟨e, he, h⟩
    rw [List.mem_range] at he
    rw [Bool.and_eq_true] at h
    unfold setF at h
    by_cases h1 : b + e < b + d
    · exact .inl (by omega)
    · rw [if_neg h1] at h
      by_cases h2 : b + e = b + d
      · rw [if_pos h2] at h; exact absurd h.1 (by decide)
      · rw [if_neg h2] at h
        refine .inr ⟨e - d - 1, List.mem_range.2 (by omega), ?_⟩
        rw [show b + e - (b + d) - 1 = e - d - 1 by omega] at h
        rw [show b + d + 1 + (e - d - 1) = b + e by omega, h.1, decide_eq_true (by omega), h.2]
        rfl
  · rintro (h | ⟨k, hk, h⟩)
    · refine ⟨0, List.mem_range.2 (by omega), ?_⟩
      have : A (b + 0) = false := by
        cases e : A (b + 0)
        · rfl
        · have := hA _ e; omega
      rw [this]
      unfold setF
      rw [if_pos (by omega)]; rfl
    · rw [Bool.and_eq_true, Bool.and_eq_true, decide_eq_true_iff] at h
      refine ⟨d + 1 + k, List.mem_range.2 (by omega), ?_⟩
      unfold setF
      rw [if_neg (by omega), if_neg (by omega), show b + (d + 1 + k) - (b + d) - 1 = k by omega, show b + (d + 1 + k) = b + d + 1 + k by omega, h.1, h.2.2]
      rfl
def RF (A : Nat → Bool) (b t q i : Nat) : Nat → Bool := fun j => (decide (j < b) || A j) || (decide (j < i) && setF t q j)
theorem RF_store (A : Nat → Bool) (b t q i : Nat) (h : setF t q i = true) (j : Nat) : (if j = i then true else RF A b t q i j) = RF A b t q (i + 1) j := by
  unfold RF
  by_cases e : j = i
  · rw [if_pos e, e, h, decide_eq_true (show i < i + 1 by omega)]; simp
  · rw [if_neg e]
    have : (j < i + 1) ↔ (j < i) := by omega
    simp only [this]
theorem RF_keep (A : Nat → Bool) (b t q i : Nat) (h : setF t q i = false ∨ A i = true) (j : Nat) : RF A b t q i j = RF A b t q (i + 1) j := by
  unfold RF
  by_cases e : j = i
  · subst e
    rcases h with h | h
    · rw [h]; simp
    · rw [h]; simp
  · have : (j < i + 1) ↔ (j < i) := by omega
    simp only [this]
theorem RF_end (A : Nat → Bool) (b s d q : Nat) (hbs : b ≤ s) (hds : d ≤ s - b) (_hs : s ≤ b + 32) (j : Nat) : (if j = b + d then false else RF A b (b + d) q s j) = (decide (j < b + d) || ackA A (b + d) s q 32 j) := by
  unfold RF setF ackA
  by_cases e : j = b + d
  · rw [if_pos e, e, decide_eq_false (Nat.lt_irrefl _), decide_eq_false (show ¬ b + d + 1 ≤ b + d by omega), decide_eq_false (show ¬ (b + d + 1 ≤ b + d ∧ b + d < s ∧ b + d < b + d + 1 + 32) by omega)]; simp
  · rw [if_neg e]
    by_cases h2 : j < b + d
    · rw [if_pos h2, decide_eq_true h2, decide_eq_true (show j < s by omega)]; simp
    · rw [if_neg h2, if_neg e, decide_eq_false h2, decide_eq_false (show ¬ j < b by omega), decide_eq_true (show b + d + 1 ≤ j by omega)]
      by_cases h4 : j < s
      · rw [decide_eq_true h4, decide_eq_true (show b + d + 1 ≤ j ∧ j < s ∧ j < b + d + 1 + 32 by omega)]; simp
      · rw [decide_eq_false h4, decide_eq_false (show ¬ (b + d + 1 ≤ j ∧ j < s ∧ j < b + d + 1 + 32) by omega)]; simp

set_option maxHeartbeats 4000000 in
theorem rack_far (f sz cnt b s : Nat) (sv av : Value) (A : Nat → Bool) (w : World) (hs : Reads w sv (bV cnt fun i => decide (i < s))) (ha : Reads w av (bV cnt fun i => decide (i < b) || A i)) (hf : f < 4294967296) (hc : cnt ≤ 64) (hb : b ≤ cnt)
    (hbs : b ≤ s) (hsc : s ≤ cnt) (hsz : s ≤ b + 32) (hA : ∀ i, A i = true → b < i ∧ i < s) (d q : Nat) (hds : s - b < d) (hd : d < 4294967296) :
    Calls Try.prog 28 #[.agg #[.int .u32 (f : Nat), .int .i64 (sz : Nat), sv, av], .int .u32 (numU f (b + d) : Nat), .int .u32 (q : Nat)] w fun e w' =>
      e = .returned (.tuple #[.agg #[.int .u32 (f : Nat), .int .i64 (sz : Nat), sv, av], .bool false]) ∧ Touch (fun _ => False) w w' := by
  obtain ⟨i0, hi, hz0, hz1, hz2⟩ := info_parts Try.infoBool
  obtain ⟨a1, k1, rfl, hl1, hl2⟩ := hs.form
  have hAb : A b = false := by
    cases e : A b
    · rfl
    · have := hA _ e; omega
  have hbase := fun W hT => rbase_calls f sz cnt b a1 (bV cnt fun i => decide (i < s)).length k1 av _ W (ha.still (w' := W) hT) hc hb (fun i h => by rw [decide_eq_true h]; rfl) (fun _ => by rw [decide_eq_false (Nat.lt_irrefl b), hAb]; rfl)
  obtain ⟨a2, k2, rfl, hk1, hk2⟩ := ha.form
  have hsent := fun W hT => rsent_calls f sz cnt s a2 (bV cnt fun i => decide (i < b) || A i).length k2 _ _ W (hs.still (w' := W) hT) hc hsc (fun i h => by rw [decide_eq_true h]) (fun _ => by rw [decide_eq_false (Nat.lt_irrefl s)])
  unfold maxLen at hk2 hl2
  rw [bV_len] at hk1 ha hbase hl1 hs hsent ⊢
  rw [bV_len] at hbase hsent ⊢
  have HS := Lib.hid hs
  have HA := Lib.hid ha
  have HBS := Lib.hid hbase
  have HSE := Lib.hid hsent
  have HAA := Lib.hid hA
  have HNU := Lib.hid (fun i (hi : i < 1000000) W => rnumber_calls f sz i a1 a2 cnt cnt k1 k2 hf hi W)
  obtain ⟨u, hu⟩ : ∃ u, u = numU f (b + d) := ⟨_, rfl⟩
  rw [← hu]
  have HU := Lib.hid hu
  clear ha hs hbase hsent hA hu hAb
  go_enter Try.func28, Try.ntmps28
  go_upto_region 1 with fail
  obtain ⟨x, hx⟩ : ∃ x, x = w.heap.size := ⟨_, rfl⟩
  obtain ⟨rb, hrb⟩ : ∃ x, x = w.heap.size + 1 := ⟨_, rfl⟩
  rw [← hrb, ← hx]
  generalize hw1 : World.alloc (w.alloc _) _ = w1
  have hM1 : MAt w1 x f sz (.slice a1 cnt k1) (.slice a2 cnt k2) := by
    rw [← hw1, hx]
    exact MAt.kept (S := fun _ => False) (Block.new w _ _) ((Touch.refl _ _).alloc _) id
  have hR1 : MAt w1 rb 0 0 (.slice none 0 0) (.slice none 0 0) := by
    rw [← hw1, hrb, ← alloc_size w]
    exact Block.new _ _ _
  have hT1 : Touch (fun _ => False) w w1 := by rw [← hw1]; exact ((Touch.refl _ w).alloc _).alloc _
  have hlt1 : x < w1.heap.size ∧ rb < w1.heap.size ∧ x ≠ rb ∧ w.heap.size ≤ x ∧ w.heap.size ≤ rb := ⟨Block.lt hM1, Block.lt hR1, by omega, by omega, by omega⟩
  obtain ⟨c0, c1, c2, c3⟩ := hM1.cells
  have HM1 := Lib.hid hM1
  have HR1 := Lib.hid hR1
  have HT1 := Lib.hid hT1
  have HLT := Lib.hid hlt1
  clear hw1 hx hrb hM1 hR1 hT1 hlt1
  go_upto_region 2 with fail
  go_wp2_with fail
  refine (HBS.out _ HT1.out).mono ?_
  rintro e w2 ⟨rfl, hT2⟩
  have HM2 := Lib.hid (HM1.out.kept hT2 id)
  have HR2 := Lib.hid (HR1.out.kept hT2 id)
  have HT2 := Lib.hid (HT1.out.trans hT2)
  have HLT2 : Hid (x < w2.heap.size ∧ rb < w2.heap.size ∧ x ≠ rb ∧ w.heap.size ≤ x ∧ w.heap.size ≤ rb) := Lib.hid ⟨Nat.lt_of_lt_of_le HLT.out.1 hT2.size, Nat.lt_of_lt_of_le HLT.out.2.1 hT2.size, HLT.out.2.2⟩
  clear c0 c1 c2 c3 hT2
  go_wp2_with fail
  go_loopw [9, 10] (fun tv iv wr => ∃ (i : Nat) (tt : Int), b ≤ i ∧ i ≤ s + 1 ∧ iv = .int .i64 (i : Nat) ∧ tv = .int .i64 tt ∧ RowKit.Hid (tt = if b + d < i then ((b + d : Nat) : Int) else -1) ∧ RowKit.Hid (Touch (fun _ => False) w2 wr)) (fun _ iv _ => s + 1 - (intOf iv).toNat)
  case atStart => exact ⟨b, -1, Nat.le_refl _, by omega, rfl, rfl, Lib.hid (by rw [if_neg (by omega)]), Lib.hid (Touch.refl _ _)⟩
  case round =>
    obtain ⟨i, tt, hi1, hi2, rfl, rfl, HTT, HTi⟩ := hrel
    obtain ⟨c0, c1, c2, c3⟩ := (HM2.out.kept HTi.out id).cells
    go_wp2_with fail
    refine (HSE.out _ (HT2.out.trans HTi.out)).mono ?_
    rintro e w3 ⟨rfl, hT3⟩
    have HT3 := Lib.hid (HTi.out.trans hT3)
    clear c0 c1 c2 c3 hT3
    obtain ⟨c0, c1, c2, c3⟩ := (HM2.out.kept HT3.out id).cells
    by_cases hlt : i ≤ s
    · have hltI : (i : Int) ≤ (s : Int) := by omega
      obtain ⟨nu, hnu⟩ : ∃ x, x = numU f i := ⟨_, rfl⟩
      by_cases hm : i = b + d
      · have hau : nu = u := by rw [hnu, hm]; exact HU.out.symm
        obtain rfl : tt = -1 := by have := HTT.out; rw [if_neg (by omega)] at this; exact this
        have hnew : (if b + d < i + 1 then ((b + d : Nat) : Int) else -1) = (i : Int) := by rw [if_pos (by omega), hm]
        have HN := Lib.hid hnew
        have hcall := HNU.out i (by omega)
        rw [← hnu, hau] at hcall
        have HC := Lib.hid hcall
        clear hnu hau hnew hcall hm
        go_wp2_with fail
        refine (HC.out _).mono ?_
        rintro e w4 ⟨rfl, hT4⟩
        have HT4 := Lib.hid (HT3.out.trans hT4)
        clear hT4
        go_wp2_with fail
        go_roundw
        case rel => exact ⟨i + 1, _, by omega, by omega, by go_num, rfl, Lib.hid (by rw [HN.out]), HT4⟩
        case measure => simp [intOf]; omega
      · have hau : ((nu : Int) == (u : Int)) = false := by
          rw [beq_eq_false_iff_ne]
          intro e
          have e' : numU f (b + (i - b)) = numU f (b + d) := by rw [show b + (i - b) = i by omega, ← hnu, ← HU.out]; omega
          have := numU_ne (show d < 4294967296 by omega) (by omega) e'
          omega
        have hnew : (if b + d < i + 1 then ((b + d : Nat) : Int) else -1) = tt := by
          rw [HTT.out]
          by_cases h : b + d < i
          · rw [if_pos h, if_pos (by omega)]
          · rw [if_neg h, if_neg (by omega)]
        have HN := Lib.hid hnew
        have hcall := HNU.out i (by omega)
        rw [← hnu] at hcall
        have HC := Lib.hid hcall
        clear hnu hnew hcall hm
        go_wp2_with fail
        refine (HC.out _).mono ?_
        rintro e w4 ⟨rfl, hT4⟩
        have HT4 := Lib.hid (HT3.out.trans hT4)
        clear hT4
        go_wp2_with fail
        go_roundw
        case rel => exact ⟨i + 1, _, by omega, by omega, by go_num, rfl, Lib.hid (by rw [HN.out]), HT4⟩
        case measure => simp [intOf]; omega
    · have hltI : ¬ (i : Int) ≤ (s : Int) := by omega
      obtain rfl : i = s + 1 := by omega
      obtain rfl : tt = -1 := by have := HTT.out; rw [if_neg (by omega)] at this; exact this
      have hRbi := HR2.out.kept HT3.out id
      obtain ⟨d0, d1, d2, d3⟩ := hRbi.cells
      have q0 := Block.free hRbi 0
      have q1 := Block.free hRbi 1
      have q2 := Block.free hRbi 2
      have q3 := Block.free hRbi 3
      have hRf := m_set4 (f' := f) (sz' := sz) (sv' := .slice a1 cnt k1) (av' := .slice a2 cnt k2) hRbi
      have hT5 := m_touch4 (w := w3) rb (.int .u32 (f : Nat)) (.int .i64 (sz : Nat)) (.slice a1 cnt k1) (.slice a2 cnt k2)
      have HRf := Lib.hid hRf
      have HT5 := Lib.hid hT5
      clear hRf hT5 hRbi
      go_wp2_with fail
      refine bodyPost_ret (results_cell_slot rfl _ _ rb _ _ _ _ rfl HRf.out Try.underlying44 rfl Try.sizeRw) rfl ⟨rfl, touch_new ?_⟩
      exact ((HT2.out.trans HT3.out).mono (fun j e => e.elim)).trans (HT5.out.mono (fun j e => by have := HLT2.out; omega))

end Go.Proofs.Ytjlpggffbmcmnaa

/- Contract of the document's answer of layer 3 on which word some bits begin with, over the translated program. -/
import Derived.Test.YtmeidbggebcddaaCanY
import Derived.Test.YtmeidbggebcddaaCanT
namespace Go.Proofs.Ytmeidbggebcddaa
open Go Go.RowKit
set_option maxRecDepth 100000

theorem strEq (a b : ByteArray) : (a.toList == b.toList) = decide (a = b) := by
  rw [ByteArray.toList_eq, ByteArray.toList_eq]
  by_cases e : a = b
  · subst e; simp
  · simp [e]
    intro h2
    exact e (ByteArray.ext h2)
theorem strNe {a b : ByteArray} (h : ¬ a = b) : (a.toList == b.toList) = false := by rw [strEq]; exact decide_eq_false h
theorem strSame (a : ByteArray) : (a.toList == a.toList) = true := by rw [strEq]; exact decide_eq_true rfl
theorem strFull {a : ByteArray} (h : a.size ≠ 0) : a.toList.isEmpty = false := by
  rw [ByteArray.toList_eq]
  cases hl : a.data.toList with
  | nil => exact absurd (by show a.data.size = 0; rw [← Array.length_toList, hl]; rfl) h
  | cons x l => rfl

theorem map_bitB_inj (a b : List Nat) (ha : ∀ x ∈ a, x < 2) (hb : ∀ x ∈ b, x < 2) (h : a.map bitB = b.map bitB) : a = b := by
  induction a generalizing b with
  | nil =>
    cases b with
    | nil => rfl
    | cons y b => simp at h
  | cons x a ih =>
    cases b with
    | nil => simp at h
    | cons y b =>
      simp only [List.map_cons, List.cons.injEq] at h
      rw [bitB_inj (ha x (List.mem_cons_self ..)) (hb y (List.mem_cons_self ..)) h.1, ih b (fun z hz => ha z (List.mem_cons_of_mem _ hz)) (fun z hz => hb z (List.mem_cons_of_mem _ hz)) h.2]
theorem bitsS_inj (a b : List Nat) (ha : ∀ x ∈ a, x < 2) (hb : ∀ x ∈ b, x < 2) (h : bitsS a = bitsS b) : a = b := by
  have h1 := congrArg (fun s : ByteArray => s.data.toList) h
  exact map_bitB_inj a b ha hb h1
theorem bitsS_take (b : List Nat) (n : Nat) : (bitsS b).extract 0 n = bitsS (b.take n) := by
  apply ByteArray.ext
  rw [ByteArray.data_extract]
  apply Array.toList_inj.1
  rw [Array.toList_extract]
  simp [bitsS, List.extract, List.map_take]
theorem bitsS_drop (b : List Nat) (n m : Nat) (hm : m = b.length) : (bitsS b).extract n m = bitsS (b.drop n) := by
  subst hm
  apply ByteArray.ext
  rw [ByteArray.data_extract]
  apply Array.toList_inj.1
  rw [Array.toList_extract]
  simp [bitsS, List.extract, List.map_drop, List.map_take]
  rw [List.take_of_length_le (by simp)]

theorem found_iff (ls b : List Nat) (s : Nat) (h2 : ∀ x ∈ b, x < 2) (hs : s < ls.length) (h0 : ls.getD s 0 ≠ 0) (hle : ls.getD s 0 ≤ b.length) : bitsS (b.take (ls.getD s 0)) = wordS ls s ↔ FoundAt ls b s := by
  constructor
  · intro h
    exact ⟨hs, h0, hle, bitsS_inj _ _ (fun x hx => h2 x (List.mem_of_mem_take hx)) (wordH_lt _ _) h⟩
  · rintro ⟨_, _, _, h⟩
    rw [h]; rfl
def ComesOne (ls b : List Nat) (s : Nat) : Prop := s < ls.length ∧ ls.getD s 0 ≠ 0 ∧ b.length < ls.getD s 0 ∧ (wordH (ls.getD s 0) (codeN ls s)).take b.length = b
theorem comes_one_iff (ls b : List Nat) (s : Nat) (h2 : ∀ x ∈ b, x < 2) (hs : s < ls.length) (h0 : ls.getD s 0 ≠ 0) (hlt : b.length < ls.getD s 0) : (wordS ls s).extract 0 b.length = bitsS b ↔ ComesOne ls b s := by
  unfold wordS
  rw [bitsS_take]
  constructor
  · intro h
    exact ⟨hs, h0, hlt, bitsS_inj _ _ (fun x hx => wordH_lt _ _ x (List.mem_of_mem_take hx)) h2 h⟩
  · rintro ⟨_, _, _, h⟩
    rw [h]

set_option maxHeartbeats 1000000 in
theorem find_calls (ls b : List Nat) (v : Value) (w : World) (hv : Reads w v (strTab ls.length (wordS ls))) (h15 : ∀ x ∈ ls, x ≤ 15) (hn : ls.length ≤ 288) (h2 : ∀ x ∈ b, x < 2) (hb : b.length ≤ 15) :
    Calls Try.prog 22 #[v, .string (bitsS b)] w fun e w' => w' = w ∧
      ((∃ s, FoundAt ls b s ∧ e = .returned (.int .i64 (s : Nat))) ∨ ((∀ s, ¬ FoundAt ls b s) ∧ ComesAt ls b ∧ e = .returned (.int .i64 (-2))) ∨ ((∀ s, ¬ FoundAt ls b s) ∧ ¬ ComesAt ls b ∧ e = .returned (.int .i64 (-1)))) := by
  obtain ⟨a, cap, hvf, hcl1, hcl2⟩ := hv.form
  rw [strTab_length] at hvf hcl1
  unfold maxLen at hcl2
  subst hvf
  have hcell : ∀ j, j < ls.length → ∃ g off, a = some ⟨g, off, none⟩ ∧ w.cell? ⟨g, off + j, none⟩ = some (.string (wordS ls j)) := fun j hj => by
    obtain ⟨g, off, cap', he, _, _, _, hc⟩ := hv.addr (by rw [strTab_length]; omega)
    injection he with he1 _ _
    exact ⟨g, off, he1, hc j _ (strTab_get _ _ j hj)⟩
  have H15 := Lib.hid h15
  have H2 := Lib.hid h2
  have hbs : (bitsS b).size = b.length := bitsS_size b
  clear hv h15 h2
  go_enter Try.func22, Try.ntmps22
  go_wp2_with fail
  go_loopw [4, 5, 6, 7] (fun r mo i _ wr => r = .int .i64 0 ∧ ∃ (k : Nat) (M : Bool), k ≤ ls.length ∧ i = .int .i64 k ∧ mo = .bool M ∧ wr = w ∧ RowKit.Hid (∀ s, s < k → ¬ FoundAt ls b s) ∧ RowKit.Hid (M = true ↔ ∃ s, s < k ∧ ComesOne ls b s)) (fun _ _ i _ _ => ls.length - (intOf i).toNat)
  case atStart => exact ⟨by first | rfl | trivial, 0, false, Nat.zero_le _, rfl, rfl, rfl, Lib.hid (fun s hs => absurd hs (Nat.not_lt_zero _)), Lib.hid (Iff.intro (fun h => (by cases h)) (fun ⟨s, hs, _⟩ => absurd hs (Nat.not_lt_zero _)))⟩
  case round =>
    obtain ⟨rfl, k, M, hk, rfl, rfl, rfl, HF, HM⟩ := hrel
    have HSZ := Lib.hid hbs
    by_cases hlt : k < ls.length
    · obtain ⟨g, off, rfl, hc⟩ := hcell k hlt
      have hm := mem_15 ls H15.out k hlt
      have HWS := Lib.hid (show (wordS ls k).size = ls.getD k 0 by unfold wordS; rw [bitsS_size, wordH_length])
      have HE := Lib.hid (wordS_none ls k)
      have HFI := Lib.hid (fun h0 hle => found_iff ls b k H2.out hlt h0 hle)
      have HCI := Lib.hid (fun h0 hle => comes_one_iff ls b k H2.out hlt h0 hle)
      have HTK := Lib.hid (bitsS_take b (ls.getD k 0))
      have HN1 := Lib.hid (show FoundAt ls b k → ls.getD k 0 ≠ 0 ∧ ls.getD k 0 ≤ b.length from fun h => ⟨h.2.1, h.2.2.1⟩)
      have HN2 := Lib.hid (show ComesOne ls b k → ls.getD k 0 ≠ 0 ∧ b.length < ls.getD k 0 from fun h => ⟨h.2.1, h.2.2.1⟩)
      clear hcell
      generalize wordS ls k = S at hc HWS HE HFI HCI
      generalize hnn : ls.getD k 0 = n at hm HWS HE HFI HCI HTK HN1 HN2
      clear hnn
      by_cases h0 : n = 0
      · subst h0
        have hS := HE.out rfl
        subst hS
        go_wp2_with fail
        go_roundw
        case rel =>
          refine ⟨by first | rfl | trivial, k + 1, M, by omega, by go_num, rfl, by first | rfl | trivial, Lib.hid fun s hs => ?_, Lib.hid (HM.out.trans ⟨fun ⟨s, k1, k2⟩ => ⟨s, by omega, k2⟩, fun ⟨s, k1, k2⟩ => ⟨s, ?_, k2⟩⟩)⟩
          · by_cases e : s = k
            · subst e; exact fun hf => (HN1.out hf).1 rfl
            · exact HF.out s (by omega)
          · by_cases e : s = k
            · subst e; exact absurd rfl (HN2.out k2).1
            · omega
        case measure => simp [intOf]; omega
      · have hsz : S.size = n := HWS.out
        have hne := strFull (a := S) (by rw [hsz]; exact h0)
        by_cases hle : n ≤ b.length
        · by_cases hf : bitsS (b.take n) = S
          · have hfd := Lib.hid ((HFI.out h0 hle).1 hf)
            have hx : (bitsS b).extract 0 n = S := HTK.out.trans hf
            have hsame := strSame S
            have hlei : decide ((n : Int) ≤ (b.length : Int)) = true := by simp; omega
            clear hf h0
            go_wp2_with fail
            all_goals first
              | omega
              | (go_ret; exact ⟨by first | rfl | trivial, .inl ⟨k, hfd.out, rfl⟩⟩)
          · have hnf := Lib.hid (fun h => hf ((HFI.out h0 hle).2 h))
            obtain ⟨X, hX⟩ : ∃ X, X = (bitsS b).extract 0 n := ⟨_, rfl⟩
            have hXS := strNe (a := X) (b := S) (fun e => hf (by rw [← HTK.out, ← hX]; exact e))
            have hx : (bitsS b).extract 0 n = X := hX.symm
            have hlei : decide ((n : Int) ≤ (b.length : Int)) = true := by simp; omega
            have hlej : decide ((b.length : Int) < (n : Int)) = false := by simp; omega
            clear hX hf
            go_wp2_with fail
            go_roundw
            case rel =>
              refine ⟨by first | rfl | trivial, k + 1, M, by omega, by go_num, rfl, by first | rfl | trivial, Lib.hid fun s hs => ?_, Lib.hid (HM.out.trans ⟨fun ⟨s, k1, k2⟩ => ⟨s, by omega, k2⟩, fun ⟨s, k1, k2⟩ => ⟨s, ?_, k2⟩⟩)⟩
              · by_cases e : s = k
                · subst e; exact hnf.out
                · exact HF.out s (by omega)
              · by_cases e : s = k
                · subst e; have := (HN2.out k2).2; omega
                · omega
            case measure => simp [intOf]; omega
        · have hlt2 : b.length < n := by omega
          have hlei : decide ((n : Int) ≤ (b.length : Int)) = false := by simp; omega
          have hlej : decide ((b.length : Int) < (n : Int)) = true := by simp; omega
          have hnf : RowKit.Hid (¬ FoundAt ls b k) := fun h => hle (HN1.out h).2
          have HCI2 := Lib.hid (HCI.out h0 hlt2)
          obtain ⟨X, hX⟩ : ∃ X, X = S.extract 0 b.length := ⟨_, rfl⟩
          have hx : S.extract 0 b.length = X := hX.symm
          have HX := Lib.hid hX
          clear hX hle
          by_cases hc2 : X = bitsS b
          · have hcm := Lib.hid (HCI2.out.1 (by rw [← HX.out]; exact hc2))
            have hsame : (X.toList == (bitsS b).toList) = true := by rw [strEq]; exact decide_eq_true hc2
            clear hc2
            go_wp2_with fail
            go_roundw
            case rel =>
              refine ⟨by first | rfl | trivial, k + 1, true, by omega, by go_num, by first | rfl | trivial, by first | rfl | trivial, Lib.hid fun s hs => ?_, Lib.hid ⟨fun _ => ⟨k, by omega, hcm.out⟩, fun _ => rfl⟩⟩
              by_cases e : s = k
              · subst e; exact hnf.out
              · exact HF.out s (by omega)
            case measure => simp [intOf]; omega
          · have hnc := Lib.hid (fun h => hc2 (by rw [HX.out]; exact HCI2.out.2 h))
            have hsame := strNe hc2
            clear hc2
            go_wp2_with fail
            go_roundw
            case rel =>
              refine ⟨by first | rfl | trivial, k + 1, M, by omega, by go_num, rfl, by first | rfl | trivial, Lib.hid fun s hs => ?_, Lib.hid (HM.out.trans ⟨fun ⟨s, k1, k2⟩ => ⟨s, by omega, k2⟩, fun ⟨s, k1, k2⟩ => ⟨s, ?_, k2⟩⟩)⟩
              · by_cases e : s = k
                · subst e; exact hnf.out
                · exact HF.out s (by omega)
              · by_cases e : s = k
                · subst e; exact absurd k2 hnc.out
                · omega
            case measure => simp [intOf]; omega
    · obtain rfl : k = ls.length := by omega
      have HFA := Lib.hid (show ∀ s, ¬ FoundAt ls b s from fun s hf => HF.out s hf.1 hf)
      clear hcell
      cases M with
      | true =>
        have HCA := Lib.hid (show ComesAt ls b by obtain ⟨s, _, k2⟩ := HM.out.1 rfl; exact ⟨s, k2⟩)
        go_wp2_with fail
        go_ret
        exact ⟨by first | rfl | trivial, .inr (.inl ⟨HFA.out, HCA.out, rfl⟩)⟩
      | false =>
        have HCA := Lib.hid (show ¬ ComesAt ls b from fun ⟨s, k2⟩ => by have := HM.out.2 ⟨s, k2.1, k2⟩; cases this)
        go_wp2_with fail
        go_ret
        exact ⟨by first | rfl | trivial, .inr (.inr ⟨HFA.out, HCA.out, rfl⟩)⟩
end Go.Proofs.Ytmeidbggebcddaa

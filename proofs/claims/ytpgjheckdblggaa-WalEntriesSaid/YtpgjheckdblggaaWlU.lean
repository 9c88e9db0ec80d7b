/- Contracts of package wal, eleventh part: SortStableFunc of a few entries; Entries. -/
import Derived.Test.YtpgjheckdblggaaWlT
import Derived.Test.YtpgjheckdblggaaWlH
namespace Go.Proofs.Ytpgjheckdblggaa
open Go Go.RowKit Go.Maps
set_option maxRecDepth 100000

theorem isort_nil (w : World) : Calls Try.prog 93 #[.slice none 0 0, .int .i64 0, .int .i64 0, .func (.func 58) #[] #[]] w fun e w' => e = .returned (.tuple #[]) ∧ w = w' := by
  go_enter Try.func93, Try.ntmps93
  go_wp2_with fail
  go_loopw [8, 9] (fun v8 _ wr => v8 = .int .i64 1 ∧ w = wr) (fun _ _ _ => 0)
  case atStart => exact ⟨rfl, rfl⟩
  case round =>
    obtain ⟨rfl, rfl⟩ := hrel
    go_wp2_with fail
    go_end0
    exact ⟨rfl, rfl⟩

theorem stable_calls {w : World} {g n cap : Nat} {es : List En} (h : EBlk w g es) (hn : es.length = n) (hk : n ≤ 9) (hcap : n ≤ cap) (hcm : cap ≤ maxLen) :
    Calls Try.prog 73 #[.slice (some ⟨g, 0, none⟩) n cap, .int .i64 n, .func (.func 58) #[] #[]] w fun e w' => e = .returned (.tuple #[]) ∧ isOut w g es n w' := by
  have HI := Lib.hid (isort_calls h hn (by omega) hcap hcm)
  have h1 : ¬ ((20 : Int) ≤ (n : Int)) := by omega
  have h2 : ¬ ((20 : Int) < (n : Int)) := by omega
  clear h hn
  go_enter Try.func73, Try.ntmps73
  go_wp2_with fail
  go_loopw [7, 8] (fun v7 v8 wr => v7 = .int .i64 0 ∧ v8 = .int .i64 20 ∧ w = wr) (fun _ _ _ => 0)
  case atStart => exact ⟨rfl, rfl, rfl⟩
  case round =>
    obtain ⟨rfl, rfl, rfl⟩ := hrel
    go_wp2_with fail
    refine HI.out.mono ?_
    rintro e w1 ⟨rfl, HO⟩
    have HO := Lib.hid HO
    go_wp2_with fail
    go_loopw [6, 7, 8, 9] (fun v6 _ _ _ wr => v6 = .int .i64 20 ∧ wr = w1) (fun _ _ _ _ _ => 0)
    case atStart => exact ⟨rfl, rfl⟩
    case round =>
      obtain ⟨rfl, rfl⟩ := hrel
      go_wp2_with fail
      go_end0
      exact ⟨rfl, HO.out⟩

theorem stable_nil (w : World) : Calls Try.prog 73 #[.slice none 0 0, .int .i64 0, .func (.func 58) #[] #[]] w fun e w' => e = .returned (.tuple #[]) ∧ w = w' := by
  go_enter Try.func73, Try.ntmps73
  go_wp2_with fail
  go_loopw [7, 8] (fun v7 v8 wr => v7 = .int .i64 0 ∧ v8 = .int .i64 20 ∧ w = wr) (fun _ _ _ => 0)
  case atStart => exact ⟨rfl, rfl, rfl⟩
  case round =>
    obtain ⟨rfl, rfl, rfl⟩ := hrel
    go_wp2_with fail
    refine (isort_nil w).mono ?_
    rintro e w1 ⟨rfl, HO⟩
    have HO := Lib.hid HO
    go_wp2_with fail
    go_loopw [6, 7, 8, 9] (fun v6 _ _ _ wr => v6 = .int .i64 20 ∧ wr = w1) (fun _ _ _ _ _ => 0)
    case atStart => exact ⟨rfl, rfl⟩
    case round =>
      obtain ⟨rfl, rfl⟩ := hrel
      go_wp2_with fail
      go_end0
      exact ⟨rfl, HO.out⟩

theorem ssort_calls {w : World} {g n cap : Nat} {es : List En} (h : EBlk w g es) (hn : es.length = n) (hk : n ≤ 9) (hcap : n ≤ cap) (hcm : cap ≤ maxLen) :
    Calls Try.prog 57 #[.slice (some ⟨g, 0, none⟩) n cap, .func (.func 58) #[] #[]] w fun e w' => e = .returned (.tuple #[]) ∧ isOut w g es n w' := by
  have HI := Lib.hid (stable_calls h hn hk hcap hcm)
  unfold maxLen at hcm
  clear h hn
  go_enter Try.func57, Try.ntmps57
  go_wp2_with fail
  refine HI.out.mono ?_
  rintro e w1 ⟨rfl, HO⟩
  have HO := Lib.hid HO
  go_wp2_with fail
  go_end0
  exact ⟨rfl, HO.out⟩
theorem ssort_nil (w : World) : Calls Try.prog 57 #[.slice none 0 0, .func (.func 58) #[] #[]] w fun e w' => e = .returned (.tuple #[]) ∧ w = w' := by
  go_enter Try.func57, Try.ntmps57
  go_wp2_with fail
  refine (stable_nil w).mono ?_
  rintro e w1 ⟨rfl, rfl⟩
  go_wp2_with fail
  go_end0
  exact ⟨rfl, rfl⟩

/-- Entries of a row that the callee made. -/
theorem EBlk.of_own {w : World} {base g n cap : Nat} {es : List En} (h : w.ownsRow base 73 2 (.slice (some ⟨g, 0, none⟩) n cap) n (ensV es)) : EBlk w g es ∧ n ≤ cap ∧ cap ≤ maxLen ∧ base ≤ g := by
  rcases h.2 with ⟨h1, _⟩ | ⟨g', cap', cur, h1, hb, h2, h3, h4, h5, h6⟩
  · cases h1
  · injection h1 with h1 _ h7
    injection h1 with h1
    injection h1 with h1 _ _
    subst h1; subst h7
    refine ⟨⟨cur.toList.drop (n * 2), ?_⟩, h3, h4, hb⟩
    unfold Block
    rw [← h6, List.take_append_drop, Array.toArray_toList]
    exact h2

/-- What Entries answers: the log's entries in order. -/
def EntsOut (w : World) (es : List En) (e : Ending) (w' : World) : Prop :=
  ∃ v k es', e = .returned (.tuple #[v, .int .i64 0]) ∧ k = es.length ∧ es'.Perm es ∧ SortedTo es' k ∧ Touch (fun _ => False) w w' ∧
    ((k = 0 ∧ v = .slice none 0 0) ∨ ∃ g cap, v = .slice (some ⟨g, 0, none⟩) k cap ∧ k ≤ cap ∧ cap ≤ maxLen ∧ EBlk w' g es')

set_option maxHeartbeats 1000000 in
theorem entries_calls {w : World} {b lb mb c n : Nat} {L : List UInt8} {t : Nat} {f : Int} (h : DkAt w b lb mb c n L [] t f true) {gb at' sn N : Nat} {note : ByteArray} {fl : Bool} (hL : LogAt w gb b at' sn N note fl) (hfit : at' + sn ≤ n) (hs9 : sn ≤ 9) :
    Calls Try.prog 36 #[.pointer (some ⟨gb, 0, none⟩)] w fun e w' => EntsOut w ((secsOf L at' sn).filterMap entOf) e w' := by
  have HSL := Lib.hid (slots_calls h hL hfit)
  have HL := Lib.hid hL
  have hlen : ((secsOf L at' sn).filterMap entOf).length ≤ 9 := Nat.le_trans (List.length_filterMap_le _ _) (by rw [secsOf_len]; omega)
  generalize (secsOf L at' sn).filterMap entOf = es at HSL hlen
  clear h hL
  go_enter Try.func36, Try.ntmps36
  go_wp2_with (go_at_call 51; refine (isopen_calls HL.out).mono ?_; rintro e w' ⟨rfl, rfl⟩)
  refine HSL.out.mono ?_
  rintro e w1 ⟨v, k, rfl, hO, hk, hT1⟩
  obtain ⟨a, cap, hv, hc1, hc2⟩ := own_form hO
  rcases Nat.eq_zero_or_pos k with hk0 | hk0
  · have hnil : es = [] := List.length_eq_zero_iff.1 (by omega)
    have hv0 : v = .slice none 0 0 ∨ ∃ g cap, v = .slice (some ⟨g, 0, none⟩) k cap := by
      rcases hO.2 with ⟨h1, _⟩ | ⟨g', cap', cur, h1, _⟩
      · exact .inl h1
      · exact .inr ⟨g', cap', h1⟩
    rcases hv0 with hv0 | ⟨g, cap', hv0⟩
    · subst hv0
      have HK := Lib.hid (⟨hk0, hk, hnil, hT1⟩ : _ ∧ _ ∧ _ ∧ _)
      clear hk0 hk hnil hT1 hO hv hc1 hc2
      go_wp2_with fail
      refine (ssort_nil w1).mono ?_
      rintro e w2 ⟨rfl, rfl⟩
      go_wp2_with fail
      go_ret2
      exact ⟨_, 0, es, rfl, by rw [HK.out.2.2.1]; rfl, List.Perm.refl _, fun a b h1 h2 => by omega, HK.out.2.2.2, .inl ⟨rfl, rfl⟩⟩
    · subst hv0
      obtain ⟨hB, hb1, hb2, hb3⟩ := EBlk.of_own hO
      have HB := Lib.hid (⟨hB, hb1, hb2, hb3, hk, hT1⟩ : _ ∧ _ ∧ _ ∧ _ ∧ _ ∧ _)
      clear hB hb3 hk hT1 hO hv hc1 hc2 hk0 hnil
      go_wp2_with fail
      refine (ssort_calls HB.out.1 HB.out.2.2.2.2.1.symm (by have := HB.out.2.2.2.2.1; omega) hb1 hb2).mono ?_
      rintro e w2 ⟨rfl, es', hB', hP, hS, hT2⟩
      have HB' := Lib.hid (⟨hB', hP, hS, hT2⟩ : _ ∧ _ ∧ _ ∧ _)
      clear hB' hP hS hT2
      go_wp2_with fail
      go_ret2
      exact ⟨_, k, es', rfl, HB.out.2.2.2.2.1, HB'.out.2.1, HB'.out.2.2.1, HB.out.2.2.2.2.2.trans' HB'.out.2.2.2 (fun i hi => .inr (by have := HB.out.2.2.2.1; omega)), .inr ⟨g, _, rfl, hb1, hb2, HB'.out.1⟩⟩
  · obtain ⟨g, cap', hv0, _, _⟩ := own_cell hO hk0
    subst hv0
    obtain ⟨hB, hb1, hb2, hb3⟩ := EBlk.of_own hO
    have HB := Lib.hid (⟨hB, hb1, hb2, hb3, hk, hT1⟩ : _ ∧ _ ∧ _ ∧ _ ∧ _ ∧ _)
    clear hB hb3 hk hT1 hO hv hc1 hc2 hk0
    go_wp2_with fail
    refine (ssort_calls HB.out.1 HB.out.2.2.2.2.1.symm (by have := HB.out.2.2.2.2.1; omega) hb1 hb2).mono ?_
    rintro e w2 ⟨rfl, es', hB', hP, hS, hT2⟩
    have HB' := Lib.hid (⟨hB', hP, hS, hT2⟩ : _ ∧ _ ∧ _ ∧ _)
    clear hB' hP hS hT2
    go_wp2_with fail
    go_ret2
    exact ⟨_, k, es', rfl, HB.out.2.2.2.2.1, HB'.out.2.1, HB'.out.2.2.1, HB.out.2.2.2.2.2.trans' HB'.out.2.2.2 (fun i hi => .inr (by have := HB.out.2.2.2.1; omega)), .inr ⟨g, _, rfl, hb1, hb2, HB'.out.1⟩⟩

theorem entries_nil (w : World) : Calls Try.prog 36 #[.pointer none] w fun e w' => e = .returned (.tuple #[.slice none 0 0, .int .i64 1]) ∧ w = w' := by
  go_enter Try.func36, Try.ntmps36
  go_wp2_with (go_at_call 51; refine (isopen_nil _).mono ?_; rintro e w' ⟨rfl, rfl⟩)
  go_ret2
  exact ⟨rfl, rfl⟩

end Go.Proofs.Ytpgjheckdblggaa

/- The reference's longest match over the translated program. -/
import Derived.Test.YtbjkoepldccaaaaMatF
namespace Go.Proofs.Ytbjkoepldccaaaa
open Go Go.RowKit Go.Maps
set_option maxRecDepth 100000

/-- The best of the distances below D. -/
def BestN (X : List UInt8) (a M D S d : Nat) : Prop :=
  (∀ q, q < a → a - q < D → mlen X q a M ≤ S ∧ (mlen X q a M = S → 1 ≤ S → q ≤ a - d)) ∧ ((S = 0 ∧ d = 0) ∨ (1 ≤ S ∧ 1 ≤ d ∧ d < D ∧ d ≤ a ∧ mlen X (a - d) a M = S))
theorem BestN.first (X : List UInt8) (a M : Nat) : BestN X a M 1 0 0 := ⟨fun q h1 h2 => by omega, .inl ⟨rfl, rfl⟩⟩
theorem BestN.more {X : List UInt8} {a M D S d p n : Nat} (h : BestN X a M D S d) (hp : p + D = a) (h1 : 1 ≤ D) (hn : mlen X p a M = n) (hS : S < n) : BestN X a M (D + 1) n D := by
  refine ⟨fun q h2 h3 => ?_, .inr ⟨by omega, h1, by omega, by omega, by rw [← hp, Nat.add_sub_cancel, hp]; exact hn⟩⟩
  rcases Nat.lt_or_ge (a - q) D with h4 | h4
  · have := (h.1 q h2 h4).1; exact ⟨by omega, fun e => by omega⟩
  · obtain rfl : q = p := by omega
    exact ⟨by omega, fun _ _ => by omega⟩
theorem BestN.same {X : List UInt8} {a M D S d p n : Nat} (h : BestN X a M D S d) (hp : p + D = a) (h1 : 1 ≤ D) (hn : mlen X p a M = n) (hS : n ≤ S) : BestN X a M (D + 1) S d := by
  refine ⟨fun q h2 h3 => ?_, h.2.imp id fun ⟨a1, a2, a3, a4, a5⟩ => ⟨a1, a2, by omega, a4, a5⟩⟩
  rcases Nat.lt_or_ge (a - q) D with h4 | h4
  · exact h.1 q h2 h4
  · obtain rfl : q = p := by omega
    refine ⟨by omega, fun _ h5 => ?_⟩
    rcases h.2 with ⟨e, _⟩ | ⟨_, _, h6, _⟩ <;> omega
theorem BestN.last {X : List UInt8} {a M D S d : Nat} (h : BestN X a M D S d) (ha : a ≤ 32768) (hD : a < D) : if S < 3 then LongestR X a M 0 0 else LongestR X a M S d := by
  split
  · exact .inl ⟨rfl, rfl, fun q h1 _ => by have := (h.1 q h1 (by omega)).1; omega⟩
  · rcases h.2 with ⟨e, _⟩ | ⟨a1, a2, a3, a4, a5⟩
    · omega
    · exact .inr ⟨by omega, a - d, by omega, by omega, by omega, a5, fun q h1 _ => ⟨(h.1 q h1 (by omega)).1, fun e => (h.1 q h1 (by omega)).2 e a1⟩⟩
theorem LongestR.one {X : List UInt8} {a M z d z' d' : Nat} (h : LongestR X a M z d) (h' : LongestR X a M z' d') : z = z' ∧ d = d' := by
  rcases h with ⟨a1, a2, a3⟩ | ⟨a1, p, a2, a3, a4, a5, a6⟩ <;> rcases h' with ⟨b1, b2, b3⟩ | ⟨b1, p', b2, b3, b4, b5, b6⟩
  · omega
  · have := a3 p' b2 (by omega); omega
  · have := b3 p a2 (by omega); omega
  · have h1 := a6 p' b2 (by omega)
    have h2 := b6 p a2 (by omega)
    have e : z = z' := by omega
    have h3 := h1.2 (by omega)
    have h4 := h2.2 (by omega)
    omega

theorem app_right (A s : ByteArray) (n : Nat) : (A ++ s).data.toList.getD (A.size + n) 0 = s.data.toList.getD n 0 := by
  rw [ByteArray.data_append, Array.toList_append, ← data_length A]
  simp [List.getD_eq_getElem?_getD, List.getElem?_append_right]

set_option maxHeartbeats 1000000 in
theorem refL (ahead s T : ByteArray) (w : World) (ha : ahead.size ≤ 32768) (hs : s.size ≤ 32768) (hT : ahead ++ s = T) :
    Calls Try.prog 9 #[.string ahead, .string s] w fun e w' => (∃ z d : Nat, e = .returned (.tuple #[.int .i64 (z : Nat), .int .i64 (d : Nat)]) ∧ LongestR T.data.toList ahead.size (min s.size 258) z d) ∧ Touch (fun _ => False) w w' := by
  obtain ⟨M, hM⟩ : ∃ M, M = min s.size 258 := ⟨_, rfl⟩
  rw [← hM]
  have hTs : T.size = ahead.size + s.size := by rw [← hT]; simp
  have hXs : ∀ n, T.data.toList.getD (ahead.size + n) 0 = s.data.toList.getD n 0 := fun n => by rw [← hT]; exact app_right ahead s n
  have HXS := Lib.hid hXs
  clear hXs
  go_enter Try.func9, Try.ntmps9
  go_wp2_with fail
  go_loopw [7, 8, 9] (fun bs di dd wr => ∃ S d D : Nat, bs = .int .i64 (S : Nat) ∧ di = .int .i64 (d : Nat) ∧ dd = .int .i64 (D : Nat) ∧ 1 ≤ D ∧ D ≤ ahead.size + 1 ∧ S ≤ 258 ∧ d ≤ 32768 ∧ RowKit.Hid (BestN T.data.toList ahead.size M D S d) ∧ Touch (fun _ => False) w wr) (fun _ _ i _ => ahead.size + 1 - (intOf i).toNat)
  case atStart => exact ⟨0, 0, 1, rfl, rfl, rfl, Nat.le_refl _, by omega, by omega, by omega, Lib.hid (BestN.first _ _ _), Touch.refl _ _⟩
  case round =>
    obtain ⟨S, d, D, rfl, rfl, rfl, hD1, hD2, hS, hd, HB, ht⟩ := hrel
    by_cases hlt : D ≤ ahead.size
    · obtain ⟨p, hp⟩ : ∃ p, p + D = ahead.size := ⟨ahead.size - D, by omega⟩
      have hpi : (ahead.size : Int) - (D : Int) = (p : Int) := by omega
      have hl1 : (D : Int) ≤ (ahead.size : Int) := by omega
      have hl2 : (D : Int) ≤ 32768 := by omega
      go_wp2_with fail
      go_loopw [10] (fun i wx => ∃ n : Nat, i = .int .i64 (n : Nat) ∧ n ≤ M ∧ RowKit.Hid (∀ k, k < n → T.data.toList.getD (p + k) 0 = T.data.toList.getD (ahead.size + k) 0) ∧ Touch (fun _ => False) w wx) (fun i _ => M - (intOf i).toNat)
      case atStart => exact ⟨0, rfl, Nat.zero_le _, Lib.hid (fun k h => absurd h (Nat.not_lt_zero _)), ht⟩
      case round =>
        obtain ⟨n, rfl, hn, HE, ht2⟩ := hrel
        have hn0 : (0 : Int) ≤ (n : Int) := by omega
        have hsw : IntKind.i64.wrap ((ahead.size : Int) - (D : Int)) = (p : Int) := by rw [hpi, IntKind.wrap_i64]; omega
        by_cases hnM : n < M
        · have hn1 : (n : Int) < (s.size : Int) := by omega
          have hn2 : (n : Int) < 258 := by omega
          have hn3 : n < s.size := by omega
          have hn4 : p + n < T.size := by omega
          have hd1 : decide ((n : Int) < (s.size : Int)) = true := decide_eq_true hn1
          have hd2 : decide (n < s.size) = true := decide_eq_true hn3
          have hd3 : decide ((n : Int) < 258) = true := decide_eq_true hn2
          have hd4 : decide (n < 258) = true := decide_eq_true (by omega)
          obtain ⟨x, hx⟩ : ∃ x, x = T.data.toList.getD (p + n) 0 := ⟨_, rfl⟩
          obtain ⟨y, hy⟩ : ∃ y, y = T.data.toList.getD (ahead.size + n) 0 := ⟨_, rfl⟩
          have hbx0 : T[p + n] = x := by rw [hx]; exact byte_at T (p + n) hn4
          have hby : s[n] = y := by rw [hy, HXS.out]; exact byte_at s n hn3
          obtain ⟨pi, hpie⟩ : ∃ pi, pi = p + n := ⟨_, rfl⟩
          have hw1 : IntKind.i64.wrap ((p : Int) + (n : Int)) = (pi : Int) := by rw [hpie]; exact sum_wrap p n (by omega)
          have hpiT : pi < T.size := by omega
          have hbx : T[pi] = x := by subst hpie; exact hbx0
          have hpi0 : (0 : Int) ≤ (pi : Int) := by omega
          have hpi' : (pi : Int) < (T.size : Int) := by omega
          have HXX := Lib.hid hx
          have HYY := Lib.hid hy
          clear hx hy hpie hbx0
          by_cases hxy : x = y
          · subst hxy
            go_wp2_with fail
            go_quiet (fail)
            go_wp2_with fail
            go_roundw
            case rel =>
              refine ⟨n + 1, by go_num, by omega, Lib.hid (fun k hk => ?_), ht2.drewN _⟩
              rcases Nat.lt_or_ge k n with h | h
              · exact HE.out k h
              · obtain rfl : k = n := by omega
                rw [← HXX.out, ← HYY.out]
            case measure => simp [intOf]; omega
          · have hne : ((x.toNat : Int) == (y.toNat : Int)) = false := beq_eq_false_iff_ne.2 (fun e => hxy (UInt8.toNat_inj.1 (by omega)))
            have HML := Lib.hid (mlen_eq T.data.toList p ahead.size M n (by omega) HE.out (.inr (by rw [← HXX.out, ← HYY.out]; exact hxy)))
            by_cases hg : S < n
            · have hg1 : (S : Int) < (n : Int) := by omega
              have hg2 : decide ((S : Int) < (n : Int)) = true := decide_eq_true hg1
              go_wp2_with fail
              go_quiet (fail)
              go_wp2_with fail
              go_roundw
              case rel => exact ⟨n, D, D + 1, rfl, rfl, by go_num, by omega, by omega, by omega, by omega, Lib.hid (HB.out.more hp hD1 HML.out hg), ht2.drewN _⟩
              case measure => simp [intOf]; omega
            · have hg1 : (n : Int) ≤ (S : Int) := by omega
              go_wp2_with fail
              go_quiet (fail)
              go_wp2_with fail
              go_roundw
              case rel => exact ⟨S, d, D + 1, rfl, rfl, by go_num, by omega, by omega, by omega, by omega, Lib.hid (HB.out.same hp hD1 HML.out (by omega)), ht2.drewN _⟩
              case measure => simp [intOf]; omega
        · have HML := Lib.hid (mlen_eq T.data.toList p ahead.size M n (by omega) HE.out (.inl (by omega)))
          by_cases hss : n < s.size
          · have hd1 : decide ((n : Int) < (s.size : Int)) = true := decide_eq_true (by omega)
            have hd2 : decide (n < s.size) = true := decide_eq_true hss
            have hd3 : decide ((n : Int) < 258) = false := decide_eq_false (by omega)
            have hd4 : decide (n < 258) = false := decide_eq_false (by omega)
            have hg0 : (n : Int) < (s.size : Int) := by omega
            have hg3 : (258 : Int) ≤ (n : Int) := by omega
            by_cases hg : S < n
            · have hg1 : (S : Int) < (n : Int) := by omega
              have hg2 : decide ((S : Int) < (n : Int)) = true := decide_eq_true hg1
              go_wp2_with fail
              go_quiet (fail)
              go_wp2_with fail
              go_roundw
              case rel => exact ⟨n, D, D + 1, rfl, rfl, by go_num, by omega, by omega, by omega, by omega, Lib.hid (HB.out.more hp hD1 HML.out hg), ht2.drewN _⟩
              case measure => simp [intOf]; omega
            · have hg1 : (n : Int) ≤ (S : Int) := by omega
              go_wp2_with fail
              go_quiet (fail)
              go_wp2_with fail
              go_roundw
              case rel => exact ⟨S, d, D + 1, rfl, rfl, by go_num, by omega, by omega, by omega, by omega, Lib.hid (HB.out.same hp hD1 HML.out (by omega)), ht2.drewN _⟩
              case measure => simp [intOf]; omega
          · have hd1 : decide ((n : Int) < (s.size : Int)) = false := decide_eq_false (by omega)
            have hd2 : decide (n < s.size) = false := decide_eq_false hss
            have hg0 : (s.size : Int) ≤ (n : Int) := by omega
            by_cases hg : S < n
            · have hg1 : (S : Int) < (n : Int) := by omega
              have hg2 : decide ((S : Int) < (n : Int)) = true := decide_eq_true hg1
              go_wp2_with fail
              go_quiet (fail)
              go_wp2_with fail
              go_roundw
              case rel => exact ⟨n, D, D + 1, rfl, rfl, by go_num, by omega, by omega, by omega, by omega, Lib.hid (HB.out.more hp hD1 HML.out hg), ht2.drewN _⟩
              case measure => simp [intOf]; omega
            · have hg1 : (n : Int) ≤ (S : Int) := by omega
              go_wp2_with fail
              go_quiet (fail)
              go_wp2_with fail
              go_roundw
              case rel => exact ⟨S, d, D + 1, rfl, rfl, by go_num, by omega, by omega, by omega, by omega, Lib.hid (HB.out.same hp hD1 HML.out (by omega)), ht2.drewN _⟩
              case measure => simp [intOf]; omega
    · have hl1 : (ahead.size : Int) < (D : Int) := by omega
      have hfin := HB.out.last ha (by omega)
      by_cases hS3 : S < 3
      · rw [if_pos hS3] at hfin
        have HFIN := Lib.hid hfin
        clear hfin
        have hS3' : (S : Int) < 3 := by omega
        go_wp2_with fail
        go_ret2
        exact ⟨⟨0, 0, rfl, HFIN.out⟩, ht⟩
      · rw [if_neg hS3] at hfin
        have HFIN := Lib.hid hfin
        clear hfin
        have hS3' : (3 : Int) ≤ (S : Int) := by omega
        go_wp2_with fail
        go_ret2
        exact ⟨⟨S, d, rfl, HFIN.out⟩, ht⟩
end Go.Proofs.Ytbjkoepldccaaaa

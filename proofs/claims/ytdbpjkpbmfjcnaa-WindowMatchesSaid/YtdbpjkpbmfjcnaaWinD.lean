/- Contracts of package window over the translated program: a copy of a window, and how far it is a text's beginning. -/
import Derived.Test.YtdbpjkpbmfjcnaaWinC
import Derived.Lib.Slices
namespace Go.Proofs.Ytdbpjkpbmfjcnaa
open Go Go.RowKit
set_option maxRecDepth 100000

set_option maxHeartbeats 400000 in
theorem clone_b (xs : List Value) (v : Value) (w : World) (hv : Reads w v xs) (h1 : ∀ u ∈ xs, u.oneCell' = true) (hn : xs.length ≤ 1048576) :
    Calls Try.prog 65 #[v] w fun e w' => ∃ r, e = .returned r ∧ Row w' 5 r xs ∧ Sep w.heap.size none r.ownBlock ∧ Touch (fun _ => False) w w' := by
  obtain ⟨i0, hi, hz0, hz1, hz2⟩ := info_parts Try.infoB
  obtain ⟨a, cap, hv', hc1, hc2⟩ := hv.form
  subst hv'
  unfold maxLen at hc2
  have heq := fun (a : Option Addr) (n : Nat) (W : World) => Lib.run_eql_slice_nil (P := Try.prog) W 64 5 a n cap 0 0 Try.underlying64
  cases a with
  | none =>
    obtain rfl : xs = [] := by
      obtain ⟨a', cap', he, _, _, h3⟩ := hv
      injection he with he _ _
      subst he
      rcases h3 with h3 | ⟨_, _, h3, _⟩
      · exact h3
      · cases h3
    go_enter Try.func65, Try.ntmps65
    go_wp2
    go_ret
    exact ⟨_, rfl, Row.nil _ _, .inl rfl, Touch.refl _ _⟩
  | some a =>
    have hsrc : ∀ W, Touch (fun _ => False) w W → Src Try.prog 1 64 (.slice (some a) xs.length cap) xs.length xs W := fun W hW => (hv.still hW).src Try.underlying64 h1
    clear hv h1
    go_enter Try.func65, Try.ntmps65
    go_wp2_with (at_builtin; refine wpList_append_row _ rfl (.tmp 5) (.tmp 6) 64 64 rfl 5 i0 _ 1 Try.underlying64 hi hz0 hz1 hz2 rfl (.slice (some ⟨w.heap.size, 0, none⟩) 0 0) [] rfl (by exact .inr ⟨_, 0, 0, #[], rfl, heap_alloc_new w _, Nat.le_refl _, Nat.zero_le _, Nat.le_refl _, rfl⟩) (.slice (some a) xs.length cap) rfl xs.length xs (by exact hsrc _ ((Touch.refl _ _).alloc _)) (by unfold maxLen; simp; omega) (by simp; omega) ?_; intro v2 w2 hrow2 hgrow hown2)
    go_ret
    refine ⟨_, rfl, hrow2, ?_, (Touch.refl _ _).alloc _ |>.grown hgrow (fun k hk => ?_)⟩
    · rcases hown2 with h | h
      · exact .inr ⟨w.heap.size, h, Nat.le_refl _⟩
      · exact .inr ⟨_, h, by simp⟩
    · simp [Value.ownBlock] at hk
      right; omega

theorem copied_nil (w : World) : Calls Try.prog 45 #[.pointer none] w fun e w' => e = .returned (.pointer none) ∧ w = w' := by
  go_enter Try.func45, Try.ntmps45
  go_wp2
  go_ret
  exact ⟨rfl, rfl⟩

set_option maxHeartbeats 400000 in
theorem copied_calls (b : Nat) (all : List UInt8) (w0 w : World) (h : FrW w0 w b all) :
    Calls Try.prog 45 #[.pointer (some ⟨b, 0, none⟩)] w fun e w' => ∃ b2, e = .returned (.pointer (some ⟨b2, 0, none⟩)) ∧ FrW w w' b2 all := by
  obtain ⟨row, ⟨R, v, ⟨c0, c1, f0, f1⟩, hrow, hap, rfl, hR⟩, x1, x2, x3⟩ := h
  clear x1 x2 x3
  have hRl := hR.1
  have HCL := Lib.hid (fun W (ht : Touch (fun _ => False) w W) => clone_b (byteVs R) v W (hrow.reads.still ht) (by simp [byteVs, Value.oneCell']) (by rw [byteVs_length]; omega))
  have HR := Lib.hid hR
  have hlb := World.block_lt_of_cell? w _ c0
  clear hR hRl hrow hap
  go_enter Try.func45, Try.ntmps45
  go_wp2_with fail
  rw [Nat.zero_add] at c1 f1
  go_region_held3 (fun W => W.cell? ⟨b, 0, none⟩ = some v ∧ W.cell? ⟨b, 1, none⟩ = some (.int .i64 (all.length : Nat)))
    (first | exact ⟨hT9.cell c0 id, hT9.cell c1 id⟩ | go_keep)
    (first | (go_at_call 65; refine (HCL.out _ (by first | exact Touch.refl _ _ | exact (Touch.refl _ _).drew | exact (Touch.refl _ _).drew.drew)).mono ?_; rintro e w9 ⟨r, rfl, hr9, hs9, ht9⟩; have hT9 : Touch (fun _ => False) w w9 := (by first | exact ht9 | exact ((Touch.refl _ _).drew).trans ht9 | exact ((Touch.refl _ _).drew.drew).trans ht9); obtain ⟨ra, rcap, hre, hrc1, hrc2⟩ := hr9.form; subst hre))
  all_goals
    clear c0 c1 f0 f1 HCL
    go_wp2
    go_ret
    have hh := heap_alloc_new w9 (.cells #[.slice ra (byteVs R).length rcap, .int .i64 (all.length : Nat)] 66)
    have hne : (Value.slice ra (byteVs R).length rcap).ownBlock ≠ some w9.heap.size := fun e => by have := hr9.lt _ e; omega
    have hal := (Touch.refl (fun _ => False) w9).alloc (.cells #[.slice ra (byteVs R).length rcap, .int .i64 (all.length : Nat)] 66)
    refine ⟨w9.heap.size, rfl, _, ⟨R, _, ⟨?_, ?_, ?_, ?_⟩, hr9.kept hal (fun _ _ => id), hne, rfl, HR.out⟩, hT9.size, fun g hg => ?_, hT9.alloc _⟩
    · rw [cell_of_row _ _ _ _ _ _ hh]; rfl
    · rw [cell_of_row _ _ _ _ _ _ hh]; rfl
    · simp only [World.frozen?, hh]
      rfl
    · simp only [World.frozen?, hh]
      rfl
    · rcases hs9 with h | ⟨g', h, hge⟩
      · rw [h] at hg; cases hg
      · rw [h] at hg
        have := Option.some.inj hg
        simp only [World.drew] at hge
        omega

/-- The byte that a copy brings at some place, told by what stands ahead of it. -/
def cycB (d : Nat) (all : List UInt8) (i : Nat) : UInt8 := all.getD (all.length - (d - i % d)) 0

theorem match_nil (d : Int) (s : ByteArray) (w : World) : Calls Try.prog 44 #[.pointer none, .int .i64 d, .string s] w fun e w' => e = .returned (.int .i64 0) ∧ w = w' := by
  go_enter Try.func44, Try.ntmps44
  go_wp2_with (go_at_call 63; refine (has_nil d _).mono ?_; rintro e w1 ⟨rfl, rfl⟩)
  go_ret
  exact ⟨rfl, rfl⟩
theorem match_out (b : Nat) (d : Int) (s : ByteArray) (all : List UInt8) (w0 w : World) (h : FrW w0 w b all) (h1 : d < 1 ∨ (min all.length 32768 : Nat) < d) :
    Calls Try.prog 44 #[.pointer (some ⟨b, 0, none⟩), .int .i64 d, .string s] w fun e w' => e = .returned (.int .i64 0) ∧ Touch (fun _ => False) w w' := by
  obtain ⟨row, hW, _, _, _⟩ := h
  have HH := Lib.hid (has_calls b 0 all row d w hW)
  have hd : decide (1 ≤ d ∧ d ≤ (min all.length 32768 : Nat)) = false := decide_eq_false (by omega)
  rw [hd] at HH
  clear hd h1 hW
  go_enter Try.func44, Try.ntmps44
  go_wp2_with (go_at_call 63; refine HH.out.mono ?_; rintro e w1 ⟨rfl, ht1⟩)
  go_ret
  exact ⟨rfl, ht1⟩
set_option maxHeartbeats 1600000 in
theorem match_in (b d : Nat) (s : ByteArray) (all : List UInt8) (w0 w : World) (h : FrW w0 w b all) (h1 : 1 ≤ d) (h2 : d ≤ min all.length 32768) (hl : all.length < 1099511627776) (hs : s.size ≤ 1000) :
    Calls Try.prog 44 #[.pointer (some ⟨b, 0, none⟩), .int .i64 d, .string s] w fun e w' => ∃ n : Nat, e = .returned (.int .i64 (n : Nat)) ∧ n ≤ s.size ∧ n ≤ 258 ∧ (∀ i, i < n → s.data.toList[i]? = some (cycB d all i)) ∧ (n < s.size → n < 258 → s.data.toList[n]? ≠ some (cycB d all n)) ∧ Touch (fun _ => False) w w' := by
  obtain ⟨row, hW, _, _, _⟩ := h
  have HH := Lib.hid (has_calls b 0 all row d w hW)
  have hd : decide (1 ≤ (d : Int) ∧ (d : Int) ≤ (min all.length 32768 : Nat)) = true := decide_eq_true (by omega)
  rw [hd] at HH
  have HA := Lib.hid (fun W (ht : Touch (fun _ => False) w W) (e : Nat) (he : 1 ≤ e) (he2 : e ≤ d) => at_drew b 0 e all row W (hW.still ht) he (by omega) hl)
  have HDB := Lib.hid (show d ≤ 32768 by omega)
  clear hd h2 hl hW
  go_enter Try.func44, Try.ntmps44
  go_wp2_with (go_at_call 63; refine HH.out.mono ?_; rintro e w1 ⟨rfl, ht1⟩)
  · have hM : 258 < s.size := by omega
    go_loopw [6, 8, 17] (fun _ _ i wr => Touch (fun _ => False) w wr ∧ ∃ k : Nat, k ≤ 258 ∧ i = .int .i64 (k : Nat) ∧ RowKit.Hid (∀ i, i < k → s.data.toList[i]? = some (cycB d all i))) (fun _ _ i _ => 258 - (intOf i).toNat)
    case atStart => exact ⟨ht1, 0, Nat.zero_le _, rfl, Lib.hid (fun i hi => absurd hi (by omega))⟩
    case round =>
      clear ht1
      obtain ⟨hT, k, hk, rfl, HI⟩ := hrel
      by_cases hlt : k < 258
      · have hlts : k < s.size := by omega
        have hltb : k < 258 := by omega
        obtain ⟨q, hq, hqd⟩ : ∃ q : Nat, k % d = q ∧ q < d := ⟨_, rfl, Nat.mod_lt _ (by omega)⟩
        obtain ⟨e, he⟩ : ∃ e : Nat, d - q = e := ⟨_, rfl⟩
        have hqi : (k : Int) % (d : Int) = (q : Nat) := by rw [← hq]; simp
        have hei : (d : Int) - (q : Int) = (e : Nat) := by omega
        have hew : wrap64 (e : Int) = (e : Int) := by have := HDB.out; unfold wrap64; omega
        have hcy : cycB d all k = all.getD (all.length - e) 0 := by unfold cycB; rw [hq, he]
        have HA2 := Lib.hid (fun W (ht : Touch (fun _ => False) w W) => (HA.out W ht e (by omega) (by omega)).mono (R' := fun x w' => x = .returned (.int .u8 ((all.getD (all.length - e) 0).toNat : Nat)) ∧ ∃ nq, w' = W.drewN nq) fun _ _ h => ⟨h.1, 1, h.2⟩)
        rw [← hcy] at HA2
        have hsk : s.data.toList[k]? = some s[k] := List.getElem?_eq_getElem (by rw [data_length]; exact hlts)
        have HK := Lib.hid hsk
        have hd0 : (d : Int) ≠ 0 := by omega
        have hu1 := (cycB d all k).toNat_lt
        have hu2 := s[k].toNat_lt
        clear hq he hcy hsk
        by_cases hyc : cycB d all k = s[k]
        · have hb : (((cycB d all k).toNat : Int) != (s[k].toNat : Int)) = false := by rw [hyc]; simp
          have HY := Lib.hid hyc
          clear hyc
          go_wp2_with fail
          go_quiet ((go_at_call 64; with_reducible refine Calls.quiet_of (HA2.out _ ?_); exact hT.drewN _))
          go_wp2_with fail
          go_roundw
          case rel =>
            refine ⟨hT.drewN _, k + 1, by omega, by go_num, Lib.hid (fun i hi => ?_)⟩
            by_cases hik : i < k
            · exact HI.out i hik
            · obtain rfl : i = k := by omega
              rw [HK.out, HY.out]
          case measure => simp [intOf]; omega
        · have hb : (((cycB d all k).toNat : Int) != (s[k].toNat : Int)) = true := by
            simp only [bne_iff_ne, ne_eq]
            intro h
            exact hyc (UInt8.toNat_inj.1 (by omega))
          have HY := Lib.hid hyc
          clear hyc
          go_wp2_with fail
          go_quiet ((go_at_call 64; with_reducible refine Calls.quiet_of (HA2.out _ ?_); exact hT.drewN _))
          go_wp2_with fail
          go_ret
          exact ⟨k, rfl, by omega, by omega, HI.out, fun _ _ => by rw [HK.out]; exact fun h => HY.out (Option.some.inj h).symm, hT.drewN _⟩
      · have hke : k = 258 := by omega
        have HKE := Lib.hid hke
        clear hke
        go_wp2_with fail
        go_ret
        exact ⟨k, ret1 (congrArg (Value.int .i64) (by have := HKE.out; omega)), by omega, by omega, HI.out, fun h1 h2 => absurd h1 (by omega), hT⟩
  · have hM : s.size ≤ 258 := by omega
    go_loopw [6, 8, 17] (fun _ _ i wr => Touch (fun _ => False) w wr ∧ ∃ k : Nat, k ≤ s.size ∧ i = .int .i64 (k : Nat) ∧ RowKit.Hid (∀ i, i < k → s.data.toList[i]? = some (cycB d all i))) (fun _ _ i _ => s.size - (intOf i).toNat)
    case atStart => exact ⟨ht1, 0, Nat.zero_le _, rfl, Lib.hid (fun i hi => absurd hi (by omega))⟩
    case round =>
      clear ht1
      obtain ⟨hT, k, hk, rfl, HI⟩ := hrel
      by_cases hlt : k < s.size
      · have hlts : k < s.size := by omega
        have hltb : k < 258 := by omega
        obtain ⟨q, hq, hqd⟩ : ∃ q : Nat, k % d = q ∧ q < d := ⟨_, rfl, Nat.mod_lt _ (by omega)⟩
        obtain ⟨e, he⟩ : ∃ e : Nat, d - q = e := ⟨_, rfl⟩
        have hqi : (k : Int) % (d : Int) = (q : Nat) := by rw [← hq]; simp
        have hei : (d : Int) - (q : Int) = (e : Nat) := by omega
        have hew : wrap64 (e : Int) = (e : Int) := by have := HDB.out; unfold wrap64; omega
        have hcy : cycB d all k = all.getD (all.length - e) 0 := by unfold cycB; rw [hq, he]
        have HA2 := Lib.hid (fun W (ht : Touch (fun _ => False) w W) => (HA.out W ht e (by omega) (by omega)).mono (R' := fun x w' => x = .returned (.int .u8 ((all.getD (all.length - e) 0).toNat : Nat)) ∧ ∃ nq, w' = W.drewN nq) fun _ _ h => ⟨h.1, 1, h.2⟩)
        rw [← hcy] at HA2
        have hsk : s.data.toList[k]? = some s[k] := List.getElem?_eq_getElem (by rw [data_length]; exact hlts)
        have HK := Lib.hid hsk
        have hd0 : (d : Int) ≠ 0 := by omega
        have hu1 := (cycB d all k).toNat_lt
        have hu2 := s[k].toNat_lt
        clear hq he hcy hsk
        by_cases hyc : cycB d all k = s[k]
        · have hb : (((cycB d all k).toNat : Int) != (s[k].toNat : Int)) = false := by rw [hyc]; simp
          have HY := Lib.hid hyc
          clear hyc
          go_wp2_with fail
          go_quiet ((go_at_call 64; with_reducible refine Calls.quiet_of (HA2.out _ ?_); exact hT.drewN _))
          go_wp2_with fail
          go_roundw
          case rel =>
            refine ⟨hT.drewN _, k + 1, by omega, by go_num, Lib.hid (fun i hi => ?_)⟩
            by_cases hik : i < k
            · exact HI.out i hik
            · obtain rfl : i = k := by omega
              rw [HK.out, HY.out]
          case measure => simp [intOf]; omega
        · have hb : (((cycB d all k).toNat : Int) != (s[k].toNat : Int)) = true := by
            simp only [bne_iff_ne, ne_eq]
            intro h
            exact hyc (UInt8.toNat_inj.1 (by omega))
          have HY := Lib.hid hyc
          clear hyc
          go_wp2_with fail
          go_quiet ((go_at_call 64; with_reducible refine Calls.quiet_of (HA2.out _ ?_); exact hT.drewN _))
          go_wp2_with fail
          go_ret
          exact ⟨k, rfl, by omega, by omega, HI.out, fun _ _ => by rw [HK.out]; exact fun h => HY.out (Option.some.inj h).symm, hT.drewN _⟩
      · have hke : k = s.size := by omega
        have HKE := Lib.hid hke
        clear hke
        go_wp2_with fail
        go_ret
        exact ⟨k, ret1 (congrArg (Value.int .i64) (by have := HKE.out; omega)), by omega, by omega, HI.out, fun h1 h2 => absurd h1 (by omega), hT⟩
end Go.Proofs.Ytdbpjkpbmfjcnaa

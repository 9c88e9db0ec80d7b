/- The reference's least cost over the translated program: its beginning. -/
import Derived.Test.YthobbdnmhldglaaMrgSo
import Derived.Test.YthobbdnmhldglaaMrgPs
import Derived.Deep.CutBlock
import Derived.Deep.DeepCutAuto
import Derived.Deep.LoopGhost
namespace Go.Proofs.Ythobbdnmhldglaa
open Go Go.RowKit
set_option maxRecDepth 100000

theorem made_ints0 (n : Nat) : (madeCells (Value.int .i64 0).cells (n * 1)).toList = rowZ n (fun _ => 0) := by
  rw [Nat.mul_one, show (Value.int .i64 0).cells = #[Value.int .i64 0] from rfl, toList_madeCells_one]
  unfold rowZ tblV
  rw [List.map_const', List.length_range]
theorem made_rows0 (n : Nat) : (madeCells (Value.slice none 0 0).cells (n * 1)).toList = tblV n (fun _ => Value.slice none 0 0) := by
  rw [Nat.mul_one, show (Value.slice none 0 0).cells = #[Value.slice none 0 0] from rfl, toList_madeCells_one]
  unfold tblV
  rw [List.map_const', List.length_range]
theorem Try.infoRow : (Try.prog.info? 22).map (fun i => (i.zero, i.size, i.bytes)) = some (some (.slice none 0 0), 1, 24) := by kernel_rfl

set_option maxHeartbeats 40000000 in
theorem least_calls (c CS : List Nat) (N n S : Nat) (v : Value) (w : World) (h24 : c.length ≤ 24) (hv : Reads w v (natVs c)) (hl : sortD c c.length = CS.reverse) (hn : CS.length = n) (hs : CS.Pairwise (· ≤ ·)) (hS : CS.sum = S) (hS2 : S ≤ 1099511627776)
    (h2 : 2 ≤ n) (hN1 : 1 ≤ N) (hN2 : N ≤ 15) (s q : Nat → Nat) (hp : PathP CS.length N s q) (hopt : optM CS N = pathC CS s N) :
    Calls Try.prog 11 #[v, .int .i64 (N : Nat)] w fun e w' => e = .returned (.int .i64 (optM CS N : Nat)) ∧ Touch (fun _ => False) w w' := by
  obtain ⟨i0, hi, hz0, hz1, hz2⟩ := info_parts Try.infoInt
  obtain ⟨r0, hri, hr0, hr1, hr2⟩ := info_parts Try.infoRow
  have hn24 : n ≤ 24 := by
    have := sortD_length c c.length
    rw [hl, List.length_reverse] at this
    omega
  have HSO := Lib.hid (sorted_calls c v w h24 hv)
  rw [hl] at HSO
  clear hl
  go_enter Try.func11, Try.ntmps11
  go_wp2_with fail
  refine HSO.out.mono ?_
  rintro e w1 ⟨lv, rfl, hrow, ht⟩
  have hlf := hrow.form
  obtain ⟨la, lcap, hle, hlc, hlm⟩ := hlf
  rw [natVs_length, List.length_reverse, hn] at hle hlc
  subst hle
  have HL := Lib.hid hrow.reads
  have HLT := Lib.hid hrow.lt
  have HT := Lib.hid ht
  clear hrow ht HSO
  go_wp2_with (at_make; refine wpList_make_full _ rfl (.tmp 28) (.tmp 28) 22 rfl w1.heap.size 3 i0 _ 1 Try.underlying22 hi hz0 hz1 .i64 .i64 _ _ (n + 1) rfl rfl (by omega) (by omega) (by rw [hz2]; omega) (by unfold maxLen; omega) (Nat.le_refl _) ?_; intro w2 hown hgrow)
  rw [made_ints0] at hown
  have HRR := Lib.hid (Row.of_own hown)
  have HT2 := Lib.hid (HT.out.grown hgrow (fun k h => by cases h))
  have HL2 := Lib.hid (HL.out.still ((Touch.refl (fun _ => False) w1).grown hgrow (fun k h => by cases h)))
  have hs1 := HT.out.size
  obtain ⟨gR, hgR⟩ : ∃ gR, w1.heap.size = gR := ⟨_, rfl⟩
  rw [hgR] at HRR HLT ⊢
  have HGR := Lib.hid (show w.heap.size ≤ gR by omega)
  clear hown hgrow HT HL hs1 hgR
  go_wp2_with fail
  go_loopw [8] (fun i wr => ∃ m : Nat, i = .int .i64 ((m : Int) - 1) ∧ m ≤ n ∧ RowKit.Hid (Row wr 3 (sliceG (n + 1) gR) (rowZ (n + 1) fun j => if m ≤ j then (preC CS (n - j) : Nat) else 0)) ∧ RowKit.Hid (Touch (fun k => k = gR) w2 wr)) (fun i _ => (intOf i + 1).toNat)
  case atStart =>
    refine ⟨n, rfl, Nat.le_refl _, Lib.hid ?_, Lib.hid (Touch.refl _ _)⟩
    have e : (rowZ (n + 1) fun j => if n ≤ j then ((preC CS (n - j) : Nat) : Int) else 0) = rowZ (n + 1) fun _ => 0 := tblV_congr _ _ _ (fun k hk => by
      dsimp only
      split
      · rw [show n - k = 0 by omega, preC_zero]; rfl
      · rfl)
    rw [e]
    exact HRR.out
  case round =>
    obtain ⟨m, rfl, hm, HR, HTr⟩ := hrel
    cases m with
    | zero =>
      have hm1 : ((0 : Nat) : Int) - 1 = -1 := by omega
      rw [hm1]
      clear hm1
      have HR0 : RowKit.Hid (Row wr 3 (sliceG (n + 1) gR) (rowZ (n + 1) fun j => (preC CS (n - j) : Nat))) := Lib.hid (by
        have e : (rowZ (n + 1) fun j => if 0 ≤ j then ((preC CS (n - j) : Nat) : Int) else 0) = rowZ (n + 1) fun j => (preC CS (n - j) : Nat) := tblV_congr _ _ _ (fun k hk => by dsimp only; rw [if_pos (Nat.zero_le _)])
        rw [← e]; exact HR.out)
      have HLr := Lib.hid (HL2.out.kept HTr.out (fun g hg e => by have := HLT.out g hg; omega))
      have HTT : RowKit.Hid (Touch (fun _ => False) w wr) := Lib.hid (HT2.out.trans' HTr.out (fun k hk => .inr (by have := HGR.out; omega)))
      clear HR HRR HL2 HT2 HTr hm
      go_wp2_with (at_make; refine wpList_make_full _ rfl (.tmp 50) (.tmp 50) 47 rfl wr.heap.size 22 r0 _ 1 Try.underlying47 hri hr0 hr1 .i64 .i64 _ _ (n + 1) rfl rfl (by omega) (by omega) (by rw [hr2]; omega) (by unfold maxLen; omega) (Nat.le_refl _) ?_; intro w4 hown4 hgrow4)
      obtain ⟨wB, rfl⟩ : ∃ x, x = wr := ⟨wr, rfl⟩
      obtain ⟨gA, hgA⟩ : ∃ gA, wB.heap.size = gA := ⟨_, rfl⟩
      have HGA := Lib.hid hgA
      rw [made_rows0] at hown4
      have HLO := Lib.hid (show w.heap.size ≤ gA by have := HTT.out.size; omega)
      have hrA := Row.of_own hown4
      rw [hgA] at hrA ⊢
      have HB0 : RowKit.Hid (MatB w4 22 3 gA gA (n + 1) 0 (fun _ => 0) (fun _ _ => -1)) := Lib.hid (MatB.first _ _ hrA (Nat.le_refl _))
      have hT4 : Touch (fun _ => False) wB w4 := (Touch.refl (fun _ => False) wB).grown hgrow4 (fun k h => by cases h)
      have HT4 := Lib.hid hT4
      have HRA := Lib.hid (show gR < gA by have := HR0.out.lt gR rfl; omega)
      clear hown4 hgrow4 hT4 hrA hgA
      go_loopw [10] (fun iv wx => ∃ (m : Nat) (G : Nat → Nat), iv = .int .i64 (m : Nat) ∧ m ≤ n + 1 ∧ RowKit.Hid (MatB wx 22 3 gA gA (n + 1) m G (fun _ _ => -1)) ∧ RowKit.Hid (Touch (fun _ => False) wB wx)) (fun iv _ => n + 1 - (intOf iv).toNat)
      case atStart => exact ⟨0, fun _ => 0, rfl, Nat.zero_le _, HB0, HT4⟩
      case round =>
        obtain ⟨m, G, rfl, hm, HB, HTB⟩ := hrel
        have hm0 : (0 : Int) ≤ (m : Int) := by omega
        by_cases hlt : m < n + 1
        · have hml : (m : Int) ≤ (n : Int) := by omega
          have hml1 : (m : Int) < (n : Int) + 1 := by omega
          obtain ⟨wx, hwx⟩ : ∃ x, x = wr := ⟨_, rfl⟩
          go_wp2_with (at_make; refine wpList_make_full _ rfl (.tmp 60) (.tmp 60) 22 rfl wr.heap.size 3 i0 _ 1 Try.underlying22 hi hz0 hz1 .i64 .i64 _ _ (n + 1) rfl rfl (by omega) (by omega) (by rw [hz2]; omega) (by unfold maxLen; omega) (Nat.le_refl _) ?_; intro w5 hown5 hgrow5; have hT5 : Touch (fun _ => False) wr w5 := (Touch.refl (fun _ => False) wr).grown hgrow5 (fun k h => by cases h); have hO5 := (HB.out.outer.kept hT5 (fun _ _ => id)); have hoc := hO5.cells.2 m _ (tblV_get _ _ m hlt); have hof := hO5.free (k := m); rw [Nat.zero_add] at hoc hof; rw [made_ints0] at hown5; have HB5 : RowKit.Hid (MatB (w5.setCell ⟨gA, m, none⟩ (sliceG (n + 1) wr.heap.size)) 22 3 gA gA (n + 1) (m + 1) (fun i => if i = m then wr.heap.size else G i) (fun i => if i = m then (fun _ => 0) else (fun _ => -1))) := Lib.hid (MatB.row HB.out hlt hT5 (Nat.le_refl _) (by have := HB.out.lt.1; have := HB.out.low.1; omega) (Row.of_own hown5)); have HT5 := Lib.hid ((HTB.out.grown hgrow5 (fun k h => by cases h)).setCell (p := ⟨gA, m, none⟩) (.inr (Nat.le_of_eq HGA.out)) (sliceG (n + 1) wr.heap.size)); clear hown5 hgrow5 hT5 hO5)
          obtain ⟨G', hG'⟩ : ∃ G' : Nat → Nat, G' = fun i => if i = m then wr.heap.size else G i := ⟨_, rfl⟩
          rw [← hG'] at HB5
          clear hG' hoc hof hwx HB HTB
          go_loopw [11] (fun kv wx => ∃ r : Nat, kv = .int .i64 (r : Nat) ∧ r ≤ n + 1 ∧ RowKit.Hid (MatB wx 22 3 gA gA (n + 1) (m + 1) G' (fun i k => if i = m then (if k < r then -1 else 0) else -1)) ∧ RowKit.Hid (Touch (fun _ => False) wB wx)) (fun kv _ => n + 1 - (intOf kv).toNat)
          case atStart => exact ⟨0, rfl, Nat.zero_le _, Lib.hid (HB5.out.congr (fun i k _ _ => by split <;> simp)), HT5⟩
          case round =>
            obtain ⟨r, rfl, hr, HB6, HT6⟩ := hrel
            clear HB5 HT5
            have hr0' : (0 : Int) ≤ (r : Int) := by omega
            by_cases hrl : r < n + 1
            · have hrl1 : (r : Int) ≤ (n : Int) := by omega
              have hrl2 : (r : Int) < (n : Int) + 1 := by omega
              obtain ⟨p0, p1, p2⟩ := HB6.out.cell m r (by omega) hlt hrl
              unfold sliceG at p0
              have HB7 := Lib.hid (HB6.out.set m r (by omega) hrl (-1))
              have HLW := Lib.hid (HB6.out.low.2 m (by omega))
              as_aux_lemma =>
                go_wp2_with fail
                go_roundw
                case rel => exact ⟨r + 1, by go_num, by omega, Lib.hid (HB7.out.congr (fun i k hi hk => by
                  by_cases h1 : i = m
                  · by_cases h2 : k = r
                    · rw [if_pos ⟨h1, h2⟩, if_pos h1, if_pos (by omega)]
                    · rw [if_neg (fun e => h2 e.2), if_pos h1, if_pos h1]
                      by_cases h3 : k < r
                      · rw [if_pos h3, if_pos (by omega)]
                      · rw [if_neg h3, if_neg (by omega)]
                  · rw [if_neg (fun e => h1 e.1), if_neg h1, if_neg h1])), Lib.hid (HT6.out.setCell (p := ⟨G' m, r, none⟩) (.inr (by have := HGA.out; have := HLW.out.1; show wB.heap.size ≤ G' m; omega)) _)⟩
                case measure => simp [intOf]; omega
            · obtain rfl : r = n + 1 := by omega
              as_aux_lemma =>
                go_wp2_with fail
                go_roundw
                case rel => exact ⟨m + 1, G', by go_num, by omega, Lib.hid (HB6.out.congr (fun i k hi hk => by
                  by_cases h1 : i = m
                  · rw [if_pos h1, if_pos hk]
                  · rw [if_neg h1])), HT6⟩
                case measure => simp [intOf]; omega
        · obtain rfl : m = n + 1 := by omega
          obtain ⟨p0, p1, p2⟩ := HB.out.cell 0 1 (by omega) (by omega) (by omega)
          unfold sliceG at p0
          have hn1' : (1 : Int) < (n : Int) + 1 := by omega
          have hn0' : (0 : Int) < (n : Int) + 1 := by omega
          have HB8 := HB.out.set 0 1 (by omega) (by omega) 0
          rw [none_set _ (fun _ _ => rfl)] at HB8
          have HB9 := Lib.hid HB8
          have HLW := Lib.hid (HB.out.low.2 0 (by omega))
          have HT9 : RowKit.Hid (Touch (fun _ => False) wB (wr.setCell ⟨G 0, 1, none⟩ (.int .i64 0))) := Lib.hid (HTB.out.setCell (p := ⟨G 0, 1, none⟩) (.inr (by have := HGA.out; have := HLW.out.1; show wB.heap.size ≤ G 0; omega)) _)
          clear HB8 HB0
          go_wp2_with fail
          obtain ⟨w0, hw0⟩ : ∃ x, x = wr.setCell ⟨G 0, 1, none⟩ (.int .i64 0) := ⟨_, rfl⟩
          rw [← hw0] at HB9 HT9 ⊢
          clear hw0 p0 p1 p2 HB HTB HLW HT4
          have HR5 := Lib.hid (HR0.out.kept HT9.out (fun _ _ => id))
          go_loopw [9, 12, 13] (fun av bv lv wx => ∃ (L g B : Nat) (G : Nat → Nat) (T : Nat → Nat → Int) (best : Int), av = sliceG (n + 1) g ∧ bv = .int .i64 best ∧ lv = .int .i64 (L : Nat) ∧ L ≤ N ∧ -1 ≤ best ∧ best ≤ 16492674416640 ∧ B ≤ L * 1099511627776 ∧ RowKit.Hid (MatB wx 22 3 gA g (n + 1) (n + 1) G T) ∧ RowKit.Hid (LowM CS N L T best) ∧ RowKit.Hid (HasM CS N s q L T best) ∧ RowKit.Hid (BndM B T) ∧ RowKit.Hid (Touch (fun _ => False) wB wx)) (fun _ _ lv _ => N - (intOf lv).toNat)
          case atStart => exact ⟨0, gA, 0, G, firstT, -1, rfl, rfl, rfl, Nat.zero_le _, by omega, by omega, by omega, HB9, Lib.hid (firstT_low CS N (by omega)), Lib.hid (firstT_has hp hN1 (by omega)), Lib.hid firstT_bnd, HT9⟩
          case round =>
            obtain ⟨L, g, B, G1, T, best, hav, rfl, rfl, hLN, hb0, hb1, hB1, HM, HLO1, HH, HBD, HTL⟩ := hrel
            unfold sliceG at hav
            subst hav
            clear HB9 HT9
            by_cases hlt1 : L < N
            · have hLi : (L : Int) < (N : Int) := by omega
              obtain ⟨wN, rfl⟩ : ∃ x, x = wr := ⟨wr, rfl⟩
              obtain ⟨gN, hgN⟩ : ∃ gN, wN.heap.size = gN := ⟨_, rfl⟩
              have HGN := Lib.hid hgN
              go_wp2_with (at_make; refine wpList_make_full _ rfl (.tmp 84) (.tmp 84) 47 rfl wN.heap.size 22 r0 _ 1 Try.underlying47 hri hr0 hr1 .i64 .i64 _ _ (n + 1) rfl rfl (by omega) (by omega) (by rw [hr2]; omega) (by unfold maxLen; omega) (Nat.le_refl _) ?_; intro w7 hown7 hgrow7)
              rw [made_rows0] at hown7
              have hrN := Row.of_own hown7
              rw [hgN] at hrN
              have HB0 : RowKit.Hid (MatB w7 22 3 gN gN (n + 1) 0 (fun _ => 0) (fun _ _ => -1)) := Lib.hid (MatB.first _ _ hrN (Nat.le_refl _))
              have HT4 := Lib.hid ((Touch.refl (fun _ => False) wN).grown hgrow7 (fun k h => by cases h))
              clear hown7 hgrow7 hrN hgN
              go_loopw [15] (fun iv wx => ∃ (m : Nat) (G : Nat → Nat), iv = .int .i64 (m : Nat) ∧ m ≤ n + 1 ∧ RowKit.Hid (MatB wx 22 3 gN gN (n + 1) m G (fun _ _ => -1)) ∧ RowKit.Hid (Touch (fun _ => False) wN wx)) (fun iv _ => n + 1 - (intOf iv).toNat)
              case atStart => exact ⟨0, fun _ => 0, rfl, Nat.zero_le _, HB0, HT4⟩
              case round =>
                obtain ⟨m, G, rfl, hm, HB, HTB⟩ := hrel
                have hm0 : (0 : Int) ≤ (m : Int) := by omega
                by_cases hlt : m < n + 1
                · have hml : (m : Int) ≤ (n : Int) := by omega
                  have hml1 : (m : Int) < (n : Int) + 1 := by omega
                  obtain ⟨wx, hwx⟩ : ∃ x, x = wr := ⟨_, rfl⟩
                  go_wp2_with (at_make; refine wpList_make_full _ rfl (.tmp 94) (.tmp 94) 22 rfl wr.heap.size 3 i0 _ 1 Try.underlying22 hi hz0 hz1 .i64 .i64 _ _ (n + 1) rfl rfl (by omega) (by omega) (by rw [hz2]; omega) (by unfold maxLen; omega) (Nat.le_refl _) ?_; intro w5 hown5 hgrow5; have hT5 : Touch (fun _ => False) wr w5 := (Touch.refl (fun _ => False) wr).grown hgrow5 (fun k h => by cases h); have hO5 := (HB.out.outer.kept hT5 (fun _ _ => id)); have hoc := hO5.cells.2 m _ (tblV_get _ _ m hlt); have hof := hO5.free (k := m); rw [Nat.zero_add] at hoc hof; rw [made_ints0] at hown5; have HB5 : RowKit.Hid (MatB (w5.setCell ⟨gN, m, none⟩ (sliceG (n + 1) wr.heap.size)) 22 3 gN gN (n + 1) (m + 1) (fun i => if i = m then wr.heap.size else G i) (fun i => if i = m then (fun _ => 0) else (fun _ => -1))) := Lib.hid (MatB.row HB.out hlt hT5 (Nat.le_refl _) (by have := HB.out.lt.1; have := HB.out.low.1; omega) (Row.of_own hown5)); have HT5 := Lib.hid ((HTB.out.grown hgrow5 (fun k h => by cases h)).setCell (p := ⟨gN, m, none⟩) (.inr (Nat.le_of_eq HGN.out)) (sliceG (n + 1) wr.heap.size)); clear hown5 hgrow5 hT5 hO5)
                  obtain ⟨G', hG'⟩ : ∃ G' : Nat → Nat, G' = fun i => if i = m then wr.heap.size else G i := ⟨_, rfl⟩
                  rw [← hG'] at HB5
                  clear hG' hoc hof hwx HB HTB
                  go_loopw [16] (fun kv wx => ∃ r : Nat, kv = .int .i64 (r : Nat) ∧ r ≤ n + 1 ∧ RowKit.Hid (MatB wx 22 3 gN gN (n + 1) (m + 1) G' (fun i k => if i = m then (if k < r then -1 else 0) else -1)) ∧ RowKit.Hid (Touch (fun _ => False) wN wx)) (fun kv _ => n + 1 - (intOf kv).toNat)
                  case atStart => exact ⟨0, rfl, Nat.zero_le _, Lib.hid (HB5.out.congr (fun i k _ _ => by split <;> simp)), HT5⟩
                  case round =>
                    obtain ⟨r, rfl, hr, HB6, HT6⟩ := hrel
                    clear HB5 HT5
                    have hr0' : (0 : Int) ≤ (r : Int) := by omega
                    by_cases hrl : r < n + 1
                    · have hrl1 : (r : Int) ≤ (n : Int) := by omega
                      have hrl2 : (r : Int) < (n : Int) + 1 := by omega
                      obtain ⟨p0, p1, p2⟩ := HB6.out.cell m r (by omega) hlt hrl
                      unfold sliceG at p0
                      have HB7 := Lib.hid (HB6.out.set m r (by omega) hrl (-1))
                      have HLW := Lib.hid (HB6.out.low.2 m (by omega))
                      as_aux_lemma =>
                        go_wp2_with fail
                        go_roundw
                        case rel => exact ⟨r + 1, by go_num, by omega, Lib.hid (HB7.out.congr (fun i k hi hk => by
                          by_cases h1 : i = m
                          · by_cases h2 : k = r
                            · rw [if_pos ⟨h1, h2⟩, if_pos h1, if_pos (by omega)]
                            · rw [if_neg (fun e => h2 e.2), if_pos h1, if_pos h1]
                              by_cases h3 : k < r
                              · rw [if_pos h3, if_pos (by omega)]
                              · rw [if_neg h3, if_neg (by omega)]
                          · rw [if_neg (fun e => h1 e.1), if_neg h1, if_neg h1])), Lib.hid (HT6.out.setCell (p := ⟨G' m, r, none⟩) (.inr (by have := HGN.out; have := HLW.out.1; show wN.heap.size ≤ G' m; omega)) _)⟩
                        case measure => simp [intOf]; omega
                    · obtain rfl : r = n + 1 := by omega
                      as_aux_lemma =>
                        go_wp2_with fail
                        go_roundw
                        case rel => exact ⟨m + 1, G', by go_num, by omega, Lib.hid (HB6.out.congr (fun i k hi hk => by
                          by_cases h1 : i = m
                          · rw [if_pos h1, if_pos hk]
                          · rw [if_neg h1])), HT6⟩
                        case measure => simp [intOf]; omega
                · obtain rfl : m = n + 1 := by omega
                  have HRN := Lib.hid (HR0.out.kept HTL.out (fun _ _ => id))
                  have HLN := Lib.hid HLO1.out.fresh
                  have HPN : RowKit.Hid (ProgM CS N s q L T (fun _ _ => -1) best 0 1 0) := Lib.hid (ProgM.start hp HH.out)
                  clear HB0 HT4 HH
                  go_wp2_with fail
                  go_loopw [12, 17] (fun bv iv wx => ∃ (i : Nat) (Nx : Nat → Nat → Int) (best : Int), bv = .int .i64 best ∧ iv = .int .i64 (i : Nat) ∧ i ≤ n + 1 ∧ -1 ≤ best ∧ best ≤ 16492674416640 ∧ RowKit.Hid (MatB wx 22 3 gN gN (n + 1) (n + 1) G Nx) ∧ RowKit.Hid (LowM CS N (L + 1) Nx best) ∧ RowKit.Hid (ProgM CS N s q L T Nx best i 1 0) ∧ RowKit.Hid (BndM (B + S) Nx) ∧ RowKit.Hid (Touch (fun _ => False) wN wx)) (fun _ iv _ => n + 1 - (intOf iv).toNat)
                  case atStart => exact ⟨0, _, best, rfl, rfl, by omega, hb0, hb1, HB, HLN, HPN, Lib.hid (none_bnd _), HTB⟩
                  case round =>
                    obtain ⟨i, Nx, best, rfl, rfl, hi1, hb2, hb3, HBX, HLX, HPX, HBD2, HT3⟩ := hrel
                    clear HLN HPN HB HTB
                    by_cases hil : i < n + 1
                    · have hiI : (i : Int) ≤ (n : Int) := by omega
                      have hiI1 : (i : Int) < (n : Int) + 1 := by omega
                      have hi0 : (0 : Int) ≤ (i : Int) := by omega
                      go_wp2_with fail
                      go_loopw [12, 18] (fun bv kv wx => ∃ (k : Nat) (Nx : Nat → Nat → Int) (best : Int), bv = .int .i64 best ∧ kv = .int .i64 (k : Nat) ∧ 1 ≤ k ∧ k ≤ n + 1 ∧ -1 ≤ best ∧ best ≤ 16492674416640 ∧ RowKit.Hid (MatB wx 22 3 gN gN (n + 1) (n + 1) G Nx) ∧ RowKit.Hid (LowM CS N (L + 1) Nx best) ∧ RowKit.Hid (ProgM CS N s q L T Nx best i k 0) ∧ RowKit.Hid (BndM (B + S) Nx) ∧ RowKit.Hid (Touch (fun _ => False) wN wx)) (fun _ kv _ => n + 1 - (intOf kv).toNat)
                      case atStart => exact ⟨1, Nx, best, rfl, rfl, Nat.le_refl _, by omega, hb2, hb3, HBX, HLX, HPX, HBD2, HT3⟩
                      case round =>
                        obtain ⟨k, Nx, best, rfl, rfl, hk1, hk2, hb2, hb3, HBX, HLX, HPX, HBD2, HT3⟩ := hrel
                        by_cases hkl : k < n + 1
                        · have hkI : (k : Int) ≤ (n : Int) := by omega
                          have hkI1 : (k : Int) < (n : Int) + 1 := by omega
                          have hk0 : (0 : Int) ≤ (k : Int) := by omega
                          obtain ⟨p0, p1, p2⟩ := (HM.out.still HT3.out).cell i k hil hil hkl
                          unfold sliceG at p0
                          obtain ⟨tv, htv⟩ : ∃ tv, tv = T i k := ⟨_, rfl⟩
                          rw [← htv] at p1
                          by_cases hneg : tv < 0
                          · have HPE := Lib.hid (ProgM.none HPX.out (by rw [← htv]; exact hneg))
                            as_aux_lemma =>
                              go_wp2_with fail
                              go_roundw
                              case rel => exact ⟨k + 1, Nx, best, rfl, by go_num, by omega, by omega, hb2, hb3, HBX, HLX, HPE, HBD2, HT3⟩
                              case measure => simp [intOf]; omega
                          · obtain ⟨v1, hv1⟩ : ∃ v1 : Nat, tv = (v1 : Int) := ⟨tv.toNat, by omega⟩
                            have hTV : T i k = (v1 : Int) := by rw [← htv, hv1]
                            have HTV := Lib.hid hTV
                            have hdp := HLO1.out.1 i k (by rw [hTV]; omega)
                            rw [hTV, Int.toNat_natCast] at hdp
                            have HDP := Lib.hid hdp
                            have hbd := (HBD.out i k).2
                            rw [hTV] at hbd
                            have hrc := (HRN.out.kept HT3.out (fun _ _ => id)).cells.2 i _ (tblV_get _ _ i hil)
                            rw [Nat.zero_add] at hrc
                            dsimp only at hrc
                            have hps : preC CS (n - i) ≤ S := by
                              have := preC_mono CS (n - i) n (by omega)
                              have e : preC CS n = S := by unfold preC; rw [← hn, List.take_length, hS]
                              omega
                            obtain ⟨pr, hpr⟩ : ∃ pr, pr = preC CS (n - i) := ⟨_, rfl⟩
                            rw [← hpr] at hrc hps
                            obtain ⟨ct, hct⟩ : ∃ ct, ct = v1 + pr := ⟨_, rfl⟩
                            have hctI : (v1 : Int) + (pr : Int) = (ct : Int) := by omega
                            have HCT : RowKit.Hid (v1 + preC CS (n - i) = ct) := Lib.hid (by rw [← hpr]; exact hct.symm)
                            have HCB : RowKit.Hid (ct ≤ B + S) := Lib.hid (by omega)
                            have hct2 : ct ≤ 16492674416640 := by omega
                            subst hv1
                            have hneg0 : ¬ ((v1 : Int) < 0) := hneg
                            have hneg1 : (0 : Int) ≤ (v1 : Int) := by omega
                            obtain ⟨op, hop⟩ : ∃ op, op = 2 * k := ⟨_, rfl⟩
                            have hopI : (2 : Int) * (k : Int) = (op : Int) := by omega
                            clear hop
                            clear htv hTV hdp hbd hpr hneg hct
                            go_wp2_with fail
                            go_quiet (fail)
                            go_wp2_with fail
                            go_loopw [12, 21] (fun bv wv wx => ∃ (w : Nat) (Nx : Nat → Nat → Int) (best : Int), bv = .int .i64 best ∧ wv = .int .i64 (w : Nat) ∧ w ≤ 2 * k + 1 ∧ -1 ≤ best ∧ best ≤ 16492674416640 ∧ RowKit.Hid (MatB wx 22 3 gN gN (n + 1) (n + 1) G Nx) ∧ RowKit.Hid (LowM CS N (L + 1) Nx best) ∧ RowKit.Hid (ProgM CS N s q L T Nx best i k w) ∧ RowKit.Hid (BndM (B + S) Nx) ∧ RowKit.Hid (Touch (fun _ => False) wN wx)) (fun _ wv _ => 2 * k + 1 - (intOf wv).toNat)
                            case atStart => exact ⟨0, Nx, best, rfl, rfl, Nat.zero_le _, hb2, hb3, Lib.hid (HBX.out.still ((Touch.refl _ _).drewN _)), HLX, HPX, HBD2, Lib.hid (HT3.out.drewN _)⟩
                            case round =>
                              obtain ⟨w, Nx, best, rfl, rfl, hw1, hb2, hb3, HBX, HLX, HPX, HBD2, HT3⟩ := hrel
                              clear p0 p1 p2 hrc
                              by_cases hw : w ≤ 2 * k ∧ i + w ≤ n
                              · obtain ⟨lf, hlf⟩ : ∃ lf, lf = min (2 * k - w) n := ⟨_, rfl⟩
                                obtain ⟨iw, hiw⟩ : ∃ iw, iw = i + w := ⟨_, rfl⟩
                                have hiwI : (i : Int) + (w : Int) = (iw : Int) := by omega
                                have hwk : (w : Int) ≤ (op : Int) := by omega
                                have hiwn : (iw : Int) ≤ (n : Int) := by omega
                                have hmin1 : min ((op : Int) - (w : Int)) (n : Int) = (lf : Int) := by omega
                                have hmin2 : (if (n : Int) < (op : Int) - (w : Int) then (n : Int) else (op : Int) - (w : Int)) = (lf : Int) := by split <;> omega
                                have hlfn : lf ≤ n := by omega
                                have HLF := Lib.hid hlf
                                have HIW := Lib.hid hiw
                                have hlfz : lf = 0 → 2 * k ≤ w ∨ n = 0 := fun h => by omega
                                have HLZ := Lib.hid hlfz
                                clear hlf hiw hlfz
                                have HLS := Lib.hid (LowM.step HLX.out HDP.out hs hlt1 hw.1)
                                have HPS := Lib.hid (ProgM.step hp hopt HPX.out HTV.out)
                                have HBS := Lib.hid (BndM.step (n := n) (i := i) (k := k) (w := w) HBD2.out (Int.natCast_nonneg ct) (by have := HCB.out; omega))
                                rw [hn, HCT.out] at HLS HPS
                                by_cases hl0 : lf = 0
                                · have hl0I : (lf : Int) = 0 := by omega
                                  by_cases hfin : iw = n
                                  · have hfinI : (iw : Int) = (n : Int) := by omega
                                    by_cases hbl : best < 0
                                    · have hbn : best < 0 := hbl
                                      have SN : stepN n i k w ((ct : Nat) : Int) Nx = Nx := stepN_no (by rw [← HLF.out, ← HIW.out]; omega)
                                      have SB : stepB n i k w ((ct : Nat) : Int) best = ((ct : Nat) : Int) := stepB_yes (by rw [← HLF.out, ← HIW.out]; omega)
                                      as_aux_lemma =>
                                        go_wp2_with fail
                                        go_roundw
                                        case rel => exact ⟨w + 1, Nx, (ct : Nat), rfl, by go_num, by omega, by omega, by omega, HBX, Lib.hid (by have h := HLS.out; rw [SN, SB] at h; exact h), Lib.hid (by have h := HPS.out; rw [SN, SB] at h; exact h), HBD2, HT3⟩
                                        case measure => simp [intOf]; omega
                                    · by_cases hcb : (ct : Int) < best
                                      · have hbn : ¬ (best < 0) := hbl
                                        have hcb1 : (ct : Int) < best := hcb
                                        have SN : stepN n i k w ((ct : Nat) : Int) Nx = Nx := stepN_no (by rw [← HLF.out, ← HIW.out]; omega)
                                        have SB : stepB n i k w ((ct : Nat) : Int) best = ((ct : Nat) : Int) := stepB_yes (by rw [← HLF.out, ← HIW.out]; omega)
                                        as_aux_lemma =>
                                          go_wp2_with fail
                                          go_roundw
                                          case rel => exact ⟨w + 1, Nx, (ct : Nat), rfl, by go_num, by omega, by omega, by omega, HBX, Lib.hid (by have h := HLS.out; rw [SN, SB] at h; exact h), Lib.hid (by have h := HPS.out; rw [SN, SB] at h; exact h), HBD2, HT3⟩
                                          case measure => simp [intOf]; omega
                                      · have hbn : ¬ (best < 0) := hbl
                                        have hcb1 : ¬ ((ct : Int) < best) := hcb
                                        have SN : stepN n i k w ((ct : Nat) : Int) Nx = Nx := stepN_no (by rw [← HLF.out, ← HIW.out]; omega)
                                        have SB : stepB n i k w ((ct : Nat) : Int) best = best := stepB_no (by rw [← HLF.out, ← HIW.out]; omega)
                                        as_aux_lemma =>
                                          go_wp2_with fail
                                          go_roundw
                                          case rel => exact ⟨w + 1, Nx, best, rfl, by go_num, by omega, hb2, hb3, HBX, Lib.hid (by have h := HLS.out; rw [SN, SB] at h; exact h), Lib.hid (by have h := HPS.out; rw [SN, SB] at h; exact h), HBD2, HT3⟩
                                          case measure => simp [intOf]; omega
                                  · have hfinI : ¬ ((iw : Int) = (n : Int)) := by omega
                                    have hfinB : ((iw : Int) == (n : Int)) = false := beq_eq_false_iff_ne.2 hfinI
                                    have hltI : (iw : Int) < (n : Int) := by omega
                                    have SN : stepN n i k w ((ct : Nat) : Int) Nx = Nx := stepN_no (by rw [← HLF.out, ← HIW.out]; omega)
                                    have SB : stepB n i k w ((ct : Nat) : Int) best = best := stepB_no (by rw [← HLF.out, ← HIW.out]; omega)
                                    as_aux_lemma =>
                                      go_wp2_with fail
                                      go_roundw
                                      case rel => exact ⟨w + 1, Nx, best, rfl, by go_num, by omega, hb2, hb3, HBX, Lib.hid (by have h := HLS.out; rw [SN, SB] at h; exact h), Lib.hid (by have h := HPS.out; rw [SN, SB] at h; exact h), HBD2, HT3⟩
                                      case measure => simp [intOf]; omega
                                · have hl0I : ¬ ((lf : Int) = 0) := by omega
                                  have hl0B : ((lf : Int) == 0) = false := beq_eq_false_iff_ne.2 hl0I
                                  have hl0P : (0 : Int) < (lf : Int) := by omega
                                  by_cases hfin : iw = n
                                  · have hfinI : ¬ ((iw : Int) < (n : Int)) := by omega
                                    have SN : stepN n i k w ((ct : Nat) : Int) Nx = Nx := stepN_no (by rw [← HLF.out, ← HIW.out]; omega)
                                    have SB : stepB n i k w ((ct : Nat) : Int) best = best := stepB_no (by rw [← HLF.out, ← HIW.out]; omega)
                                    as_aux_lemma =>
                                      go_wp2_with fail
                                      go_roundw
                                      case rel => exact ⟨w + 1, Nx, best, rfl, by go_num, by omega, hb2, hb3, HBX, Lib.hid (by have h := HLS.out; rw [SN, SB] at h; exact h), Lib.hid (by have h := HPS.out; rw [SN, SB] at h; exact h), HBD2, HT3⟩
                                      case measure => simp [intOf]; omega
                                  · have hltI : (iw : Int) < (n : Int) := by omega
                                    by_cases hle : lf ≤ n - i - w
                                    · have hleI : (lf : Int) ≤ (n : Int) - (i : Int) - (w : Int) := by omega
                                      obtain ⟨y, hy⟩ : ∃ y, y = Nx iw lf := ⟨_, rfl⟩
                                      obtain ⟨c0, c1, c2⟩ := HBX.out.cell iw lf (by omega) (by omega) (by omega)
                                      unfold sliceG at c0
                                      rw [← hy] at c1
                                      have HY := Lib.hid hy
                                      clear hy
                                      have hiw1 : (iw : Int) < (n : Int) + 1 := by omega
                                      have hlf1 : (lf : Int) < (n : Int) + 1 := by omega
                                      have hiw0 : (0 : Int) ≤ (iw : Int) := by omega
                                      have hlf0 : (0 : Int) ≤ (lf : Int) := by omega
                                      by_cases hyn : y < 0
                                      · have SN : stepN n i k w ((ct : Nat) : Int) Nx = fun a b => if a = iw ∧ b = lf then ((ct : Nat) : Int) else Nx a b := by rw [HLF.out, HIW.out]; exact stepN_yes (by rw [← HLF.out, ← HIW.out, ← HY.out]; omega)
                                        have SB : stepB n i k w ((ct : Nat) : Int) best = best := stepB_no (by rw [← HLF.out, ← HIW.out]; omega)
                                        have HSET := Lib.hid (HBX.out.set iw lf (by omega) (by omega) (ct : Nat))
                                        have HGL := Lib.hid (HBX.out.low.2 iw (by omega))
                                        as_aux_lemma =>
                                          go_wp2_with fail
                                          go_roundw
                                          case rel => exact ⟨w + 1, _, best, rfl, by go_num, by omega, hb2, hb3, HSET, Lib.hid (by have h := HLS.out; rw [SN, SB] at h; exact h), Lib.hid (by have h := HPS.out; rw [SN, SB] at h; exact h), Lib.hid (by have h := HBS.out; rw [SN] at h; exact h), Lib.hid (HT3.out.setCell (p := ⟨G iw, lf, none⟩) (.inr (by have := HGN.out; have := HGL.out.1; show wN.heap.size ≤ G iw; omega)) _)⟩
                                          case measure => simp [intOf]; omega
                                      · have hynI : ¬ (y < 0) := hyn
                                        by_cases hcy : (ct : Int) < y
                                        · have hcyI : (ct : Int) < y := hcy
                                          have SN : stepN n i k w ((ct : Nat) : Int) Nx = fun a b => if a = iw ∧ b = lf then ((ct : Nat) : Int) else Nx a b := by rw [HLF.out, HIW.out]; exact stepN_yes (by rw [← HLF.out, ← HIW.out, ← HY.out]; omega)
                                          have SB : stepB n i k w ((ct : Nat) : Int) best = best := stepB_no (by rw [← HLF.out, ← HIW.out]; omega)
                                          have HSET := Lib.hid (HBX.out.set iw lf (by omega) (by omega) (ct : Nat))
                                          have HGL := Lib.hid (HBX.out.low.2 iw (by omega))
                                          as_aux_lemma =>
                                            go_wp2_with fail
                                            go_roundw
                                            case rel => exact ⟨w + 1, _, best, rfl, by go_num, by omega, hb2, hb3, HSET, Lib.hid (by have h := HLS.out; rw [SN, SB] at h; exact h), Lib.hid (by have h := HPS.out; rw [SN, SB] at h; exact h), Lib.hid (by have h := HBS.out; rw [SN] at h; exact h), Lib.hid (HT3.out.setCell (p := ⟨G iw, lf, none⟩) (.inr (by have := HGN.out; have := HGL.out.1; show wN.heap.size ≤ G iw; omega)) _)⟩
                                            case measure => simp [intOf]; omega
                                        · have hcyI : ¬ ((ct : Int) < y) := hcy
                                          have SN : stepN n i k w ((ct : Nat) : Int) Nx = Nx := stepN_no (by rw [← HLF.out, ← HIW.out, ← HY.out]; omega)
                                          have SB : stepB n i k w ((ct : Nat) : Int) best = best := stepB_no (by rw [← HLF.out, ← HIW.out]; omega)
                                          as_aux_lemma =>
                                            go_wp2_with fail
                                            go_roundw
                                            case rel => exact ⟨w + 1, Nx, best, rfl, by go_num, by omega, hb2, hb3, HBX, Lib.hid (by have h := HLS.out; rw [SN, SB] at h; exact h), Lib.hid (by have h := HPS.out; rw [SN, SB] at h; exact h), HBD2, HT3⟩
                                            case measure => simp [intOf]; omega
                                    · have hleI : ¬ ((lf : Int) ≤ (n : Int) - (i : Int) - (w : Int)) := by omega
                                      have SN : stepN n i k w ((ct : Nat) : Int) Nx = Nx := stepN_no (by rw [← HLF.out, ← HIW.out]; omega)
                                      have SB : stepB n i k w ((ct : Nat) : Int) best = best := stepB_no (by rw [← HLF.out, ← HIW.out]; omega)
                                      as_aux_lemma =>
                                        go_wp2_with fail
                                        go_roundw
                                        case rel => exact ⟨w + 1, Nx, best, rfl, by go_num, by omega, hb2, hb3, HBX, Lib.hid (by have h := HLS.out; rw [SN, SB] at h; exact h), Lib.hid (by have h := HPS.out; rw [SN, SB] at h; exact h), HBD2, HT3⟩
                                        case measure => simp [intOf]; omega
                              · have HPE := Lib.hid (ProgM.words hp HPX.out (by omega))
                                by_cases hwk : w ≤ 2 * k
                                · have hwkI : (w : Int) ≤ (op : Int) := by omega
                                  obtain ⟨iw, hiw⟩ : ∃ iw, iw = i + w := ⟨_, rfl⟩
                                  have hiwI : (i : Int) + (w : Int) = (iw : Int) := by omega
                                  have hiwn : ¬ ((iw : Int) ≤ (n : Int)) := by omega
                                  clear hiw hw hwk
                                  as_aux_lemma =>
                                    go_wp2_with fail
                                    go_roundw
                                    case rel =>
                                      have HREL : ∃ (k' : Nat) (Nx' : Nat → Nat → Int) (best' : Int), Value.int .i64 best = .int .i64 best' ∧ Value.int .i64 ((k : Int) + 1) = .int .i64 (k' : Nat) ∧ 1 ≤ k' ∧ k' ≤ n + 1 ∧ -1 ≤ best' ∧ best' ≤ 16492674416640 ∧ RowKit.Hid (MatB wr 22 3 gN gN (n + 1) (n + 1) G Nx') ∧ RowKit.Hid (LowM CS N (L + 1) Nx' best') ∧ RowKit.Hid (ProgM CS N s q L T Nx' best' i k' 0) ∧ RowKit.Hid (BndM (B + S) Nx') ∧ RowKit.Hid (Touch (fun _ => False) wN wr) := ⟨k + 1, Nx, best, rfl, by go_num, by omega, by omega, hb2, hb3, HBX, HLX, HPE, HBD2, HT3⟩
                                      repeat apply Exists.intro
                                      first
                                        | exact ⟨HREL, rfl⟩
                                        | exact ⟨rfl, HREL⟩
                                        | (refine ⟨?_, rfl⟩; exact HREL)
                                        | trace_state
                                    case measure => simp [intOf]; omega
                                · have hwkI : ¬ ((w : Int) ≤ (op : Int)) := by omega
                                  clear hw hwk
                                  as_aux_lemma =>
                                    go_wp2_with fail
                                    go_roundw
                                    case rel =>
                                      have HREL : ∃ (k' : Nat) (Nx' : Nat → Nat → Int) (best' : Int), Value.int .i64 best = .int .i64 best' ∧ Value.int .i64 ((k : Int) + 1) = .int .i64 (k' : Nat) ∧ 1 ≤ k' ∧ k' ≤ n + 1 ∧ -1 ≤ best' ∧ best' ≤ 16492674416640 ∧ RowKit.Hid (MatB wr 22 3 gN gN (n + 1) (n + 1) G Nx') ∧ RowKit.Hid (LowM CS N (L + 1) Nx' best') ∧ RowKit.Hid (ProgM CS N s q L T Nx' best' i k' 0) ∧ RowKit.Hid (BndM (B + S) Nx') ∧ RowKit.Hid (Touch (fun _ => False) wN wr) := ⟨k + 1, Nx, best, rfl, by go_num, by omega, by omega, hb2, hb3, HBX, HLX, HPE, HBD2, HT3⟩
                                      repeat apply Exists.intro
                                      first
                                        | exact ⟨HREL, rfl⟩
                                        | exact ⟨rfl, HREL⟩
                                        | (refine ⟨?_, rfl⟩; exact HREL)
                                        | trace_state
                                    case measure => simp [intOf]; omega
                        · obtain rfl : k = n + 1 := by omega
                          have HPE := Lib.hid (ProgM.opens hp HPX.out (by omega))
                          as_aux_lemma =>
                            go_wp2_with fail
                            go_roundw
                            case rel => exact ⟨i + 1, Nx, best, rfl, by go_num, by omega, hb2, hb3, HBX, HLX, HPE, HBD2, HT3⟩
                            case measure => simp [intOf]; omega
                    · obtain rfl : i = n + 1 := by omega
                      have HHE := Lib.hid (ProgM.level HPX.out (by omega))
                      have HTE := Lib.hid (HTL.out.trans HT3.out)
                      have HGE := Lib.hid (show gA ≤ gN by have := HGA.out; have := HGN.out; have := HTL.out.size; omega)
                      as_aux_lemma =>
                        go_wp2_with fail
                        go_roundw
                        case rel =>
                          have HREL : ∃ (L' g' B' : Nat) (G' : Nat → Nat) (T' : Nat → Nat → Int) (best' : Int), sliceG (n + 1) gN = sliceG (n + 1) g' ∧ Value.int .i64 best = .int .i64 best' ∧ Value.int .i64 ((L + 1 : Nat) : Int) = .int .i64 (L' : Nat) ∧ L' ≤ N ∧ -1 ≤ best' ∧ best' ≤ 16492674416640 ∧ B' ≤ L' * 1099511627776 ∧ RowKit.Hid (MatB wr 22 3 gA g' (n + 1) (n + 1) G' T') ∧ RowKit.Hid (LowM CS N L' T' best') ∧ RowKit.Hid (HasM CS N s q L' T' best') ∧ RowKit.Hid (BndM B' T') ∧ RowKit.Hid (Touch (fun _ => False) wB wr) := ⟨L + 1, gN, B + S, G, Nx, best, rfl, rfl, rfl, by omega, hb2, hb3, by omega, Lib.hid ⟨HBX.out.outer, HBX.out.rows, ⟨HGE.out, fun i hi => ⟨Nat.le_trans HGE.out (HBX.out.low.2 i hi).1, (HBX.out.low.2 i hi).2⟩⟩, HBX.out.apart⟩, HLX, HHE, HBD2, HTE⟩
                          have hLL : (L : Int) + 1 = ((L + 1 : Nat) : Int) := by omega
                          rw [← hLL] at HREL
                          repeat apply Exists.intro
                          first
                            | exact ⟨HREL, rfl⟩
                            | exact ⟨rfl, HREL⟩
                            | (refine ⟨?_, rfl⟩; exact HREL)
                            | trace_state
                        case measure => simp [intOf]; omega
          
            · obtain rfl : L = N := by omega
              have hfin := both_M HLO1.out HH.out
              subst hfin
              clear HLO1 HH
              go_wp2_with fail
              go_ret
              exact ⟨rfl, HTT.out.trans HTL.out⟩
    | succ m =>
      have hm1 : ((m + 1 : Nat) : Int) - 1 = (m : Int) := by omega
      rw [hm1]
      clear hm1
      have hm0 : (0 : Int) ≤ (m : Int) := by omega
      have hmn : (m : Int) < (n : Int) := by omega
      have hmn1 : (m : Int) < (n : Int) + 1 := by omega
      have hmn2 : (m : Int) + 1 < (n : Int) + 1 := by omega
      have hmn3 : (0 : Int) ≤ (m : Int) + 1 := by omega
      have hmN : m < n + 1 := by omega
      have hmN2 : m + 1 < n + 1 := by omega
      have HLr := HL2.out.kept HTr.out (fun g hg e => by have := HLT.out g hg; omega)
      obtain ⟨gl, ol, cl, hle, _, _, _, hcl⟩ := HLr.addr (by rw [natVs_length, List.length_reverse]; omega)
      rw [natVs_length, List.length_reverse, hn] at hle
      injection hle with hle1 _ hle2
      subst hle1
      have hlm := hcl m _ (natVs_get _ m (by rw [List.length_reverse]; omega))
      have hr1 := HR.out.cells.2 (m + 1) _ (tblV_get _ _ _ hmN2)
      have hr0 := HR.out.cells.2 m _ (tblV_get _ _ _ hmN)
      have hrf := HR.out.free (k := m)
      rw [Nat.zero_add] at hr1 hr0 hrf
      dsimp only at hr1 hr0
      rw [if_pos (Nat.le_refl _)] at hr1
      obtain ⟨x, hx⟩ : ∃ x, x = CS.reverse.getD m 0 := ⟨_, rfl⟩
      obtain ⟨y, hy⟩ : ∃ y, y = preC CS (n - (m + 1)) := ⟨_, rfl⟩
      rw [← hx] at hlm
      rw [← hy] at hr1
      have hxy : x + y = preC CS (n - m) := by
        have h1 : n - m = (n - (m + 1)) + 1 := by omega
        rw [h1]
        unfold preC at hy ⊢
        rw [List.take_add_one, List.sum_append, ← hy, hx, List.getD_eq_getElem?_getD, List.getElem?_reverse (by omega), hn, show n - 1 - m = n - (m + 1) by omega]
        cases CS[n - (m + 1)]? with
        | none => simp
        | some z => simp; omega
      have hxs : preC CS (n - m) ≤ S := by
        have := preC_mono CS (n - m) n (by omega)
        have e : preC CS n = S := by unfold preC; rw [← hn, List.take_length, hS]
        omega
      have HNEW := Lib.hid (HR.out.set (k := m) hmN (.int .i64 ((x + y : Nat) : Int)))
      have HXY := Lib.hid hxy
      have hsum : (y : Int) + (x : Int) = ((x + y : Nat) : Int) := by omega
      have hxyb : x + y ≤ 1099511627776 := by omega
      clear hle2 hcl hx hy hxy hxs HLr
      go_wp2_with fail
      go_region
      as_aux_lemma =>
        go_wp2_with fail
        go_roundw
        case rel =>
          refine ⟨m, rfl, by omega, Lib.hid ?_, Lib.hid (by first | exact (HTr.out.drew).setCell (p := ⟨gR, m, none⟩) (.inl rfl) _ | exact (HTr.out.drewN _).setCell (p := ⟨gR, m, none⟩) (.inl rfl) _)⟩
          have e : (rowZ (n + 1) fun j => if m + 1 ≤ j then ((preC CS (n - j) : Nat) : Int) else 0).set m (.int .i64 ((x + y : Nat) : Int)) = rowZ (n + 1) fun j => if m ≤ j then ((preC CS (n - j) : Nat) : Int) else 0 := by
            unfold rowZ
            rw [tblV_set]
            refine tblV_congr _ _ _ (fun k hk => ?_)
            dsimp only
            by_cases h1 : k = m
            · rw [if_pos h1, if_pos (by omega), h1, HXY.out]
            · rw [if_neg h1]
              by_cases h2 : m + 1 ≤ k
              · rw [if_pos h2, if_pos (by omega)]
              · rw [if_neg h2, if_neg (by omega)]
          rw [← e]
          first
            | (have h := (HR.out.kept (S := fun _ => False) (Touch.refl _ wr).drew (fun _ _ => id)).set (k := m) hmN (.int .i64 ((x + y : Nat) : Int)); rw [Nat.zero_add] at h; exact h)
            | (have h := (HR.out.kept (S := fun _ => False) ((Touch.refl _ wr).drewN _) (fun _ _ => id)).set (k := m) hmN (.int .i64 ((x + y : Nat) : Int)); rw [Nat.zero_add] at h; exact h)
        case measure => simp [intOf]
end Go.Proofs.Ythobbdnmhldglaa

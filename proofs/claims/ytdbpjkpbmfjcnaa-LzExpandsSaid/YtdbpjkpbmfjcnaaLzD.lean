/- Contracts of layer 5's plain program over the translated program: its Good and its Expand answer as package lz's do. -/
import Derived.Test.YtdbpjkpbmfjcnaaLzC
namespace Go.Proofs.Ytdbpjkpbmfjcnaa
open Go Go.RowKit
set_option maxRecDepth 100000

theorem refgood_calls (t : Tok) (w : World) : Calls Try.prog 29 #[.agg (tokA t)] w fun e w' => e = .returned (.bool (goodB t)) ∧ Touch (fun _ => False) w w' := by
  obtain ⟨b, n, d⟩ := t
  unfold tokA goodB
  have hb := b.toNat_lt
  simp only
  generalize b.toNat = c at hb ⊢
  by_cases hn : n = 0
  · subst hn
    go_enter Try.func29, Try.ntmps29
    go_wp2_with fail
    go_ret
    exact ⟨ret1 (congrArg Value.bool (by by_cases hd : d = 0 <;> simp [hd])), (Touch.refl _ _).alloc _⟩
  · by_cases hc : c = 0
    · subst hc
      have hne : ¬ (n = 0) := hn
      by_cases h3 : 3 ≤ n
      · by_cases h4 : n ≤ 258
        · by_cases h5 : 1 ≤ d
          · go_enter Try.func29, Try.ntmps29
            go_wp2_with fail
            go_ret
            exact ⟨ret1 (congrArg Value.bool (by first | rfl | (simp; omega) | simp)), (Touch.refl _ _).alloc _⟩
          · go_enter Try.func29, Try.ntmps29
            go_wp2_with fail
            go_ret
            exact ⟨ret1 (congrArg Value.bool (by first | rfl | (simp; omega) | simp)), (Touch.refl _ _).alloc _⟩
        · go_enter Try.func29, Try.ntmps29
          go_wp2_with fail
          go_ret
          exact ⟨ret1 (congrArg Value.bool (by first | rfl | (simp; omega) | simp)), (Touch.refl _ _).alloc _⟩
      · go_enter Try.func29, Try.ntmps29
        go_wp2_with fail
        go_ret
        exact ⟨ret1 (congrArg Value.bool (by first | rfl | (simp; omega) | simp)), (Touch.refl _ _).alloc _⟩
    · have hc0 : (c : Int) ≠ 0 := by omega
      go_enter Try.func29, Try.ntmps29
      go_wp2_with fail
      go_ret
      exact ⟨ret1 (congrArg Value.bool (by simp [hn, hc])), (Touch.refl _ _).alloc _⟩

theorem ext_size (q : ByteArray) (p : Nat) (hp : p < q.size) : (q.extract p (p + 1)).size = 1 := by
  simp
  omega
theorem ext_list (q : ByteArray) (p : Nat) (hp : p < q.size) : (q ++ q.extract p (p + 1)).data.toList = q.data.toList ++ [q.data.toList.getD p 0] := by
  have hp' : p < q.data.toList.length := by rw [data_length]; exact hp
  rw [ByteArray.data_append, ByteArray.data_extract, Array.toList_append, Array.toList_extract]
  congr 1
  rw [List.extract_eq_take_drop, show p + 1 - p = 1 by omega, List.drop_eq_getElem_cons hp']
  simp [List.getD, List.getElem?_eq_getElem hp']
theorem ext_end (q : ByteArray) (n : Nat) : q.extract n q.size = ⟨(q.data.toList.drop n).toArray⟩ := by
  apply ByteArray.ext
  apply Array.ext'
  rw [ByteArray.data_extract, Array.toList_extract, List.extract_eq_take_drop]
  simp only [List.toList_toArray]
  apply List.take_of_length_le
  rw [List.length_drop, data_length]
  exact Nat.le_refl _

set_option maxHeartbeats 1000000 in
theorem refexpand_calls (s : ByteArray) (l : List Tok) (v : Value) (w : World) (hv : Toks w v l) (hs : s.size ≤ 10000) (hl : l.length ≤ 100) :
    Calls Try.prog 31 #[.string s, v] w fun e w' => e = .returned (expV s.size (expandL s.data.toList l)) ∧ Touch (fun _ => False) w w' := by
  obtain ⟨a, cap, rfl, hlc, hcm, hcell⟩ := hv
  go_enter Try.func31, Try.ntmps31
  go_wp2_with fail
  go_loopw [4, 5, 6, 7, 8] (fun rs ro vs i _ wr => rs = .string ⟨#[]⟩ ∧ ro = .bool false ∧ ∃ (k : Nat) (q : ByteArray), k ≤ l.length ∧ i = .int .i64 (k : Nat) ∧ vs = .string q ∧ RowKit.Hid (expandL s.data.toList l = expandL q.data.toList (l.drop k)) ∧ q.size ≤ s.size + 258 * k ∧ s.size ≤ q.size ∧ Touch (fun _ => False) w wr) (fun _ _ _ i _ _ => l.length - (intOf i).toNat)
  case atStart => exact ⟨rfl, rfl, 0, s, Nat.zero_le _, rfl, rfl, Lib.hid rfl, Nat.le_refl _, Nat.le_refl _, Touch.refl _ _⟩
  case round =>
    obtain ⟨rfl, rfl, k, q, hk, rfl, rfl, HEX0, hX1, hX2, hT⟩ := hrel
    have hlq := data_length q
    have HLQ := Lib.hid hlq
    by_cases hlt : k < l.length
    · rcases hcell with rfl | ⟨g, off, rfl, hcell⟩
      · simp at hlt
      obtain ⟨t, ht⟩ : ∃ t, t = l[k] := ⟨_, rfl⟩
      have hlk : l[k]? = some t := by rw [ht]; exact List.getElem?_eq_getElem hlt
      have hdr : l.drop k = t :: l.drop (k + 1) := by rw [ht]; exact List.drop_eq_getElem_cons hlt
      have hex := HEX0.out
      rw [hdr] at hex
      obtain ⟨a0, a1, a2⟩ := hcell k t hlk
      have b0 := hT.cell a0 id
      have b1 := hT.cell a1 id
      have b2 := hT.cell a2 id
      have HG := Lib.hid (fun W => refgood_calls t W)
      unfold tokA at HG
      have hk0 : (0 : Int) ≤ (k : Int) := by omega
      have hk1 : (k : Int) < (l.length : Int) := by omega
      have HX := Lib.hid hex
      clear hcell a0 a1 a2 hdr ht hex hlq
      go_wp2_with fail
      refine (HG.out _).mono ?_
      rintro e w3 ⟨rfl, ht3⟩
      obtain ⟨hlt3, hb3⟩ := box_kept ht3
      have hT3 := ((hT.alloc _).trans ht3)
      clear b0 b1 b2 HG ht3 hT
      have hBw : w.heap.size ≤ wr.heap.size ∨ True := .inr trivial
      generalize wr.heap.size = B at hlt3 hb3 ⊢
      obtain ⟨c0, c1, c2, f0, f1, f2⟩ := box_cells hb3
      by_cases hg : goodB t = true
      · rw [hg]
        by_cases hd : t.d ≤ q.size
        · have hex2 : expandL s.data.toList l = expandL (tellL t q.data.toList) (l.drop (k + 1)) := by rw [HX.out, expandL, if_pos ⟨hg, by rw [HLQ.out]; exact hd⟩]
          have HEX := Lib.hid hex2
          clear hex2
          by_cases hn : t.n = 0
          · have htl : tellL t q.data.toList = q.data.toList ++ [t.b] := if_pos hn
            rw [htl] at HEX
            have hcv := run_bytes_row (P := Try.prog) (w3.alloc (.cells #[.int .u8 (t.b.toNat : Nat)] 5)) 64 5 9 Try.underlying64 Try.underlying5 Try.underlying9 (v := .slice (some ⟨w3.heap.size, 0, none⟩) 1 1) (xs := [t.b]) (.inr ⟨w3.heap.size, 0, 1, _, rfl, heap_alloc_new w3 _, Nat.le_refl _, by unfold maxLen; omega, Nat.le_refl _, rfl⟩)
            have hT4 := hT3.alloc (.cells #[.int .u8 (t.b.toNat : Nat)] 5)
            have d0 := (World.cell?_of_block (a := ⟨B, 0 + 1, none⟩) (heap_alloc_old _ (.cells #[.int .u8 (t.b.toNat : Nat)] 5) hlt3)).trans c1
            rw [hn] at d0
            have hq1 : q.size ≤ 40000 := by omega
            obtain ⟨sb, hsb⟩ : ∃ sb : ByteArray, sb = ⟨[t.b].toArray⟩ := ⟨_, rfl⟩
            have hsz1 : sb.size = 1 := by rw [hsb]; rfl
            rw [← hsb] at hcv
            have HSB := Lib.hid hsb
            have HSZ := Lib.hid hsz1
            have hsz2 : sb.size ≤ 1 := by omega
            clear hsb hsz1
            go_wp2_with fail
            generalize w3.alloc (.cells #[.int .u8 (t.b.toNat : Nat)] 5) = w4 at *
            clear hcv c0 c1 c2 f0 f1 f2 hb3 hT3
            go_loopw [6, 9] (fun vs j wr => vs = .string (q ++ sb) ∧ j = .int .i64 0 ∧ wr = w4) (fun _ _ _ => 0)
            case atStart => exact ⟨rfl, rfl, rfl⟩
            case round =>
              obtain ⟨rfl, rfl, rfl⟩ := hrel
              go_wp2_with fail
              have hql : (q ++ sb).size = q.size + 1 := by rw [ByteArray.size_append, HSZ.out]
              have hqd : (q ++ sb).data.toList = q.data.toList ++ [t.b] := by rw [ByteArray.data_append, Array.toList_append, HSB.out]
              go_roundw
              case rel => exact ⟨rfl, rfl, k + 1, q ++ sb, by omega, by go_num, rfl, Lib.hid (by rw [hqd]; exact HEX.out), by rw [hql]; omega, by rw [hql]; omega, hT4⟩
              case measure => simp [intOf]; omega
          · have hgn : 3 ≤ t.n ∧ t.n ≤ 258 ∧ 1 ≤ t.d := by
              unfold goodB at hg
              rw [if_neg hn] at hg
              have := of_decide_eq_true hg
              omega
            obtain ⟨m, hm⟩ : ∃ m : Nat, t.n = m := ⟨t.n.toNat, by omega⟩
            obtain ⟨d, hdd⟩ : ∃ d : Nat, t.d = d := ⟨t.d.toNat, by omega⟩
            have htl : tellL t q.data.toList = copyL m d q.data.toList := by
              unfold tellL
              rw [if_neg hn, hm, hdd]
              rfl
            rw [htl] at HEX
            rw [hm] at c1
            rw [hdd] at c2
            rw [hm, hdd] at hgn
            rw [hdd] at hd
            rw [hm] at hn
            rw [hm, hdd]
            clear htl hm hdd hg hb3
            have em : ((m : Int) == 0) = false := beq_eq_false_iff_ne.2 hn
            have ed : decide (q.size < d) = false := decide_eq_false (by omega)
            have ed2 : decide ((q.size : Int) < (d : Int)) = false := decide_eq_false (by omega)
            rw [Nat.zero_add] at c1 c2 f1 f2
            go_wp2_with fail
            go_loopw [6, 9] (fun vs j wr => wr = w3 ∧ ∃ (p : Nat) (y : ByteArray), p ≤ m ∧ j = .int .i64 (p : Nat) ∧ vs = .string y ∧ RowKit.Hid (y.data.toList = copyL p d q.data.toList) ∧ y.size = q.size + p) (fun _ j _ => m - (intOf j).toNat)
            case atStart => exact ⟨rfl, 0, q, Nat.zero_le _, rfl, rfl, Lib.hid rfl, rfl⟩
            case round =>
              obtain ⟨rfl, p, y, hp, rfl, rfl, HY, hy⟩ := hrel
              have HYZ := Lib.hid hy
              have hyb : y.size ≤ 40000 := by omega
              by_cases hpm : p < m
              · obtain ⟨x, hx⟩ : ∃ x : Nat, y.size - d = x := ⟨_, rfl⟩
                have hx1 : (y.size : Int) - (d : Int) = (x : Nat) := by omega
                have hx2 : (x : Int) < (y.size : Int) := by omega
                have hx3 : (0 : Int) ≤ (x : Int) := by omega
                have hxl : x < y.size := by omega
                have hez := ext_size y x hxl
                have hel := ext_list y x hxl
                have HX2 := Lib.hid hx
                have HEL := Lib.hid hel
                have HEZ := Lib.hid hez
                have hez2 : (y.extract x (x + 1)).size ≤ 1 := by omega
                clear hy hx hel hez
                go_wp2_with fail
                have hyl := data_length y
                go_roundw
                case rel =>
                  refine ⟨trivial, p + 1, y ++ y.extract x (x + 1), by omega, by go_num, rfl, Lib.hid ?_, by rw [ByteArray.size_append, HEZ.out, HYZ.out]; omega⟩
                  rw [HEL.out, copyL_snoc, ← HY.out, hyl, HX2.out]
                case measure => simp [intOf]; omega
              · obtain rfl : p = m := by omega
                clear hy
                go_wp2_with fail
                go_roundw
                case rel => exact ⟨rfl, rfl, k + 1, y, by omega, by go_num, rfl, Lib.hid (by rw [HY.out]; exact HEX.out), by have := HYZ.out; omega, by have := HYZ.out; omega, hT3⟩
                case measure => simp [intOf]; omega
        · have hex2 : expandL s.data.toList l = none := by rw [HX.out, expandL, if_neg (fun h => hd (by have := h.2; rw [HLQ.out] at this; exact this))]
          have HEX := Lib.hid hex2
          have hd' : (q.size : Int) < t.d := by omega
          clear hex2 hd
          go_wp2_with fail
          go_ret2
          rw [HEX.out]
          exact ⟨rfl, hT3⟩
      · have hex2 : expandL s.data.toList l = none := by rw [HX.out, expandL, if_neg (fun h => hg h.1)]
        have hg' : goodB t = false := by simpa using hg
        have HEX := Lib.hid hex2
        rw [hg']
        clear hex2 hg hg'
        go_wp2_with fail
        go_ret2
        rw [HEX.out]
        exact ⟨rfl, hT3⟩
    · obtain rfl : k = l.length := by omega
      have hex := HEX0.out
      rw [List.drop_length] at hex
      have hex2 : expandL s.data.toList l = some q.data.toList := hex
      have HEX := Lib.hid hex2
      clear hex hex2 hlq
      go_wp2_with fail
      go_ret2
      rw [HEX.out, ext_end]
      exact ⟨rfl, hT⟩
end Go.Proofs.Ytdbpjkpbmfjcnaa

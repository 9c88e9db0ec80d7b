/- The walk of layer 6's statement on a window through any acts. -/
import Derived.Test.YtdbpjkpbmfjcnaaWinOpen
import Derived.Test.YtdbpjkpbmfjcnaaWinK
import Derived.Deep.DeepCutAuto
namespace Go.Proofs.Ytdbpjkpbmfjcnaa
open Go Go.RowKit
set_option maxRecDepth 100000

theorem rem_val4 (z : Int) : ∃ (r : Int) (k : Nat), z.tmod 4 = r ∧ -4 < r ∧ r < 4 ∧ (r + 4) % 4 = k ∧ k < 4 := by
  have h1 := Int.tmod_lt_of_pos z (show (0 : Int) < 4 by omega)
  have h2 : -(4 : Int) < z.tmod 4 := Int.lt_tmod_of_pos z (by omega)
  exact ⟨z.tmod 4, ((z.tmod 4 + 4) % 4).toNat, rfl, h2, h1, by omega, by omega⟩

theorem FrW.base {w0 w : World} {b : Nat} {all : List UInt8} (h : FrW w0 w b all) : w0.heap.size ≤ b := h.choose_spec.2.1

theorem str_cat (s y : ByteArray) : (s ++ y).data.toList = s.data.toList ++ y.data.toList := by
  simp [ByteArray.data_append]
theorem strFull {a : ByteArray} (h : a.size ≠ 0) : a.toList.isEmpty = false := by
  rw [ByteArray.toList_eq]
  cases hl : a.data.toList with
  | nil => exact absurd (by show a.data.size = 0; rw [← Array.length_toList, hl]; rfl) h
  | cons x l => rfl
theorem ext_get (y : ByteArray) (h : 0 < y.size) : [y[0]] = (y.extract 0 1).data.toList := by
  rw [ext_list y 0 h]
  have h' : 0 < y.data.toList.length := by rw [data_length]; exact h
  rw [List.getD, List.getElem?_eq_getElem h']
  rfl
theorem copyL_pre (k d : Nat) (T : List UInt8) : copyL k d T = T ++ (copyL k d T).drop T.length := by
  induction k with
  | zero => simp [copyL]
  | succ k ih =>
    have hl := copyL_length k d T
    rw [copyL_snoc, List.drop_append_of_le_length (by omega), ← List.append_assoc, ← ih]
theorem last_get (s ls : ByteArray) (d p M : Nat) (h : ls = ⟨(s.data.toList.drop (s.size - M)).toArray⟩) (hz : ls.size = min s.size M) (hp : ls.size - d = p) (hpl : p < ls.size) (_h1 : 1 ≤ d) (h2 : d ≤ ls.size) :
    s.data.toList.getD (s.data.toList.length - d) 0 = ls[p]'hpl := by
  have hl : ls.data.toList = s.data.toList.drop (s.size - M) := by rw [h]
  have hsl := data_length s
  have hpl' : p < ls.data.toList.length := by rw [data_length]; exact hpl
  have e : ls[p]'hpl = ls.data.toList.getD p 0 := by
    rw [List.getD, List.getElem?_eq_getElem hpl']
    rfl
  rw [e, hl, List.getD, List.getD, List.getElem?_drop]
  congr 2
  omega
theorem fr_len (w0 w : World) (b : Nat) (s : ByteArray) (h : FrW w0 w b s.data.toList) : Calls Try.prog 41 #[.pointer (some ⟨b, 0, none⟩)] w fun e w' => e = .returned (.int .i64 (min s.size 32768 : Nat)) ∧ w = w' := by
  obtain ⟨row, hW, _⟩ := h
  have := len_calls b 0 _ row w hW
  rwa [data_length] at this
theorem fr_len_a (w0 w : World) (b : Nat) (s : ByteArray) (h : FrW w0 w b s.data.toList) (hs : (s.size : Int) ≤ 32768) : Calls Try.prog 41 #[.pointer (some ⟨b, 0, none⟩)] w fun e w' => e = .returned (.int .i64 (s.size : Nat)) ∧ w = w' := by
  have := fr_len w0 w b s h
  rwa [Nat.min_eq_left (by omega)] at this
theorem fr_len_b (w0 w : World) (b : Nat) (s : ByteArray) (h : FrW w0 w b s.data.toList) (hs : (32768 : Int) < (s.size : Int)) : Calls Try.prog 41 #[.pointer (some ⟨b, 0, none⟩)] w fun e w' => e = .returned (.int .i64 32768) ∧ w = w' := by
  have := fr_len w0 w b s h
  rwa [Nat.min_eq_right (by omega)] at this
theorem fr_total (w0 w : World) (b : Nat) (s : ByteArray) (h : FrW w0 w b s.data.toList) : Calls Try.prog 42 #[.pointer (some ⟨b, 0, none⟩)] w fun e w' => e = .returned (.int .i64 (s.size : Nat)) ∧ w = w' := by
  obtain ⟨row, hW, _⟩ := h
  have := total_calls b 0 _ row w hW
  rwa [data_length] at this

set_option maxHeartbeats 8000000 in
theorem plays_e (f : Int) (l : List PAct) (v : Value) (w : World) (hv : PActs w v l) (hf : bits .and .i64 f 1 = 0) :
    Calls Try.prog 10 #[.int .i64 f, v] w fun e w' => e = .returned (.bool true) ∧ Touch (fun _ => False) w w' := by
  obtain ⟨a, cap, rfl, hlc, hcm, hbd, hcell⟩ := hv
  go_enter Try.func10, Try.ntmps10
  go_wp2_with (go_at_call 34; refine (speaks6_calls _).mono ?_; rintro e w1 ⟨rfl, ht1⟩)
  have hW0 := fresh_win w w1 66 ht1
  have hbl : w.heap.size ≤ w1.heap.size := ht1.size
  generalize (w1.alloc (Obj.cells #[Value.slice none 0 0, Value.int IntKind.i64 0] 66)) = w2 at hW0 ⊢
  generalize w1.heap.size = b at hW0 hbl ⊢
  go_loopw [6, 7] (fun q i wr => ∃ (k : Nat) (s : ByteArray), k ≤ l.length ∧ k ≤ 30 ∧ i = .int .i64 (k : Nat) ∧ q = .string s ∧ s.size ≤ 40000 + 258 * k ∧ FrW w wr b s.data.toList) (fun _ i _ => 30 - (intOf i).toNat)
  case atStart => exact ⟨0, ⟨#[]⟩, Nat.zero_le _, Nat.zero_le _, rfl, rfl, by decide, by simpa using hW0⟩
  case round =>
    clear hW0
    obtain ⟨k, s, hk, hk30, rfl, rfl, hsz, hF⟩ := hrel
    by_cases hlt : k < l.length ∧ k < 30
    · obtain ⟨hlt, hlt30⟩ := hlt
      rcases hcell with rfl | ⟨g, off, rfl, hcell⟩
      · simp at hlt
      obtain ⟨t, ht⟩ : ∃ t, t = l[k] := ⟨_, rfl⟩
      have hlk : l[k]? = some t := by rw [ht]; exact List.getElem?_eq_getElem hlt
      have hbt := hbd t (by rw [ht]; exact List.getElem_mem hlt)
      obtain ⟨a0, a1, a2, a3⟩ := hcell k t hlk
      have b0 := hF.touch.cell a0 id
      have b1 := hF.touch.cell a1 id
      have b2 := hF.touch.cell a2 id
      have b3 := hF.touch.cell a3 id
      have hgw : g < w.heap.size := World.block_lt_of_cell? w _ a0
      obtain ⟨r, c, hr, hr1, hr2, hc, hc4⟩ := rem_val4 t.what
      have hb1 : (0 : Int) ≤ (k : Int) := by omega
      have hb2 : (k : Int) < (l.length : Int) := by omega
      have hb3 : (k : Int) < 30 := by omega
      obtain ⟨tw, tt, tn, td⟩ := t
      have HF := Lib.hid hF
      have HBD := Lib.hid hbd
      have HSZ := Lib.hid hsz
      have HC := Lib.hid hcell
      have hsz := hbt.2
      simp only at hsz hr b0 b1 b2 b3
      clear hcell ht hlk hbt a0 a1 a2 a3 hF hbd hlc hcm
      go_upto_region 12 with fail
      have hh := heap_alloc_new wr (Obj.cells #[Value.int .i64 tw, Value.string tt, Value.int .i64 tn, Value.int .i64 td] 70)
      have x0 : (wr.alloc (Obj.cells #[Value.int .i64 tw, Value.string tt, Value.int .i64 tn, Value.int .i64 td] 70)).cell? ⟨wr.heap.size, 0, none⟩ = some (.int .i64 tw) := by rw [cell_of_row _ _ _ _ _ _ hh]; rfl
      have x1 : (wr.alloc (Obj.cells #[Value.int .i64 tw, Value.string tt, Value.int .i64 tn, Value.int .i64 td] 70)).cell? ⟨wr.heap.size, 1, none⟩ = some (.string tt) := by rw [cell_of_row _ _ _ _ _ _ hh]; rfl
      have x2 : (wr.alloc (Obj.cells #[Value.int .i64 tw, Value.string tt, Value.int .i64 tn, Value.int .i64 td] 70)).cell? ⟨wr.heap.size, 2, none⟩ = some (.int .i64 tn) := by rw [cell_of_row _ _ _ _ _ _ hh]; rfl
      have x3 : (wr.alloc (Obj.cells #[Value.int .i64 tw, Value.string tt, Value.int .i64 tn, Value.int .i64 td] 70)).cell? ⟨wr.heap.size, 3, none⟩ = some (.int .i64 td) := by rw [cell_of_row _ _ _ _ _ _ hh]; rfl
      obtain ⟨row, hW, hbw, hrb, hT⟩ := HF.out
      have hrl := hW.rowlt
      have hblt := hW.lt
      have hW := hW.still ((Touch.refl _ wr).alloc (Obj.cells #[Value.int .i64 tw, Value.string tt, Value.int .i64 tn, Value.int .i64 td] 70))
      have hT := hT.alloc (Obj.cells #[Value.int .i64 tw, Value.string tt, Value.int .i64 tn, Value.int .i64 td] 70)
      clear b0 b1 b2 b3 hh HF
      generalize wr.alloc (Obj.cells #[Value.int .i64 tw, Value.string tt, Value.int .i64 tn, Value.int .i64 td] 70) = wx at *
      have hxb : wr.heap.size ≠ b := by omega
      have hxr : row ≠ some wr.heap.size := fun e => by have := hrl _ e; omega
      generalize wr.heap.size = x at *
      clear hrl hblt
      have HB := Lib.hid hbw
      have HR := Lib.hid hrb
      have HT := Lib.hid hT
      have HW := Lib.hid hW
      have HXR := Lib.hid hxr
      have HXB := Lib.hid hxb
      have hF : FrW w wx b s.data.toList := ⟨row, hW, hbw, hrb, hT⟩
      have HF := Lib.hid hF
      clear hbw hrb hT hW hxr hxb hF
      obtain ⟨y, hy, hy40⟩ : ∃ y : ByteArray, (y = if tt.size ≤ 40 then tt else tt.extract 0 40) ∧ y.size ≤ 40 := by
        refine ⟨_, rfl, ?_⟩
        by_cases h : tt.size ≤ 40
        · rw [if_pos h]; exact h
        · rw [if_neg h]; simp; omega
      by_cases hs : tt.size ≤ 40
      case' pos => rw [if_pos hs] at hy; have hsI : (tt.size : Int) ≤ 40 := by omega
                   go_upto_region 13 with fail
                   rw [← hy]
      case' neg => rw [if_neg hs] at hy; have hsI : (40 : Int) < (tt.size : Int) := by omega
                   go_upto_region 13 with fail
                   rw [← hy]
      all_goals
        clear hs hy x1 hsz
        have hcc : c = 0 ∨ c = 1 ∨ c = 2 ∨ c = 3 := by omega
        rcases hcc with rfl | rfl | rfl | rfl
        · as_aux_lemma =>
            have hc0 : (r + 4) % 4 = 0 := by omega
            clear hc hc4 HW x2 x3
            go_wp2_with (go_at_call 35; refine (add_fr w b y s.data.toList _ HF.out (by have := HSZ.out; rw [data_length]; omega)).mono ?_; rintro e w3 ⟨rfl, h3⟩)
            have h3 : FrW w w3 b (s ++ y).data.toList := by rw [str_cat]; exact h3
            have hz3 : (s ++ y).size ≤ 40000 + 258 * (k + 1) := by rw [ByteArray.size_append]; have := HSZ.out; omega
            generalize s ++ y = s3 at h3 hz3 ⊢
            clear HF HSZ hy40 x0 hbl

            have HLa := Lib.hid (fun hq => fr_len_a w w3 b s3 h3 hq)
            have HLb := Lib.hid (fun hq => fr_len_b w w3 b s3 h3 hq)
            have HTo := Lib.hid (fr_total w w3 b s3 h3)
            have HF3 := Lib.hid h3
            clear h3
            by_cases hm : (s3.size : Int) ≤ 32768
            · refine (HLa.out hm).mono ?_
              rintro e w4 ⟨rfl, rfl⟩
              clear HLa HLb
              go_wp2_with fail
              refine HTo.out.mono ?_
              rintro e w4 ⟨rfl, rfl⟩
              clear HTo
              go_wp2_with fail
              go_roundw
              case rel => exact ⟨k + 1, s3, by omega, by omega, by go_num, rfl, hz3, HF3.out⟩
              case measure => simp [intOf]; omega
            · have hm2 : (32768 : Int) < (s3.size : Int) := by omega
              refine (HLb.out hm2).mono ?_
              rintro e w4 ⟨rfl, rfl⟩
              clear HLa HLb
              go_wp2_with fail
              refine HTo.out.mono ?_
              rintro e w4 ⟨rfl, rfl⟩
              clear HTo
              go_wp2_with fail
              go_roundw
              case rel => exact ⟨k + 1, s3, by omega, by omega, by go_num, rfl, hz3, HF3.out⟩
              case measure => simp [intOf]; omega
        · as_aux_lemma =>
            have hc0 : (r + 4) % 4 = 1 := by omega
            clear hc hc4 HW x2 x3
            by_cases hy0 : y.size = 0
            · obtain rfl : y = ⟨#[]⟩ := by
                apply ByteArray.ext
                exact Array.eq_empty_of_size_eq_zero hy0
              go_wp2_with fail
              have h3 := HF.out
              have hz3 : s.size ≤ 40000 + 258 * (k + 1) := by have := HSZ.out; omega
              obtain ⟨s3, rfl⟩ : ∃ s3, s3 = s := ⟨s, rfl⟩
              obtain ⟨w3, rfl⟩ : ∃ w3, w3 = wx := ⟨wx, rfl⟩
              clear HF HSZ hy40 x0 hbl
              have HLa := Lib.hid (fun hq => fr_len_a w w3 b s3 h3 hq)
              have HLb := Lib.hid (fun hq => fr_len_b w w3 b s3 h3 hq)
              have HTo := Lib.hid (fr_total w w3 b s3 h3)
              have HF3 := Lib.hid h3
              clear h3
              by_cases hm : (s3.size : Int) ≤ 32768
              · refine (HLa.out hm).mono ?_
                rintro e w4 ⟨rfl, rfl⟩
                clear HLa HLb
                go_wp2_with fail
                refine HTo.out.mono ?_
                rintro e w4 ⟨rfl, rfl⟩
                clear HTo
                go_wp2_with fail
                go_roundw
                case rel => exact ⟨k + 1, s3, by omega, by omega, by go_num, rfl, hz3, HF3.out⟩
                case measure => simp [intOf]; omega
              · have hm2 : (32768 : Int) < (s3.size : Int) := by omega
                refine (HLb.out hm2).mono ?_
                rintro e w4 ⟨rfl, rfl⟩
                clear HLa HLb
                go_wp2_with fail
                refine HTo.out.mono ?_
                rintro e w4 ⟨rfl, rfl⟩
                clear HTo
                go_wp2_with fail
                go_roundw
                case rel => exact ⟨k + 1, s3, by omega, by omega, by go_num, rfl, hz3, HF3.out⟩
                case measure => simp [intOf]; omega
            · have hyne : y.toList.isEmpty = false := strFull hy0
              have hyI : (0 : Int) < (y.size : Int) := by omega
              have hyN : 0 < y.size := by omega
              have hyB : (1 : Int) ≤ (y.size : Int) := by omega
              go_wp2_with (go_at_call 36; refine (put_fr w b _ s.data.toList _ HF.out (by have := HSZ.out; rw [data_length]; omega)).mono ?_; rintro e w3 ⟨rfl, h3⟩)
              have h3 : FrW w w3 b (s ++ y.extract 0 1).data.toList := by rw [str_cat, ← ext_get y hyN]; exact h3
              have hz3 : (s ++ y.extract 0 1).size ≤ 40000 + 258 * (k + 1) := by rw [ByteArray.size_append, ByteArray.size_extract]; have := HSZ.out; omega
              generalize s ++ y.extract 0 1 = s3 at h3 hz3 ⊢
              clear HF HSZ hy40 x0 hbl
              have HLa := Lib.hid (fun hq => fr_len_a w w3 b s3 h3 hq)
              have HLb := Lib.hid (fun hq => fr_len_b w w3 b s3 h3 hq)
              have HTo := Lib.hid (fr_total w w3 b s3 h3)
              have HF3 := Lib.hid h3
              clear h3
              by_cases hm : (s3.size : Int) ≤ 32768
              · refine (HLa.out hm).mono ?_
                rintro e w4 ⟨rfl, rfl⟩
                clear HLa HLb
                go_wp2_with fail
                refine HTo.out.mono ?_
                rintro e w4 ⟨rfl, rfl⟩
                clear HTo
                go_wp2_with fail
                go_roundw
                case rel => exact ⟨k + 1, s3, by omega, by omega, by go_num, rfl, hz3, HF3.out⟩
                case measure => simp [intOf]; omega
              · have hm2 : (32768 : Int) < (s3.size : Int) := by omega
                refine (HLb.out hm2).mono ?_
                rintro e w4 ⟨rfl, rfl⟩
                clear HLa HLb
                go_wp2_with fail
                refine HTo.out.mono ?_
                rintro e w4 ⟨rfl, rfl⟩
                clear HTo
                go_wp2_with fail
                go_roundw
                case rel => exact ⟨k + 1, s3, by omega, by omega, by go_num, rfl, hz3, HF3.out⟩
                case measure => simp [intOf]; omega
        · as_aux_lemma =>
            have hc0 : (r + 4) % 4 = 2 := by omega
            clear hc hc4 hy40
            have hszs := HSZ.out
            by_cases hin : (0 ≤ tn ∧ tn ≤ 258) ∧ 1 ≤ td ∧ td ≤ (min s.size 32768 : Nat)
            · obtain ⟨⟨i1, i2⟩, i3, i4⟩ := hin
              obtain ⟨n, rfl⟩ : ∃ n : Nat, tn = n := ⟨tn.toNat, by omega⟩
              obtain ⟨d, rfl⟩ : ∃ d : Nat, td = d := ⟨td.toNat, by omega⟩
              obtain ⟨z, hz⟩ : ∃ z : ByteArray, z = ⟨((copyL n d s.data.toList).drop s.size).toArray⟩ := ⟨_, rfl⟩
              have hcat : (s ++ z).data.toList = copyL n d s.data.toList := by
                rw [str_cat, hz, mk_list, ← data_length s]
                exact (copyL_pre n d _).symm
              have hz3 : (s ++ z).size ≤ 40000 + 258 * (k + 1) := by
                rw [← data_length, hcat, copyL_length, data_length]
                omega
              have hzz : s.size + z.size ≤ 40000 + 258 * (k + 1) := by rw [← ByteArray.size_append]; exact hz3
              have H1 : RowKit.Hid (Calls Try.prog 37 #[.pointer (some ⟨b, 0, none⟩), .int .i64 (n : Nat), .int .i64 (d : Nat)] wx fun e w' => e = .returned (.tuple #[.string z, .bool true]) ∧ FrW w w' b (s ++ z).data.toList ∧ Touch (fun k => k = b ∨ row = some k) wx w') := Lib.hid (by
                have := copy_keep b n d s.data.toList row w wx HW.out HB.out HR.out HT.out (by omega) (by omega) (by rw [data_length]; omega) (by rw [data_length]; omega)
                rw [data_length, ← hz, ← hcat] at this
                exact this)
              have H2 : RowKit.Hid (∀ W, Calls Try.prog 38 #[.string s, .int .i64 (n : Nat), .int .i64 (d : Nat)] W fun e w' => e = .returned (.tuple #[.string z, .bool true]) ∧ W = w') := Lib.hid (fun W => by
                have := refcopy_in s n d W (by omega) (by omega) (by omega) (by omega)
                rw [← hz] at this
                exact this)
              clear hz hcat HW HB HR HT i1 i2 i3 i4 hszs
              go_wp2_with (first
                | (go_at_call 37; refine H1.out.mono ?_; rintro e w3 ⟨rfl, h3, hk3⟩; have g2 := hk3.cell x2 (by rintro (e | e); exact HXB.out e; exact HXR.out e); have g3 := hk3.cell x3 (by rintro (e | e); exact HXB.out e; exact HXR.out e))
                | (go_at_call 38; refine (H2.out _).mono ?_; rintro e w4 ⟨rfl, rfl⟩))
              clear H1 H2 g2 g3 x0 x2 x3 hzz hk3
              generalize s ++ z = s3 at h3 hz3 ⊢
              clear HF HSZ hbl
              have HLa := Lib.hid (fun hq => fr_len_a w w3 b s3 h3 hq)
              have HLb := Lib.hid (fun hq => fr_len_b w w3 b s3 h3 hq)
              have HTo := Lib.hid (fr_total w w3 b s3 h3)
              have HF3 := Lib.hid h3
              clear h3
              by_cases hm : (s3.size : Int) ≤ 32768
              · refine (HLa.out hm).mono ?_
                rintro e w4 ⟨rfl, rfl⟩
                clear HLa HLb
                go_wp2_with fail
                refine HTo.out.mono ?_
                rintro e w4 ⟨rfl, rfl⟩
                clear HTo
                go_wp2_with fail
                go_roundw
                case rel => exact ⟨k + 1, s3, by omega, by omega, by go_num, rfl, hz3, HF3.out⟩
                case measure => simp [intOf]; omega
              · have hm2 : (32768 : Int) < (s3.size : Int) := by omega
                refine (HLb.out hm2).mono ?_
                rintro e w4 ⟨rfl, rfl⟩
                clear HLa HLb
                go_wp2_with fail
                refine HTo.out.mono ?_
                rintro e w4 ⟨rfl, rfl⟩
                clear HTo
                go_wp2_with fail
                go_roundw
                case rel => exact ⟨k + 1, s3, by omega, by omega, by go_num, rfl, hz3, HF3.out⟩
                case measure => simp [intOf]; omega
            · have hin2 : tn < 0 ∨ 258 < tn ∨ td < 1 ∨ ((min s.size 32768 : Nat) : Int) < td := by omega
              obtain ⟨z, hz⟩ : ∃ z : ByteArray, z = ⟨#[]⟩ := ⟨_, rfl⟩
              have hcat : (s ++ z).data.toList = s.data.toList := by rw [str_cat, hz]; simp
              have hz3 : (s ++ z).size ≤ 40000 + 258 * (k + 1) := by
                rw [← data_length, hcat, data_length]
                omega
              have hzz : s.size + z.size ≤ 40000 + 258 * (k + 1) := by rw [← ByteArray.size_append]; exact hz3
              have H1 : RowKit.Hid (Calls Try.prog 37 #[.pointer (some ⟨b, 0, none⟩), .int .i64 tn, .int .i64 td] wx fun e w' => e = .returned (.tuple #[.string z, .bool false]) ∧ Touch (fun _ => False) wx w') := Lib.hid (by
                rw [hz]
                exact copy_out b tn td s.data.toList w wx HF.out (by rw [data_length]; exact hin2))
              have H2 : RowKit.Hid (∀ W, Calls Try.prog 38 #[.string s, .int .i64 tn, .int .i64 td] W fun e w' => e = .returned (.tuple #[.string z, .bool false]) ∧ W = w') := Lib.hid (fun W => by
                rw [hz]
                exact refcopy_out s tn td W (by omega) hin2)
              have HCAT := Lib.hid hcat
              clear hz hcat HW HB HR HT hin hin2 hszs
              go_wp2_with (first
                | (go_at_call 37; refine H1.out.mono ?_; rintro e w3 ⟨rfl, ht3⟩; have g2 := ht3.cell x2 id; have g3 := ht3.cell x3 id)
                | (go_at_call 38; refine (H2.out _).mono ?_; rintro e w4 ⟨rfl, rfl⟩))
              have h3 : FrW w w3 b (s ++ z).data.toList := by rw [HCAT.out]; exact HF.out.still ht3
              clear H1 H2 g2 g3 x0 x2 x3 hzz ht3 HCAT
              generalize s ++ z = s3 at h3 hz3 ⊢
              clear HF HSZ hbl
              have HLa := Lib.hid (fun hq => fr_len_a w w3 b s3 h3 hq)
              have HLb := Lib.hid (fun hq => fr_len_b w w3 b s3 h3 hq)
              have HTo := Lib.hid (fr_total w w3 b s3 h3)
              have HF3 := Lib.hid h3
              clear h3
              by_cases hm : (s3.size : Int) ≤ 32768
              · refine (HLa.out hm).mono ?_
                rintro e w4 ⟨rfl, rfl⟩
                clear HLa HLb
                go_wp2_with fail
                refine HTo.out.mono ?_
                rintro e w4 ⟨rfl, rfl⟩
                clear HTo
                go_wp2_with fail
                go_roundw
                case rel => exact ⟨k + 1, s3, by omega, by omega, by go_num, rfl, hz3, HF3.out⟩
                case measure => simp [intOf]; omega
              · have hm2 : (32768 : Int) < (s3.size : Int) := by omega
                refine (HLb.out hm2).mono ?_
                rintro e w4 ⟨rfl, rfl⟩
                clear HLa HLb
                go_wp2_with fail
                refine HTo.out.mono ?_
                rintro e w4 ⟨rfl, rfl⟩
                clear HTo
                go_wp2_with fail
                go_roundw
                case rel => exact ⟨k + 1, s3, by omega, by omega, by go_num, rfl, hz3, HF3.out⟩
                case measure => simp [intOf]; omega
        · as_aux_lemma =>
            have hc0 : (r + 4) % 4 = 3 := by omega
            clear hc hc4 x2 hy40 HW
            have hszs := HSZ.out
            have hz3 : s.size ≤ 40000 + 258 * (k + 1) := by omega
            obtain ⟨ls, hls⟩ : ∃ ls : ByteArray, ls = ⟨(s.data.toList.drop (s.size - 32768)).toArray⟩ := ⟨_, rfl⟩
            have hlz : ls.size = min s.size 32768 := by
              rw [hls, mk_size, List.length_drop, data_length]
              omega
            have H2 : RowKit.Hid (∀ W, Calls Try.prog 40 #[.string s, .int .i64 32768] W fun e w' => e = .returned (.string ls) ∧ W = w') := Lib.hid (fun W => by
              rw [hls]
              exact last_calls s 32768 W (by omega))
            by_cases hin : 1 ≤ td ∧ td ≤ (ls.size : Int)
            · obtain ⟨i3, i4⟩ := hin
              obtain ⟨d, rfl⟩ : ∃ d : Nat, td = d := ⟨td.toNat, by omega⟩
              obtain ⟨p, hp⟩ : ∃ p : Nat, ls.size - d = p := ⟨_, rfl⟩
              have hpl : p < ls.size := by omega
              have hpI : (ls.size : Int) - (d : Int) = (p : Nat) := by omega
              have hpJ : (p : Int) < (ls.size : Int) := by omega
              have hlsB : ls.size ≤ 1000000 := by omega
              have H1 : RowKit.Hid (Calls Try.prog 39 #[.pointer (some ⟨b, 0, none⟩), .int .i64 (d : Nat)] wx fun e w' => e = .returned (.tuple #[.int .u8 ((ls[p]'hpl).toNat : Nat), .bool true]) ∧ Touch (fun _ => False) wx w') := Lib.hid (by
                have := back_in b d s.data.toList w wx HF.out (by omega) (by rw [data_length]; omega) (by rw [data_length]; omega)
                rw [show s.data.toList.getD (s.data.toList.length - d) 0 = ls[p]'hpl from last_get s ls d p 32768 hls hlz hp hpl (by omega) (by omega)] at this
                exact this)
              clear hls hlz HB HR HT hszs hp
              go_wp2_with (first
                | (go_at_call 39; refine H1.out.mono ?_; rintro e w3 ⟨rfl, ht3⟩; have g3 := ht3.cell x3 id)
                | (go_at_call 40; refine (H2.out _).mono ?_; rintro e w4 ⟨rfl, rfl⟩))
              have h3 := HF.out.still ht3
              clear H1 H2 g3 x0 x3 ht3
              obtain ⟨s3, rfl⟩ : ∃ s3, s3 = s := ⟨s, rfl⟩
              clear HF HSZ hbl
              have HLa := Lib.hid (fun hq => fr_len_a w w3 b s3 h3 hq)
              have HLb := Lib.hid (fun hq => fr_len_b w w3 b s3 h3 hq)
              have HTo := Lib.hid (fr_total w w3 b s3 h3)
              have HF3 := Lib.hid h3
              clear h3
              by_cases hm : (s3.size : Int) ≤ 32768
              · refine (HLa.out hm).mono ?_
                rintro e w4 ⟨rfl, rfl⟩
                clear HLa HLb
                go_wp2_with fail
                refine HTo.out.mono ?_
                rintro e w4 ⟨rfl, rfl⟩
                clear HTo
                go_wp2_with fail
                go_roundw
                case rel => exact ⟨k + 1, s3, by omega, by omega, by go_num, rfl, hz3, HF3.out⟩
                case measure => simp [intOf]; omega
              · have hm2 : (32768 : Int) < (s3.size : Int) := by omega
                refine (HLb.out hm2).mono ?_
                rintro e w4 ⟨rfl, rfl⟩
                clear HLa HLb
                go_wp2_with fail
                refine HTo.out.mono ?_
                rintro e w4 ⟨rfl, rfl⟩
                clear HTo
                go_wp2_with fail
                go_roundw
                case rel => exact ⟨k + 1, s3, by omega, by omega, by go_num, rfl, hz3, HF3.out⟩
                case measure => simp [intOf]; omega
            · have H1 : RowKit.Hid (Calls Try.prog 39 #[.pointer (some ⟨b, 0, none⟩), .int .i64 td] wx fun e w' => e = .returned (.tuple #[.int .u8 0, .bool false]) ∧ Touch (fun _ => False) wx w') := Lib.hid (back_out b td s.data.toList w wx HF.out (by rw [data_length]; omega))
              have hin2 : td < 1 ∨ (1 ≤ td ∧ (ls.size : Int) < td) := by omega
              clear hls hlz HB HR HT hszs hin
              rcases hin2 with hin2 | ⟨hin2, hin3⟩
              all_goals
                go_wp2_with (first
                  | (go_at_call 39; refine H1.out.mono ?_; rintro e w3 ⟨rfl, ht3⟩; have g3 := ht3.cell x3 id)
                  | (go_at_call 40; refine (H2.out _).mono ?_; rintro e w4 ⟨rfl, rfl⟩))
                have h3 := HF.out.still ht3
                clear H1 H2 g3 x0 x3 ht3
                obtain ⟨s3, rfl⟩ : ∃ s3, s3 = s := ⟨s, rfl⟩
                clear HF HSZ hbl
                have HLa := Lib.hid (fun hq => fr_len_a w w3 b s3 h3 hq)
                have HLb := Lib.hid (fun hq => fr_len_b w w3 b s3 h3 hq)
                have HTo := Lib.hid (fr_total w w3 b s3 h3)
                have HF3 := Lib.hid h3
                clear h3
                by_cases hm : (s3.size : Int) ≤ 32768
                · refine (HLa.out hm).mono ?_
                  rintro e w4 ⟨rfl, rfl⟩
                  clear HLa HLb
                  go_wp2_with fail
                  refine HTo.out.mono ?_
                  rintro e w4 ⟨rfl, rfl⟩
                  clear HTo
                  go_wp2_with fail
                  go_roundw
                  case rel => exact ⟨k + 1, s3, by omega, by omega, by go_num, rfl, hz3, HF3.out⟩
                  case measure => simp [intOf]; omega
                · have hm2 : (32768 : Int) < (s3.size : Int) := by omega
                  refine (HLb.out hm2).mono ?_
                  rintro e w4 ⟨rfl, rfl⟩
                  clear HLa HLb
                  go_wp2_with fail
                  refine HTo.out.mono ?_
                  rintro e w4 ⟨rfl, rfl⟩
                  clear HTo
                  go_wp2_with fail
                  go_roundw
                  case rel => exact ⟨k + 1, s3, by omega, by omega, by go_num, rfl, hz3, HF3.out⟩
                  case measure => simp [intOf]; omega
    · as_aux_lemma =>
        obtain ⟨ls, hls⟩ : ∃ ls : ByteArray, ls = ⟨(lastL s.data.toList).toArray⟩ := ⟨_, rfl⟩
        have H1 : RowKit.Hid (Calls Try.prog 43 #[.pointer (some ⟨b, 0, none⟩)] wr fun e w' => e = .returned (.string ls) ∧ Touch (fun _ => False) wr w') := Lib.hid (by
          rw [hls]
          exact text_calls b s.data.toList w wr hF (by rw [data_length]; omega))
        have H2 : RowKit.Hid (∀ W, Calls Try.prog 40 #[.string s, .int .i64 32768] W fun e w' => e = .returned (.string ls) ∧ W = w') := Lib.hid (fun W => by
          rw [hls]
          unfold lastL
          rw [data_length]
          exact last_calls s 32768 W (by omega))
        have HT := Lib.hid hF.touch
        have hst : ¬ (k : Int) < (l.length : Int) ∨ ((k : Int) < (l.length : Int) ∧ ¬ (k : Int) < 30) := by omega
        clear hls hF hsz hlt hcell hbd hlc hcm
        rcases hst with hst | ⟨hst, hst2⟩
        all_goals
          go_wp2_with (first
            | (go_at_call 43; refine H1.out.mono ?_; rintro e w3 ⟨rfl, ht3⟩)
            | (go_at_call 40; refine (H2.out _).mono ?_; rintro e w4 ⟨rfl, rfl⟩))
          go_ret
          exact ⟨rfl, HT.out.trans ht3⟩
end Go.Proofs.Ytdbpjkpbmfjcnaa

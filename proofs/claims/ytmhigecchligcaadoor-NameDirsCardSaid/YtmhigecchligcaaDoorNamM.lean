
/- Contracts: the reference's parts of a text; Split. -/
import Derived.Test.YtmhigecchligcaaDoorNamK
import Derived.Test.YtmhigecchligcaaDoorNamShelf2
import Derived.Test.YtmhigecchligcaaDoorBitsN
namespace Go.Proofs.YtmhigecchligcaaDoor
open Go Go.RowKit
set_option maxRecDepth 100000

theorem spl_snoc (c : UInt8) (hc : c ≠ 47) : ∀ (l : List UInt8) (L : List (List UInt8)) (p : List UInt8), spl l = L ++ [p] → spl (l ++ [c]) = L ++ [p ++ [c]]
  | [], L, p, h => by
    have h' : [[]] = L ++ [p] := h
    cases L with
    | nil => injection h' with h1; subst h1; simp [spl, hc]
    | cons x L => injection h' with h1 h2; simp at h2
  | b :: r, L, p, h => by
    by_cases hb : b = 47
    · subst hb
      have h' : [] :: spl r = L ++ [p] := by simpa [spl] using h
      cases L with
      | nil => injection h' with h1 h2; exact absurd h2 (spl_ne r)
      | cons x L =>
        injection h' with h1 h2
        subst h1
        have := spl_snoc c hc r L p h2
        simp [spl, this]
    · obtain ⟨x, q, hx⟩ := List.exists_cons_of_ne_nil (spl_ne r)
      rw [spl_cons b r x q hb hx] at h
      cases L with
      | nil =>
        injection h with h1 h2
        subst h1 h2
        have := spl_snoc c hc r [] x hx
        rw [List.cons_append, spl_cons b _ (x ++ [c]) [] hb this]
        rfl
      | cons y L =>
        injection h with h1 h2
        subst h1
        have := spl_snoc c hc r (x :: L) p (by rw [hx, h2]; rfl)
        rw [List.cons_append, spl_cons b _ x (L ++ [p ++ [c]]) hb this]
        rfl

/-- Texts as cells. -/
def strVs (L : List (List UInt8)) : List Value := L.map fun p => Value.string ⟨p.toArray⟩
theorem strVs_length (L : List (List UInt8)) : (strVs L).length = L.length := by simp [strVs]
theorem strVs_snoc (L : List (List UInt8)) (p : List UInt8) : strVs (L ++ [p]) = strVs L ++ [.string ⟨p.toArray⟩] := by simp [strVs]
theorem strVs_take (L : List (List UInt8)) : strVs L.dropLast = (strVs L).take (L.length - 1) := by
  unfold strVs
  rw [List.dropLast_eq_take, List.map_take]
theorem str_back (s : ByteArray) : (⟨s.data.toList.toArray⟩ : ByteArray) = s := rfl
theorem Tryd.infoS : (Tryd.prog.info? 9).map (fun i => (i.zero, i.size, i.bytes)) = some (some (.string ⟨#[]⟩), 1, 16) := by kernel_rfl
theorem own_sepS {w wr : World} {v v2 : Value} (hs : Sep w.heap.size none v.ownBlock) (hown : v2.ownBlock = v.ownBlock ∨ v2.ownBlock = some (wr.heap.size)) (hle : w.heap.size ≤ wr.heap.size) : Sep w.heap.size none v2.ownBlock := by
  rcases hown with h | h
  · rw [h]; exact hs
  · rw [h]; exact .inr ⟨_, rfl, hle⟩
theorem sep_grownS {w wr w2 : World} {row : Option Nat} (ht : Touch (fun _ => False) w wr) (hs : Sep w.heap.size none row) (hg : wr.grownBy w2 row) : Touch (fun _ => False) w w2 :=
  ht.grown hg (fun k hk => by
    rcases hs with h | ⟨g, h, hg⟩
    · rw [h] at hk; cases hk
    · rw [h] at hk; injection hk with hk; right; omega)
theorem take_snocS (S : ByteArray) (k : Nat) (h : k < S.size) : S.data.toList.take (k + 1) = S.data.toList.take k ++ [S[k]] := by
  rw [List.take_succ_eq_append_getElem (by simpa using h)]; rfl

set_option maxHeartbeats 1000000 in
theorem refParts_calls (S : ByteArray) (w : World) (hs : S.size ≤ 300000) :
    Calls Tryd.prog 18 #[.string S] w fun e w' => ∃ r, e = .returned r ∧ Row w' 9 r (strVs (spl S.data.toList)) ∧ Sep w.heap.size none r.ownBlock ∧ Touch (fun _ => False) w w' := by
  obtain ⟨i0, hi, hz0, hz1, hz2⟩ := info_parts Tryd.infoS
  have hs' : (S.size : Int) ≤ 300000 := by omega
  have hsz : S.data.toList.length = S.size := by simp
  have HSZ := Lib.hid hsz
  clear hsz
  go_enter Tryd.func18, Tryd.ntmps18
  go_wp2
  go_loopw [3, 4, 5] (fun o p i wr => ∃ (k b : Nat) (L : List (List UInt8)) (rv : Value), k ≤ S.size ∧ b ≤ k ∧ i = .int .i64 (k : Int) ∧ p = .string (S.extract b k) ∧ rv = o ∧ spl (S.data.toList.take k) = L ++ [(S.extract b k).data.toList] ∧ Row wr 9 rv (strVs L) ∧ Sep w.heap.size none rv.ownBlock ∧ Touch (fun _ => False) w wr) (fun _ _ i _ => S.size - (intOf i).toNat)
  case atStart => exact ⟨0, 0, [], _, Nat.zero_le _, Nat.le_refl _, rfl, by rw [ext_self]; rfl, rfl, by rw [ext_self]; rfl, Row.nil _ _, .inl rfl, Touch.refl _ _⟩
  case round =>
    obtain ⟨k, b, L, rv, hk, hb, rfl, rfl, rfl, hsp, hrow, hsep, ht⟩ := hrel
    have hLl : L.length ≤ k := by
      have h1 := congrArg List.length hsp
      have h2 := spl_len (S.data.toList.take k)
      rw [List.length_take] at h2
      simp only [List.length_append, List.length_cons, List.length_nil] at h1
      omega
    have HSP := Lib.hid hsp
    have HSEP := Lib.hid hsep
    have HTT := Lib.hid ht
    clear hsp hsep ht
    by_cases hlt : k < S.size
    · have h47 := byte47 S k hlt
      have htk := take_snocS S k hlt
      by_cases hc : S.data.toList[k]? = some 47
      · have hbt : ((S[k].toNat : Int) == 47) = true := by rw [h47]; exact decide_eq_true hc
        have hSk : S[k] = 47 := by rw [byte_get S k hlt] at hc; exact Option.some.inj hc
        rw [hSk] at htk
        have HTK := Lib.hid htk
        clear h47 htk hc hSk
        go_wp2_with (at_builtin; refine wpList_append_row _ rfl (.tmp 16) (.tmp 18) 27 27 rfl 9 i0 _ 16 Tryd.underlying27 hi hz0 hz1 hz2 rfl rv (strVs L) rfl (by exact hrow.kept (S := fun _ => False) ((Touch.refl _ _).alloc _) (fun _ _ => id)) (.slice (some ⟨wr.heap.size, 0, none⟩) 1 1) rfl 1 [.string (S.extract b k)] (by exact Src.ofCell Tryd.underlying27 (heap_alloc_new wr _) rfl) (by rw [strVs_length]; unfold maxLen; omega) (by rw [strVs_length]; omega) ?_; intro v2 w2 hrow2 hgrow hown2)
        go_roundw
        case rel =>
          refine ⟨k + 1, k + 1, L ++ [(S.extract b k).data.toList], _, by omega, Nat.le_refl _, by go_num, by rw [ext_self]; rfl, rfl, ?_, ?_, own_sepS HSEP.out hown2 (by have := HTT.out.size; simp; omega), sep_grownS (HTT.out.alloc _) HSEP.out hgrow⟩
          · rw [HTK.out, spl_mid, HSP.out, ext_self]; rfl
          · rw [strVs_snoc]; exact hrow2
        case measure => simp [intOf]; omega
      · have hbf : ((S[k].toNat : Int) == 47) = false := by rw [h47]; exact decide_eq_false hc
        have hSk : S[k] ≠ 47 := fun e => hc (by rw [byte_get S k hlt, e])
        have hsn := spl_snoc S[k] hSk _ _ _ HSP.out
        rw [← htk] at hsn
        have hel : (S.extract b (k + 1)).data.toList = (S.extract b k).data.toList ++ [S[k]] := by
          rw [ext_list, ext_list, show k + 1 - b = (k - b) + 1 by omega, List.take_succ_eq_append_getElem (by simp; omega)]
          congr 2
          simp [show b + (k - b) = k by omega]
          rfl
        rw [← hel] at hsn
        have HSN := Lib.hid hsn
        clear h47 htk hc hSk hsn hel
        go_wp2
        go_roundw
        case rel => exact ⟨k + 1, b, L, _, by omega, by omega, by go_num, rfl, rfl, HSN.out, hrow, HSEP.out, HTT.out⟩
        case measure => simp [intOf]; omega
    · obtain rfl : k = S.size := by omega
      have HS2 : Hid (spl S.data.toList = L ++ [(S.extract b S.size).data.toList]) := Lib.hid (by have := HSP.out; rwa [List.take_of_length_le (by have := HSZ.out; omega)] at this)
      go_wp2_with (at_builtin; refine wpList_append_row _ rfl (.tmp 27) (.tmp 29) 27 27 rfl 9 i0 _ 16 Tryd.underlying27 hi hz0 hz1 hz2 rfl rv (strVs L) rfl (by exact hrow.kept (S := fun _ => False) ((Touch.refl _ _).alloc _) (fun _ _ => id)) (.slice (some ⟨wr.heap.size, 0, none⟩) 1 1) rfl 1 [.string (S.extract b S.size)] (by exact Src.ofCell Tryd.underlying27 (heap_alloc_new wr _) rfl) (by rw [strVs_length]; unfold maxLen; omega) (by rw [strVs_length]; omega) ?_; intro v2 w2 hrow2 hgrow hown2)
      go_ret
      refine ⟨_, rfl, ?_, own_sepS HSEP.out hown2 (by have := HTT.out.size; simp; omega), sep_grownS (HTT.out.alloc _) HSEP.out hgrow⟩
      rw [HS2.out, strVs_snoc]
      exact hrow2

theorem split_calls (S : ByteArray) (w : World) (hs : S.size ≤ 1000000) : Calls Tryd.prog 17 #[.string S] w fun e w' => e = .returned (.tuple #[.string (dirT S), .string (baseT S)]) ∧ ∃ n, w' = w.drewN n := by
  have HL := Lib.hid (fun W => (Any.strings_LastIndexByte Tryd.layLast S 47 (by omega) W))
  obtain ⟨r1, r2⟩ := lastIndexByte_range S
  have hs' : (S.size : Int) ≤ 1000000 := by omega
  unfold dirT baseT
  generalize Lib.lastIndexByte S 47 = I at *
  by_cases h : I < 0
  · rw [if_pos h, if_pos h]
    go_enter Tryd.func17, Tryd.ntmps17
    go_wp2_with (go_at_call 28; refine (HL.out _).mono ?_; rintro e w1 ⟨rfl, rfl⟩)
    go_ret2
    exact ⟨rfl, 0, rfl⟩
  · rw [if_neg h, if_neg h]
    obtain ⟨n, rfl⟩ := Int.eq_ofNat_of_zero_le (show 0 ≤ I by omega)
    have hn1 : (n : Int) + 1 ≤ (S.size : Int) := by omega
    have hn2 : (0 : Int) ≤ (n : Int) := by omega
    have hn3 : (n : Int) ≤ (S.size : Int) := by omega
    clear h
    go_enter Tryd.func17, Tryd.ntmps17
    go_wp2_with (go_at_call 28; refine (HL.out _).mono ?_; rintro e w1 ⟨rfl, rfl⟩)
    go_quiet (fail)
    go_wp2
    go_ret2
    exact ⟨rfl, _, rfl⟩
end Go.Proofs.YtmhigecchligcaaDoor

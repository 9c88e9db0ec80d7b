/- Contracts of package dgram: Split and Join. -/
import Derived.Test.YtmjahbdengnoeaaDgJa
namespace Go.Proofs.Ytmjahbdengnoeaa
open Go Go.RowKit Go.Maps Go.Shelf
set_option maxRecDepth 100000

def txV (l : List ByteArray) : List Value := l.map Value.string
theorem txV_length (l : List ByteArray) : (txV l).length = l.length := by simp [txV]
theorem txV_one (l : List ByteArray) : ∀ u ∈ txV l, u.oneCell' = true := by
  intro u hu
  obtain ⟨x, _, rfl⟩ := List.mem_map.1 hu
  rfl
theorem txV_snoc (l : List ByteArray) (a : ByteArray) : txV l ++ [.string a] = txV (l ++ [a]) := by simp [txV]
theorem Try.infoStr : (Try.prog.info? 9).map (fun i => (i.zero, i.size, i.bytes)) = some (some (.string ⟨#[]⟩), 1, 16) := by kernel_rfl
theorem lit_reads (w : World) (a : ByteArray) : Reads (w.alloc (.cells #[.string a] 9)) (.slice (some ⟨w.heap.size, 0, none⟩) 1 1) (txV [a]) := by
  refine ⟨_, 1, by rw [txV_length]; rfl, by rw [txV_length]; exact Nat.le_refl _, by unfold maxLen; omega, .inr ⟨_, 0, rfl, fun j u hu => ?_⟩⟩
  rw [cell_of_row _ w.heap.size (0 + j) _ _ _ (heap_alloc_new w _), Nat.zero_add]
  rw [show (#[Value.string a] : Array Value) = (txV [a]).toArray from rfl, List.getElem?_toArray]
  exact hu
/-- What is first, cut off. -/
theorem cut_first (S : ByteArray) (k : Nat) (hk : 2 ≤ k) (hs : k ≤ S.size) (hr : 2 + rd S 0 2 = k) : (S.extract 2 k).size = rd S 0 2 ∧ S.data.toList = leB 2 (S.extract 2 k).size ++ ((S.extract 2 k).data.toList ++ (S.extract k S.size).data.toList) := by
  have h1 : (S.extract 2 k).size = rd S 0 2 := by simp; omega
  refine ⟨h1, ?_⟩
  have hl : S.data.toList.length = S.size := Array.length_toList
  have h2 : leB 2 (S.extract 2 k).size = S.data.toList.take 2 := by
    rw [h1]
    unfold rd
    rw [List.drop_zero]
    have h3 : (S.data.toList.take 2).length = 2 := by rw [List.length_take, hl]; omega
    generalize S.data.toList.take 2 = q at h3
    match q, h3 with
    | [a, b], _ =>
      have ha := a.toNat_lt
      have hb := b.toNat_lt
      simp only [getN, leB, Nat.mul_zero, Nat.add_zero]
      congr 1
      · apply UInt8.toNat_inj.1; rw [UInt8.toNat_ofNat_of_lt' (by show _ % 256 < 256; omega)]; omega
      · congr 1
        apply UInt8.toNat_inj.1; rw [UInt8.toNat_ofNat_of_lt' (by show _ % 256 < 256; omega)]; omega
  rw [h2, ex_list, ex_list, List.take_of_length_le (l := S.data.toList.drop k) (by rw [List.length_drop, hl]; omega)]
  have h4 : S.data.toList.drop k = (S.data.toList.drop 2).drop (k - 2) := by rw [List.drop_drop]; congr 1; omega
  rw [h4, List.take_append_drop, List.take_append_drop]

theorem joinL_len (ls : List ByteArray) : 2 * ls.length ≤ (joinL ls).length := by
  induction ls with
  | nil => simp
  | cons a r ih => rw [joinL_cons, List.length_append, List.length_append, leB_length, List.length_cons]; omega
theorem no_join {S R : ByteArray} {ls : List ByteArray} (hs : smallL ls) (he : joinL ls ++ R.data.toList = S.data.toList) (h0 : R.size ≠ 0) (hb : R.size < 2 ∨ R.size < 2 + rd R 0 2) : ∀ ls', smallL ls' → joinL ls' ≠ S.data.toList := by
  intro ls' hs' he'
  obtain ⟨t, h1, h2⟩ := join_prefix ls ls' R.data.toList hs hs' (by rw [he', he])
  have hl : R.data.toList.length = R.size := Array.length_toList
  cases t with
  | nil => rw [h2] at hl; simp [joinL] at hl; omega
  | cons c r =>
    have hc : c.size < 65536 := hs' c (by rw [h1]; simp)
    have hr : rd R 0 2 = c.size := by
      unfold rd
      rw [h2, joinL_cons, List.drop_zero, List.take_left' (leB_length _ _), getN_leB, Nat.mod_eq_of_lt (by omega)]
    rw [h2, joinL_cons, List.length_append, List.length_append, leB_length, Array.length_toList] at hl
    have : c.data.size = c.size := rfl
    omega

/-- What Split tells of a text. -/
def SplitOut (S : ByteArray) (W : World) (r : Value) (ok : Bool) : Prop :=
  (ok = false ∧ r = .slice none 0 0 ∧ ∀ ls, smallL ls → joinL ls ≠ S.data.toList) ∨ (ok = true ∧ ∃ ls, smallL ls ∧ joinL ls = S.data.toList ∧ Row W 9 r (txV ls))

set_option maxHeartbeats 4000000 in
theorem split_calls (S : ByteArray) (hS : S.size ≤ 100000) (w : World) : Calls Try.prog 28 #[.string S] w fun e w' => ∃ r ok, e = .returned (.tuple #[r, .bool ok]) ∧ SplitOut S w' r ok ∧ Touch (fun _ => False) w w' := by
  obtain ⟨i0, hi, hz0, hz1, hz2⟩ := info_parts Try.infoStr
  go_enter Try.func28, Try.ntmps28
  go_wp2_with fail
  go_loopw [0, 4] (fun sv lv wr => ∃ (R : ByteArray) (ls : List ByteArray), sv = .string R ∧ R.size ≤ S.size ∧ RowKit.Hid (Row wr 9 lv (txV ls)) ∧ RowKit.Hid (∀ g, lv.ownBlock = some g → w.heap.size ≤ g) ∧ RowKit.Hid (smallL ls ∧ joinL ls ++ R.data.toList = S.data.toList) ∧ RowKit.Hid (Touch (fun _ => False) w wr)) (fun sv _ _ => match sv with | .string R => R.size | _ => 0)
  case atStart => exact ⟨S, [], rfl, Nat.le_refl _, Lib.hid (Row.nil _ _), Lib.hid (fun g hg => by cases hg), Lib.hid ⟨fun _ h => (by cases h), rfl⟩, Lib.hid (Touch.refl _ _)⟩
  case round =>
    obtain ⟨R, ls, rfl, hR, HR, HG, HJ, HT⟩ := hrel
    by_cases h0 : R.size = 0
    · have he : R.toList.isEmpty = true := by rw [empty_iff]; exact decide_eq_true h0
      have hRl : R.data.toList = [] := List.eq_nil_of_length_eq_zero (by rw [Array.length_toList]; exact h0)
      go_wp2_with fail
      go_ret2
      exact ⟨_, true, rfl, .inr ⟨rfl, ls, HJ.out.1, by have := HJ.out.2; rwa [hRl, List.append_nil] at this, HR.out⟩, HT.out⟩
    · have he : R.toList.isEmpty = false := by rw [empty_iff]; exact decide_eq_false h0
      have hf := fun W => first_calls R (by omega) W
      have HF := Lib.hid hf
      clear hf
      have hlsb : ls.length ≤ 100000 := by
        have h1 := joinL_len ls
        have h2 := congrArg List.length HJ.out.2
        rw [List.length_append, Array.length_toList (xs := S.data)] at h2
        have : S.data.size = S.size := rfl
        omega
      go_wp2_with fail
      refine (HF.out _).mono ?_
      rintro e w2 (⟨hbad, rfl, hT2⟩ | ⟨hk, rfl, hT2⟩)
      · have hno := no_join HJ.out.1 HJ.out.2 h0 hbad
        go_wp2_with fail
        go_ret2
        exact ⟨_, false, rfl, .inl ⟨rfl, rfl, hno⟩, HT.out.trans hT2⟩
      · have hrl := rd_lt R 0 2
        obtain ⟨k, hk2⟩ : ∃ k, 2 + rd R 0 2 = k := ⟨_, rfl⟩
        obtain ⟨hc1, hc2⟩ := cut_first R k (by omega) (by omega) hk2
        have hRz : (R.extract k R.size).size = R.size - k := by simp
        rw [hk2]
        have hk3 : 2 ≤ k ∧ k ≤ R.size := by omega
        have hal : (R.extract 2 k).size < 65536 := by rw [hc1]; simpa using hrl
        have HJ2 : RowKit.Hid (smallL (ls ++ [R.extract 2 k]) ∧ joinL (ls ++ [R.extract 2 k]) ++ (R.extract k R.size).data.toList = S.data.toList) := Lib.hid ⟨fun x hx => by
          rcases List.mem_append.1 hx with h | h
          · exact HJ.out.1 x h
          · rw [List.mem_singleton.1 h]; exact hal, by rw [joinL_append, joinL_one, ← HJ.out.2, hc2]; simp only [List.append_assoc]⟩
        have HM : RowKit.Hid ((R.extract k R.size).size < R.size ∧ (R.extract k R.size).size ≤ S.size) := Lib.hid ⟨by omega, by omega⟩
        clear hk hk2 hc1 hc2 hRz hk3 hal hrl
        generalize R.extract 2 k = A at HJ2 ⊢
        generalize R.extract k R.size = R2 at HJ2 HM ⊢
        obtain ⟨la, lc, hlv, hlc, hlm⟩ := HR.out.form
        have hr2 := HR.out.kept hT2 (fun _ _ => id)
        have hr3 := hr2.kept ((Touch.refl (fun _ => False) w2).alloc (.cells #[.string A] 9)) (fun _ _ => id)
        have hsrc := (lit_reads w2 A).src Try.underlying54 (txV_one [A])
        have HR3 := Lib.hid hr3
        have HSRC := Lib.hid hsrc
        have hT3 := (HT.out.trans hT2).alloc (.cells #[.string A] 9)
        have HT3 := Lib.hid hT3
        clear hr2 hr3 hsrc hT2 hT3 hlv hlc hlm
        go_wp2_with (at_builtin; refine wpList_append_row _ rfl (.tmp 18) (.tmp 20) 54 54 rfl 9 i0 _ 16 Try.underlying54 hi hz0 hz1 hz2 rfl _ (txV ls) rfl (by exact HR3.out) (.slice (some ⟨w2.heap.size, 0, none⟩) 1 1) rfl 1 (txV [A]) (by exact HSRC.out) (by rw [txV_length]; unfold maxLen; omega) (by rw [txV_length]; omega) ?_; intro v2 w3 hrow3 hgrow hown3)
        refine ⟨⟨R2, ls ++ [A], rfl, HM.out.2, Lib.hid (by rw [← txV_snoc]; exact hrow3), Lib.hid (fun g hg => ?_), HJ2, Lib.hid (HT3.out.grown hgrow (fun g hg => .inr (HG.out g hg)))⟩, HM.out.1⟩
        rcases hown3 with h | h
        · exact HG.out g (h ▸ hg)
        · rw [h] at hg
          have h9 := Option.some.inj hg
          have h8 := HT3.out.size
          omega

theorem txV_get (l : List ByteArray) (k : Nat) (h : k < l.length) : (txV l)[k]? = some (.string l[k]) := by simp [txV, h]
theorem join_step (l : List ByteArray) (k : Nat) (h : k < l.length) : joinL (l.take (k + 1)) = joinL (l.take k) ++ (lB 2 l[k].size).data.toList ++ l[k].data.toList := by
  rw [List.take_succ_eq_append_getElem h, joinL_append, joinL_one, List.append_assoc]; rfl
theorem join_take_le (l : List ByteArray) (k : Nat) : (joinL (l.take k)).length ≤ (joinL l).length := by
  conv => rhs; rw [← List.take_append_drop k l, joinL_append, List.length_append]
  omega

set_option maxHeartbeats 4000000 in
theorem join_calls (l : List ByteArray) (hs : smallL l) (hz : (joinL l).length ≤ 100000) (hn : l.length ≤ 100000) (v : Value) (w : World) (hv : Reads w v (txV l)) : Calls Try.prog 27 #[v] w fun e w' => e = .returned (.string ⟨(joinL l).toArray⟩) ∧ Touch (fun _ => False) w w' := by
  obtain ⟨a, cap, rfl, hc1, hc2, hcell⟩ := hv
  rw [txV_length] at hc1 ⊢
  have HC := Lib.hid hcell
  clear hcell
  go_enter Try.func27, Try.ntmps27
  go_wp2_with fail
  have hb0 := BlAt.fresh w
  have hT0 : Touch (fun k => w.heap.size ≤ k) w (w.alloc (.cells #[.pointer none, .slice none 0 0] 70)) := (Touch.refl _ _).alloc _
  have hz0 : w.heap.size ≤ (w.alloc (.cells #[.pointer none, .slice none 0 0] 70)).heap.size := hT0.size
  generalize w.alloc (.cells #[.pointer none, .slice none 0 0] 70) = w1 at hb0 hT0 hz0 ⊢
  obtain ⟨B, hB⟩ : ∃ B, w.heap.size = B := ⟨_, rfl⟩
  rw [hB] at hb0 hT0 ⊢
  have HB := Lib.hid hB
  clear hB hz0
  go_loopw [5, 8] (fun _ i wr => ∃ (k : Nat), k ≤ l.length ∧ i = .int .i64 (k : Nat) ∧ RowKit.Hid (BlAt wr B B (joinL (l.take k))) ∧ RowKit.Hid (Touch (fun k => B ≤ k) w wr)) (fun _ i _ => l.length - (intOf i).toNat)
  case atStart => exact ⟨0, Nat.zero_le _, rfl, Lib.hid hb0, Lib.hid hT0⟩
  case round =>
    obtain ⟨k, hk, rfl, HL, HT⟩ := hrel
    by_cases hlt : k < l.length
    · rcases HC.out with h9 | ⟨g, o, rfl, hcell⟩
      · have := congrArg List.length h9
        rw [txV_length] at this
        simp at this
        rw [this] at hlt
        simp at hlt
      · have hc0 := hcell k _ (txV_get l k hlt)
        have hgl : g < B := by rw [← HB.out]; exact World.block_lt_of_cell? w _ hc0
        have hc := HT.out.cell hc0 (by show ¬ B ≤ g; omega)
        have hsm := hs l[k] (List.getElem_mem hlt)
        have HST := Lib.hid (join_step l k hlt)
        have hjl := join_take_le l k
        have hj2 := congrArg List.length HST.out
        have hj3 := join_take_le l (k + 1)
        rw [List.length_append, List.length_append] at hj2
        have hBr : B ≤ wr.heap.size := by rw [← HB.out]; exact HT.out.size
        obtain ⟨t, ht⟩ : ∃ t, t = l[k] := ⟨_, rfl⟩
        rw [← ht] at hc hsm HST hj2
        have hq := lB_size 2 t.size
        have HP := Lib.hid (fun W => wput_calls t.size 2 W (by omega) (by omega))
        have hwq : IntKind.u64.wrap (t.size : Int) = (t.size : Int) := by rw [IntKind.wrap_u64]; omega
        have hqd : (lB 2 t.size).data.toList.length = 2 := by rw [Array.length_toList]; exact hq
        have htd : t.data.toList.length = t.size := Array.length_toList
        rw [hqd, htd] at hj2
        generalize lB 2 t.size = q at hq HP HST hqd
        have hsI : (t.size : Int) ≤ 65535 := by omega
        have hkI : (k : Int) < (l.length : Int) := by omega
        have HLEN := Lib.hid (⟨hjl, hj2, hj3, hqd, htd, hBr, hq, hz⟩ : _ ∧ _ ∧ _ ∧ _ ∧ _ ∧ _ ∧ _ ∧ _)
        clear ht hc0 hjl hj2 hj3 hqd htd hBr hq
        go_wp2_with fail
        refine (HP.out _).mono ?_
        rintro e w2 ⟨rfl, hT2⟩
        have hs2 := hT2.size
        go_wp2_with fail
        refine (bwrite_calls (HL.out.still hT2) q (by obtain ⟨h1, h2, h3, h4, h5, h6, h7, h8⟩ := HLEN.out; omega) (by obtain ⟨h1, h2, h3, h4, h5, h6, h7, h8⟩ := HLEN.out; omega)).mono ?_
        rintro e w3 ⟨rfl, hb3, hB3⟩
        have hs3 := (dgBelow hB3).size
        go_wp2_with fail
        refine (bwrite_calls hb3 t (by rw [List.length_append]; obtain ⟨h1, h2, h3, h4, h5, h6, h7, h8⟩ := HLEN.out; omega) (by obtain ⟨h1, h2, h3, h4, h5, h6, h7, h8⟩ := HLEN.out; omega)).mono ?_
        rintro e w4 ⟨rfl, hb4, hB4⟩
        go_wp2_with fail
        go_roundw
        case rel => exact ⟨k + 1, by omega, by go_num, Lib.hid (by rw [HST.out]; exact hb4), Lib.hid (((HT.out.trans (hT2.mono (fun _ h => h.elim))).trans (dgBelow hB3)).trans (dgBelow hB4))⟩
        case measure => simp [intOf]; omega
    · have hkI : (l.length : Int) ≤ (k : Int) := by omega
      have HLF : RowKit.Hid (BlAt wr B B (joinL l)) := Lib.hid (by have := HL.out; rwa [List.take_of_length_le (by omega)] at this)
      have hBr : B ≤ wr.heap.size := by rw [← HB.out]; exact HT.out.size
      go_wp2_with fail
      refine (bstring_calls HLF.out hBr).mono ?_
      rintro e w2 ⟨rfl, hB2⟩
      go_wp2_with fail
      go_ret
      have hTf := HT.out.trans (dgBelow hB2)
      exact ⟨rfl, ⟨hTf.os, hTf.tape, hTf.output, hTf.size, fun j hj _ => hTf.block j hj (by rw [← HB.out]; omega)⟩⟩
end Go.Proofs.Ytmjahbdengnoeaa

/- The statement StageSums over the translated program. -/
import Derived.Test.YtmcakilpdecacaaStS
import Derived.Test.YtmcakilpdecacaaCrcA
import Derived.Deep.CutBlock
namespace Go.Proofs.Ytmcakilpdecacaa
open Go Go.RowKit Go.Maps
set_option maxRecDepth 100000

theorem st_and127 (n : Int) : bits .and .i64 n 127 = n % 128 := by
  have hk : (BitVec.ofInt 64 127).toNat = 2 ^ 7 - 1 := by decide
  have key : (BitVec.ofInt 64 n &&& BitVec.ofInt 64 127).toNat = (n % ((2 ^ 64 : Nat) : Int)).toNat % 2 ^ 7 := by
    rw [BitVec.toNat_and, BitVec.toNat_ofInt, hk, Nat.and_two_pow_sub_one_eq_mod]
  show IntKind.i64.wrap ((BitVec.ofInt 64 n &&& BitVec.ofInt 64 127).toNat : Nat) = n % 128
  rw [key, IntKind.wrap_i64]
  omega
theorem Try.cellsStr : Try.prog.cellsOf 9 = 1 := by kernel_rfl
theorem head_size (x : ByteArray) (m : Nat) : (x.extract 0 (min x.size m)).size ≤ m := by rw [ByteArray.size_extract]; omega
theorem cat_size (A s : ByteArray) : (A ++ s).size = A.size + s.size := ByteArray.size_append
theorem cat_list (A s : ByteArray) : (A ++ s).data.toList = A.data.toList ++ s.data.toList := by rw [ByteArray.data_append, Array.toList_append]
theorem ext_list (A : ByteArray) (p k : Nat) : (A.extract p (p + k)).data.toList = (A.data.toList.drop p).take k := by
  rw [ByteArray.data_extract, Array.toList_extract, List.extract, Nat.add_sub_cancel_left]
theorem ext0_list (A : ByteArray) (k : Nat) : (A.extract 0 k).data.toList = A.data.toList.take k := by
  rw [ByteArray.data_extract, Array.toList_extract, List.extract, List.drop_zero, Nat.sub_zero]

theorem byte33 (x : UInt8) : decide (x = 33) = ((x.toNat : Int) == 33) := by
  by_cases h : x = 33
  · subst h; rfl
  · rw [decide_eq_false h]
    symm
    rw [beq_eq_false_iff_ne]
    intro h2
    exact h (UInt8.toNat_inj.1 (by show x.toNat = 33; omega))
theorem bang_iff (A : ByteArray) (k : Nat) (hk : k < A.size) : ((⟨(A.data.toList.take (A.extract 0 k ++ ⟨#[33]⟩).size).toArray⟩ : ByteArray) = A.extract 0 k ++ ⟨#[33]⟩) ↔ A.data.toList[k]? = some 33 := by
  have h1 : (A.extract 0 k ++ (⟨#[33]⟩ : ByteArray)).size = k + 1 := by rw [cat_size, ByteArray.size_extract]; show min k A.size - 0 + 1 = _; omega
  have hkl : k < A.data.toList.length := by rw [ba_len]; exact hk
  rw [h1, List.getElem?_eq_getElem hkl, Option.some_inj]
  constructor
  · intro h
    have h2 := congrArg (fun x : ByteArray => x.data.toList) h
    simp only [cat_list, ext0_list, List.take_succ_eq_append_getElem hkl] at h2
    have h3 := List.append_cancel_left h2
    injection h3
  · intro h
    apply ba_ext
    simp only [cat_list, ext0_list, List.take_succ_eq_append_getElem hkl, h]

theorem starts_bang {w : World} {b lb mb c n t fb fi mo : Nat} {A : ByteArray} (h : Fil w b lb mb c n t fb fi mo A.data.toList) (k : Nat) (hk : k ≤ A.size) :
    Calls Try.prog 38 #[.pointer (some ⟨fb, 0, none⟩), .string (A.extract 0 k ++ ⟨#[33]⟩)] w fun e w' => e = .returned (.tuple #[.bool (decide (A.data.toList[k]? = some 33)), .int .i64 0]) ∧ Touch (fun _ => False) w w' := by
  have h1 : (A.extract 0 k ++ (⟨#[33]⟩ : ByteArray)).size = k + 1 := by rw [cat_size, ByteArray.size_extract]; show min k A.size - 0 + 1 = _; omega
  have hbi := fun hlt => bang_iff A k hlt
  obtain ⟨S, hS⟩ : ∃ S, A.extract 0 k ++ (⟨#[33]⟩ : ByteArray) = S := ⟨_, rfl⟩
  rw [hS] at h1 hbi ⊢
  have hl := ba_len A
  rcases Nat.lt_or_ge k A.size with hlt | hge
  · have h2 := fil_starts h S (by omega)
    have e1 : decide ((⟨(A.data.toList.take S.size).toArray⟩ : ByteArray) = S) = decide (A.data.toList[k]? = some 33) := decide_eq_decide.2 (hbi hlt)
    rw [e1] at h2
    exact h2
  · refine (fil_starts_long h S (by omega)).mono ?_
    rintro e w' ⟨rfl, rfl⟩
    rw [List.getElem?_eq_none (by omega)]
    exact ⟨rfl, Touch.refl _ _⟩
theorem starts_head {w : World} {b lb mb c n t fb fi mo : Nat} {A : ByteArray} (h : Fil w b lb mb c n t fb fi mo A.data.toList) (k : Nat) (hk : k ≤ A.size) :
    Calls Try.prog 38 #[.pointer (some ⟨fb, 0, none⟩), .string (A.extract 0 k)] w fun e w' => e = .returned (.tuple #[.bool true, .int .i64 0]) ∧ Touch (fun _ => False) w w' := by
  have h1 : (A.extract 0 k).size = k := by rw [ByteArray.size_extract]; omega
  have := fil_starts h (A.extract 0 k) (by rw [h1, ba_len]; exact hk)
  rw [decide_eq_true (by apply ba_ext; rw [ext0_list, h1])] at this
  exact this

set_option maxHeartbeats 4000000 in
theorem stsums_calls (l : List ByteArray) (zp zn : Int) (v0 : Value) (w : World) (hl : Reads w v0 (l.map Value.string)) (hsz : ∀ s ∈ l, s.size ≤ 9223372036854775807) (_hp : (-9223372036854775808 ≤ zp ∧ zp ≤ 9223372036854775807)) (hn : (-9223372036854775808 ≤ zn ∧ zn ≤ 9223372036854775807)) :
    Calls Try.prog 7 #[v0, .int .i64 zp, .int .i64 zn] w fun e w' => e = .returned (.bool true) ∧ Touch (fun _ => False) w w' := by
  obtain ⟨a, cap, hv, hc1, hc2⟩ := hl.form
  rw [List.length_map] at hv hc1
  unfold maxLen at hc2
  have HL := Lib.hid hl
  have HSZ := Lib.hid hsz
  have HN := Lib.hid hn
  clear hl hsz hn
  subst hv
  obtain ⟨u, hu⟩ : ∃ u : Nat, zn % 128 = (u : Int) := ⟨(zn % 128).toNat, by omega⟩
  have hu128 : u < 128 := by omega
  have h127 : bits .and .i64 zn 127 = (u : Int) := by rw [st_and127, hu]
  clear hu
  go_enter Try.func7, Try.ntmps7
  go_wp2_with fail
  refine (speaks19_calls w).mono ?_
  rintro e w0 ⟨rfl, hT0⟩
  go_wp2_with fail
  refine (new_calls 12 w0 (by omega) (by omega)).mono ?_
  rintro e w1 ⟨b, lb, mb, rfl, hD1, hN, hT1⟩
  have HD1 := Lib.hid hD1
  have HNB := Lib.hid hN
  clear hD1 hN
  go_wp2_with fail
  refine (fil_new HD1.out 2 9 (A := []) (holds_nil _ _ _) (by omega) (by omega) (by simp)).mono ?_
  rintro e w2 ⟨fb, rfl, hF2, hfb, hT2⟩
  have HF2 := Lib.hid hF2
  have HNN : Hid (∀ k, DkS b lb mb k ∨ k = fb → w.heap.size ≤ k) := Lib.hid (fun k hk => by
    have := HNB.out; have := hT0.size; have := hT1.size
    rcases hk with (h | h | h) | h <;> omega)
  have HT2 := Lib.hid ((hT0.trans hT1).trans hT2)
  clear hF2 hT0 hT1 hT2 hfb
  go_upto_block 0 with fail
  go_cut [11, 12] (fun v11 _ wx => ∃ (A : ByteArray) (t : Nat), v11 = .string A ∧ A.size ≤ 540 ∧ Fil wx b lb mb (12 * 64) 12 t fb 2 (9 * 64) A.data.toList ∧ Touch (fun _ => False) w wx)
  case first =>
    go_wp2_with fail
    go_loopw [11, 12] (fun v11 v12 wr => ∃ (j : Nat) (A : ByteArray) (t : Nat), v11 = .string A ∧ v12 = .int .i64 j ∧ j ≤ 6 ∧ j ≤ l.length ∧ t ≤ 90 * j ∧ A.size ≤ 90 * j ∧ Fil wr b lb mb (12 * 64) 12 t fb 2 (9 * 64) A.data.toList ∧ Touch (fun _ => False) w wr) (fun _ i _ => l.length - (Go.RowKit.intOf i).toNat)
    case atStart => exact ⟨0, ⟨#[]⟩, _, rfl, rfl, by omega, by omega, by omega, by decide, HF2.out, HT2.out⟩
    case round =>
      obtain ⟨j, A, t, rfl, rfl, hj6, hjl, ht, hA, hF, hT⟩ := hrel
      have HF := Lib.hid hF
      have HT := Lib.hid hT
      clear hF hT
      by_cases hlt : j < l.length ∧ j < 6
      · obtain ⟨hlt, hlt6⟩ := hlt
        have hI1 : (j : Int) < (l.length : Int) := by omega
        have hI2 : (j : Int) < 6 := by omega
        go_upto_region 9 with fail
        obtain ⟨x, hx⟩ : ∃ x, l[j]? = some x := ⟨_, List.getElem?_eq_getElem (by omega)⟩
        obtain ⟨g, off, cap', hga, _, _, _, hcell⟩ := (HL.out.still HT.out).addr (by rw [List.length_map]; omega)
        injection hga with hga hq1 hq2
        clear hq1 hq2
        subst hga
        have hxs : x.size ≤ 9223372036854775807 := HSZ.out x (List.mem_of_getElem? hx)
        have p0 : wr.cell? ⟨g, off + j, none⟩ = some (.string x) := hcell j _ (by rw [List.getElem?_map, hx]; rfl)
        obtain ⟨k, hk⟩ : ∃ k, k = min x.size 90 := ⟨_, rfl⟩
        obtain ⟨s, hs⟩ : ∃ s, x.extract 0 k = s := ⟨_, rfl⟩
        have hs90 : s.size ≤ 90 := by rw [← hs, hk]; exact head_size x 90
        have hk1 : min (x.size : Int) 90 = (k : Int) := by omega
        have hk3 : (if (90 : Int) < (x.size : Int) then (90 : Int) else (x.size : Int)) = (k : Int) := by split <;> omega
        have hk2 : (k : Int) ≤ (x.size : Int) := by omega
        have hk0 : (0 : Int) ≤ (k : Int) := by omega
        clear hk hcell hx
        go_quiet (fail)
        clear hk1 hk2 hk3 hk0 hs p0 hxs
        go_wp2_with fail
        have hq := (Touch.refl (fun _ => False) wr).drewN
        refine (fil_append (HF.out.still (hq _)) s (by rw [ba_len]; omega) (by omega)).mono ?_
        rintro e wb ⟨rfl, t2, ht2, hFb, hTb⟩
        have HTb : Hid (Touch (fun _ => False) w wb) := Lib.hid ((HT.out.drewN _).trans' hTb (fun i hi => .inr (HNN.out i hi)))
        rw [← cat_list] at hFb
        have HFb := Lib.hid hFb
        have hcs := cat_size A s
        have hbig : (9223372036854775807 < A.size + s.size) = False := eq_false (by omega)
        clear hTb hq hFb
        go_wp2_with fail
        go_roundw
        case rel => exact ⟨j + 1, A ++ s, t2, rfl, by go_num, by omega, by omega, by omega, by omega, HFb.out, HTb.out⟩
        case measure => simp [Go.RowKit.intOf]; omega
      · have hcase : ¬ ((j : Int) < (l.length : Int)) ∨ ((j : Int) < (l.length : Int) ∧ ¬ ((j : Int) < 6)) := by omega
        rcases hcase with hA' | ⟨hA', hA2⟩
        all_goals
          go_wp2_with fail
          go_meet
          exact ⟨A, t, rfl, by omega, HF.out, HT.out⟩
  case rest =>
    obtain ⟨A, t, rfl, hA, hF, hT⟩ := hcut
    have HF := Lib.hid hF
    have HT := Lib.hid hT
    clear hF hT
    obtain ⟨q, hq⟩ : ∃ q : Nat, A.size + 1 = q := ⟨_, rfl⟩
    have hqI : (A.size : Int) + 1 = (q : Int) := by omega
    obtain ⟨k, hk⟩ : ∃ k : Nat, u % q = k := ⟨_, rfl⟩
    have hkq : k < q := by rw [← hk]; exact Nat.mod_lt _ (by omega)
    have hkA : k ≤ A.size := by omega
    have hkI : (k : Int) ≤ (A.size : Int) := by omega
    have hk0 : (0 : Int) ≤ (k : Int) := by omega
    have hmod : (u : Int).tmod (q : Int) = (k : Int) := by rw [← hk]; exact Int.ofNat_tmod u q
    have hmod2 : (u : Int) % (q : Int) = (k : Int) := by rw [← hk]; exact (Int.natCast_emod u q).symm
    have hq0 : ¬ (q : Int) = 0 := by omega
    have hwq : IntKind.i64.wrap (q : Int) = (q : Int) := IntWalk.i64_in _ (by omega)
    have HB : Hid (∀ W, Touch (fun _ => False) wc W → Calls Try.prog 38 #[.pointer (some ⟨fb, 0, none⟩), .string (A.extract 0 k ++ ⟨#[33]⟩)] W fun e w' => e = .returned (.tuple #[.bool (decide (A.data.toList[k]? = some 33)), .int .i64 0]) ∧ Touch (fun _ => False) W w') := Lib.hid (fun W hW => starts_bang (HF.out.still hW) k hkA)
    have HH : Hid (∀ W, Touch (fun _ => False) wc W → Calls Try.prog 38 #[.pointer (some ⟨fb, 0, none⟩), .string (A.extract 0 k)] W fun e w' => e = .returned (.tuple #[.bool true, .int .i64 0]) ∧ Touch (fun _ => False) W w') := Lib.hid (fun W hW => starts_head (HF.out.still hW) k hkA)
    have hes : (A.extract 0 k).size = k := by rw [ByteArray.size_extract]; omega
    have hbig : (9223372036854775807 < k + 1) = False := eq_false (by omega)
    clear hk hq hkq
    by_cases hg : 0 ≤ zp ∧ 0 ≤ zn ∧ zp + zn ≤ A.size
    · obtain ⟨p, rfl⟩ : ∃ p : Nat, zp = (p : Int) := ⟨zp.toNat, by omega⟩
      obtain ⟨n, rfl⟩ : ∃ n : Nat, zn = (n : Int) := ⟨zn.toNat, by omega⟩
      have hpn : p + n ≤ A.size := by omega
      have hsum := fil_sum HF.out p n (by rw [ba_len]; exact hpn)
      rw [← ext_list] at hsum
      obtain ⟨X, hX⟩ : ∃ X, A.extract p (p + n) = X := ⟨_, rfl⟩
      have hxs : X.size ≤ 9223372036854775807 := by rw [← hX, ByteArray.size_extract]; omega
      have hrr := fun W => refread_ok A p n hpn (by omega) W
      rw [hX] at hsum hrr
      have HS := Lib.hid hsum
      have HR := Lib.hid hrr
      have HXS := Lib.hid hxs
      clear hsum hrr hX hxs hg hpn
      go_wp2_with fail
      refine HS.out.mono ?_
      rintro e wd ⟨rfl, hTd⟩
      have HTd := Lib.hid hTd
      clear hTd
      go_wp2_with fail
      refine (HR.out _).mono ?_
      rintro e w' ⟨rfl, rfl⟩
      go_wp2_with (first
        | (go_at_call 37; refine (refmore_calls 0 X _ (by decide) HXS.out).mono ?_; rintro e w' ⟨rfl, rfl⟩)
        | (go_at_call 38; with_reducible refine (HH.out _ HTd.out).mono ?_; rintro e we ⟨rfl, hTe⟩; have HTe := Lib.hid (HTd.out.trans hTe); clear hTe)
        | (go_at_call 38; with_reducible refine (HB.out _ HTe.out).mono ?_; rintro e wf ⟨rfl, hTf⟩; have HTf := Lib.hid (HTe.out.trans hTf); clear hTf)
        | (go_at_call 38; with_reducible refine (ststarts_nil _ _).mono ?_; rintro e w' ⟨rfl, rfl⟩))
      all_goals
        first
          | (exfalso; rename_i _ h2; exact h2 (byte33 _))
          | (go_ret; exact ⟨rfl, HT.out.trans HTf.out⟩)
    · have hb : zp < 0 ∨ zn < 0 ∨ A.size - zn < zp := by omega
      have hsum := stsum_err (by decide) (fil_bad HF.out zp zn HN.out.2 (by rw [ba_len]; exact hb))
      have hrr := fun W => refread_bad A zp zn (by omega) HN.out.2 hb W
      have HS := Lib.hid hsum
      have HR := Lib.hid hrr
      have HTd := Lib.hid (Touch.refl (fun _ => False) wc)
      clear hsum hrr hg hb
      go_wp2_with fail
      refine HS.out.mono ?_
      rintro e w' ⟨rfl, rfl⟩
      go_wp2_with fail
      refine (HR.out _).mono ?_
      rintro e w' ⟨rfl, rfl⟩
      go_wp2_with (first
        | (go_at_call 38; with_reducible refine (HH.out _ HTd.out).mono ?_; rintro e we ⟨rfl, hTe⟩; have HTe := Lib.hid (HTd.out.trans hTe); clear hTe)
        | (go_at_call 38; with_reducible refine (HB.out _ HTe.out).mono ?_; rintro e wf ⟨rfl, hTf⟩; have HTf := Lib.hid (HTe.out.trans hTf); clear hTf)
        | (go_at_call 38; with_reducible refine (ststarts_nil _ _).mono ?_; rintro e w' ⟨rfl, rfl⟩))
      all_goals
        first
          | (exfalso; rename_i _ h2; exact h2 (byte33 _))
          | (go_ret; exact ⟨rfl, HT.out.trans HTf.out⟩)

end Go.Proofs.Ytmcakilpdecacaa

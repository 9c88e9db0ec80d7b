/- The statement LinkTurns over the translated program. -/
import Derived.Test.YtimiiahhedpfaaaLkC
namespace Go.Proofs.Ytimiiahhedpfaaa
open Go Go.RowKit Go.Conc
set_option maxRecDepth 100000

theorem lk_mask (k : Nat) (hk : k ≤ 62) (m : Int) (hm : m = 2 ^ k - 1) (n : Int) : bits .and .i64 n m = n % 2 ^ k := by
  have h62 : 2 ^ k ≤ 2 ^ 62 := Nat.pow_le_pow_right (by decide) hk
  have hpos : 0 < 2 ^ k := Nat.pow_pos (by decide)
  have hm' : m = ((2 ^ k - 1 : Nat) : Int) := by
    rw [hm]
    have : ((2 : Int) ^ k) = ((2 ^ k : Nat) : Int) := by norm_cast
    rw [this]; omega
  have hkk : (BitVec.ofInt 64 m).toNat = 2 ^ k - 1 := by rw [hm', BitVec.toNat_ofInt]; omega
  have key : (BitVec.ofInt 64 n &&& BitVec.ofInt 64 m).toNat = (n % ((2 ^ 64 : Nat) : Int)).toNat % 2 ^ k := by
    rw [BitVec.toNat_and, BitVec.toNat_ofInt, hkk, Nat.and_two_pow_sub_one_eq_mod]
  show IntKind.i64.wrap ((BitVec.ofInt 64 n &&& BitVec.ofInt 64 m).toNat : Nat) = n % 2 ^ k
  have hd : ((2 ^ k : Nat) : Int) ∣ ((2 ^ 64 : Nat) : Int) := Int.natCast_dvd_natCast.2 (Nat.pow_dvd_pow 2 (by omega))
  have hlt : (n % ((2 ^ 64 : Nat) : Int)).toNat % 2 ^ k < 2 ^ k := Nat.mod_lt _ hpos
  have e : (((n % ((2 ^ 64 : Nat) : Int)).toNat % 2 ^ k : Nat) : Int) = n % ((2 ^ k : Nat) : Int) := by
    rw [Int.natCast_emod, Int.toNat_of_nonneg (Int.emod_nonneg _ (by decide)), Int.emod_emod_of_dvd _ hd]
  rw [key, IntWalk.i64_in _ (by omega), e]
  norm_cast
theorem lk_min {N : Nat} {c k : Nat} (C : Int) (hC : C = (c : Nat)) (h : k = min N c) : min (N : Int) C = (k : Int) ∧ (if C < (N : Int) then C else (N : Int)) = (k : Int) ∧ (k : Int) ≤ (N : Int) ∧ (0 : Int) ≤ (k : Int) := by
  refine ⟨by omega, ?_, by omega, by omega⟩; split <;> omega

theorem lk_new {w w' : World} (h : Touch (fun j => w.heap.size ≤ j) w w') : Touch (fun _ => False) w w' :=
  ⟨h.os, h.tape, h.output, h.size, fun k hk _ => h.block k hk (by omega)⟩
theorem Try.cellsStr : Try.prog.cellsOf 9 = 1 := by kernel_rfl
/-- A text's first bytes. -/
def cutT (c : Nat) (t : ByteArray) : ByteArray := t.extract 0 (min t.size c)
theorem cutT_size (c : Nat) (t : ByteArray) : (cutT c t).size ≤ c := by unfold cutT; simp; omega
def tuL (l : List ByteArray) (y i : Nat) : Nat → List ByteArray := fun x => if x = y then (l.take i).map (cutT 20) else List.replicate i ⟨#[111, 116, 104, 101, 114]⟩

theorem tuL_step (m : List ByteArray) (y x i : Nat) (hy : y < 2) (hx : x < 2) (hxy : x ≠ y) (hi : i < m.length) (q : Nat) (hq : q < 2) :
    setL (setL (tuL m y i) y (tuL m y i y ++ [cutT 20 m[i]])) x (setL (tuL m y i) y (tuL m y i y ++ [cutT 20 m[i]]) x ++ [⟨#[111, 116, 104, 101, 114]⟩]) q = tuL m y (i + 1) q := by
  have e1 : tuL m y (i + 1) y = tuL m y i y ++ [cutT 20 m[i]] := by
    unfold tuL
    rw [if_pos rfl, if_pos rfl, List.take_succ_eq_append_getElem hi, List.map_append]; rfl
  have e2 : tuL m y (i + 1) x = tuL m y i x ++ [⟨#[111, 116, 104, 101, 114]⟩] := by
    unfold tuL
    rw [if_neg hxy, if_neg hxy, List.replicate_succ']
  have h1 : setL (tuL m y i) y (tuL m y i y ++ [cutT 20 m[i]]) x = tuL m y i x := by unfold setL; rw [if_neg hxy]
  rw [h1, ← e1, ← e2]
  unfold setL
  rcases (show q = x ∨ q = y by omega) with rfl | rfl
  · rw [if_pos rfl]
  · rw [if_neg (fun e => hxy e.symm), if_pos rfl]
/-- The ways while texts are turned, and while they are taken. -/
def roL (M : List ByteArray) (y n i : Nat) : Nat → List ByteArray := fun x => if x = y then M.drop i ++ M.take i else List.replicate n ⟨#[111, 116, 104, 101, 114]⟩
def taL (M : List ByteArray) (y n i : Nat) : Nat → List ByteArray := fun x => if x = y then M.drop i else List.replicate n ⟨#[111, 116, 104, 101, 114]⟩

set_option maxHeartbeats 4000000 in
theorem lturns_calls (l : List ByteArray) (z1 : Int) (v0 : Value) (w : World) (hl : Reads w v0 (l.map Value.string)) (hsz : ∀ s ∈ l, s.size ≤ 9223372036854775807) :
    Calls Try.prog 10 #[v0, .int .i64 z1] w fun e w' => e = .returned (.bool true) ∧ Touch (fun _ => False) w w' := by
  obtain ⟨y, hy⟩ : ∃ r : Nat, z1 % 2 = (r : Int) := ⟨(z1 % 2).toNat, by omega⟩
  have hand : bits .and .i64 z1 1 = (y : Int) := by rw [lk_mask 1 (by omega) 1 (by decide) z1, ← hy]; rfl
  have hy2 : y < 2 := by omega
  clear hy
  obtain ⟨a, cap, hv, hc1, hc2⟩ := hl.form
  rw [List.length_map] at hv hc1
  unfold maxLen at hc2
  subst hv
  have HL := Lib.hid hl
  have HSZ := Lib.hid hsz
  obtain ⟨n0, hn0⟩ : ∃ n, n = l.length := ⟨_, rfl⟩
  rw [← hn0] at hc1 HL ⊢
  have HN := Lib.hid hn0
  clear hn0 hl hsz
  go_enter Try.func10, Try.ntmps10
  go_wp2_with fail
  refine (speaks26_calls w).mono ?_
  rintro e w1 ⟨rfl, ht1⟩
  have HT1 := Lib.hid ht1
  clear ht1
  go_wp2_with fail
  refine (lknew_calls w1).mono ?_
  rintro e w2 ⟨p, c, rfl, h2, hp, ht2⟩
  have HP : Hid (w.heap.size ≤ p ∧ ∀ y, y < 2 → w.heap.size ≤ c y) := Lib.hid ⟨Nat.le_trans HT1.out.size hp.1, fun y hy => Nat.le_trans HT1.out.size (hp.2 y hy)⟩
  have H2 := Lib.hid h2
  have HT2 := Lib.hid (HT1.out.trans ht2)
  clear ht2 h2 hp HT1
  go_upto_region 5 with fail
  obtain ⟨n, hn⟩ : ∃ k, k = min n0 60 := ⟨_, rfl⟩
  obtain ⟨hm1, hm2, hm3, hm4⟩ := lk_min 60 rfl hn
  have hn60 : n ≤ 60 := by omega
  have hnn : n ≤ n0 := by omega
  clear hn
  go_upto_region 6 with fail
  have HR : Hid (Reads w (.slice a n cap) ((l.take n).map Value.string)) := Lib.hid (by
    have := HL.out.upto (q := n) hnn
    rw [← List.map_take] at this
    exact this)
  have HLN : Hid ((l.take n).length = n) := Lib.hid (by rw [List.length_take]; have := HN.out; omega)
  have HSZ' : Hid (∀ s ∈ l.take n, s.size ≤ 9223372036854775807) := Lib.hid (fun s hs => HSZ.out s (List.mem_of_mem_take hs))
  clear hm1 hm2 hm3 hm4 hand HL HN HSZ
  generalize l.take n = m at *
  have H2' : Hid (LinkAt w2 p c (tuL m y 0)) := Lib.hid (H2.out.congr fun x _ => by unfold tuL; split <;> rfl)
  clear H2
  have hy1 : (1 : Int) - (y : Int) = ((1 - y : Nat) : Int) := by omega
  obtain ⟨x, hx⟩ : ∃ x, x = 1 - y := ⟨_, rfl⟩
  rw [← hx] at hy1
  have hx2 : x < 2 := by omega
  have hxy : x ≠ y := by omega
  clear hx
  go_wp2_with fail
  go_loopw [6] (fun iv wy => ∃ i : Nat, i ≤ n ∧ iv = .int .i64 (i : Nat) ∧ RowKit.Hid (LinkAt wy p c (tuL m y i)) ∧ RowKit.Hid (Touch (fun k => w.heap.size ≤ k) w wy)) (fun iv _ => n - (intOf iv).toNat)
  case atStart => exact ⟨0, Nat.zero_le _, rfl, H2', Lib.hid (HT2.out.mono (fun _ e => e.elim))⟩
  case round =>
    clear H2' HT2
    obtain ⟨i, hi, rfl, HK, HT⟩ := hrel
    by_cases hin : i < n
    · have hinI : (i : Int) < (n : Int) := by omega
      have hml : i < m.length := by rw [HLN.out]; exact hin
      have hrw : Reads wr (.slice a n cap) (m.map Value.string) := HR.out.still (lk_new HT.out)
      obtain ⟨gx, ox, cx, hv, _, _, _, hcx⟩ := hrw.addr (by rw [List.length_map]; omega)
      rw [List.length_map, HLN.out] at hv
      injection hv with e1 _ e3
      subst e1
      obtain rfl : cx = cap := e3.symm
      have hcell := hcx i (.string m[i]) (by simp [List.getElem?_map, List.getElem?_eq_getElem hml])
      have hts := HSZ'.out m[i] (List.getElem_mem hml)
      obtain ⟨t, ht⟩ : ∃ t, t = m[i] := ⟨_, rfl⟩
      rw [← ht] at hcell hts
      obtain ⟨k, hk⟩ : ∃ k, k = min t.size 20 := ⟨_, rfl⟩
      obtain ⟨hm1, hm2, hm3, hm4⟩ := lk_min 20 rfl hk
      obtain ⟨T, hT⟩ : ∃ T, t.extract 0 k = T := ⟨_, rfl⟩
      have HTT : Hid (T = cutT 20 m[i]) := Lib.hid (by rw [← hT, hk, ht]; rfl)
      clear hcx hrw ht hk
      go_upto_region 9 with fail
      go_still_tail 13, (by kernel_rfl)
      change wpList _ _ _ _ _ wr.drew
      have htd : Touch (fun _ => False) wr wr.drew := (Touch.refl _ wr).drew
      have HK1 := Lib.hid (HK.out.still htd)
      have HT1 := Lib.hid (HT.out.trans (htd.mono (fun _ e => e.elim)))
      generalize wr.drew = wd at *
      clear htd hcell hm1 hm2 hm3 hm4 hts hT
      go_wp2_with fail
      have hll : (tuL m y i y).length < 64 := by unfold tuL; rw [if_pos rfl, List.length_map, List.length_take]; omega
      refine (put_room HK1.out y hy2 T hll).mono ?_
      rintro e w4 ⟨rfl, h4, ht4⟩
      have H4 := Lib.hid h4
      have HT4 := Lib.hid (HT1.out.trans (ht4.mono (fun j e => by have := HP.out.2 y hy2; rw [e]; exact this)))
      clear h4 ht4 hll HT1 HK1 HT HK
      go_wp2_with fail
      have hll : (setL (tuL m y i) y (tuL m y i y ++ [T]) x).length < 64 := by
        unfold setL tuL
        rw [if_neg hxy, if_neg hxy, List.length_replicate]; omega
      refine (put_room H4.out x hx2 ⟨#[111, 116, 104, 101, 114]⟩ hll).mono ?_
      rintro e w5 ⟨rfl, h5, ht5⟩
      have H5 : Hid (LinkAt w5 p c (tuL m y (i + 1))) := Lib.hid (h5.congr fun q hq => by rw [HTT.out]; exact tuL_step m y x i hy2 hx2 hxy hml q hq)
      have HT5 := Lib.hid (HT4.out.trans (ht5.mono (fun j e => by have := HP.out.2 x hx2; rw [e]; exact this)))
      clear h5 ht5 hll H4 HT4
      go_wp2_with fail
      go_roundw
      case rel => exact ⟨i + 1, by omega, by go_num, H5, HT5⟩
      case measure => simp [intOf]; omega
    · obtain rfl : i = n := by omega
      have hinI : ¬ (i : Int) < (i : Int) := by omega
      obtain ⟨M, hM⟩ : ∃ M, M = m.map (cutT 20) := ⟨_, rfl⟩
      have HML : Hid (M.length = i) := Lib.hid (by rw [hM, List.length_map]; exact HLN.out)
      have HK0 : Hid (LinkAt wr p c (roL M y i 0)) := Lib.hid (HK.out.congr fun q _ => by
        unfold tuL roL
        rw [List.drop_zero, List.take_zero, List.append_nil, List.take_of_length_le (by rw [HLN.out]; exact Nat.le_refl _), hM])
      have HM := Lib.hid hM
      clear hM HK hi hin
      go_wp2_with fail
      go_loopw [7] (fun jv wy => ∃ j : Nat, j ≤ i ∧ jv = .int .i64 (j : Nat) ∧ RowKit.Hid (LinkAt wy p c (roL M y i j)) ∧ RowKit.Hid (Touch (fun k => w.heap.size ≤ k) w wy)) (fun jv _ => i - (intOf jv).toNat)
      case atStart => exact ⟨0, Nat.zero_le _, rfl, HK0, HT⟩
      case round =>
        clear HT HK0
        obtain ⟨j, hj, rfl, HK, HT⟩ := hrel
        by_cases hjn : j < i
        · have hjI : (j : Int) < (i : Int) := by omega
          have hjl : j < M.length := by rw [HML.out]; exact hjn
          have he : roL M y i j y = M[j] :: (M.drop (j + 1) ++ M.take j) := by
            unfold roL
            rw [if_pos rfl, List.drop_eq_getElem_cons hjl]; rfl
          have HTC := Lib.hid (turn_calls HK.out y hy2 he)
          have HE : Hid (∀ q, setL (roL M y i j) y (M.drop (j + 1) ++ M.take j ++ [M[j]]) q = roL M y i (j + 1) q) := Lib.hid (fun q => by
            unfold setL roL
            by_cases e : q = y
            · rw [if_pos e, if_pos e, List.take_succ_eq_append_getElem hjl, List.append_assoc]
            · rw [if_neg e, if_neg e, if_neg e])
          clear he
          go_wp2_with fail
          refine HTC.out.mono ?_
          rintro e w4 ⟨rfl, h4, ht4⟩
          have H4 := Lib.hid (h4.congr fun q _ => HE.out q)
          have HT4 := Lib.hid (HT.out.trans (ht4.mono (fun j e => by have := HP.out.2 y hy2; rw [e]; exact this)))
          clear h4 ht4
          go_wp2_with fail
          go_roundw
          case rel => exact ⟨j + 1, by omega, by go_num, H4, HT4⟩
          case measure => simp [intOf]; omega
        · obtain rfl : j = i := by omega
          have hjI : ¬ (j : Int) < (j : Int) := by omega
          have HK0 : Hid (LinkAt wr p c (taL M y j 0)) := Lib.hid (HK.out.congr fun q _ => by
            unfold roL taL
            rw [List.drop_zero, ← HML.out, List.drop_length, List.take_length, List.nil_append])
          clear HK hj hjn
          go_wp2_with fail
          go_loopw [8] (fun kv wy => ∃ k : Nat, k ≤ j ∧ kv = .int .i64 (k : Nat) ∧ RowKit.Hid (LinkAt wy p c (taL M y j k)) ∧ RowKit.Hid (Touch (fun q => w.heap.size ≤ q) w wy)) (fun kv _ => j - (intOf kv).toNat)
          case atStart => exact ⟨0, Nat.zero_le _, rfl, HK0, HT⟩
          case round =>
            clear HT HK0
            obtain ⟨k, hk, rfl, HK, HT⟩ := hrel
            by_cases hkn : k < j
            · have hkI : (k : Int) < (j : Int) := by omega
              have hkl : k < M.length := by rw [HML.out]; exact hkn
              have hkm : k < m.length := by rw [HLN.out]; exact hkn
              have he : taL M y j k y = M[k] :: M.drop (k + 1) := by
                unfold taL
                rw [if_pos rfl, List.drop_eq_getElem_cons hkl]
              have HTC := take_some HK.out y hy2 he
              have HE : Hid (∀ q, setL (taL M y j k) y (M.drop (k + 1)) q = taL M y j (k + 1) q) := Lib.hid (fun q => by
                unfold setL taL
                by_cases e : q = y
                · rw [if_pos e, if_pos e]
                · rw [if_neg e, if_neg e, if_neg e])
              have hrw : Reads w (.slice a j cap) (m.map Value.string) := HR.out
              obtain ⟨gx, ox, cx, hv, _, _, _, hcx⟩ := hrw.addr (by rw [List.length_map]; omega)
              rw [List.length_map, HLN.out] at hv
              injection hv with e1 _ e3
              subst e1
              obtain rfl : cx = cap := e3.symm
              have hcell := hcx k (.string m[k]) (by simp [List.getElem?_map, List.getElem?_eq_getElem hkm])
              have hts := HSZ'.out m[k] (List.getElem_mem hkm)
              have hMk : M[k] = cutT 20 m[k] := by simp only [HM.out, List.getElem_map]
              rw [hMk] at HTC
              obtain ⟨t, ht⟩ : ∃ t, t = m[k] := ⟨_, rfl⟩
              rw [← ht] at hcell hts HTC
              obtain ⟨kk, hkk⟩ : ∃ k, k = min t.size 20 := ⟨_, rfl⟩
              obtain ⟨hm1, hm2, hm3, hm4⟩ := lk_min 20 rfl hkk
              obtain ⟨T, hT⟩ : ∃ T, t.extract 0 kk = T := ⟨_, rfl⟩
              have hTc : cutT 20 t = T := by rw [← hT, hkk]; rfl
              rw [hTc] at HTC
              have HTC' := Lib.hid HTC
              have HC := Lib.hid hcell
              have HMM := Lib.hid (⟨hm1, hm2⟩ : _ ∧ _)
              clear hcx hrw ht hkk hTc HTC he hMk hcell hm1 hm2 
              go_wp2_with fail
              refine HTC'.out.mono ?_
              rintro e w4 ⟨rfl, h4, ht4⟩
              have H4 := Lib.hid (h4.congr fun q _ => HE.out q)
              have HT4 := Lib.hid (HT.out.trans (ht4.mono (fun j e => by have := HP.out.2 y hy2; rw [e]; exact this)))
              have hcell := (lk_new HT4.out).cell (p := ⟨gx, ox + k, none⟩) HC.out id
              obtain ⟨hm1, hm2⟩ := HMM.out
              clear h4 ht4
              go_upto_region 20 with fail
              go_quiet (fail)
              have HT5 := Lib.hid (HT4.out.drewN nq)
              have H5 := Lib.hid (H4.out.still ((Touch.refl (fun _ => False) w4).drewN nq))
              generalize w4.drewN nq = w5 at *
              clear hcell hm1 hm2
              go_wp2_with fail
              go_roundw
              case rel => exact ⟨k + 1, by omega, by go_num, H5, HT5⟩
              case measure => simp [intOf]; omega
            · obtain rfl : k = j := by omega
              have hkI : ¬ (k : Int) < (k : Int) := by omega
              have hly : (taL M y k k y) = [] := by
                unfold taL
                rw [if_pos rfl, ← HML.out, List.drop_length]
              have hlx : (taL M y k k x) = List.replicate k ⟨#[111, 116, 104, 101, 114]⟩ := by unfold taL; rw [if_neg hxy]
              have hl1 := llen_calls HK.out y hy2
              have hl2 := llen_calls HK.out x hx2
              have hl3 := turn_empty HK.out y hy2 hly
              rw [hly] at hl1
              rw [hlx, List.length_replicate] at hl2
              have HL1 := Lib.hid hl1
              have HL2 := Lib.hid hl2
              have HL3 := Lib.hid hl3
              clear hl1 hl2 hl3 hlx hly
              go_wp2_with fail
              refine HL1.out.mono ?_
              rintro e w' ⟨rfl, rfl⟩
              go_wp2_with fail
              refine HL2.out.mono ?_
              rintro e w' ⟨rfl, rfl⟩
              go_wp2_with fail
              refine HL3.out.mono ?_
              rintro e w' ⟨rfl, rfl⟩
              go_wp2_with fail
              go_ret
              exact ⟨rfl, lk_new HT.out⟩
end Go.Proofs.Ytimiiahhedpfaaa

/- Contracts of package wal, second part: Slot, entryOf. -/
import Derived.Test.YtmcakilpdecacaaWlB
import Derived.IntWalk
namespace Go.Proofs.Ytmcakilpdecacaa
open Go Go.RowKit Go.Maps
set_option maxRecDepth 100000

theorem slotX_calls (n : Nat) (s : ByteArray) (w : World) (h0 : n ≠ 0) (hn : n < 18446744073709551616) (hs : s.size ≤ 23) :
    Calls Try.prog 113 #[.int .u64 n, .string s] w fun e w' => e = .returned (.string (slotS n s)) ∧ Touch (fun _ => False) w w' := by
  go_enter Try.func113, Try.ntmps113
  go_wp2_with fail
  refine (make_calls w).mono ?_
  rintro e w1 ⟨rfl, hT, hT1⟩
  have HT := Lib.hid hT
  clear hT
  go_wp2_with fail
  refine (slot_calls n s _ w1 h0 hn hs HT.out).mono ?_
  rintro e w2 ⟨rfl, hT2⟩
  go_wp2_with fail
  go_ret
  exact ⟨rfl, hT1.trans hT2⟩

theorem results_cell_slot {P : Program} {fn : Func} {p q : Tmp} {ty : TypeId} (h : fn.results = #[.cell p ty, .tmp q]) (tmps : Array Value) (w : World) (g : Nat) (t : TypeId) (cs : Array Value) (fr : Nat × Nat) (d : TypeDesc)
    (hp : tmps.getD p undef = .pointer (some ⟨g, 0, none⟩)) (hg : w.heap[g]? = some (.cells cs t fr)) (hu : P.underlying ty = some d) (hd : (match d with | .struct _ | .array _ _ => true | _ => false) = true) (hi : (P.info? ty).map (·.size) = some cs.size) :
    (results fn tmps).run P w = .ok (.tuple #[.agg cs, tmps.getD q undef]) w := by
  have hp' : tmps[p]?.getD undef = .pointer (some ⟨g, 0, none⟩) := by simpa using hp
  simp [results, h, hp', asAddr, run_loadVar_row w g t ty cs fr d hg hu hd hi]

theorem str_ne {a b : ByteArray} (h : a ≠ b) : (a.toList == b.toList) = false := by
  rw [beq_eq_false_iff_ne]
  intro he
  rw [ByteArray.toList_eq, ByteArray.toList_eq] at he
  exact h (ba_ext he)

set_option maxHeartbeats 1000000 in
theorem ent_long (S : ByteArray) (hS : S.size = 64) (t : Value) (w : World) (hl : 23 < (S[8]'(by omega)).toNat) : Calls Try.prog 102 #[.string S, t] w fun e w' => e = .returned (.tuple #[.agg #[.int .u64 0, .string ⟨#[]⟩], .bool false]) ∧ Touch (fun _ => False) w w' := by
  obtain ⟨k, hk⟩ : ∃ k : Nat, (S[8]'(by omega)).toNat = k := ⟨_, rfl⟩
  have hk2 := (S[8]'(by omega)).toNat_lt
  have hl2 : (23 : Int) < (k : Int) := by omega
  go_enter Try.func102, Try.ntmps102
  go_wp2
  exact bodyPost_ret (results_cell_slot rfl _ _ w.heap.size _ _ _ _ rfl (heap_alloc_new w _) Try.underlying136 rfl (by kernel_rfl)) rfl ⟨rfl, (Touch.refl _ w).alloc _⟩

set_option maxHeartbeats 1000000 in
/-- The rest, behind the length: what bits.Get and slot answer is given. -/
theorem ent_short (S A B : ByteArray) (hS : S.size = 64) (k m n : Nat) (hm : 9 + k = m) (hk : (S[8]'(by omega)).toNat = k) (hl : k ≤ 23) (hA : S.extract 0 8 = A) (hB : S.extract 9 m = B) (_hn : n < 18446744073709551616) (tb : Nat) (w : World) (ht : TabAt w tb) (R : ByteArray)
    (hget : ∀ W, Calls Try.prog 103 #[.string A] W fun e w' => e = .returned (.int .u64 n) ∧ W = w')
    (hslot : ∀ W, TabAt W tb → Calls Try.prog 112 #[.agg #[.int .u64 n, .string B], .pointer (some ⟨tb, 0, none⟩)] W fun e w' => e = .returned (.string R) ∧ Touch (fun _ => False) W w') (yes : Bool) (hR : decide (R = S) = yes) :
    Calls Try.prog 102 #[.string S, .pointer (some ⟨tb, 0, none⟩)] w fun e w' => e = .returned (.tuple #[if yes then .agg #[.int .u64 n, .string B] else .agg #[.int .u64 0, .string ⟨#[]⟩], .bool yes]) ∧ Touch (fun _ => False) w w' := by
  have hl2 : (k : Int) ≤ 23 := by omega
  have hSI : (S.size : Int) = 64 := by omega
  have hkI : (9 : Int) + (k : Int) = (m : Int) := by omega
  have hm1 : (9 : Int) ≤ (m : Int) := by omega
  have hm2 : (m : Int) ≤ 64 := by omega
  have HM := Lib.hid hm
  clear hm
  have hmw : IntKind.i64.wrap ((m : Nat) : Int) = (m : Int) := IntWalk.i64_in _ (by omega)
  have HG := Lib.hid hget
  have HT := Lib.hid ht
  have HS := Lib.hid hslot
  clear hget ht hslot
  go_enter Try.func102, Try.ntmps102
  go_upto_region 4 with fail
  have hTa := (Touch.refl (fun _ => False) w).alloc (.cells #[.int .u64 0, .string ⟨#[]⟩] 136)
  have hbx := Block.new w 136 [.int .u64 0, .string ⟨#[]⟩]
  generalize (w.alloc (.cells #[.int .u64 0, .string ⟨#[]⟩] 136)) = w1 at hTa hbx ⊢
  have hbx : Block w1 w.heap.size 136 [.int .u64 0, .string ⟨#[]⟩] := hbx
  generalize hGG : w.heap.size = G at *
  have HGG := Lib.hid hGG
  have HBX := Lib.hid hbx
  clear hGG hbx
  go_cut [7] from 14 to 21 (fun v7 wx => ∃ g, v7 = .pointer (some ⟨g, 0, none⟩) ∧ Block wx g 136 [.int .u64 n, .string B] ∧ Touch (fun _ => False) w1 wx ∧ w1.heap.size ≤ g)
  case first =>
    go_region_law (go_simp; go_at_call 103; refine (HG.out _).mono ?_; rintro e wa ⟨rfl, rfl⟩)
    all_goals
      go_wp2_with fail
      go_meet
      exact ⟨_, rfl, (Block.new w1 136 [.int .u64 n, .string B]).drew, ((Touch.refl (fun _ => False) w1).alloc _).drew, Nat.le_refl _⟩
  case rest =>
    obtain ⟨g, rfl, hBg, hT1, hgl⟩ := hcut
    have hG1 := HBX.out.lt
    have hBG := HBX.out.kept hT1 id
    have g0 : wc.cell? ⟨g, 0, none⟩ = some (.int .u64 n) := hBg.cell 0
    have g1 : wc.cell? ⟨g, 1, none⟩ = some (.string B) := hBg.cell 1
    have hgG : g ≠ G := by omega
    have HBg := Lib.hid hBg
    have HBG := Lib.hid hBG
    clear hBg hBG hgl hG1
    go_wp2_with fail
    refine (HS.out wc (HT.out.kept (hTa.trans hT1) id)).mono ?_
    rintro e w3 ⟨rfl, hT3⟩
    have hBg3 := HBg.out.kept hT3 id
    have hBG3 := HBG.out.kept hT3 id
    have r0 : w3.cell? ⟨g, 0, none⟩ = some (.int .u64 n) := hBg3.cell 0
    have r1 : w3.cell? ⟨g, 1, none⟩ = some (.string B) := hBg3.cell 1
    have x0 : w3.cell? ⟨G, 0, none⟩ = some (.int .u64 0) := hBG3.cell 0
    have x1 : w3.cell? ⟨G, 1, none⟩ = some (.string ⟨#[]⟩) := hBG3.cell 1
    have z0 := hBG3.free 0
    have z1 := hBG3.free 1
    have hT03 := (hTa.trans hT1).trans hT3
    have HB3 := Lib.hid hBG3
    have hGl : Hid (w.heap.size ≤ G) := Lib.hid (by rw [HGG.out]; exact Nat.le_refl _)
    clear hBg3 hBG3 g0 g1
    cases yes with
    | true =>
      obtain rfl : R = S := of_decide_eq_true hR
      clear hR
      go_wp2_with fail
      have hb := (HB3.out.set 0 (.int .u64 n)).set 1 (.string B)
      have hTz := ((Touch.refl (fun k => k = G) w3).setCell (p := ⟨G, 0, none⟩) (Or.inl rfl) (.int .u64 n)).setCell (p := ⟨G, 1, none⟩) (Or.inl rfl) (.string B)
      exact bodyPost_ret (results_cell_slot rfl _ _ G _ _ _ _ rfl hb Try.underlying136 rfl (by kernel_rfl)) rfl ⟨rfl, hT03.trans' hTz (fun i hi => .inr (by rw [hi]; exact hGl.out))⟩
    | false =>
      have hne := str_ne (of_decide_eq_false hR)
      clear hR
      go_wp2_with fail
      have hb := (HB3.out.set 0 (.int .u64 0)).set 1 (.string ⟨#[]⟩)
      have hTz := ((Touch.refl (fun k => k = G) w3).setCell (p := ⟨G, 0, none⟩) (Or.inl rfl) (.int .u64 0)).setCell (p := ⟨G, 1, none⟩) (Or.inl rfl) (.string ⟨#[]⟩)
      exact bodyPost_ret (results_cell_slot rfl _ _ G _ _ _ _ rfl hb Try.underlying136 rfl (by kernel_rfl)) rfl ⟨rfl, hT03.trans' hTz (fun i hi => .inr (by rw [hi]; exact hGl.out))⟩

def entV (o : Option (Nat × List UInt8)) : Value := match o with
  | some e => .tuple #[.agg #[.int .u64 (e.1 : Nat), .string ⟨e.2.toArray⟩], .bool true]
  | none => .tuple #[.agg #[.int .u64 0, .string ⟨#[]⟩], .bool false]

theorem getN_lt8 (l : List UInt8) (h : l.length ≤ 8) : getN l < 18446744073709551616 := by
  have := getN_lt l
  have h2 : 256 ^ l.length ≤ 256 ^ 8 := Nat.pow_le_pow_right (by decide) h
  have h3 : (256 : Nat) ^ 8 = 18446744073709551616 := by decide
  omega

theorem entryOf_calls (S : ByteArray) (hS : S.size = 64) (tb : Nat) (w : World) (ht : TabAt w tb) :
    Calls Try.prog 102 #[.string S, .pointer (some ⟨tb, 0, none⟩)] w fun e w' => e = .returned (entV (entOf S.data.toList)) ∧ Touch (fun _ => False) w w' := by
  have hl : S.data.toList.length = 64 := by rw [Array.length_toList]; exact hS
  have h8 : (S.data.toList.getD 8 0) = S[8]'(by omega) := by
    rw [List.getD_eq_getElem?_getD, List.getElem?_eq_getElem (by omega)]
    rfl
  by_cases hk : 23 < (S[8]'(by omega)).toNat
  · have he : entOf S.data.toList = none := by unfold entOf; rw [if_neg (by rw [h8]; omega)]
    rw [he]
    exact ent_long S hS _ w hk
  · obtain ⟨k, hkk⟩ : ∃ k, (S[8]'(by omega)).toNat = k := ⟨_, rfl⟩
    obtain ⟨A, hA⟩ : ∃ A, S.extract 0 8 = A := ⟨_, rfl⟩
    obtain ⟨B, hB⟩ : ∃ B, S.extract 9 (9 + k) = B := ⟨_, rfl⟩
    have hAl : A.data.toList = S.data.toList.take 8 := by rw [← hA, ByteArray.data_extract, Array.toList_extract]; simp [List.extract]
    have hBl : B.data.toList = (S.data.toList.drop 9).take k := by rw [← hB, ByteArray.data_extract, Array.toList_extract]; simp [List.extract]
    have hAs : A.size ≤ 8 := by show A.data.size ≤ 8; rw [← Array.length_toList, hAl, List.length_take]; omega
    have hBs : B.size ≤ 23 := by show B.data.size ≤ 23; rw [← Array.length_toList, hBl, List.length_take]; omega
    have hh : headE S.data.toList = (getN A.data.toList, B.data.toList) := by unfold headE; rw [h8, hkk, hAl, hBl]
    have hn := getN_lt8 A.data.toList (by rw [Array.length_toList]; exact hAs)
    have hB2 : (⟨B.data.toList.toArray⟩ : ByteArray) = B := by apply ba_ext; rfl
    have hget : ∀ W, Calls Try.prog 103 #[.string A] W fun e w' => e = .returned (.int .u64 (getN A.data.toList : Nat)) ∧ W = w' := fun W => get_small A W hAs
    by_cases h0 : getN A.data.toList = 0
    · have he : entOf S.data.toList = none := by unfold entOf; rw [if_neg (by rw [hh]; intro h; exact h.2.1 h0)]
      rw [he]
      have hR : decide ((⟨#[]⟩ : ByteArray) = S) = false := decide_eq_false (fun h => by rw [← h] at hS; cases hS)
      refine (ent_short S A B hS k (9 + k) (getN A.data.toList) rfl hkk (by omega) hA hB hn tb w ht ⟨#[]⟩ hget (fun W hW => by rw [h0]; exact slot_zero B _ W) false hR).mono ?_
      rintro e w' ⟨he, hT⟩
      exact ⟨he, hT⟩
    · by_cases hq : slotB (getN A.data.toList) B.data.toList = S.data.toList
      · have he : entOf S.data.toList = some (getN A.data.toList, B.data.toList) := by unfold entOf; rw [hh, if_pos ⟨by rw [h8]; omega, h0, hq⟩]
        rw [he]
        have hR : decide (slotS (getN A.data.toList) B = S) = true := decide_eq_true (ba_ext hq)
        refine (ent_short S A B hS k (9 + k) (getN A.data.toList) rfl hkk (by omega) hA hB hn tb w ht (slotS (getN A.data.toList) B) hget (fun W hW => slot_calls _ B tb W h0 hn hBs hW) true hR).mono ?_
        rintro e w' ⟨he, hT⟩
        refine ⟨?_, hT⟩
        unfold entV
        simp only
        rw [hB2]
        exact he
      · have he : entOf S.data.toList = none := by unfold entOf; rw [if_neg (by rw [hh]; intro h; exact hq h.2.2)]
        rw [he]
        have hR : decide (slotS (getN A.data.toList) B = S) = false := decide_eq_false (fun h => hq (by rw [← h]; rfl))
        refine (ent_short S A B hS k (9 + k) (getN A.data.toList) rfl hkk (by omega) hA hB hn tb w ht (slotS (getN A.data.toList) B) hget (fun W hW => slot_calls _ B tb W h0 hn hBs hW) false hR).mono ?_
        rintro e w' ⟨he, hT⟩
        exact ⟨he, hT⟩

end Go.Proofs.Ytmcakilpdecacaa

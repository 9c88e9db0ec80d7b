
/- A decoder: All; two short streams; speaks. -/
import Derived.Test.YtoaeffinjpkahaaDoorInfN
namespace Go.Proofs.YtoaeffinjpkahaaDoor
set_option linter.unusedSimpArgs false
set_option linter.unusedVariables false
open Go Go.RowKit
set_option maxRecDepth 100000

def str1 : ByteArray := ⟨#[3, 0, 109, 111, 114, 101]⟩
def str2 : ByteArray := ⟨#[75, 4, 0]⟩
def sA : Nat → PS
  | 0 => { ps0 with came := 6, bits := bitsL str1.data.toList }
  | 1 => { ps0 with came := 6, bits := (bitsL str1.data.toList).drop 3, last := true, fixed := true, cds := some (fixW, fixD), st := 7 }
  | _ => { ps0 with came := 6, bits := ((bitsL str1.data.toList).drop 3).drop 7, last := true, fixed := true, cds := some (fixW, fixD), st := 11 }
def sB : Nat → PS
  | 0 => { ps0 with came := 3, bits := bitsL str2.data.toList }
  | 1 => { ps0 with came := 3, bits := (bitsL str2.data.toList).drop 3, last := true, fixed := true, cds := some (fixW, fixD), st := 7 }
  | 2 => { ps0 with came := 3, bits := ((bitsL str2.data.toList).drop 3).drop 8, last := true, fixed := true, cds := some (fixW, fixD), st := 7, all := [97], out := [97] }
  | _ => { ps0 with came := 3, bits := (((bitsL str2.data.toList).drop 3).drop 8).drop 7, last := true, fixed := true, cds := some (fixW, fixD), st := 11, all := [97], out := [97] }
theorem foundA : FoundAt fixW ((bitsL str1.data.toList).drop 3) 256 := by unfold FoundAt; decide +kernel
theorem foundB : FoundAt fixW ((bitsL str2.data.toList).drop 3) 97 := by unfold FoundAt; decide +kernel
theorem foundC : FoundAt fixW (((bitsL str2.data.toList).drop 3).drop 8) 256 := by unfold FoundAt; decide +kernel
instance (ls l : List Nat) (s : Nat) : Decidable (FoundAt ls l s) := by unfold FoundAt; exact inferInstance
theorem only (l : List Nat) (c : Nat) (h : ∀ t, t < 288 → FoundAt fixW l t → t = c) : ∀ t, FoundAt fixW l t → t = c := fun t ht => h t (by have := ht.1; exact this) ht
theorem onlyA : ∀ t, FoundAt fixW ((bitsL str1.data.toList).drop 3) t → t = 256 := only _ _ (by decide +kernel)
theorem onlyB : ∀ t, FoundAt fixW ((bitsL str2.data.toList).drop 3) t → t = 97 := only _ _ (by decide +kernel)
theorem onlyC : ∀ t, FoundAt fixW (((bitsL str2.data.toList).drop 3).drop 8) t → t = 256 := only _ _ (by decide +kernel)
theorem lit97 : fixW.getD (97 : UInt8).toNat 0 = 8 := by decide +kernel

theorem runA {U : Nat → Prop} {w0 w : World} {b : Nat} (h : DecR U w0 w b (sA 0)) : Calls Tryd.prog 36 #[.pointer (some ⟨b, 0, none⟩)] w fun e w' => e = .returned (.int .i64 0) ∧ DecR U w0 w' b (sA 2) := by
  refine run_steps 2 sA h rfl (fun i hi => ?_) (fun i hi W hW => ?_)
  · rcases (by omega : i = 0 ∨ i = 1) with rfl | rfl
    · exact (by decide : (0 : Nat) < 11)
    · exact (by decide : (7 : Nat) < 11)
  · rcases (by omega : i = 0 ∨ i = 1) with rfl | rfl
    · exact part_0 hW.cell0 (iblock_fixed hW (x0 := 1) (l := (bitsL str1.data.toList).drop 3) (by decide +kernel) rfl)
    · exact part_7 hW.cell0 (isym_end hW rfl foundA onlyA 7 (by decide +kernel))
theorem runB {U : Nat → Prop} {w0 w : World} {b : Nat} (h : DecR U w0 w b (sB 0)) : Calls Tryd.prog 36 #[.pointer (some ⟨b, 0, none⟩)] w fun e w' => e = .returned (.int .i64 0) ∧ DecR U w0 w' b (sB 3) := by
  refine run_steps 3 sB h rfl (fun i hi => ?_) (fun i hi W hW => ?_)
  · rcases (by omega : i = 0 ∨ i = 1 ∨ i = 2) with rfl | rfl | rfl
    · exact (by decide : (0 : Nat) < 11)
    · exact (by decide : (7 : Nat) < 11)
    · exact (by decide : (7 : Nat) < 11)
  · rcases (by omega : i = 0 ∨ i = 1 ∨ i = 2) with rfl | rfl | rfl
    · exact part_0 hW.cell0 (iblock_fixed hW (x0 := 1) (l := (bitsL str2.data.toList).drop 3) (by decide +kernel) rfl)
    · exact part_7 hW.cell0 (isym_lit hW rfl 97 8 lit97 foundB onlyB ⟨by decide, by decide⟩)
    · exact part_7 hW.cell0 (isym_end hW rfl foundC onlyC 7 (by decide +kernel))

theorem iall_end (t : ByteArray) (s2 : PS) (w : World) (hz : 8 * t.size < 1000000000) (hz3 : s2.told + s2.out.length < 1000000000)
    (hrun : ∀ W b, DecR (fun _ => False) w W b { ps0 with came := t.size, bits := bitsL t.data.toList } → Calls Tryd.prog 36 #[.pointer (some ⟨b, 0, none⟩)] W fun e w' => e = .returned (.int .i64 0) ∧ DecR (fun _ => False) w w' b s2) :
    Calls Tryd.prog 30 #[.string t] w fun e w' => e = .returned (.tuple #[.string ⟨s2.out.toArray⟩, .string ⟨(bytesL (s2.bits.drop (s2.bits.length % 8))).toArray⟩, .int .i64 0]) ∧ Touch (fun _ => False) w w' := by
  have HR := Lib.hid hrun
  have HZ := Lib.hid (⟨hz, hz3⟩ : _ ∧ _)
  obtain ⟨S, hS⟩ : ∃ S : ByteArray, S = ⟨s2.out.toArray⟩ := ⟨_, rfl⟩
  obtain ⟨R, hR⟩ : ∃ R : ByteArray, R = ⟨(bytesL (s2.bits.drop (s2.bits.length % 8))).toArray⟩ := ⟨_, rfl⟩
  rw [← hS, ← hR]
  have HS := Lib.hid (⟨hS, hR⟩ : _ ∧ _)
  clear hrun hz hz3 hS hR
  go_enter Tryd.func30, Tryd.ntmps30
  go_wp2_with fail
  refine (inew_calls w).mono ?_
  rintro e w1 ⟨b, rfl, hb, hD1⟩
  have hfeed := ifeed_end hD1 (by decide) t s2 (by show 0 + 8 * t.size < _; have := HZ.out.1; omega) (by show 0 + t.size < _; have := HZ.out.1; omega) HZ.out.2 (fun W hW => HR.out W b (by
    have h1 : ({ ps0 with came := ps0.came + t.size, bits := ps0.bits ++ bitsL t.data.toList } : PS) = { ps0 with came := t.size, bits := bitsL t.data.toList } := by simp [ps0]
    rw [← h1]; exact hW))
  rw [← HS.out.1] at hfeed
  have HF := Lib.hid hfeed
  clear hfeed hD1 hb
  go_wp2_with fail
  refine HF.out.mono ?_
  rintro e w2 ⟨rfl, hE, hT⟩
  have hrest := irest_end hE
  rw [← HS.out.2] at hrest
  have HRE := Lib.hid hrest
  have HE := Lib.hid (⟨hE, hT⟩ : _ ∧ _)
  clear hE hT hrest
  go_wp2_with fail
  refine (idone_end HE.out.1.1).mono ?_
  rintro e w3 ⟨rfl, rfl⟩
  go_wp2_with fail
  refine HRE.out.mono ?_
  rintro e w3 ⟨rfl, rfl⟩
  go_wp2_with fail
  go_ret3
  exact ⟨rfl, HE.out.2⟩
theorem iall_empty (w : World) : Calls Tryd.prog 30 #[.string ⟨#[]⟩] w fun e w' => e = .returned (.tuple #[.string ⟨#[]⟩, .string ⟨#[]⟩, .int .i64 2]) ∧ Touch (fun _ => False) w w' := by
  go_enter Tryd.func30, Tryd.ntmps30
  go_wp2_with fail
  refine (inew_calls w).mono ?_
  rintro e w1 ⟨b, rfl, hb, hD1⟩
  have HF := Lib.hid (ifeed_more hD1 rfl rfl ⟨#[]⟩ (by decide) (by decide))
  clear hD1 hb
  go_wp2_with fail
  refine HF.out.mono ?_
  rintro e w2 ⟨rfl, hD2⟩
  have HD := Lib.hid hD2
  clear hD2
  go_wp2_with fail
  refine (idone_run HD.out.cell0 (by decide)).mono ?_
  rintro e w3 ⟨rfl, rfl⟩
  go_wp2_with fail
  go_ret3
  obtain ⟨_, _, _, _, _, _, _, _, hT⟩ := HD.out
  exact ⟨rfl, hT⟩
theorem speaks7_calls (w : World) : Calls Tryd.prog 7 #[] w fun e w' => e = .returned (.bool true) ∧ Touch (fun _ => False) w w' := by
  have h1 := fun W => iall_end str1 (sA 2) W (by decide) (by decide) (fun W' b h => runA h)
  have h2 := fun W => iall_end str2 (sB 3) W (by decide) (by decide) (fun W' b h => runB h)
  have e1 : (⟨(sA 2).out.toArray⟩ : ByteArray) = ⟨#[]⟩ := rfl
  have e2 : (⟨(bytesL ((sA 2).bits.drop ((sA 2).bits.length % 8))).toArray⟩ : ByteArray) = ⟨#[109, 111, 114, 101]⟩ := by decide +kernel
  have e3 : (⟨(sB 3).out.toArray⟩ : ByteArray) = ⟨#[97]⟩ := rfl
  rw [e1, e2] at h1
  rw [e3] at h2
  have H1 := Lib.hid h1
  have H2 := Lib.hid h2
  clear h1 h2 e1 e2 e3
  go_enter Tryd.func7, Tryd.ntmps7
  go_wp2_with fail
  refine (H1.out _).mono ?_
  rintro e w1 ⟨rfl, hT1⟩
  have HT1 := Lib.hid hT1
  clear hT1
  go_wp2_with fail
  refine (H2.out _).mono ?_
  rintro e w2 ⟨rfl, hT2⟩
  have HT2 := Lib.hid (HT1.out.trans hT2)
  clear hT2
  go_wp2_with fail
  go_ret
  exact ⟨rfl, HT2.out⟩
end Go.Proofs.YtoaeffinjpkahaaDoor

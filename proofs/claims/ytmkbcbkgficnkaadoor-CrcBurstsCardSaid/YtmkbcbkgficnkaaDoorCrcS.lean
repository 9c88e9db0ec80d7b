/- Contract of the statements' first lines of layer 2 over the translated program. -/
import Derived.Test.YtmkbcbkgficnkaaDoorCrcC
namespace Go.Proofs.YtmkbcbkgficnkaaDoor
open Go Go.RowKit

theorem PowAt.kept {w w' : World} (h : PowAt w) (ht : Touch (fun _ => False) w w') : PowAt w' := fun k hk => ht.cell (h k hk) id
theorem TabAt.drewN {w : World} {b : Nat} (n : Nat) (h : TabAt w b) : TabAt (w.drewN n) b := h
theorem PowAt.drewN {w : World} (n : Nat) (h : PowAt w) : PowAt (w.drewN n) := h

set_option maxRecDepth 100000 in
theorem sum9 : moreN 0 (⟨#[49, 50, 51, 52, 53, 54, 55, 56, 57]⟩ : ByteArray).data.toList = 3421780262 := by decide +kernel
theorem sum9' : flip (Tn (8 * 5) (flip (moreN 0 (⟨#[49, 50, 51, 52]⟩ : ByteArray).data.toList))) ^^^ flip (Tn (8 * 5) (flip 0)) ^^^ moreN 0 (⟨#[53, 54, 55, 56, 57]⟩ : ByteArray).data.toList = 3421780262 := by decide +kernel

set_option maxHeartbeats 400000 in
theorem speaks_calls (w : World) (hp : PowAt w) : Calls Tryd.prog 6 #[] w fun e w' => e = .returned (.bool true) ∧ Touch (fun _ => False) w w' := by
  have h9 := fun (b : Nat) (W : World) (ht : TabAt W b) => sum_calls b ⟨#[49, 50, 51, 52, 53, 54, 55, 56, 57]⟩ W ht (by decide)
  rw [sum9] at h9
  have h4 := fun (b : Nat) (W : World) (ht : TabAt W b) => sum_calls b ⟨#[49, 50, 51, 52]⟩ W ht (by decide)
  have h5 := fun (b : Nat) (W : World) (ht : TabAt W b) => sum_calls b ⟨#[53, 54, 55, 56, 57]⟩ W ht (by decide)
  have l4 : moreN 0 (⟨#[49, 50, 51, 52]⟩ : ByteArray).data.toList < 4294967296 := moreN_lt _ _ (by decide)
  have l5 : moreN 0 (⟨#[53, 54, 55, 56, 57]⟩ : ByteArray).data.toList < 4294967296 := moreN_lt _ _ (by decide)
  have hj := fun (W : World) (hp : PowAt W) => join_calls _ _ 5 W hp l4 l5 (by decide)
  rw [sum9'] at hj
  generalize moreN 0 (⟨#[49, 50, 51, 52]⟩ : ByteArray).data.toList = u at h4 hj l4
  generalize moreN 0 (⟨#[53, 54, 55, 56, 57]⟩ : ByteArray).data.toList = v at h5 hj l5
  have H9 := Lib.hid h9
  have H4 := Lib.hid h4
  have H5 := Lib.hid h5
  have HJ := Lib.hid hj
  clear h9 h4 h5 hj
  go_enter Tryd.func6, Tryd.ntmps6
  go_wp2_with fail
  refine (make_calls _).mono ?_
  rintro e w1 ⟨rfl, ht1, hT1⟩
  have hp1 := hp.kept hT1
  generalize w.heap.size = B at ht1 ⊢
  go_wp2_with fail
  refine (H9.out B _ ht1).mono ?_
  rintro e w2 ⟨rfl, n2, rfl⟩
  go_wp2_with fail
  refine (H4.out B _ (ht1.drewN n2)).mono ?_
  rintro e w3 ⟨rfl, n3, rfl⟩
  go_wp2_with fail
  refine (H5.out B _ (by exact ht1.drewN _)).mono ?_
  rintro e w4 ⟨rfl, n4, rfl⟩
  go_wp2_with fail
  refine (HJ.out _ (by exact hp1.drewN _)).mono ?_
  rintro e w5 ⟨rfl, rfl⟩
  go_wp2_with fail
  go_ret
  exact ⟨rfl, hT1.drewN _⟩
end Go.Proofs.YtmkbcbkgficnkaaDoor

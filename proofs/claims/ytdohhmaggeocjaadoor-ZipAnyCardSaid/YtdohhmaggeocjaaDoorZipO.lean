/- Layer 13's statements: what every one of them asks first. -/
import Derived.Test.YtdohhmaggeocjaaDoorZipN
namespace Go.Proofs.YtdohhmaggeocjaaDoor
open Go Go.RowKit
set_option maxRecDepth 100000

def t0 : Tim := ⟨1980, 1, 1, 0, 0, 0⟩
def h0 : Hd := ⟨⟨#[97]⟩, t0, 0, 0, 0, 0, true⟩
theorem h0_good : goodH h0 = true := by decide +kernel
theorem h0_size : (localB h0).size = 31 := by decide +kernel
theorem h0_sign : (((localB h0).extract 0 4).toList == [80, 75, 3, 4]) = true := by decide +kernel
theorem h0_n : (rdL (localB h0)).1.n = ⟨#[97]⟩ := by decide +kernel
theorem h0_t : (rdL (localB h0)).1.t = t0 := by kernel_rfl
theorem h0_r : (rdL (localB h0)).2 = 31 := by decide +kernel
theorem h0_read : rdL (localB h0) = (h0, 31) := by kernel_rfl
theorem h0_descr : descrB h0 = ByteArray.empty := by decide +kernel
theorem h0_end : (endB 1 2 3).size = 22 := by decide +kernel
theorem h0_ok : HdOk h0 := ⟨by decide, by decide, by decide, by decide, by decide⟩

theorem first13_calls (w : World) : Calls Tryd.prog 48 #[] w fun e w' => e = .returned t0.v ∧ Touch (fun _ => False) w w' := by
  go_enter Tryd.func48, Tryd.ntmps48
  go_wp2
  exact bodyPost_ret (results_cell_row rfl _ _ w.heap.size _ _ _ _ rfl (heap_alloc_new w _) Tryd.underlying46 rfl Tryd.sizeT) rfl ⟨rfl, (Touch.refl _ _).alloc _⟩

set_option maxHeartbeats 1000000 in
theorem speaks13_calls (w : World) (hT : Tabs w) : Calls Tryd.prog 24 #[] w fun e w' => e = .returned (.bool true) ∧ Touch (fun _ => False) w w' := by
  have HF := Lib.hid (fun W => first13_calls W)
  have HL := Lib.hid (fun W (h : Tabs W) => local_calls h0 h0_ok W h)
  have HR := Lib.hid (fun W (h : Tabs W) => zreadL_calls (localB h0) (by rw [h0_size]; omega) W h)
  have HD := Lib.hid (fun W (h : Tabs W) => descr_calls h0 h0_ok W h)
  have HE := Lib.hid (fun W => end_calls 1 2 3 W)
  rw [h0_read] at HR
  rw [h0_descr] at HD
  have hz : ((localB h0).size : Int) = 31 := by rw [h0_size]; rfl
  have hs := h0_sign
  have he : ((endB 1 2 3).size : Int) = 22 := by rw [h0_end]; rfl
  have hem : ByteArray.empty.toList.isEmpty = true := strNil rfl
  generalize localB h0 = S at *
  generalize endB 1 2 3 = E at *
  unfold Hd.v Hd.cs h0 t0 at *
  unfold Tim.v at HF
  simp only at HF HL HR HD
  go_enter Tryd.func24, Tryd.ntmps24
  go_wp2_with (first
    | (go_at_call 48; refine (HF.out _).mono ?_; rintro e w1 ⟨rfl, ht1⟩)
    | (go_at_call 29; refine (HL.out _ (hT.kept (ht1.alloc _))).mono ?_; rintro e w2 ⟨rfl, ht2⟩; have hb2 := ht2.held (heap_alloc_new w1 _) id; have HB2 := Lib.hid hb2; have HT2 := Lib.hid ((ht1.alloc _).trans ht2); clear hb2)
    | (go_at_call 31; refine (HR.out _ (hT.kept HT2.out)).mono ?_; rintro e w3 ⟨rfl, ht3⟩; have hb3 := ht3.held HB2.out id; obtain ⟨⟨c0, c1, c2, c3, c4, c5⟩, c6, c7, c8, c9, c10, c11⟩ := row12 hb3; have hl3 := row_lt hb3; have HT3 := Lib.hid (HT2.out.trans ht3); clear hb3)
    | (go_at_call 36; refine (HD.out _ (hT.kept (HT3.out.alloc _))).mono ?_; rintro e w4 ⟨rfl, ht4⟩; have HT4 := Lib.hid ((HT3.out.alloc _).trans ht4))
    | (go_at_call 25; refine (HE.out _).mono ?_; rintro e w5 ⟨rfl, ht5⟩; have HT5 := Lib.hid (HT4.out.trans ht5)))
  go_ret
  exact ⟨rfl, HT5.out⟩
end Go.Proofs.YtdohhmaggeocjaaDoor

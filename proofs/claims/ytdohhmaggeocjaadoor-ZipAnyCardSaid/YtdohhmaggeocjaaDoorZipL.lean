/- Contracts of package zip: Read and ReadCentral; what the statements of layer 13 ask first. -/
import Derived.Test.YtdohhmaggeocjaaDoorZipK
import Derived.Laws.EntriesVeiled
namespace Go.Proofs.YtdohhmaggeocjaaDoor
open Go Go.RowKit
set_option maxRecDepth 100000

def rdL (s : ByteArray) : Hd × Int := rdM ⟨#[80, 75, 3, 4]⟩ 30 26 tL localB s
theorem readL_all (s : ByteArray) (hs : s.size ≤ 500000) (w : World) (hT : Tabs w) : Calls Tryd.prog 62 #[.agg #[.string ⟨#[80, 75, 3, 4]⟩, .int .i64 30, .int .i64 26, .func (.func 61) #[] #[], .func (.func 29) #[] #[]], .string s] w fun e w' =>
    e = .returned (.tuple #[(rdL s).1.v, .int .i64 (rdL s).2]) ∧ Touch (fun _ => False) w w' := by
  unfold rdL rdM
  by_cases hm : s.extract 0 (min s.size 4) = ByteArray.extract ⟨#[80, 75, 3, 4]⟩ 0 (min s.size 4)
  · rw [if_pos hm]
    by_cases hf : s.size < 30
    · rw [if_pos hf]
      exact readL_few s _ rfl hs w hm hf
    · rw [if_neg hf]
      by_cases hz : s.size < 30 + gN (s.extract 26 (26 + 2)) + gN (s.extract (26 + 2) (26 + 4))
      · rw [if_pos hz]
        exact readL_short s _ _ _ rfl hs w hm hf rfl rfl hz
      · rw [if_neg hz]
        have H := fun ev hev => readL_full s _ _ _ rfl hs w hT hm hf rfl rfl hz _ rfl ev _ _ hev rfl rfl
        split
        · rename_i he
          exact H true (decide_eq_true he)
        · rename_i he
          exact H false (decide_eq_false he)
  · rw [if_neg hm]
    exact readL_sign s _ rfl hs w hm

set_option maxHeartbeats 1000000 in
theorem zreadL_calls (s : ByteArray) (hs : s.size ≤ 500000) (w : World) (hT : Tabs w) : Calls Tryd.prog 31 #[.string s] w fun e w' =>
    e = .returned (.tuple #[(rdL s).1.v, .int .i64 (rdL s).2]) ∧ Touch (fun _ => False) w w' := by
  have HR := Lib.hid (fun W (h : Tabs W) => readL_all s hs W h)
  generalize (rdL s).2 = N at *
  generalize (rdL s).1 = H at *
  obtain ⟨hn, ⟨y, mo, dd, hh, mi, ss⟩, hp, hz, hs', ha, hk⟩ := H
  unfold Hd.v Hd.cs at *
  simp only at *
  have h12 : ((w.alloc (.cells #[.string ⟨#[]⟩, .int .i64 0, .int .i64 0, .int .i64 0, .int .i64 0, .int .i64 0, .int .i64 0, .int .u64 0, .int .u64 0, .int .u32 0, .int .u64 0, .bool false] 48)).alloc (.cells #[.string ⟨#[80, 75, 3, 4]⟩, .int .i64 30, .int .i64 26, .func (.func 61) #[] #[], .func (.func 29) #[] #[]] 87)).heap[w.heap.size]? = some (.cells #[.string ⟨#[]⟩, .int .i64 0, .int .i64 0, .int .i64 0, .int .i64 0, .int .i64 0, .int .i64 0, .int .u64 0, .int .u64 0, .int .u32 0, .int .u64 0, .bool false] 48) := by
    rw [Below.heap_alloc _ _ _ (by rw [alloc_size]; omega)]; exact heap_alloc_new w _
  have H12 := Lib.hid h12
  clear h12
  go_enter Tryd.func31, Tryd.ntmps31
  go_wp2_with fail
  refine (HR.out _ (hT.kept (((Touch.refl _ _).alloc _).alloc _))).mono ?_
  rintro e w1 ⟨rfl, ht1⟩; have hb1 := ht1.held H12.out id; obtain ⟨⟨c0, c1, c2, c3, c4, c5⟩, c6, c7, c8, c9, c10, c11⟩ := row12 hb1; have hf1 := box_free hb1; have hl1 := row_lt hb1; have HB1 := Lib.hid hb1; have HT1 := Lib.hid ((((Touch.refl (fun _ => False) w).alloc _).alloc _).trans ht1); clear hb1 ht1
  go_wp2
  refine bodyPost_ret (results_cell_slot rfl _ _ w.heap.size _ _ _ _ rfl (box_set12 HB1.out) Tryd.underlying48 rfl Tryd.sizeH) rfl ⟨rfl, ?_⟩
  exact HT1.out.set12 (.inr (Nat.le_refl _)) _ _ _ _ _ _ _ _ _ _ _ _

def rdC (s : ByteArray) : Hd × Int := rdM ⟨#[80, 75, 1, 2]⟩ 46 28 tC centralB s
theorem readC_all (s : ByteArray) (hs : s.size ≤ 500000) (w : World) (hT : Tabs w) : Calls Tryd.prog 62 #[.agg #[.string ⟨#[80, 75, 1, 2]⟩, .int .i64 46, .int .i64 28, .func (.func 63) #[] #[], .func (.func 30) #[] #[]], .string s] w fun e w' =>
    e = .returned (.tuple #[(rdC s).1.v, .int .i64 (rdC s).2]) ∧ Touch (fun _ => False) w w' := by
  unfold rdC rdM
  by_cases hm : s.extract 0 (min s.size 4) = ByteArray.extract ⟨#[80, 75, 1, 2]⟩ 0 (min s.size 4)
  · rw [if_pos hm]
    by_cases hf : s.size < 46
    · rw [if_pos hf]
      exact readC_few s _ rfl hs w hm hf
    · rw [if_neg hf]
      by_cases hz : s.size < 46 + gN (s.extract 28 (28 + 2)) + gN (s.extract (28 + 2) (28 + 4))
      · rw [if_pos hz]
        exact readC_short s _ _ _ rfl hs w hm hf rfl rfl hz
      · rw [if_neg hz]
        have H := fun ev hev => readC_full s _ _ _ rfl hs w hT hm hf rfl rfl hz _ rfl ev _ _ hev rfl rfl
        split
        · rename_i he
          exact H true (decide_eq_true he)
        · rename_i he
          exact H false (decide_eq_false he)
  · rw [if_neg hm]
    exact readC_sign s _ rfl hs w hm

set_option maxHeartbeats 1000000 in
theorem zreadC_calls (s : ByteArray) (hs : s.size ≤ 500000) (w : World) (hT : Tabs w) : Calls Tryd.prog 33 #[.string s] w fun e w' =>
    e = .returned (.tuple #[(rdC s).1.v, .int .i64 (rdC s).2]) ∧ Touch (fun _ => False) w w' := by
  have HR := Lib.hid (fun W (h : Tabs W) => readC_all s hs W h)
  generalize (rdC s).2 = N at *
  generalize (rdC s).1 = H at *
  obtain ⟨hn, ⟨y, mo, dd, hh, mi, ss⟩, hp, hz, hs', ha, hk⟩ := H
  unfold Hd.v Hd.cs at *
  simp only at *
  have h12 : ((w.alloc (.cells #[.string ⟨#[]⟩, .int .i64 0, .int .i64 0, .int .i64 0, .int .i64 0, .int .i64 0, .int .i64 0, .int .u64 0, .int .u64 0, .int .u32 0, .int .u64 0, .bool false] 48)).alloc (.cells #[.string ⟨#[80, 75, 1, 2]⟩, .int .i64 46, .int .i64 28, .func (.func 63) #[] #[], .func (.func 30) #[] #[]] 87)).heap[w.heap.size]? = some (.cells #[.string ⟨#[]⟩, .int .i64 0, .int .i64 0, .int .i64 0, .int .i64 0, .int .i64 0, .int .i64 0, .int .u64 0, .int .u64 0, .int .u32 0, .int .u64 0, .bool false] 48) := by
    rw [Below.heap_alloc _ _ _ (by rw [alloc_size]; omega)]; exact heap_alloc_new w _
  have H12 := Lib.hid h12
  clear h12
  go_enter Tryd.func33, Tryd.ntmps33
  go_wp2_with fail
  refine (HR.out _ (hT.kept (((Touch.refl _ _).alloc _).alloc _))).mono ?_
  rintro e w1 ⟨rfl, ht1⟩; have hb1 := ht1.held H12.out id; obtain ⟨⟨c0, c1, c2, c3, c4, c5⟩, c6, c7, c8, c9, c10, c11⟩ := row12 hb1; have hf1 := box_free hb1; have hl1 := row_lt hb1; have HB1 := Lib.hid hb1; have HT1 := Lib.hid ((((Touch.refl (fun _ => False) w).alloc _).alloc _).trans ht1); clear hb1 ht1
  go_wp2
  refine bodyPost_ret (results_cell_slot rfl _ _ w.heap.size _ _ _ _ rfl (box_set12 HB1.out) Tryd.underlying48 rfl Tryd.sizeH) rfl ⟨rfl, ?_⟩
  exact HT1.out.set12 (.inr (Nat.le_refl _)) _ _ _ _ _ _ _ _ _ _ _ _
end Go.Proofs.YtdohhmaggeocjaaDoor

/- The walk of the statement CrcJoins over the translated program. -/
import Derived.Test.YtmkbcbkgficnkaaDoorCrcS
import Derived.Deep.RegionWith
import Derived.Laws.MakeOwn
namespace Go.Proofs.YtmkbcbkgficnkaaDoor
open Go Go.RowKit

theorem Tryd.info5 : (Tryd.prog.info? 5).map (fun i => (i.zero, i.size, i.bytes)) = some (some (.int .u8 0), 1, 1) := by kernel_rfl

/-- A slice of noughts, and its string. -/
theorem noughts_made (n : Nat) (hn : n ≤ 1000) : ∃ (Z : Array Value) (zs : ByteArray), zs.data.toList = List.replicate n 0 ∧
    (∀ W : World, (Instr.makeSlice 32 (.int .i64 n) (.int .i64 n)).run Tryd.prog W = .ok (.slice (some ⟨W.heap.size, 0, none⟩) n n) (W.alloc (.cells Z 5))) ∧
    (∀ W : World, (convert 32 9 (.slice (some ⟨W.heap.size, 0, none⟩) n n)).run Tryd.prog (W.alloc (.cells Z 5)) = .ok (.string zs) (W.alloc (.cells Z 5))) ∧
    (∀ W : World, (convert 32 9 (.slice (some ⟨W.heap.size, 0, none⟩) n n)).run Tryd.prog (W.alloc (.cells Z 5)).drew = .ok (.string zs) (W.alloc (.cells Z 5)).drew) := by
  obtain ⟨i0, hi, hz0, hz1, hz2⟩ := info_parts Tryd.info5
  have hZ : madeCells (Value.int .u8 0).cells (n * 1) = (byteVs (List.replicate n 0)).toArray := by
    simp only [madeCells, Value.cells, byteVs, List.map_replicate]
    apply Array.ext
    · simp
    · intro i h1 h2
      simp [Nat.mod_one]
  refine ⟨(byteVs (List.replicate n 0)).toArray, ⟨(List.replicate n (0 : UInt8)).toArray⟩, by simp, fun W => ?_, fun W => ?_, fun W => ?_⟩
  · have h := run_makeSlice (P := Tryd.prog) W 32 5 i0 _ Tryd.underlying32 hi hz0 .i64 .i64 (n : Int) (n : Int) (by omega) (by omega) (by rw [hz1]; omega) (by rw [hz2]; omega) (by omega)
    rw [Int.toNat_natCast, hz1, hZ] at h
    exact h
  · have hr : Row (W.alloc (.cells (byteVs (List.replicate n 0)).toArray 5)) 5 (.slice (some ⟨W.heap.size, 0, none⟩) n n) (byteVs (List.replicate n 0)) :=
      .inr ⟨W.heap.size, 0, n, _, by rw [byteVs_length, List.length_replicate], heap_alloc_new W _, by rw [byteVs_length, List.length_replicate]; exact Nat.le_refl _, by unfold maxLen; omega, by simp [byteVs_length], by simp⟩
    exact run_bytes_row (P := Tryd.prog) _ 32 5 9 Tryd.underlying32 Tryd.underlying5 Tryd.underlying9 hr
  · have hr : Row (W.alloc (.cells (byteVs (List.replicate n 0)).toArray 5)).drew 5 (.slice (some ⟨W.heap.size, 0, none⟩) n n) (byteVs (List.replicate n 0)) :=
      .inr ⟨W.heap.size, 0, n, _, by rw [byteVs_length, List.length_replicate], heap_alloc_new W _, by rw [byteVs_length, List.length_replicate]; exact Nat.le_refl _, by unfold maxLen; omega, by simp [byteVs_length], by simp⟩
    exact run_bytes_row (P := Tryd.prog) _ 32 5 9 Tryd.underlying32 Tryd.underlying5 Tryd.underlying9 hr

set_option maxHeartbeats 1600000 in
theorem joins_ss (a b : ByteArray) (sum : Nat) (w : World) (hp : PowAt w) (hsum : sum < 4294967296) (ha : a.size ≤ 1000) (hb : b.size ≤ 1000) :
    Calls Tryd.prog 4 #[.string a, .string b, .int .u32 sum] w fun e w' => e = .returned (.bool true) ∧ Touch (fun _ => False) w w' := by
  go_enter Tryd.func4, Tryd.ntmps4
  go_wp2_with fail
  refine (speaks_calls _ hp).mono ?_
  rintro e w1 ⟨rfl, hT1⟩
  have hp1 := hp.kept hT1
  go_wp2_with fail
  go_region
  obtain ⟨Z, zs, hzs, hmk, hcv, hcv2⟩ := noughts_made b.size (by omega)
  have hzl : zs.size = b.size := by rw [← data_length, hzs, List.length_replicate]
  have hx := Lib.hid (fun W : World => refmore_calls 0 a W (by decide) (by omega))
  have hy := Lib.hid (fun W : World => refmore_calls 0 b W (by decide) (by omega))
  have hxl : moreN 0 a.data.toList < 4294967296 := moreN_lt _ _ (by decide)
  have hyl : moreN 0 b.data.toList < 4294967296 := moreN_lt _ _ (by decide)
  have hjx := Lib.hid (fun (W : World) (h : PowAt W) => by
    have := join_calls (moreN 0 a.data.toList) (moreN 0 b.data.toList) b.size W h hxl hyl (by omega)
    rw [← data_length b, join_eq] at this
    exact this)
  have hxb := Lib.hid (fun W : World => refmore_calls (moreN 0 a.data.toList) b W hxl (by omega))
  have hno := Lib.hid (fun (W : World) (h : PowAt W) => noughts_calls sum b.size W h hsum (by omega))
  have hzz := Lib.hid (fun W : World => by
    have := refmore_calls sum zs W hsum (by omega)
    rw [show moreN sum zs.data.toList = flip (Tn (8 * b.size) (flip sum)) by unfold moreN; rw [hzs, crcSt_zeros]] at this
    exact this)
  generalize moreN 0 a.data.toList = x at hx hjx hxb hxl
  generalize moreN 0 b.data.toList = y at hy hjx hyl
  generalize moreN x b.data.toList = z at hjx hxb
  generalize flip (Tn (8 * b.size) (flip sum)) = u at hno hzz
  rw [data_length] at hjx
  clear hzs
  go_wp2_with fail
  refine (hx.out _).mono ?_
  rintro e w2 ⟨rfl, rfl⟩
  go_wp2_with fail
  refine (hy.out _).mono ?_
  rintro e w2 ⟨rfl, rfl⟩
  go_wp2_with fail
  refine (hjx.out _ (by exact hp1.drewN 1)).mono ?_
  rintro e w2 ⟨rfl, rfl⟩
  go_wp2_with fail
  refine (hxb.out _).mono ?_
  rintro e w2 ⟨rfl, rfl⟩
  go_wp2_with fail
  have hT2 : Touch (fun _ => False) w w1.drew := hT1.drew
  have hp2 := hp1.drewN 1
  change PowAt w1.drew at hp2
  generalize w1.drew = w3 at hT2 hp2 ⊢
  go_region_with (first
    | (go_at_call 13; refine (hno.out _ ?_).mono ?_; exact hp2.kept (by repeat (first | exact Touch.refl _ _ | apply Touch.drew | apply Touch.alloc)); rintro e w' ⟨rfl, rfl⟩)
    | (go_at_call 9; refine (hzz.out _).mono ?_; rintro e w' ⟨rfl, rfl⟩))
  all_goals go_wp2
  all_goals go_ret
  all_goals exact ⟨rfl, by repeat (first | exact hT2 | apply Touch.drew | apply Touch.alloc)⟩

set_option maxHeartbeats 1600000 in
theorem joins_ls (a b : ByteArray) (sum : Nat) (w : World) (hp : PowAt w) (hsum : sum < 4294967296) (ha : 1000 < a.size) (ha2 : a.size ≤ 9223372036854775807) (hb : b.size ≤ 1000) :
    Calls Tryd.prog 4 #[.string a, .string b, .int .u32 sum] w fun e w' => e = .returned (.bool true) ∧ Touch (fun _ => False) w w' := by
  go_enter Tryd.func4, Tryd.ntmps4
  go_wp2_with fail
  refine (speaks_calls _ hp).mono ?_
  rintro e w1 ⟨rfl, hT1⟩
  have hp1 := hp.kept hT1
  go_wp2_with fail
  go_region
  have ha' : (a.extract 0 1000).size ≤ 1000 := by simp; omega
  generalize a.extract 0 1000 = a' at ha' ⊢
  obtain ⟨Z, zs, hzs, hmk, hcv, hcv2⟩ := noughts_made b.size (by omega)
  have hzl : zs.size = b.size := by rw [← data_length, hzs, List.length_replicate]
  have hx := Lib.hid (fun W : World => refmore_calls 0 a' W (by decide) (by omega))
  have hy := Lib.hid (fun W : World => refmore_calls 0 b W (by decide) (by omega))
  have hxl : moreN 0 a'.data.toList < 4294967296 := moreN_lt _ _ (by decide)
  have hyl : moreN 0 b.data.toList < 4294967296 := moreN_lt _ _ (by decide)
  have hjx := Lib.hid (fun (W : World) (h : PowAt W) => by
    have := join_calls (moreN 0 a'.data.toList) (moreN 0 b.data.toList) b.size W h hxl hyl (by omega)
    rw [← data_length b, join_eq] at this
    exact this)
  have hxb := Lib.hid (fun W : World => refmore_calls (moreN 0 a'.data.toList) b W hxl (by omega))
  have hno := Lib.hid (fun (W : World) (h : PowAt W) => noughts_calls sum b.size W h hsum (by omega))
  have hzz := Lib.hid (fun W : World => by
    have := refmore_calls sum zs W hsum (by omega)
    rw [show moreN sum zs.data.toList = flip (Tn (8 * b.size) (flip sum)) by unfold moreN; rw [hzs, crcSt_zeros]] at this
    exact this)
  generalize moreN 0 a'.data.toList = x at hx hjx hxb hxl
  generalize moreN 0 b.data.toList = y at hy hjx hyl
  generalize moreN x b.data.toList = z at hjx hxb
  generalize flip (Tn (8 * b.size) (flip sum)) = u at hno hzz
  rw [data_length] at hjx
  clear hzs
  go_wp2_with fail
  refine (hx.out _).mono ?_
  rintro e w2 ⟨rfl, rfl⟩
  go_wp2_with fail
  refine (hy.out _).mono ?_
  rintro e w2 ⟨rfl, rfl⟩
  go_wp2_with fail
  refine (hjx.out _ (by exact hp1.drewN 1)).mono ?_
  rintro e w2 ⟨rfl, rfl⟩
  go_wp2_with fail
  refine (hxb.out _).mono ?_
  rintro e w2 ⟨rfl, rfl⟩
  go_wp2_with fail
  have hT2 : Touch (fun _ => False) w w1.drew := hT1.drew
  have hp2 := hp1.drewN 1
  change PowAt w1.drew at hp2
  generalize w1.drew = w3 at hT2 hp2 ⊢
  go_region_with (first
    | (go_at_call 13; refine (hno.out _ ?_).mono ?_; exact hp2.kept (by repeat (first | exact Touch.refl _ _ | apply Touch.drew | apply Touch.alloc)); rintro e w' ⟨rfl, rfl⟩)
    | (go_at_call 9; refine (hzz.out _).mono ?_; rintro e w' ⟨rfl, rfl⟩))
  all_goals go_wp2
  all_goals go_ret
  all_goals exact ⟨rfl, by repeat (first | exact hT2 | apply Touch.drew | apply Touch.alloc)⟩

set_option maxHeartbeats 1600000 in
theorem joins_sl (a b : ByteArray) (sum : Nat) (w : World) (hp : PowAt w) (hsum : sum < 4294967296) (ha : a.size ≤ 1000) (hb : 1000 < b.size) (hb2 : b.size ≤ 9223372036854775807) :
    Calls Tryd.prog 4 #[.string a, .string b, .int .u32 sum] w fun e w' => e = .returned (.bool true) ∧ Touch (fun _ => False) w w' := by
  go_enter Tryd.func4, Tryd.ntmps4
  go_wp2_with fail
  refine (speaks_calls _ hp).mono ?_
  rintro e w1 ⟨rfl, hT1⟩
  have hp1 := hp.kept hT1
  go_wp2_with fail
  go_region
  have hb' : (b.extract 0 1000).size ≤ 1000 := by simp; omega
  generalize b.extract 0 1000 = b' at hb' ⊢
  obtain ⟨Z, zs, hzs, hmk, hcv, hcv2⟩ := noughts_made b'.size (by omega)
  have hzl : zs.size = b'.size := by rw [← data_length, hzs, List.length_replicate]
  have hx := Lib.hid (fun W : World => refmore_calls 0 a W (by decide) (by omega))
  have hy := Lib.hid (fun W : World => refmore_calls 0 b' W (by decide) (by omega))
  have hxl : moreN 0 a.data.toList < 4294967296 := moreN_lt _ _ (by decide)
  have hyl : moreN 0 b'.data.toList < 4294967296 := moreN_lt _ _ (by decide)
  have hjx := Lib.hid (fun (W : World) (h : PowAt W) => by
    have := join_calls (moreN 0 a.data.toList) (moreN 0 b'.data.toList) b'.size W h hxl hyl (by omega)
    rw [← data_length b', join_eq] at this
    exact this)
  have hxb := Lib.hid (fun W : World => refmore_calls (moreN 0 a.data.toList) b' W hxl (by omega))
  have hno := Lib.hid (fun (W : World) (h : PowAt W) => noughts_calls sum b'.size W h hsum (by omega))
  have hzz := Lib.hid (fun W : World => by
    have := refmore_calls sum zs W hsum (by omega)
    rw [show moreN sum zs.data.toList = flip (Tn (8 * b'.size) (flip sum)) by unfold moreN; rw [hzs, crcSt_zeros]] at this
    exact this)
  generalize moreN 0 a.data.toList = x at hx hjx hxb hxl
  generalize moreN 0 b'.data.toList = y at hy hjx hyl
  generalize moreN x b'.data.toList = z at hjx hxb
  generalize flip (Tn (8 * b'.size) (flip sum)) = u at hno hzz
  rw [data_length] at hjx
  clear hzs
  go_wp2_with fail
  refine (hx.out _).mono ?_
  rintro e w2 ⟨rfl, rfl⟩
  go_wp2_with fail
  refine (hy.out _).mono ?_
  rintro e w2 ⟨rfl, rfl⟩
  go_wp2_with fail
  refine (hjx.out _ (by exact hp1.drewN 1)).mono ?_
  rintro e w2 ⟨rfl, rfl⟩
  go_wp2_with fail
  refine (hxb.out _).mono ?_
  rintro e w2 ⟨rfl, rfl⟩
  go_wp2_with fail
  have hT2 : Touch (fun _ => False) w w1.drew := hT1.drew
  have hp2 := hp1.drewN 1
  change PowAt w1.drew at hp2
  generalize w1.drew = w3 at hT2 hp2 ⊢
  go_region_with (first
    | (go_at_call 13; refine (hno.out _ ?_).mono ?_; exact hp2.kept (by repeat (first | exact Touch.refl _ _ | apply Touch.drew | apply Touch.alloc)); rintro e w' ⟨rfl, rfl⟩)
    | (go_at_call 9; refine (hzz.out _).mono ?_; rintro e w' ⟨rfl, rfl⟩))
  all_goals go_wp2
  all_goals go_ret
  all_goals exact ⟨rfl, by repeat (first | exact hT2 | apply Touch.drew | apply Touch.alloc)⟩

set_option maxHeartbeats 1600000 in
theorem joins_ll (a b : ByteArray) (sum : Nat) (w : World) (hp : PowAt w) (hsum : sum < 4294967296) (ha : 1000 < a.size) (ha2 : a.size ≤ 9223372036854775807) (hb : 1000 < b.size) (hb2 : b.size ≤ 9223372036854775807) :
    Calls Tryd.prog 4 #[.string a, .string b, .int .u32 sum] w fun e w' => e = .returned (.bool true) ∧ Touch (fun _ => False) w w' := by
  go_enter Tryd.func4, Tryd.ntmps4
  go_wp2_with fail
  refine (speaks_calls _ hp).mono ?_
  rintro e w1 ⟨rfl, hT1⟩
  have hp1 := hp.kept hT1
  go_wp2_with fail
  go_region
  have ha' : (a.extract 0 1000).size ≤ 1000 := by simp; omega
  generalize a.extract 0 1000 = a' at ha' ⊢
  have hb' : (b.extract 0 1000).size ≤ 1000 := by simp; omega
  generalize b.extract 0 1000 = b' at hb' ⊢
  obtain ⟨Z, zs, hzs, hmk, hcv, hcv2⟩ := noughts_made b'.size (by omega)
  have hzl : zs.size = b'.size := by rw [← data_length, hzs, List.length_replicate]
  have hx := Lib.hid (fun W : World => refmore_calls 0 a' W (by decide) (by omega))
  have hy := Lib.hid (fun W : World => refmore_calls 0 b' W (by decide) (by omega))
  have hxl : moreN 0 a'.data.toList < 4294967296 := moreN_lt _ _ (by decide)
  have hyl : moreN 0 b'.data.toList < 4294967296 := moreN_lt _ _ (by decide)
  have hjx := Lib.hid (fun (W : World) (h : PowAt W) => by
    have := join_calls (moreN 0 a'.data.toList) (moreN 0 b'.data.toList) b'.size W h hxl hyl (by omega)
    rw [← data_length b', join_eq] at this
    exact this)
  have hxb := Lib.hid (fun W : World => refmore_calls (moreN 0 a'.data.toList) b' W hxl (by omega))
  have hno := Lib.hid (fun (W : World) (h : PowAt W) => noughts_calls sum b'.size W h hsum (by omega))
  have hzz := Lib.hid (fun W : World => by
    have := refmore_calls sum zs W hsum (by omega)
    rw [show moreN sum zs.data.toList = flip (Tn (8 * b'.size) (flip sum)) by unfold moreN; rw [hzs, crcSt_zeros]] at this
    exact this)
  generalize moreN 0 a'.data.toList = x at hx hjx hxb hxl
  generalize moreN 0 b'.data.toList = y at hy hjx hyl
  generalize moreN x b'.data.toList = z at hjx hxb
  generalize flip (Tn (8 * b'.size) (flip sum)) = u at hno hzz
  rw [data_length] at hjx
  clear hzs
  go_wp2_with fail
  refine (hx.out _).mono ?_
  rintro e w2 ⟨rfl, rfl⟩
  go_wp2_with fail
  refine (hy.out _).mono ?_
  rintro e w2 ⟨rfl, rfl⟩
  go_wp2_with fail
  refine (hjx.out _ (by exact hp1.drewN 1)).mono ?_
  rintro e w2 ⟨rfl, rfl⟩
  go_wp2_with fail
  refine (hxb.out _).mono ?_
  rintro e w2 ⟨rfl, rfl⟩
  go_wp2_with fail
  have hT2 : Touch (fun _ => False) w w1.drew := hT1.drew
  have hp2 := hp1.drewN 1
  change PowAt w1.drew at hp2
  generalize w1.drew = w3 at hT2 hp2 ⊢
  go_region_with (first
    | (go_at_call 13; refine (hno.out _ ?_).mono ?_; exact hp2.kept (by repeat (first | exact Touch.refl _ _ | apply Touch.drew | apply Touch.alloc)); rintro e w' ⟨rfl, rfl⟩)
    | (go_at_call 9; refine (hzz.out _).mono ?_; rintro e w' ⟨rfl, rfl⟩))
  all_goals go_wp2
  all_goals go_ret
  all_goals exact ⟨rfl, by repeat (first | exact hT2 | apply Touch.drew | apply Touch.alloc)⟩

theorem joins_any (a b : ByteArray) (sum : Nat) (w : World) (hp : PowAt w) (hsum : sum < 4294967296) (ha : a.size ≤ 9223372036854775807) (hb : b.size ≤ 9223372036854775807) :
    Calls Tryd.prog 4 #[.string a, .string b, .int .u32 sum] w fun e w' => e = .returned (.bool true) ∧ Touch (fun _ => False) w w' := by
  by_cases h1 : a.size ≤ 1000 <;> by_cases h2 : b.size ≤ 1000
  · exact joins_ss a b sum w hp hsum h1 h2
  · exact joins_sl a b sum w hp hsum h1 (by omega) hb
  · exact joins_ls a b sum w hp hsum (by omega) ha h2
  · exact joins_ll a b sum w hp hsum (by omega) ha (by omega) hb

end Go.Proofs.YtmkbcbkgficnkaaDoor

/- The statement InflateNone over the translated program. -/
import Derived.Test.YtpmibebafcjhmaaDoorInfO
namespace Go.Proofs.YtpmibebafcjhmaaDoor
open Go Go.RowKit
set_option maxRecDepth 100000

set_option maxHeartbeats 4000000 in
theorem inone_calls (s : ByteArray) (w : World) : Calls Tryd.prog 5 #[.string s] w fun e w' => e = .returned (.bool true) ∧ Touch (fun _ => False) w w' := by
  go_enter Tryd.func5, Tryd.ntmps5
  go_wp2_with fail
  refine (speaks7_calls _).mono ?_
  rintro e w1 ⟨rfl, hT1⟩
  have HT1 := Lib.hid hT1
  clear hT1
  go_wp2_with fail
  refine (ifeed_nil s w1).mono ?_
  rintro e w2 ⟨rfl, rfl⟩
  go_wp2_with fail
  refine (inew_calls w1).mono ?_
  rintro e w2 ⟨b, rfl, hb, hD1⟩
  have HF := Lib.hid (ifeed_more hD1 rfl rfl ⟨#[]⟩ (by decide) (by decide))
  clear hD1 hb
  go_wp2_with fail
  refine HF.out.mono ?_
  rintro e w3 ⟨rfl, hD3⟩
  have HD := Lib.hid hD3
  clear hD3 HF
  go_wp2_with fail
  refine (iall_empty w3).mono ?_
  rintro e w4 ⟨rfl, hT4⟩
  have hc0 := hT4.cell HD.out.cell0 id
  have HT4 : Hid (Touch (fun _ => False) w w4) := Lib.hid ((HT1.out.trans (by obtain ⟨_, _, _, _, _, _, _, _, hT⟩ := HD.out; exact hT)).trans hT4)
  clear hT4 HD HT1
  go_wp2_with fail
  refine (idone_nil w4).mono ?_
  rintro e w5 ⟨rfl, rfl⟩
  go_wp2_with fail
  refine (irest_nil w4).mono ?_
  rintro e w5 ⟨rfl, rfl⟩
  go_wp2_with fail
  refine (iused_nil w4).mono ?_
  rintro e w5 ⟨rfl, rfl⟩
  go_wp2_with fail
  refine (idone_run hc0 (by decide)).mono ?_
  rintro e w5 ⟨rfl, rfl⟩
  go_wp2_with fail
  go_ret
  exact ⟨rfl, HT4.out⟩
end Go.Proofs.YtpmibebafcjhmaaDoor

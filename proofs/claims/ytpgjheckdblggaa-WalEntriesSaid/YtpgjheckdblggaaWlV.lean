/- Contracts of package wal, twelfth part: slots and Entries with the power off. -/
import Derived.Test.YtpgjheckdblggaaWlU
namespace Go.Proofs.Ytpgjheckdblggaa
open Go Go.RowKit Go.Maps
set_option maxRecDepth 100000

set_option maxHeartbeats 1000000 in
theorem slots_off {w : World} {b lb mb c n : Nat} {L : List UInt8} {C : List Ent} {t : Nat} {f : Int} (h : DkAt w b lb mb c n L C t f false) {gb at' sn N : Nat} {note : ByteArray} {fl : Bool} (hL : LogAt w gb b at' sn N note fl) (hs1 : 1 ≤ sn) (hs2 : sn ≤ 1000) (ha : at' ≤ 1000) :
    Calls Try.prog 50 #[.pointer (some ⟨gb, 0, none⟩)] w fun e w' => e = .returned (.tuple #[.slice none 0 0, .int .i64 14]) ∧ Touch (fun _ => False) w w' := by
  have H := Lib.hid h
  have HL := Lib.hid hL
  clear h hL
  go_enter Try.func50, Try.ntmps50
  go_wp2_with fail
  refine (make_calls w).mono ?_
  rintro e w1 ⟨rfl, hT, hT1⟩
  have HT1 := Lib.hid hT1
  have hD1 := H.out.still hT1
  have hL1 : Block w1 gb 96 _ := HL.out.kept hT1 id
  have q2 : w1.cell? ⟨gb, 2, none⟩ = some (.int .i64 sn) := hL1.cell 2
  have q0 : w1.cell? ⟨gb, 0, none⟩ = some (.pointer (some ⟨b, 0, none⟩)) := hL1.cell 0
  have q1 : w1.cell? ⟨gb, 1, none⟩ = some (.int .i64 at') := hL1.cell 1
  have HD1 := Lib.hid hD1
  clear hT hD1 hL1 hT1
  go_wp2_with fail
  go_loopw [4, 6, 16] (fun v4 _ i wr => v4 = .slice none 0 0 ∧ i = .int .i64 0 ∧ wr = w1) (fun _ _ i _ => 0)
  case atStart => exact ⟨rfl, rfl, rfl⟩
  case round =>
    obtain ⟨rfl, rfl, rfl⟩ := hrel
    have hsI : (0 : Int) < (sn : Int) := by omega
    have hsN : 0 < sn := by omega
    have hpw : IntKind.i64.wrap (at' : Int) = (at' : Int) := IntWalk.i64_in _ (by omega)
    have HQ : Hid (wr.cell? ⟨gb, 0, none⟩ = some (.pointer (some ⟨b, 0, none⟩)) ∧ wr.cell? ⟨gb, 1, none⟩ = some (.int .i64 at')) := Lib.hid ⟨q0, q1⟩
    have HRD : Hid (∀ W, Touch (fun _ => False) wr W → Calls Try.prog 19 #[.pointer (some ⟨b, 0, none⟩), .int .i64 at'] W fun e w' => e = .returned (.tuple #[.string ⟨#[]⟩, .int .i64 14]) ∧ Touch (fun _ => False) W w') := Lib.hid (fun W hT => (read_off (HD1.out.still hT) at').mono (by rintro e w' ⟨rfl, rfl⟩; exact ⟨rfl, Touch.refl _ _⟩))
    go_upto_region 6 with fail
    go_cut [7, 8] from 19 to 32 (fun v7 v8 wx => v7 = .string ⟨#[]⟩ ∧ v8 = .int .i64 14 ∧ Touch (fun _ => False) wr wx)
    case first =>
      go_region_law (go_simp; go_at_call 19; refine (HRD.out wr.drew ((Touch.refl (fun _ => False) wr).drew)).mono ?_; rintro e wa ⟨rfl, hTp⟩; have r0 := hTp.cell (p := ⟨gb, 0, none⟩) HQ.out.1 id; have r1 := hTp.cell (p := ⟨gb, 1, none⟩) HQ.out.2 id)
      all_goals
        go_wp2_with fail
        go_meet
        exact ⟨rfl, rfl, (Touch.refl (fun _ => False) wr).drew.trans hTp⟩
    case rest =>
      obtain ⟨rfl, rfl, hTc⟩ := hcut
      have HTc := Lib.hid hTc
      clear hTc
      go_wp2_with fail
      go_ret2
      exact ⟨rfl, HT1.out.trans HTc.out⟩

theorem entries_off {w : World} {b lb mb c n : Nat} {L : List UInt8} {C : List Ent} {t : Nat} {f : Int} (h : DkAt w b lb mb c n L C t f false) {gb at' sn N : Nat} {note : ByteArray} {fl : Bool} (hL : LogAt w gb b at' sn N note fl) (hs1 : 1 ≤ sn) (hs2 : sn ≤ 1000) (ha : at' ≤ 1000) :
    Calls Try.prog 36 #[.pointer (some ⟨gb, 0, none⟩)] w fun e w' => e = .returned (.tuple #[.slice none 0 0, .int .i64 14]) ∧ Touch (fun _ => False) w w' := by
  have HSL := Lib.hid (slots_off h hL hs1 hs2 ha)
  have HL := Lib.hid hL
  clear h hL
  go_enter Try.func36, Try.ntmps36
  go_wp2_with (go_at_call 51; refine (isopen_calls HL.out).mono ?_; rintro e w' ⟨rfl, rfl⟩)
  refine HSL.out.mono ?_
  rintro e w1 ⟨rfl, hT1⟩
  have HT1 := Lib.hid hT1
  clear hT1
  go_wp2_with fail
  go_ret2
  exact ⟨rfl, HT1.out⟩

end Go.Proofs.Ytpgjheckdblggaa

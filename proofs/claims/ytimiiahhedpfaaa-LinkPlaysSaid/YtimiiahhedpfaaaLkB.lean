/- Contracts of package link, second part: Put and Take. -/
import Derived.Test.YtimiiahhedpfaaaLkA
namespace Go.Proofs.Ytimiiahhedpfaaa
open Go Go.RowKit Go.Conc
set_option maxRecDepth 100000

theorem put_enter (v0 v1 v2 : Value) : Frame.enter Try.prog 29 #[v0, v1, v2] .normal = (base 29).at ⟨#[v0, v1, v2, undef, undef, undef, undef, undef, undef, undef, undef, undef, undef, undef], []⟩ [.code (Try.f29.body.getD .skip)] := by
  simp [Frame.enter, Frame.at, Try.func29, base, Try.f29]
theorem put_room {w : World} {p : Nat} {c : Nat → Nat} {L : Nat → List ByteArray} (h : LinkAt w p c L) (y : Nat) (hy : y < 2) (t : ByteArray) (hl : (L y).length < 64) :
    Calls Try.prog 29 #[.pointer (some ⟨p, 0, none⟩), .int .i64 (y : Nat), .string t] w fun e w' => e = .returned (.bool true) ∧ LinkAt w' p c (setL L y (L y ++ [t])) ∧ Touch (fun k => k = c y) w w' := by
  obtain ⟨s, r, hc⟩ := h.ch y hy
  refine calls_of_loneTo (fun cs => ?_) (fun _ h => by cases h.1)
  rw [put_enter]
  refine LoneTo.goes (n := 30) ?_
  simp only [Try.f29, Option.getD_some]
  s_c stepG_seq
  s_reg
  s_op
  s_c stepG_region_end
  s_c stepG_seq
  s_c stepG_seq
  s_reg
  s_op
  s_op
  s_stop
  refine lone_call rfl rfl (by decide) (by simp [go_sem, execOp, Act.eval]) (way_calls h y hy) ?_
  rintro e w' ⟨rfl, rfl⟩
  refine ⟨_, rfl, ?_⟩
  rw [Frame.finish_at]
  walk_nrm
  refine LoneTo.goes (n := 30) ?_
  s_c stepG_region_end
  s_reg
  s_op
  s_c stepG_region_end
  s_c stepG_seq
  s_reg
  s_stop
  refine LoneTo.step (step_lone_select_send_room (c := c y) (cap := 64) (buf := ((L y).map Value.string).toArray) (s := s) (r := r) (tm := false) (v := .string t) (z' := .string ⟨#[]⟩) (stepG_comm (cases := #[scase (c y) (.string t) (.string ⟨#[]⟩)]) (blocking := false) (shape := .select) (w' := w) rfl rfl (by decide) (by simp [go_sem, execOp, scase, Act.eval])) hc (by simpa using hl)) ?_
  rw [Frame.finish_at]
  walk_nrm
  refine LoneTo.goes (n := 30) ?_
  s_op
  s_op
  s_c stepG_region_end
  s_c stepG_block
  s_cond true
  s_c stepG_seq
  s_reg
  s_op
  s_c stepG_region_end
  s_c stepG_ret'
  s_stop
  refine LoneTo.done ⟨.returned (.bool true), _, rfl, ⟨rfl, h.set hy _ (by simp; omega) _ _ _ (by simp), touch_setChan (S := fun k => k = c y) rfl _ _ _ _ _ _⟩, rfl, rfl, rfl, rfl, _, Try.func29, by simp [results, Try.f29, Frame.at]⟩
theorem put_full {w : World} {p : Nat} {c : Nat → Nat} {L : Nat → List ByteArray} (h : LinkAt w p c L) (y : Nat) (hy : y < 2) (t : ByteArray) (hl : (L y).length = 64) :
    Calls Try.prog 29 #[.pointer (some ⟨p, 0, none⟩), .int .i64 (y : Nat), .string t] w fun e w' => e = .returned (.bool false) ∧ w = w' := by
  obtain ⟨s, r, hc⟩ := h.ch y hy
  refine calls_of_loneTo (fun cs => ?_) (fun _ h => by cases h.1)
  rw [put_enter]
  refine LoneTo.goes (n := 30) ?_
  simp only [Try.f29, Option.getD_some]
  s_c stepG_seq
  s_reg
  s_op
  s_c stepG_region_end
  s_c stepG_seq
  s_c stepG_seq
  s_reg
  s_op
  s_op
  s_stop
  refine lone_call rfl rfl (by decide) (by simp [go_sem, execOp, Act.eval]) (way_calls h y hy) ?_
  rintro e w' ⟨rfl, rfl⟩
  refine ⟨_, rfl, ?_⟩
  rw [Frame.finish_at]
  walk_nrm
  refine LoneTo.goes (n := 30) ?_
  s_c stepG_region_end
  s_reg
  s_op
  s_c stepG_region_end
  s_c stepG_seq
  s_reg
  s_stop
  refine LoneTo.step (step_lone_select_send_full (c := c y) (cap := 64) (buf := ((L y).map Value.string).toArray) (s := s) (r := r) (tm := false) (v := .string t) (z' := .string ⟨#[]⟩) (stepG_comm (cases := #[scase (c y) (.string t) (.string ⟨#[]⟩)]) (blocking := false) (shape := .select) (w' := w) rfl rfl (by decide) (by simp [go_sem, execOp, scase, Act.eval])) hc (by simp; omega)) ?_
  rw [Frame.finish_at]
  walk_nrm
  refine LoneTo.goes (n := 30) ?_
  s_op
  s_op
  s_c stepG_region_end
  s_c stepG_block
  s_cond false
  s_c stepG_seq
  s_reg
  s_op
  s_c stepG_region_end
  s_c stepG_ret'
  s_stop
  refine LoneTo.done ⟨.returned (.bool false), _, rfl, ⟨rfl, rfl⟩, rfl, rfl, rfl, rfl, _, Try.func29, by simp [results, Try.f29, Frame.at]⟩
theorem put_none {w : World} {v0 : Value} {z : Int} (hway : Calls Try.prog 40 #[v0, .int .i64 z] w fun e w' => e = .returned (.chan none) ∧ w = w') (t : ByteArray) :
    Calls Try.prog 29 #[v0, .int .i64 z, .string t] w fun e w' => e = .returned (.bool false) ∧ w = w' := by
  refine calls_of_loneTo (fun cs => ?_) (fun _ h => by cases h.1)
  rw [put_enter]
  refine LoneTo.goes (n := 30) ?_
  simp only [Try.f29, Option.getD_some]
  s_c stepG_seq
  s_reg
  s_op
  s_c stepG_region_end
  s_c stepG_seq
  s_c stepG_seq
  s_reg
  s_op
  s_op
  s_stop
  refine lone_call rfl rfl (by decide) (by simp [go_sem, execOp, Act.eval]) (hway) ?_
  rintro e w' ⟨rfl, rfl⟩
  refine ⟨_, rfl, ?_⟩
  rw [Frame.finish_at]
  walk_nrm
  refine LoneTo.goes (n := 30) ?_
  s_c stepG_region_end
  s_reg
  s_op
  s_c stepG_region_end
  s_c stepG_seq
  s_reg
  s_stop
  refine LoneTo.step (step_lone_select_send_nil (v := .string t) (z' := .string ⟨#[]⟩) (stepG_comm (cases := #[scaseNil (.string t) (.string ⟨#[]⟩)]) (blocking := false) (shape := .select) (w' := w) rfl rfl (by decide) (by simp [go_sem, execOp, scaseNil, Act.eval]))) ?_
  rw [Frame.finish_at]
  walk_nrm
  refine LoneTo.goes (n := 30) ?_
  s_op
  s_op
  s_c stepG_region_end
  s_c stepG_block
  s_cond false
  s_c stepG_seq
  s_reg
  s_op
  s_c stepG_region_end
  s_c stepG_ret'
  s_stop
  refine LoneTo.done ⟨.returned (.bool false), _, rfl, ⟨rfl, rfl⟩, rfl, rfl, rfl, rfl, _, Try.func29, by simp [results, Try.f29, Frame.at]⟩

theorem take_enter (v0 v1 : Value) : Frame.enter Try.prog 30 #[v0, v1] .normal = (base 30).at ⟨#[v0, v1, undef, undef, undef, undef, undef, undef, undef, undef, undef, undef, undef, undef, undef], []⟩ [.code (Try.f30.body.getD .skip)] := by
  simp [Frame.enter, Frame.at, Try.func30, base, Try.f30]
theorem take_some {w : World} {p : Nat} {c : Nat → Nat} {L : Nat → List ByteArray} (h : LinkAt w p c L) (y : Nat) (hy : y < 2) {t : ByteArray} {l : List ByteArray} (hl : L y = t :: l) :
    Calls Try.prog 30 #[.pointer (some ⟨p, 0, none⟩), .int .i64 (y : Nat)] w fun e w' => e = .returned (.tuple #[.string t, .bool true]) ∧ LinkAt w' p c (setL L y l) ∧ Touch (fun k => k = c y) w w' := by
  obtain ⟨s, r, hc⟩ := h.ch y hy
  have hle := h.le y hy
  rw [hl] at hc hle
  refine calls_of_loneTo (fun cs => ?_) (fun _ h => by cases h.1)
  rw [take_enter]
  refine LoneTo.goes (n := 30) ?_
  simp only [Try.f30, Option.getD_some]
  s_c stepG_seq
  s_reg
  s_op
  s_op
  s_c stepG_region_end
  s_c stepG_seq
  s_reg
  s_op
  s_op
  s_stop
  refine lone_call rfl rfl (by decide) (by simp [go_sem, execOp, Act.eval]) (way_calls h y hy) ?_
  rintro e w' ⟨rfl, rfl⟩
  refine ⟨_, rfl, ?_⟩
  rw [Frame.finish_at]
  walk_nrm
  refine LoneTo.goes (n := 30) ?_
  s_c stepG_region_end
  s_c stepG_seq
  s_reg
  s_stop
  refine LoneTo.step (step_lone_select_recv_buf (c := c y) (cap := 64) (buf := ((t :: l).map Value.string).toArray) (closed := false) (s := s) (r := r) (tm := false) (z := .string ⟨#[]⟩) (stepG_comm (cases := #[rcase (c y) (.string ⟨#[]⟩)]) (blocking := false) (shape := .select) (w' := w) rfl rfl (by decide) (by simp [go_sem, execOp, rcase, Act.eval])) hc (by simp)) ?_
  have hd : (((t :: l).map Value.string).toArray).getD 0 undef = .string t := by simp
  rw [hd]
  rw [Frame.finish_at]
  walk_nrm
  refine LoneTo.goes (n := 40) ?_
  s_op
  s_op
  s_c stepG_region_end
  s_c stepG_block
  s_cond true
  s_c stepG_seq
  s_reg
  s_op
  s_op
  s_c stepG_region_end
  s_c stepG_seq
  s_reg
  s_op
  s_op
  s_op
  s_c stepG_region_end
  s_c stepG_ret'
  s_stop
  refine LoneTo.done ⟨.returned (.tuple #[.string t, .bool true]), _, rfl, ⟨rfl, h.set hy _ (by rw [List.length_cons] at hle; omega) _ _ _ (by simp; exact List.take_of_length_le (by simp)), touch_setChan (S := fun k => k = c y) rfl _ _ _ _ _ _⟩, rfl, rfl, rfl, rfl, _, Try.func30, by simp [results, Try.f30, Frame.at]⟩
theorem take_empty {w : World} {p : Nat} {c : Nat → Nat} {L : Nat → List ByteArray} (h : LinkAt w p c L) (y : Nat) (hy : y < 2) (hl : L y = []) :
    Calls Try.prog 30 #[.pointer (some ⟨p, 0, none⟩), .int .i64 (y : Nat)] w fun e w' => e = .returned (.tuple #[.string ⟨#[]⟩, .bool false]) ∧ w = w' := by
  obtain ⟨s, r, hc⟩ := h.ch y hy
  rw [hl] at hc
  refine calls_of_loneTo (fun cs => ?_) (fun _ h => by cases h.1)
  rw [take_enter]
  refine LoneTo.goes (n := 30) ?_
  simp only [Try.f30, Option.getD_some]
  s_c stepG_seq
  s_reg
  s_op
  s_op
  s_c stepG_region_end
  s_c stepG_seq
  s_reg
  s_op
  s_op
  s_stop
  refine lone_call rfl rfl (by decide) (by simp [go_sem, execOp, Act.eval]) (way_calls h y hy) ?_
  rintro e w' ⟨rfl, rfl⟩
  refine ⟨_, rfl, ?_⟩
  rw [Frame.finish_at]
  walk_nrm
  refine LoneTo.goes (n := 30) ?_
  s_c stepG_region_end
  s_c stepG_seq
  s_reg
  s_stop
  refine LoneTo.step (step_lone_select_default (c := c y) (cap := 64) (s := s) (r := r) (tm := false) (z := .string ⟨#[]⟩) (stepG_comm (cases := #[rcase (c y) (.string ⟨#[]⟩)]) (blocking := false) (shape := .select) (w' := w) rfl rfl (by decide) (by simp [go_sem, execOp, rcase, Act.eval])) hc) ?_
  rw [Frame.finish_at]
  walk_nrm
  refine LoneTo.goes (n := 40) ?_
  s_op
  s_op
  s_c stepG_region_end
  s_c stepG_block
  s_cond false
  s_c stepG_seq
  s_reg
  s_op
  s_op
  s_c stepG_region_end
  s_c stepG_ret'
  s_stop
  refine LoneTo.done ⟨.returned (.tuple #[.string ⟨#[]⟩, .bool false]), _, rfl, ⟨rfl, rfl⟩, rfl, rfl, rfl, rfl, _, Try.func30, by simp [results, Try.f30, Frame.at]⟩
theorem take_none {w : World} {v0 : Value} {z : Int} (hway : Calls Try.prog 40 #[v0, .int .i64 z] w fun e w' => e = .returned (.chan none) ∧ w = w') :
    Calls Try.prog 30 #[v0, .int .i64 z] w fun e w' => e = .returned (.tuple #[.string ⟨#[]⟩, .bool false]) ∧ w = w' := by
  refine calls_of_loneTo (fun cs => ?_) (fun _ h => by cases h.1)
  rw [take_enter]
  refine LoneTo.goes (n := 30) ?_
  simp only [Try.f30, Option.getD_some]
  s_c stepG_seq
  s_reg
  s_op
  s_op
  s_c stepG_region_end
  s_c stepG_seq
  s_reg
  s_op
  s_op
  s_stop
  refine lone_call rfl rfl (by decide) (by simp [go_sem, execOp, Act.eval]) (hway) ?_
  rintro e w' ⟨rfl, rfl⟩
  refine ⟨_, rfl, ?_⟩
  rw [Frame.finish_at]
  walk_nrm
  refine LoneTo.goes (n := 30) ?_
  s_c stepG_region_end
  s_c stepG_seq
  s_reg
  s_stop
  refine LoneTo.step (step_lone_select_recv_nil (z := .string ⟨#[]⟩) (stepG_comm (cases := #[rcaseNil (.string ⟨#[]⟩)]) (blocking := false) (shape := .select) (w' := w) rfl rfl (by decide) (by simp [go_sem, execOp, rcaseNil, Act.eval]))) ?_
  rw [Frame.finish_at]
  walk_nrm
  refine LoneTo.goes (n := 40) ?_
  s_op
  s_op
  s_c stepG_region_end
  s_c stepG_block
  s_cond false
  s_c stepG_seq
  s_reg
  s_op
  s_op
  s_c stepG_region_end
  s_c stepG_ret'
  s_stop
  refine LoneTo.done ⟨.returned (.tuple #[.string ⟨#[]⟩, .bool false]), _, rfl, ⟨rfl, rfl⟩, rfl, rfl, rfl, rfl, _, Try.func30, by simp [results, Try.f30, Frame.at]⟩
end Go.Proofs.Ytimiiahhedpfaaa


/- Contracts of package name: signs that no name has. -/
import Derived.Test.YtmhigecchligcaaDoorRows
import Derived.Test.YtmhigecchligcaaDoorMem
import Derived.Test.YtmhigecchligcaaDoorDosQ
import Derived.Test.YtmhigecchligcaaDoorNamShelf
import Derived.Lib.OthersKept
import Derived.Lib.TrimU
import Derived.Deep.LoopGhost
import Derived.WalkSpells
import Derived.OwnWalk
import Derived.WalkKit
import Derived.Lib.Hide
namespace Go.Proofs.YtmhigecchligcaaDoor
open Go Go.RowKit
set_option maxRecDepth 100000

theorem ret_bool {a b : Bool} (h : a = b) : Ending.returned (.bool a) = .returned (.bool b) := by rw [h]
theorem ret_int {k : IntKind} {a b : Int} (h : a = b) : Ending.returned (.int k a) = .returned (.int k b) := by rw [h]

theorem Touch.of_below {w w' : World} (h : Below w.heap.size w w') : Touch (fun _ => False) w w' := ⟨h.os, h.tape, h.output, h.size, fun k hk _ => h.block k hk⟩

/-- Is it a sign that no name has? -/
def barR (r : Nat) : Bool := decide (r < 32) || (r == 127 || r == 92)

theorem barR_cast (r : Nat) : barR r = (decide ((r : Int) < 32) || ((r : Int) == 127 || (r : Int) == 92)) := by
  unfold barR
  rw [Bool.eq_iff_iff]
  simp
  omega

theorem barred_calls (r : Nat) (w : World) (hr : r ≤ 1114111) : Calls Tryd.prog 22 #[.int .i32 r] w fun e w' => e = .returned (.bool (barR r)) ∧ w = w' := by
  have hr0 : (0 : Int) ≤ (r : Int) := by omega
  have hr1 : (r : Int) ≤ 1114111 := by omega
  rw [barR_cast]
  go_enter Tryd.func22, Tryd.ntmps22
  go_wp2
  all_goals
    go_ret
    refine ⟨ret_bool ?_, rfl⟩
    first
      | rw [Bool.or_assoc]
      | simp_all [Bool.or_assoc]

/-- The place of the first barred sign from a place on; -1. -/
def barFrom (s : ByteArray) : Nat → Nat → Int
  | 0, _ => -1
  | f + 1, pos => if pos < s.size then (if barR (Utf8.decode s pos).1 then (pos : Int) else barFrom s f (pos + (Utf8.decode s pos).2)) else -1
def barIdx (s : ByteArray) : Int := barFrom s s.size 0

theorem barFrom_end (s : ByteArray) (f pos : Nat) (h : ¬ pos < s.size) : barFrom s f pos = -1 := by
  cases f with
  | zero => rfl
  | succ f => unfold barFrom; rw [if_neg h]

set_option maxHeartbeats 2000000 in
theorem indexFunc_calls (s : ByteArray) (w : World) : Calls Tryd.prog 42 #[.string s, .func (.func 22) #[] #[], .bool true] w fun e w' => e = .returned (.int .i64 (barIdx s)) ∧ Touch (fun _ => False) w w' := by
  go_enter Tryd.func42, Tryd.ntmps42
  go_wp2
  go_loopg [] s.size (fun g wx => ∃ pos : Nat, wx.heap[w.heap.size]? = some (.stringIter s pos) ∧ Below w.heap.size w wx ∧ barFrom s g pos = barIdx s ∧ s.size ≤ pos + g)
  case atStart => exact ⟨0, World.iter_heap w s 0, (Below.refl _ w).alloc (Nat.le_refl _) _, rfl, by omega⟩
  case round =>
    obtain ⟨pos, hit, hbw, hleft, hfu⟩ := hrel
    have hsz : w.heap.size < wr.heap.size := (Array.getElem?_eq_some_iff.1 hit).1
    by_cases hp : pos < s.size
    · obtain ⟨g, rfl⟩ : ∃ g, gk = g + 1 := ⟨gk - 1, by omega⟩
      have hnx : ∀ ty, (Instr.next (.pointer (some ⟨w.heap.size, 0, none⟩)) true ty).run Tryd.prog wr = _ := fun ty => Lib.run_next_any_at wr w.heap.size s pos ty hit hp
      have hwd := Lib.width_pos s pos
      have hr1 := Lib.rune_le s pos
      obtain ⟨R, hR⟩ : ∃ R, (Utf8.decode s pos).1 = R := ⟨_, rfl⟩
      obtain ⟨K, hK⟩ : ∃ K, (Utf8.decode s pos).2 = K := ⟨_, rfl⟩
      simp only [barFrom, hp, if_true, hR, hK] at hleft
      rw [hR, hK] at hnx
      rw [hR] at hr1
      rw [hK] at hwd
      have hit2 := Lib.iterAt_heap wr w.heap.size s pos (pos + K) hit
      have hbw2 := Lib.below_iterAt hbw (k := w.heap.size) (Nat.le_refl _) s (pos + K)
      obtain ⟨W, hWd⟩ : ∃ W, wr.iterAt w.heap.size s (pos + K) = W := ⟨_, rfl⟩
      rw [hWd] at hnx hit2 hbw2
      have cS := Lib.hid (fun W => barred_calls R W hr1)
      cases hsp : barR R with
      | false =>
        rw [hsp] at cS hleft
        simp only [Bool.false_eq_true, if_false] at hleft
        have HL := Lib.hid hleft
        clear hleft hsp
        go_wp2_with (go_at_call 22; refine (cS.out _).mono ?_; rintro e W' ⟨rfl, rfl⟩)
        go_roundg g
        case measure => omega
        case rel => exact ⟨pos + K, hit2, hbw2, HL.out, by omega⟩
      | true =>
        rw [hsp] at cS hleft
        simp only [if_true] at hleft
        have HL := Lib.hid hleft
        clear hleft hsp
        go_wp2_with (go_at_call 22; refine (cS.out _).mono ?_; rintro e W' ⟨rfl, rfl⟩)
        go_ret
        exact ⟨by rw [← HL.out] <;> rfl, Touch.of_below hbw2⟩
    · have hnx : ∀ ty, (Instr.next (.pointer (some ⟨w.heap.size, 0, none⟩)) true ty).run Tryd.prog wr = _ := fun ty => Lib.run_next_end_at wr w.heap.size s pos ty hit hp
      rw [barFrom_end s gk pos hp] at hleft
      have HL := Lib.hid hleft
      clear hleft
      go_wp2
      go_ret
      exact ⟨by rw [← HL.out] <;> rfl, Touch.of_below hbw⟩

/-- Has a text a barred sign? -/
def barB (s : ByteArray) : Bool := decide (0 ≤ barIdx s)

theorem barFrom_range (s : ByteArray) : ∀ (f pos : Nat), -1 ≤ barFrom s f pos
  | 0, _ => by show (-1 : Int) ≤ -1; omega
  | f + 1, pos => by
    unfold barFrom
    have := barFrom_range s f (pos + (Utf8.decode s pos).2)
    repeat (any_goals split)
    all_goals omega

theorem contains_calls (s : ByteArray) (w : World) : Calls Tryd.prog 21 #[.string s, .func (.func 22) #[] #[]] w fun e w' => e = .returned (.bool (barB s)) ∧ Touch (fun _ => False) w w' := by
  have HI : RowKit.Hid (∀ W, Calls Tryd.prog 32 #[.string s, .func (.func 22) #[] #[]] W fun e w' => e = .returned (.int .i64 (barIdx s)) ∧ Touch (fun _ => False) W w') := Lib.hid (fun W => by
    go_enter Tryd.func32, Tryd.ntmps32
    go_wp2_with (go_at_call 42; refine (indexFunc_calls s _).mono ?_; rintro e w1 ⟨rfl, ht1⟩)
    go_ret
    exact ⟨rfl, ht1⟩)
  unfold barB
  generalize barIdx s = I at *
  go_enter Tryd.func21, Tryd.ntmps21
  go_wp2_with (go_at_call 32; refine (HI.out _).mono ?_; rintro e w1 ⟨rfl, ht1⟩)
  all_goals
    go_ret
    exact ⟨ret_bool (by simp_all), ht1⟩

/-- The library's tables, as they are laid. -/
def Tabs (w : World) : Prop := Lib.Utf8Tabs (Tryd.layValid_ren.g 3) (Tryd.layValid_ren.g 4) w

theorem valid_calls (s : ByteArray) (w : World) (hs : s.size ≤ 9223372036854775807) (hT : Tabs w) : Calls Tryd.prog 20 #[.string s] w fun e w' => e = .returned (.bool (Lib.validD s.data.toList)) ∧ Touch (fun _ => False) w w' :=
  (Any.utf8_ValidString Tryd.layValid s w hs hT).mono fun _ _ ⟨he, hb⟩ => ⟨he, Touch.of_below hb⟩

theorem index_calls (s : ByteArray) (w : World) : Calls Tryd.prog 34 #[.string s, .int .u8 47] w fun e w' => e = .returned (.int .i64 (Lib.indexByte s.data.toList 47)) ∧ w = w' :=
  (Any.strings_IndexByte Tryd.layIndexByte s 47 w).mono fun _ _ ⟨he, hb⟩ => ⟨he, hb.symm⟩
end Go.Proofs.YtmhigecchligcaaDoor

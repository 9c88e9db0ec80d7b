
/- The parts of a text between its slashes, as package name gives them one after another. -/
import Derived.Test.YtmhigecchligcaaDoorNamA
import Derived.RangeFuncNested
import Derived.RangeFuncBound
import Derived.RangeFuncCalls
import Derived.RangeFuncLeaves
import Derived.RangeFuncWrites
import Derived.RangeFuncBox
import Derived.Shelf.Abstract
import Derived.Shelf.RegionOpen
import Derived.OwnWalkIn
import Derived.TacticsInMore
import Derived.LoopNIn
import Derived.LoopIn
namespace Go.Proofs.YtmhigecchligcaaDoor
open Go Go.RowKit Go.Shelf
set_option maxRecDepth 100000
attribute [local go_sem] Oper.semAt_some

/-- A part: where it ends, and what it is. -/
structure Pt (S : ByteArray) where
  e : Nat
  t : ByteArray
  he : e ≤ S.size
  hs : t.size ≤ S.size

/-- Where the part that begins at a place ends. -/
def endAt (S : ByteArray) (b : Nat) : Nat :=
  if 0 ≤ Lib.indexByte (S.extract b S.size).data.toList 47 then min (b + (Lib.indexByte (S.extract b S.size).data.toList 47).toNat) S.size else S.size
theorem endAt_le (S : ByteArray) (b : Nat) : endAt S b ≤ S.size := by unfold endAt; split <;> omega
theorem endAt_ge (S : ByteArray) (b : Nat) (h : b ≤ S.size) : b ≤ endAt S b := by unfold endAt; split <;> omega
def ptAt (S : ByteArray) (b : Nat) : Pt S := ⟨endAt S b, S.extract b (endAt S b), endAt_le S b, by have := endAt_le S b; rw [ByteArray.size_extract]; omega⟩

def ptsF (S : ByteArray) : Nat → Nat → List (Pt S)
  | 0, _ => []
  | f + 1, b => if b ≤ S.size then ptAt S b :: ptsF S f (endAt S b + 1) else []
/-- The parts from a place on. -/
def ptsA (S : ByteArray) (b : Nat) : List (Pt S) := ptsF S (S.size + 2) b

theorem ptsF_irr (S : ByteArray) : ∀ (f g b : Nat), S.size + 1 < b + f → S.size + 1 < b + g → ptsF S f b = ptsF S g b := by
  intro f
  induction f with
  | zero =>
    intro g b h1 h2
    cases g with
    | zero => rfl
    | succ g => unfold ptsF; rw [if_neg (by omega)]
  | succ f ih =>
    intro g b h1 h2
    cases g with
    | zero => unfold ptsF; rw [if_neg (by omega)]
    | succ g =>
      unfold ptsF
      by_cases hb : b ≤ S.size
      · rw [if_pos hb, if_pos hb]
        have := endAt_ge S b hb
        rw [ih g (endAt S b + 1) (by omega) (by omega)]
      · rw [if_neg hb, if_neg hb]
theorem ptsA_step (S : ByteArray) (b : Nat) (hb : b ≤ S.size) : ptsA S b = ptAt S b :: ptsA S (endAt S b + 1) := by
  have := endAt_ge S b hb
  unfold ptsA
  rw [show S.size + 2 = (S.size + 1) + 1 by omega]
  conv => lhs; unfold ptsF
  rw [if_pos hb, ptsF_irr S (S.size + 1) (S.size + 1 + 1) (endAt S b + 1) (by omega) (by omega)]
theorem ptsA_end (S : ByteArray) (b : Nat) (hb : ¬ b ≤ S.size) : ptsA S b = [] := by
  unfold ptsA
  rw [show S.size + 2 = (S.size + 1) + 1 by omega]
  unfold ptsF
  rw [if_neg hb]

/-- What a round is handed. -/
def ptV {S : ByteArray} (x : Pt S) : Array Value := #[.int .i64 (x.e : Nat), .string x.t]

theorem indexByte_range (l : List UInt8) (c : UInt8) : -1 ≤ Lib.indexByte l c ∧ Lib.indexByte l c < l.length := by
  induction l with
  | nil => simp [Lib.indexByte]
  | cons b r ih =>
    unfold Lib.indexByte
    simp only [List.length_cons]
    repeat (any_goals split)
    all_goals omega

set_option maxHeartbeats 2000000 in
theorem parts_in (w : World) (S : ByteArray) : CallsIn Fence.wide 2 Tryd.prog 23 #[.string S] w fun e w' => e = .returned (.func (.func 33) #[] #[.pointer (some ⟨w.heap.size, 0, none⟩)]) ∧ w' = w.alloc (.cells #[.string S] 9) := by
  refine callsIn_of_wp Tryd.func23 rfl trivial ?_ rfl
  simp only [Tryd.ntmps23, List.size_toArray, List.length_cons, List.length_nil, Nat.reduceAdd, Nat.reduceSub, Array.replicate_succ, Array.replicate_zero, List.push_toArray, List.append_toArray, List.nil_append, List.cons_append]
  gi_wp2
  go_ret
  exact ⟨rfl, rfl⟩

set_option maxHeartbeats 4000000 in
theorem parts_stops (n : Nat) (hn : 2 ≤ n) (S : ByteArray) (hS : S.size ≤ 1000000) (Bs : Nat) (w : World) (Kp : World → World → Prop) (hKp : ∀ W W', Kp W W' → W.cell? ⟨Bs, 0, none⟩ = some (.string S) → W'.cell? ⟨Bs, 0, none⟩ = some (.string S)) (hBl : Bs < w.heap.size) (hBs : w.cell? ⟨Bs, 0, none⟩ = some (.string S)) :
    SeqStopsK Fence.wide n Tryd.prog 33 #[.pointer (some ⟨Bs, 0, none⟩)] (ptV (S := S)) Kp (fun xs => xs = ptsA S 0) (fun pre => pre <+: ptsA S 0) (S.size + 2) w := by
  intro l J Jx W hW hJ hJx hY h0
  have hcell : W.cell? ⟨Bs, 0, none⟩ = some (.string S) := (hW.cell (p := ⟨Bs, 0, none⟩) hBl).trans hBs
  refine callsIn_of_wp Tryd.func33 rfl trivial ?_ rfl
  simp only [Tryd.ntmps33, List.size_toArray, List.length_cons, List.length_nil, Nat.reduceAdd, Nat.reduceSub, Array.replicate_succ, Array.replicate_zero, List.push_toArray, List.append_toArray, List.nil_append, List.cons_append]
  gi_wp2
  gi_loopw [3, 4] (fun b e wr => ∃ (k q : Nat) (pre : List (Pt S)), k ≤ S.size + 1 ∧ b = .int .i64 (k : Int) ∧ e = .int .i64 (q : Int) ∧ pre ++ ptsA S k = ptsA S 0 ∧ pre.length ≤ k ∧ J pre wr ∧ wr.cell? ⟨Bs, 0, none⟩ = some (.string S)) (fun b _ _ => S.size + 1 - (intOf b).toNat)
  case atStart => exact ⟨0, 0, [], by omega, rfl, rfl, by simp, by simp, h0, hcell⟩
  case round =>
    obtain ⟨k, q, pre, hk, rfl, rfl, hpre, hpl, hJp, hc⟩ := hrel
    by_cases hlt : k ≤ S.size
    · have hk0 : (0 : Int) ≤ (k : Int) := by omega
      have hk1 : (k : Int) ≤ (S.size : Int) := by omega
      have hsz0 : (S.size : Int) ≤ 1000000 := by omega
      have hYk : YieldAt Fence.wide (n - 1) Tryd.prog l #[.int .i64 (endAt S k : Nat), .string (S.extract k (endAt S k))] wr _ := hY pre (ptAt S k) wr hJp (by omega)
      rw [ptsA_step S k hlt] at hpre
      have hge := endAt_ge S k hlt
      have hle := endAt_le S k
      have hxl : (S.extract k S.size).data.toList.length = S.size - k := by
        rw [Array.length_toList]
        show (S.extract k S.size).size = _
        simp
      have hir := indexByte_range (S.extract k S.size).data.toList 47
      rw [hxl] at hir
      have hend : endAt S k = if 0 ≤ Lib.indexByte (S.extract k S.size).data.toList 47 then min (k + (Lib.indexByte (S.extract k S.size).data.toList 47).toNat) S.size else S.size := rfl
      have HI := Lib.hid (fun W => index_calls (S.extract k S.size) W)
      generalize Lib.indexByte (S.extract k S.size).data.toList 47 = I at *
      obtain ⟨E, hE⟩ : ∃ E, endAt S k = E := ⟨_, rfl⟩
      have HPRE : RowKit.Hid ((pre ++ [ptAt S k]) ++ ptsA S (E + 1) = ptsA S 0) := Lib.hid (by rw [List.append_assoc, ← hE]; exact hpre)
      generalize ptAt S k = X at hYk HPRE
      rw [hE] at hYk hge hle hend
      obtain ⟨fn, tmps, assign, body, hy, hR⟩ := hYk
      clear hpre hE hxl
      by_cases hI : 0 ≤ I
      · rw [if_pos hI] at hend
        have hEI : (k : Int) + I = (E : Int) := by omega
        have hE0 : (k : Int) ≤ (E : Int) := by omega
        have hE1 : (E : Int) ≤ (S.size : Int) := by omega
        clear hend
        gi_wp2_with (refine ⟨trivial, fun _ => (by omega), ?_⟩; gi_at_call 34; refine (callsIn_wide.2 (HI.out _)).mono ?_; rintro e W1 ⟨rfl, rfl⟩)
        refine ⟨fun _ => (by omega), hR.mono ?_⟩
        rintro e W3 (⟨rfl, hJ3, hk3⟩ | ⟨rfl, hJx3⟩)
        · have hc3 := hKp _ _ hk3 hc
          gi_wp2
          go_roundw
          case rel => exact ⟨E + 1, E, pre ++ [X], by omega, by go_num, rfl, HPRE.out, by simp; omega, hJ3, hc3⟩
          case measure => simp [intOf]; omega
        · gi_wp2
          exact bodyPost_ret (results_none rfl _ _ _) rfl ⟨⟨_, rfl⟩, .inr ⟨pre ++ [X], ⟨_, HPRE.out⟩, hJx3⟩⟩
      · rw [if_neg hI] at hend
        have hI1 : I = -1 := by omega
        subst hI1
        have hE0 : (k : Int) ≤ (E : Int) := by omega
        obtain rfl := hend
        gi_wp2_with (refine ⟨trivial, fun _ => (by omega), ?_⟩; gi_at_call 34; refine (callsIn_wide.2 (HI.out _)).mono ?_; rintro e W1 ⟨rfl, rfl⟩)
        refine ⟨fun _ => (by omega), hR.mono ?_⟩
        rintro e W3 (⟨rfl, hJ3, hk3⟩ | ⟨rfl, hJx3⟩)
        · have hc3 := hKp _ _ hk3 hc
          gi_wp2
          go_roundw
          case rel => exact ⟨S.size + 1, S.size, pre ++ [X], by omega, by go_num, rfl, HPRE.out, by simp; omega, hJ3, hc3⟩
          case measure => simp [intOf]; omega
        · gi_wp2
          exact bodyPost_ret (results_none rfl _ _ _) rfl ⟨⟨_, rfl⟩, .inr ⟨pre ++ [X], ⟨_, HPRE.out⟩, hJx3⟩⟩
    · have hlt' : ¬ (k : Int) ≤ (S.size : Int) := by omega
      rw [ptsA_end S k hlt, List.append_nil] at hpre
      have HP := Lib.hid hpre
      clear hpre
      gi_wp2
      go_end0
      exact ⟨⟨_, rfl⟩, .inl (HP.out ▸ hJp)⟩
end Go.Proofs.YtmhigecchligcaaDoor

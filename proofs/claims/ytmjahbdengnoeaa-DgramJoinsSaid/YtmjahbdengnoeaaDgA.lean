/- Contracts of package dgram, first part: what may be, words, seals; datagrams as values. -/
import Derived.Test.YtmjahbdengnoeaaBase
import Derived.Test.YtmjahbdengnoeaaBitsN
import Derived.Test.YtmjahbdengnoeaaCrcB
import Derived.Test.YtmjahbdengnoeaaRegInv2
import Derived.WalkSpells
import Derived.OwnWalk
import Derived.WalkLawsBesides
import Derived.Lib.Hide
import Derived.Laws.BitsAllLaws
import Derived.Laws.Rows
import Derived.Laws.ResultCell
import Derived.Laws.BytesArg
import Derived.RegionTactic
import Derived.BigRegion
import Derived.BigQuiet
import Derived.Deep.QuietTactic
import Derived.Deep.RegionHeld3
import Derived.Deep.RegionLaw
namespace Go.Proofs.Ytmjahbdengnoeaa
open Go Go.RowKit
set_option maxRecDepth 100000

theorem sret_bool {a b : Bool} (h : a = b) : Ending.returned (.bool a) = .returned (.bool b) := by rw [h]

/-- A datagram. -/
structure Dg where
  kind : Int
  se : Nat
  ep : Nat
  sq : Nat
  pos : Nat
  sm : Nat
  mp : Nat
  last : Bool
  text : ByteArray
def Dg.cells (d : Dg) : Array Value := #[.int .i64 d.kind, .int .u32 d.se, .int .u32 d.ep, .int .u32 d.sq, .int .u64 d.pos, .int .u32 d.sm, .int .u32 d.mp, .bool d.last, .string d.text]
def Dg.v (d : Dg) : Value := .agg d.cells
structure Dg.Wf (d : Dg) : Prop where
  k1 : -9223372036854775808 ≤ d.kind
  k2 : d.kind ≤ 9223372036854775807
  se : d.se < 4294967296
  ep : d.ep < 4294967296
  sq : d.sq < 4294967296
  pos : d.pos < 18446744073709551616
  sm : d.sm < 4294967296
  mp : d.mp < 4294967296
def goodD (d : Dg) : Bool := decide (1 ≤ d.kind) && decide (d.kind ≤ 5) && decide (d.pos < 4611686018427387904) && decide (d.text.size ≤ 256) && (decide (d.mp = 0) || decide (d.kind = 4)) && (decide (d.text.size = 0) || decide (d.kind = 3)) && (!d.last || decide (d.kind = 3) || decide (d.kind = 2))

def lB (k n : Nat) : ByteArray := ⟨(leB k n).toArray⟩
theorem lB_size (k n : Nat) : (lB k n).size = k := by show (leB k n).toArray.size = k; simp [leB_length]
theorem wput_calls (n k : Nat) (w : World) (h1 : 1 ≤ k) (h2 : k ≤ 8) : Calls Try.prog 39 #[.int .u64 n, .int .i64 k] w fun e w' => e = .returned (.string (lB k n)) ∧ Touch (fun _ => False) w w' := put_small n k w h1 h2

theorem empty_iff (S : ByteArray) : S.toList.isEmpty = decide (S.size = 0) := by
  rw [ByteArray.toList_eq]
  show _ = decide (S.data.size = 0)
  obtain ⟨⟨l⟩⟩ := S
  cases l <;> simp
theorem kind_ways (k : Int) : k < 1 ∨ 5 < k ∨ k = 1 ∨ k = 2 ∨ k = 3 ∨ k = 4 ∨ k = 5 := by omega
theorem rest_ways (b1 b2 b3 te last : Bool) : b1 = false ∨ (b1 = true ∧ b2 = false) ∨ (b1 = true ∧ b2 = true ∧ b3 = false ∧ te = false ∧ last = false) ∨ (b1 = true ∧ b2 = true ∧ b3 = false ∧ te = false ∧ last = true) ∨
    (b1 = true ∧ b2 = true ∧ b3 = false ∧ te = true ∧ last = false) ∨ (b1 = true ∧ b2 = true ∧ b3 = false ∧ te = true ∧ last = true) ∨
    (b1 = true ∧ b2 = true ∧ b3 = true ∧ te = false ∧ last = false) ∨ (b1 = true ∧ b2 = true ∧ b3 = true ∧ te = false ∧ last = true) ∨
    (b1 = true ∧ b2 = true ∧ b3 = true ∧ te = true ∧ last = false) ∨ (b1 = true ∧ b2 = true ∧ b3 = true ∧ te = true ∧ last = true) := by
  cases b1 <;> cases b2 <;> cases b3 <;> cases te <;> cases last <;> simp

theorem lim_of {n : Nat} {b : Bool} (h : decide (n < 4611686018427387904) = b) : match b with | true => (n : Int) < 4611686018427387904 | false => ((n : Int) < 4611686018427387904) = False := by
  cases b
  · exact eq_false (by have := of_decide_eq_false h; omega)
  · have := of_decide_eq_true h
    show (n : Int) < 4611686018427387904
    omega
theorem len_of {n : Nat} {b : Bool} (h : decide (n ≤ 256) = b) : match b with | true => (n : Int) ≤ 256 | false => ((n : Int) ≤ 256) = False := by
  cases b
  · exact eq_false (by have := of_decide_eq_false h; omega)
  · have := of_decide_eq_true h
    show (n : Int) ≤ 256
    omega
theorem nul_of {n : Nat} {b : Bool} (h : decide (n = 0) = b) : match b with | true => n = 0 | false => (n = 0) = False := by
  cases b
  · exact eq_false (of_decide_eq_false h)
  · exact of_decide_eq_true h
theorem emp_of {s : ByteArray} {b : Bool} (h : decide (s.size = 0) = b) : s.toList.isEmpty = b := by rw [empty_iff, h]


theorem goodE (kind : Int) (se ep sq pos sm mp : Nat) (last : Bool) (text : ByteArray) : goodD ⟨kind, se, ep, sq, pos, sm, mp, last, text⟩ = (decide (1 ≤ kind) && decide (kind ≤ 5) && decide (pos < 4611686018427387904) && decide (text.size ≤ 256) && (decide (mp = 0) || decide (kind = 4)) && (decide (text.size = 0) || decide (kind = 3)) && (!last || decide (kind = 3) || decide (kind = 2))) := rfl
end Go.Proofs.Ytmjahbdengnoeaa

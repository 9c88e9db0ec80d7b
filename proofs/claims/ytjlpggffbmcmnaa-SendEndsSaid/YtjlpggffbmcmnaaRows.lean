/-
  No cell of these rows narrows 'for every input' (looked for: loops, veiled, ifaces, maps, wideKeys, modest, calm, conditions, laid).
  DERIVED. THE GIVEN ROWS OF THIS SEAT. 7 by the template 'for every input the law returns true; each argument reads behind the call as it read before'; 0 by the template 'total and deterministic' (their statements: YtjlpggffbmcmnaaTotals.lean).
  GIVEN WITH THE SEED: the statements are not yours to turn. If you find one false, say at which input.
  Laid BY PROGRAM, IN A SANDBOX (cutbox-rows.mjs): the forced cells as the released guide's own fill.sh prints them over the translation 56d8cf93e5ad7c37… (all of the seat's roots in one cut). By AI agents, Wed Nov 11 2026. No macro, syntax, notation, axiom, sorry.
-/
import Derived.Test.YtjlpggffbmcmnaaChecked
import GoSem.Claim
import GoSem.ClaimJoined
import GoSem.ClaimMapViews
import Derived.JoinedTies
import Derived.KernelRfl
namespace Go.Proofs.Ytjlpggffbmcmnaa
/- THE CELL 'sum', in the pinned program and in every row, IS THE sha256 OF THE DUMP (.gsa) THAT YtjlpggffbmcmnaaProg.lean LOADS. Nothing in Lean hashes anything: it is a label: what it is worth is what the hold of that sum in a sandbox is worth. -/
noncomputable def Try.pinned : Pinned := { name := "ytjlpggffbmcmnaa", sum := "56d8cf93e5ad7c377408d4c72fc5a482e2cf5790959da710eafa4bee5cc4df4e", checked := Try.checked }
namespace Rows
def none {H : Type} : Left H := { results := [], args := [] }

/-- 'lighterlaw23.TimerPlays': WHATEVER THE INPUT: true; the input reads as it did. -/
def timerPlaysSpec : ChangeSpec := { name := "timerPlays", fn := fun _ => fun
  | [d1, d2, d3] => { results := [.lit (.bool true)], args := [d1, d2, d3] }
  | _ => none }
def timerPlaysRow : OpenClaim := { program := "ytjlpggffbmcmnaa", sum := "56d8cf93e5ad7c377408d4c72fc5a482e2cf5790959da710eafa4bee5cc4df4e", func := "lighter/lighterlaw23.TimerPlays", spec := "timerPlays", apart := false }
def TimerPlaysSaid : Prop := timerPlaysRow.holds Try.pinned (OpenSpec.ofChange timerPlaysSpec)

/-- ITS FALSE NEIGHBOUR: 'it returns false'. Refute it at one input. -/
def timerPlaysWrong : ChangeSpec := { name := "timerPlays", fn := fun _ => fun
  | [d1, d2, d3] => { results := [.lit (.bool false)], args := [d1, d2, d3] }
  | _ => none }
def TimerPlaysWrongFalsely : Prop := timerPlaysRow.holds Try.pinned (OpenSpec.ofChange timerPlaysWrong)

/-- 'lighterlaw23.TimerBounds': WHATEVER THE INPUT: true; the input reads as it did. -/
def timerBoundsSpec : ChangeSpec := { name := "timerBounds", fn := fun _ => fun
  | [d1, d2, d3] => { results := [.lit (.bool true)], args := [d1, d2, d3] }
  | _ => none }
def timerBoundsRow : OpenClaim := { program := "ytjlpggffbmcmnaa", sum := "56d8cf93e5ad7c377408d4c72fc5a482e2cf5790959da710eafa4bee5cc4df4e", func := "lighter/lighterlaw23.TimerBounds", spec := "timerBounds", apart := false }
def TimerBoundsSaid : Prop := timerBoundsRow.holds Try.pinned (OpenSpec.ofChange timerBoundsSpec)

/-- ITS FALSE NEIGHBOUR: 'it returns false'. Refute it at one input. -/
def timerBoundsWrong : ChangeSpec := { name := "timerBounds", fn := fun _ => fun
  | [d1, d2, d3] => { results := [.lit (.bool false)], args := [d1, d2, d3] }
  | _ => none }
def TimerBoundsWrongFalsely : Prop := timerBoundsRow.holds Try.pinned (OpenSpec.ofChange timerBoundsWrong)

/-- 'lighterlaw23.TimerNone': WHATEVER THE INPUT: true; the input reads as it did. -/
def timerNoneSpec : ChangeSpec := { name := "timerNone", fn := fun _ => fun
  | [d1, d2] => { results := [.lit (.bool true)], args := [d1, d2] }
  | _ => none }
def timerNoneRow : OpenClaim := { program := "ytjlpggffbmcmnaa", sum := "56d8cf93e5ad7c377408d4c72fc5a482e2cf5790959da710eafa4bee5cc4df4e", func := "lighter/lighterlaw23.TimerNone", spec := "timerNone", apart := false }
def TimerNoneSaid : Prop := timerNoneRow.holds Try.pinned (OpenSpec.ofChange timerNoneSpec)

/-- ITS FALSE NEIGHBOUR: 'it returns false'. Refute it at one input. -/
def timerNoneWrong : ChangeSpec := { name := "timerNone", fn := fun _ => fun
  | [d1, d2] => { results := [.lit (.bool false)], args := [d1, d2] }
  | _ => none }
def TimerNoneWrongFalsely : Prop := timerNoneRow.holds Try.pinned (OpenSpec.ofChange timerNoneWrong)

/-- 'lighterlaw24.SendPlays': WHATEVER THE INPUT: true; the input reads as it did. -/
def sendPlaysSpec : ChangeSpec := { name := "sendPlays", fn := fun _ => fun
  | [d1, d2, d3] => { results := [.lit (.bool true)], args := [d1, d2, d3] }
  | _ => none }
def sendPlaysRow : OpenClaim := { program := "ytjlpggffbmcmnaa", sum := "56d8cf93e5ad7c377408d4c72fc5a482e2cf5790959da710eafa4bee5cc4df4e", func := "lighter/lighterlaw24.SendPlays", spec := "sendPlays", apart := false }
def SendPlaysSaid : Prop := sendPlaysRow.holds Try.pinned (OpenSpec.ofChange sendPlaysSpec)

/-- ITS FALSE NEIGHBOUR: 'it returns false'. Refute it at one input. -/
def sendPlaysWrong : ChangeSpec := { name := "sendPlays", fn := fun _ => fun
  | [d1, d2, d3] => { results := [.lit (.bool false)], args := [d1, d2, d3] }
  | _ => none }
def SendPlaysWrongFalsely : Prop := sendPlaysRow.holds Try.pinned (OpenSpec.ofChange sendPlaysWrong)

/-- 'lighterlaw24.SendEnds': WHATEVER THE INPUT: true; the input reads as it did. -/
def sendEndsSpec : ChangeSpec := { name := "sendEnds", fn := fun _ => fun
  | [d1, d2, d3] => { results := [.lit (.bool true)], args := [d1, d2, d3] }
  | _ => none }
def sendEndsRow : OpenClaim := { program := "ytjlpggffbmcmnaa", sum := "56d8cf93e5ad7c377408d4c72fc5a482e2cf5790959da710eafa4bee5cc4df4e", func := "lighter/lighterlaw24.SendEnds", spec := "sendEnds", apart := false }
def SendEndsSaid : Prop := sendEndsRow.holds Try.pinned (OpenSpec.ofChange sendEndsSpec)

/-- ITS FALSE NEIGHBOUR: 'it returns false'. Refute it at one input. -/
def sendEndsWrong : ChangeSpec := { name := "sendEnds", fn := fun _ => fun
  | [d1, d2, d3] => { results := [.lit (.bool false)], args := [d1, d2, d3] }
  | _ => none }
def SendEndsWrongFalsely : Prop := sendEndsRow.holds Try.pinned (OpenSpec.ofChange sendEndsWrong)

/-- 'lighterlaw24.SendRefuses': WHATEVER THE INPUT: true; the input reads as it did. -/
def sendRefusesSpec : ChangeSpec := { name := "sendRefuses", fn := fun _ => fun
  | [d1, d2, d3] => { results := [.lit (.bool true)], args := [d1, d2, d3] }
  | _ => none }
def sendRefusesRow : OpenClaim := { program := "ytjlpggffbmcmnaa", sum := "56d8cf93e5ad7c377408d4c72fc5a482e2cf5790959da710eafa4bee5cc4df4e", func := "lighter/lighterlaw24.SendRefuses", spec := "sendRefuses", apart := false }
def SendRefusesSaid : Prop := sendRefusesRow.holds Try.pinned (OpenSpec.ofChange sendRefusesSpec)

/-- ITS FALSE NEIGHBOUR: 'it returns false'. Refute it at one input. -/
def sendRefusesWrong : ChangeSpec := { name := "sendRefuses", fn := fun _ => fun
  | [d1, d2, d3] => { results := [.lit (.bool false)], args := [d1, d2, d3] }
  | _ => none }
def SendRefusesWrongFalsely : Prop := sendRefusesRow.holds Try.pinned (OpenSpec.ofChange sendRefusesWrong)

/-- 'lighterlaw24.SendTells': WHATEVER THE INPUT: true; the input reads as it did. -/
def sendTellsSpec : ChangeSpec := { name := "sendTells", fn := fun _ => fun
  | [d1, d2, d3] => { results := [.lit (.bool true)], args := [d1, d2, d3] }
  | _ => none }
def sendTellsRow : OpenClaim := { program := "ytjlpggffbmcmnaa", sum := "56d8cf93e5ad7c377408d4c72fc5a482e2cf5790959da710eafa4bee5cc4df4e", func := "lighter/lighterlaw24.SendTells", spec := "sendTells", apart := false }
def SendTellsSaid : Prop := sendTellsRow.holds Try.pinned (OpenSpec.ofChange sendTellsSpec)

/-- ITS FALSE NEIGHBOUR: 'it returns false'. Refute it at one input. -/
def sendTellsWrong : ChangeSpec := { name := "sendTells", fn := fun _ => fun
  | [d1, d2, d3] => { results := [.lit (.bool false)], args := [d1, d2, d3] }
  | _ => none }
def SendTellsWrongFalsely : Prop := sendTellsRow.holds Try.pinned (OpenSpec.ofChange sendTellsWrong)

/- THE SECOND FORM. 'bulk': how many values and letters a reading holds, each counted each time it is reached (what is shared counts as often as it is met; a slice's spare places count too). A statement '..UptoSaid' is the law's where the arguments, and the package variables that the reading takes, are together of bulk at most 1048576: NARROWER than '..Said'. Prove '..Said' where nothing that the law and all that it calls make is longer than what came in: it says more and counts as full. Else prove '..UptoSaid'. A law counts once. -/
mutual
def uptoBulk {H : Type} : DataW H → Nat
  | .lit (.string bytes) => bytes.length + 1
  | .lit _ => 1
  | .nil => 1
  | .ptr d => uptoBulk d + 1
  | .slice elems spare => uptoBulkAll elems + uptoBulkAll spare + 1
  | .agg parts => uptoBulkAll parts + 1
  | .iface _ d => uptoBulk d + 1
  | .map entries => uptoBulkEntries entries + 1
  | .held _ => 1
def uptoBulkAll {H : Type} : List (DataW H) → Nat
  | [] => 0
  | d :: r => uptoBulk d + uptoBulkAll r
def uptoBulkEntries {H : Type} : List (Lit × DataW H) → Nat
  | [] => 0
  | x :: r => uptoBulkEntry x + uptoBulkEntries r
def uptoBulkEntry {H : Type} : Lit × DataW H → Nat
  | (.string bytes, d) => bytes.length + uptoBulk d + 1
  | (_, d) => uptoBulk d + 1
 end
def uptoSmall : (H : Type) → List (DataW H) → Bool := fun _ ds => decide (uptoBulkAll ds ≤ 1048576)
def OpenSpec.upto (s : _root_.Go.ChangeSpec) : _root_.Go.OpenSpec := { _root_.Go.OpenSpec.ofChange s with cond := some uptoSmall }

/-- 'lighterlaw23.TimerPlays', WHERE WHAT IT READS IS OF BULK AT MOST 1048576: true; the input reads as it did. -/
def timerPlaysUptoRow : OpenClaim := { program := "ytjlpggffbmcmnaa", sum := "56d8cf93e5ad7c377408d4c72fc5a482e2cf5790959da710eafa4bee5cc4df4e", func := "lighter/lighterlaw23.TimerPlays", spec := "timerPlays", apart := false, narrowed := true }
def TimerPlaysUptoSaid : Prop := timerPlaysUptoRow.holds Try.pinned (OpenSpec.upto timerPlaysSpec)

/-- 'lighterlaw23.TimerBounds', WHERE WHAT IT READS IS OF BULK AT MOST 1048576: true; the input reads as it did. -/
def timerBoundsUptoRow : OpenClaim := { program := "ytjlpggffbmcmnaa", sum := "56d8cf93e5ad7c377408d4c72fc5a482e2cf5790959da710eafa4bee5cc4df4e", func := "lighter/lighterlaw23.TimerBounds", spec := "timerBounds", apart := false, narrowed := true }
def TimerBoundsUptoSaid : Prop := timerBoundsUptoRow.holds Try.pinned (OpenSpec.upto timerBoundsSpec)

/-- 'lighterlaw23.TimerNone', WHERE WHAT IT READS IS OF BULK AT MOST 1048576: true; the input reads as it did. -/
def timerNoneUptoRow : OpenClaim := { program := "ytjlpggffbmcmnaa", sum := "56d8cf93e5ad7c377408d4c72fc5a482e2cf5790959da710eafa4bee5cc4df4e", func := "lighter/lighterlaw23.TimerNone", spec := "timerNone", apart := false, narrowed := true }
def TimerNoneUptoSaid : Prop := timerNoneUptoRow.holds Try.pinned (OpenSpec.upto timerNoneSpec)

/-- 'lighterlaw24.SendPlays', WHERE WHAT IT READS IS OF BULK AT MOST 1048576: true; the input reads as it did. -/
def sendPlaysUptoRow : OpenClaim := { program := "ytjlpggffbmcmnaa", sum := "56d8cf93e5ad7c377408d4c72fc5a482e2cf5790959da710eafa4bee5cc4df4e", func := "lighter/lighterlaw24.SendPlays", spec := "sendPlays", apart := false, narrowed := true }
def SendPlaysUptoSaid : Prop := sendPlaysUptoRow.holds Try.pinned (OpenSpec.upto sendPlaysSpec)

/-- 'lighterlaw24.SendEnds', WHERE WHAT IT READS IS OF BULK AT MOST 1048576: true; the input reads as it did. -/
def sendEndsUptoRow : OpenClaim := { program := "ytjlpggffbmcmnaa", sum := "56d8cf93e5ad7c377408d4c72fc5a482e2cf5790959da710eafa4bee5cc4df4e", func := "lighter/lighterlaw24.SendEnds", spec := "sendEnds", apart := false, narrowed := true }
def SendEndsUptoSaid : Prop := sendEndsUptoRow.holds Try.pinned (OpenSpec.upto sendEndsSpec)

/-- 'lighterlaw24.SendRefuses', WHERE WHAT IT READS IS OF BULK AT MOST 1048576: true; the input reads as it did. -/
def sendRefusesUptoRow : OpenClaim := { program := "ytjlpggffbmcmnaa", sum := "56d8cf93e5ad7c377408d4c72fc5a482e2cf5790959da710eafa4bee5cc4df4e", func := "lighter/lighterlaw24.SendRefuses", spec := "sendRefuses", apart := false, narrowed := true }
def SendRefusesUptoSaid : Prop := sendRefusesUptoRow.holds Try.pinned (OpenSpec.upto sendRefusesSpec)

/-- 'lighterlaw24.SendTells', WHERE WHAT IT READS IS OF BULK AT MOST 1048576: true; the input reads as it did. -/
def sendTellsUptoRow : OpenClaim := { program := "ytjlpggffbmcmnaa", sum := "56d8cf93e5ad7c377408d4c72fc5a482e2cf5790959da710eafa4bee5cc4df4e", func := "lighter/lighterlaw24.SendTells", spec := "sendTells", apart := false, narrowed := true }
def SendTellsUptoSaid : Prop := sendTellsUptoRow.holds Try.pinned (OpenSpec.upto sendTellsSpec)

end Rows
end Go.Proofs.Ytjlpggffbmcmnaa

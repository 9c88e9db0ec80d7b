/-
  NARROWER THAN 'FOR EVERY INPUT', by the rows' own cells (each row's printed sentence says how): CrcSums: laid · CrcJoins: laid · CrcBursts: laid.
  DERIVED. THE GIVEN ROWS OF THIS SEAT. 3 by the template 'for every input the law returns true; each argument reads behind the call as it read before'; 0 by the template 'total and deterministic' (their statements: YtmkbcbkgficnkaaDoorTotals.lean).
  GIVEN WITH THE SEED: the statements are not yours to turn. If you find one false, say at which input.
  Laid BY PROGRAM, IN A SANDBOX (cutbox-rows.mjs): the forced cells as the released guide's own fill.sh prints them over the translation 50757096f45c6867… (all of the seat's roots in one cut). By AI agents, Wed Nov 11 2026. No macro, syntax, notation, axiom, sorry.
-/
import Derived.Test.YtmkbcbkgficnkaaDoorChecked
import GoSem.Claim
import GoSem.ClaimJoined
import GoSem.ClaimMapViews
import Derived.JoinedTies
import Derived.KernelRfl
namespace Go.Proofs.YtmkbcbkgficnkaaDoor
/- THE CELL 'sum', in the pinned program and in every row, IS THE sha256 OF THE DUMP (.gsa) THAT YtmkbcbkgficnkaaDoorProg.lean LOADS. Nothing in Lean hashes anything: it is a label: what it is worth is what the hold of that sum in a sandbox is worth. -/
noncomputable def Tryd.pinned : Pinned := { name := "ytmkbcbkgficnkaadoor", sum := "50757096f45c6867a0b9ec51cd79198ee5ac669891fc0272897165bd4b508fa5", checked := Tryd.checked }
namespace Rows
def none {H : Type} : Left H := { results := [], args := [] }

/- WHAT THE LISTED PACKAGE-LEVEL VARIABLES READ AS WHEN THE CALL BEGINS. Each datum BY PROGRAM (the guide's laid-datum.mjs) off the statement by which the dump's own 'gosem.cut.vars' lays the variable. In a bare row this is a premise. The card (YtmkbcbkgficnkaaDoorCards.lean) ties it to the program's text. -/
def laid_lighter_crc_powers {H : Type} : DataW H := .agg [.lit (.int .u32 8388608), .lit (.int .u32 32768), .lit (.int .u32 3988292384), .lit (.int .u32 2984685714), .lit (.int .u32 2691310871), .lit (.int .u32 3982654894), .lit (.int .u32 2295415911), .lit (.int .u32 3619421802), .lit (.int .u32 3963911953), .lit (.int .u32 2390663536), .lit (.int .u32 1680310286), .lit (.int .u32 1296546528), .lit (.int .u32 167662735), .lit (.int .u32 2206543119), .lit (.int .u32 808857370), .lit (.int .u32 2069535939), .lit (.int .u32 838779241), .lit (.int .u32 2683044394), .lit (.int .u32 1821240772), .lit (.int .u32 366380877), .lit (.int .u32 1608415822), .lit (.int .u32 3134787127), .lit (.int .u32 776888047), .lit (.int .u32 1319870996), .lit (.int .u32 2829349568), .lit (.int .u32 1117427358), .lit (.int .u32 344797226), .lit (.int .u32 3289097936), .lit (.int .u32 3303156796), .lit (.int .u32 1073741824), .lit (.int .u32 536870912), .lit (.int .u32 134217728)]

/-- 'lighterlaw02.CrcSums': WHATEVER THE INPUT: true; the input reads as it did. -/
def crcSumsSpec : ChangeSpec := { name := "crcSums", fn := fun _ => fun
  | [d1, d2, d3] => { results := [.lit (.bool true)], args := [d1, d2, d3] }
  | _ => none }
def crcSumsRow : OpenClaim := { program := "ytmkbcbkgficnkaadoor", sum := "50757096f45c6867a0b9ec51cd79198ee5ac669891fc0272897165bd4b508fa5", func := "lighter/lighterlaw02.CrcSums", spec := "crcSums", named := ["lighter/crc.powers"], apart := false, laid := [("lighter/crc.powers", laid_lighter_crc_powers)] }
def CrcSumsSaid : Prop := crcSumsRow.holds Tryd.pinned (OpenSpec.ofChange crcSumsSpec)

/-- ITS FALSE NEIGHBOUR: 'it returns false'. Refute it at one input. -/
def crcSumsWrong : ChangeSpec := { name := "crcSums", fn := fun _ => fun
  | [d1, d2, d3] => { results := [.lit (.bool false)], args := [d1, d2, d3] }
  | _ => none }
def CrcSumsWrongFalsely : Prop := crcSumsRow.holds Tryd.pinned (OpenSpec.ofChange crcSumsWrong)

/-- 'lighterlaw02.CrcJoins': WHATEVER THE INPUT: true; the input reads as it did. -/
def crcJoinsSpec : ChangeSpec := { name := "crcJoins", fn := fun _ => fun
  | [d1, d2, d3] => { results := [.lit (.bool true)], args := [d1, d2, d3] }
  | _ => none }
def crcJoinsRow : OpenClaim := { program := "ytmkbcbkgficnkaadoor", sum := "50757096f45c6867a0b9ec51cd79198ee5ac669891fc0272897165bd4b508fa5", func := "lighter/lighterlaw02.CrcJoins", spec := "crcJoins", named := ["lighter/crc.powers"], apart := false, laid := [("lighter/crc.powers", laid_lighter_crc_powers)] }
def CrcJoinsSaid : Prop := crcJoinsRow.holds Tryd.pinned (OpenSpec.ofChange crcJoinsSpec)

/-- ITS FALSE NEIGHBOUR: 'it returns false'. Refute it at one input. -/
def crcJoinsWrong : ChangeSpec := { name := "crcJoins", fn := fun _ => fun
  | [d1, d2, d3] => { results := [.lit (.bool false)], args := [d1, d2, d3] }
  | _ => none }
def CrcJoinsWrongFalsely : Prop := crcJoinsRow.holds Tryd.pinned (OpenSpec.ofChange crcJoinsWrong)

/-- 'lighterlaw02.CrcBursts': WHATEVER THE INPUT: true; the input reads as it did. -/
def crcBurstsSpec : ChangeSpec := { name := "crcBursts", fn := fun _ => fun
  | [d1, d2, d3] => { results := [.lit (.bool true)], args := [d1, d2, d3] }
  | _ => none }
def crcBurstsRow : OpenClaim := { program := "ytmkbcbkgficnkaadoor", sum := "50757096f45c6867a0b9ec51cd79198ee5ac669891fc0272897165bd4b508fa5", func := "lighter/lighterlaw02.CrcBursts", spec := "crcBursts", named := ["lighter/crc.powers"], apart := false, laid := [("lighter/crc.powers", laid_lighter_crc_powers)] }
def CrcBurstsSaid : Prop := crcBurstsRow.holds Tryd.pinned (OpenSpec.ofChange crcBurstsSpec)

/-- ITS FALSE NEIGHBOUR: 'it returns false'. Refute it at one input. -/
def crcBurstsWrong : ChangeSpec := { name := "crcBursts", fn := fun _ => fun
  | [d1, d2, d3] => { results := [.lit (.bool false)], args := [d1, d2, d3] }
  | _ => none }
def CrcBurstsWrongFalsely : Prop := crcBurstsRow.holds Tryd.pinned (OpenSpec.ofChange crcBurstsWrong)

/- THE SECOND FORM. 'bulk': how many values and letters a reading holds, each counted each time it is reached (what is shared counts as often as it is met; a slice's spare places count too). A statement '..UptoSaid' is the law's where the arguments, and the package variables that the reading takes, are together of bulk at most 1048576: NARROWER than '..Said'. Prove '..Said' where nothing that the law and all that it calls make is longer than what came in: it says more and counts as full. Else prove '..UptoSaid'. A law counts once. -/
mutual
def uptoBulk {H : Type} : DataW H → Nat
  | .lit (.string bytes) => bytes.length + 1
  | .lit _ => 1
  | .nil => 1
  | .ptr d => uptoBulk d + 1
  | .slice elems spare => uptoBulkAll elems + uptoBulkAll spare + 1
  | .agg parts => uptoBulkAll parts + 1
  | .iface _ d => uptoBulk d + 1
  | .map entries => uptoBulkEntries entries + 1
  | .held _ => 1
def uptoBulkAll {H : Type} : List (DataW H) → Nat
  | [] => 0
  | d :: r => uptoBulk d + uptoBulkAll r
def uptoBulkEntries {H : Type} : List (Lit × DataW H) → Nat
  | [] => 0
  | x :: r => uptoBulkEntry x + uptoBulkEntries r
def uptoBulkEntry {H : Type} : Lit × DataW H → Nat
  | (.string bytes, d) => bytes.length + uptoBulk d + 1
  | (_, d) => uptoBulk d + 1
 end
def uptoSmall : (H : Type) → List (DataW H) → Bool := fun _ ds => decide (uptoBulkAll ds ≤ 1048576)
def OpenSpec.upto (s : _root_.Go.ChangeSpec) : _root_.Go.OpenSpec := { _root_.Go.OpenSpec.ofChange s with cond := some uptoSmall }

/-- 'lighterlaw02.CrcSums', WHERE WHAT IT READS IS OF BULK AT MOST 1048576: true; the input reads as it did. -/
def crcSumsUptoRow : OpenClaim := { program := "ytmkbcbkgficnkaadoor", sum := "50757096f45c6867a0b9ec51cd79198ee5ac669891fc0272897165bd4b508fa5", func := "lighter/lighterlaw02.CrcSums", spec := "crcSums", named := ["lighter/crc.powers"], apart := false, laid := [("lighter/crc.powers", laid_lighter_crc_powers)], narrowed := true }
def CrcSumsUptoSaid : Prop := crcSumsUptoRow.holds Tryd.pinned (OpenSpec.upto crcSumsSpec)

/-- 'lighterlaw02.CrcJoins', WHERE WHAT IT READS IS OF BULK AT MOST 1048576: true; the input reads as it did. -/
def crcJoinsUptoRow : OpenClaim := { program := "ytmkbcbkgficnkaadoor", sum := "50757096f45c6867a0b9ec51cd79198ee5ac669891fc0272897165bd4b508fa5", func := "lighter/lighterlaw02.CrcJoins", spec := "crcJoins", named := ["lighter/crc.powers"], apart := false, laid := [("lighter/crc.powers", laid_lighter_crc_powers)], narrowed := true }
def CrcJoinsUptoSaid : Prop := crcJoinsUptoRow.holds Tryd.pinned (OpenSpec.upto crcJoinsSpec)

/-- 'lighterlaw02.CrcBursts', WHERE WHAT IT READS IS OF BULK AT MOST 1048576: true; the input reads as it did. -/
def crcBurstsUptoRow : OpenClaim := { program := "ytmkbcbkgficnkaadoor", sum := "50757096f45c6867a0b9ec51cd79198ee5ac669891fc0272897165bd4b508fa5", func := "lighter/lighterlaw02.CrcBursts", spec := "crcBursts", named := ["lighter/crc.powers"], apart := false, laid := [("lighter/crc.powers", laid_lighter_crc_powers)], narrowed := true }
def CrcBurstsUptoSaid : Prop := crcBurstsUptoRow.holds Tryd.pinned (OpenSpec.upto crcBurstsSpec)

end Rows
end Go.Proofs.YtmkbcbkgficnkaaDoor

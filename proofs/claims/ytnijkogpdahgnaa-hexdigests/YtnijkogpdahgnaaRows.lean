/-
  No cell of these rows narrows 'for every input' (looked for: loops, veiled, ifaces, maps, wideKeys, modest, calm, conditions, laid).
  DERIVED. THE GIVEN ROWS OF THIS SEAT. 6 by the template 'for every input the law returns true; each argument reads behind the call as it read before'; 0 by the template 'total and deterministic' (their statements: YtnijkogpdahgnaaTotals.lean).
  GIVEN WITH THE SEED: the statements are not yours to turn. If you find one false, say at which input.
  Laid BY PROGRAM, IN A SANDBOX (cutbox-rows.mjs): the forced cells as the released guide's own fill.sh prints them over the translation 7ecabc54f18b0db2… (all of the seat's roots in one cut). By AI agents, Wed Nov 11 2026. No macro, syntax, notation, axiom, sorry.
-/
import Derived.Test.YtnijkogpdahgnaaChecked
import GoSem.Claim
import GoSem.ClaimJoined
import GoSem.ClaimMapViews
import Derived.JoinedTies
import Derived.KernelRfl
namespace Go.Proofs.Ytnijkogpdahgnaa
/- THE CELL 'sum', in the pinned program and in every row, IS THE sha256 OF THE DUMP (.gsa) THAT YtnijkogpdahgnaaProg.lean LOADS. Nothing in Lean hashes anything: it is a label: what it is worth is what the hold of that sum in a sandbox is worth. -/
noncomputable def Try.pinned : Pinned := { name := "ytnijkogpdahgnaa", sum := "7ecabc54f18b0db2c948bb4b6cfb056c7e43f5e6eb55b5bd18b0dd05209c33e2", checked := Try.checked }
namespace Rows
def none {H : Type} : Left H := { results := [], args := [] }

/-- 'appleloftlaw.HexTexts': WHATEVER THE INPUT: true; the input reads as it did. -/
def hexTextsSpec : ChangeSpec := { name := "hexTexts", fn := fun _ => fun
  | [d1, d2] => { results := [.lit (.bool true)], args := [d1, d2] }
  | _ => none }
def hexTextsRow : OpenClaim := { program := "ytnijkogpdahgnaa", sum := "7ecabc54f18b0db2c948bb4b6cfb056c7e43f5e6eb55b5bd18b0dd05209c33e2", func := "appleloft/appleloftlaw.HexTexts", spec := "hexTexts", inPlace := ["internal/bytealg.IndexByteString"], apart := false }
def HexTextsSaid : Prop := hexTextsRow.holds Try.pinned (OpenSpec.ofChange hexTextsSpec)

/-- ITS FALSE NEIGHBOUR: 'it returns false'. Refute it at one input. -/
def hexTextsWrong : ChangeSpec := { name := "hexTexts", fn := fun _ => fun
  | [d1, d2] => { results := [.lit (.bool false)], args := [d1, d2] }
  | _ => none }
def HexTextsWrongFalsely : Prop := hexTextsRow.holds Try.pinned (OpenSpec.ofChange hexTextsWrong)

/-- 'appleloftlaw.HexChecks': WHATEVER THE INPUT: true; the input reads as it did. -/
def hexChecksSpec : ChangeSpec := { name := "hexChecks", fn := fun _ => fun
  | [d] => { results := [.lit (.bool true)], args := [d] }
  | _ => none }
def hexChecksRow : OpenClaim := { program := "ytnijkogpdahgnaa", sum := "7ecabc54f18b0db2c948bb4b6cfb056c7e43f5e6eb55b5bd18b0dd05209c33e2", func := "appleloft/appleloftlaw.HexChecks", spec := "hexChecks", inPlace := ["internal/bytealg.IndexByteString"], apart := false }
def HexChecksSaid : Prop := hexChecksRow.holds Try.pinned (OpenSpec.ofChange hexChecksSpec)

/-- ITS FALSE NEIGHBOUR: 'it returns false'. Refute it at one input. -/
def hexChecksWrong : ChangeSpec := { name := "hexChecks", fn := fun _ => fun
  | [d] => { results := [.lit (.bool false)], args := [d] }
  | _ => none }
def HexChecksWrongFalsely : Prop := hexChecksRow.holds Try.pinned (OpenSpec.ofChange hexChecksWrong)

/-- 'appleloftkeep.HexBack': WHATEVER THE INPUT: true; the input reads as it did. -/
def hexBackSpec : ChangeSpec := { name := "hexBack", fn := fun _ => fun
  | [d] => { results := [.lit (.bool true)], args := [d] }
  | _ => none }
def hexBackRow : OpenClaim := { program := "ytnijkogpdahgnaa", sum := "7ecabc54f18b0db2c948bb4b6cfb056c7e43f5e6eb55b5bd18b0dd05209c33e2", func := "appleloft/appleloftkeep.HexBack", spec := "hexBack", apart := false }
def HexBackSaid : Prop := hexBackRow.holds Try.pinned (OpenSpec.ofChange hexBackSpec)

/-- ITS FALSE NEIGHBOUR: 'it returns false'. Refute it at one input. -/
def hexBackWrong : ChangeSpec := { name := "hexBack", fn := fun _ => fun
  | [d] => { results := [.lit (.bool false)], args := [d] }
  | _ => none }
def HexBackWrongFalsely : Prop := hexBackRow.holds Try.pinned (OpenSpec.ofChange hexBackWrong)

/-- 'appleloftkeep.HexTurns': WHATEVER THE INPUT: true; the input reads as it did. -/
def hexTurnsSpec : ChangeSpec := { name := "hexTurns", fn := fun _ => fun
  | [d] => { results := [.lit (.bool true)], args := [d] }
  | _ => none }
def hexTurnsRow : OpenClaim := { program := "ytnijkogpdahgnaa", sum := "7ecabc54f18b0db2c948bb4b6cfb056c7e43f5e6eb55b5bd18b0dd05209c33e2", func := "appleloft/appleloftkeep.HexTurns", spec := "hexTurns", apart := false }
def HexTurnsSaid : Prop := hexTurnsRow.holds Try.pinned (OpenSpec.ofChange hexTurnsSpec)

/-- ITS FALSE NEIGHBOUR: 'it returns false'. Refute it at one input. -/
def hexTurnsWrong : ChangeSpec := { name := "hexTurns", fn := fun _ => fun
  | [d] => { results := [.lit (.bool false)], args := [d] }
  | _ => none }
def HexTurnsWrongFalsely : Prop := hexTurnsRow.holds Try.pinned (OpenSpec.ofChange hexTurnsWrong)

/-- 'appleloftkeep.HexOrdered': WHATEVER THE INPUT: true; the input reads as it did. -/
def hexOrderedSpec : ChangeSpec := { name := "hexOrdered", fn := fun _ => fun
  | [d1, d2] => { results := [.lit (.bool true)], args := [d1, d2] }
  | _ => none }
def hexOrderedRow : OpenClaim := { program := "ytnijkogpdahgnaa", sum := "7ecabc54f18b0db2c948bb4b6cfb056c7e43f5e6eb55b5bd18b0dd05209c33e2", func := "appleloft/appleloftkeep.HexOrdered", spec := "hexOrdered", inPlace := ["internal/bytealg.abigen_runtime_cmpstring"], apart := false }
def HexOrderedSaid : Prop := hexOrderedRow.holds Try.pinned (OpenSpec.ofChange hexOrderedSpec)

/-- ITS FALSE NEIGHBOUR: 'it returns false'. Refute it at one input. -/
def hexOrderedWrong : ChangeSpec := { name := "hexOrdered", fn := fun _ => fun
  | [d1, d2] => { results := [.lit (.bool false)], args := [d1, d2] }
  | _ => none }
def HexOrderedWrongFalsely : Prop := hexOrderedRow.holds Try.pinned (OpenSpec.ofChange hexOrderedWrong)

/-- 'appleloftkeep.HexDigests': WHATEVER THE INPUT: true; the input reads as it did. -/
def hexDigestsSpec : ChangeSpec := { name := "hexDigests", fn := fun _ => fun
  | [d] => { results := [.lit (.bool true)], args := [d] }
  | _ => none }
def hexDigestsRow : OpenClaim := { program := "ytnijkogpdahgnaa", sum := "7ecabc54f18b0db2c948bb4b6cfb056c7e43f5e6eb55b5bd18b0dd05209c33e2", func := "appleloft/appleloftkeep.HexDigests", spec := "hexDigests", inPlace := ["internal/abi.NoEscape", "internal/bytealg.MakeNoZero"], apart := false }
def HexDigestsSaid : Prop := hexDigestsRow.holds Try.pinned (OpenSpec.ofChange hexDigestsSpec)

/-- ITS FALSE NEIGHBOUR: 'it returns false'. Refute it at one input. -/
def hexDigestsWrong : ChangeSpec := { name := "hexDigests", fn := fun _ => fun
  | [d] => { results := [.lit (.bool false)], args := [d] }
  | _ => none }
def HexDigestsWrongFalsely : Prop := hexDigestsRow.holds Try.pinned (OpenSpec.ofChange hexDigestsWrong)

/- THE SECOND FORM. 'bulk': how many values and letters a reading holds, each counted each time it is reached (what is shared counts as often as it is met; a slice's spare places count too). A statement '..UptoSaid' is the law's where the arguments, and the package variables that the reading takes, are together of bulk at most 1048576: NARROWER than '..Said'. Prove '..Said' where nothing that the law and all that it calls make is longer than what came in: it says more and counts as full. Else prove '..UptoSaid'. A law counts once. -/
mutual
def uptoBulk {H : Type} : DataW H → Nat
  | .lit (.string bytes) => bytes.length + 1
  | .lit _ => 1
  | .nil => 1
  | .ptr d => uptoBulk d + 1
  | .slice elems spare => uptoBulkAll elems + uptoBulkAll spare + 1
  | .agg parts => uptoBulkAll parts + 1
  | .iface _ d => uptoBulk d + 1
  | .map entries => uptoBulkEntries entries + 1
  | .held _ => 1
def uptoBulkAll {H : Type} : List (DataW H) → Nat
  | [] => 0
  | d :: r => uptoBulk d + uptoBulkAll r
def uptoBulkEntries {H : Type} : List (Lit × DataW H) → Nat
  | [] => 0
  | x :: r => uptoBulkEntry x + uptoBulkEntries r
def uptoBulkEntry {H : Type} : Lit × DataW H → Nat
  | (.string bytes, d) => bytes.length + uptoBulk d + 1
  | (_, d) => uptoBulk d + 1
 end
def uptoSmall : (H : Type) → List (DataW H) → Bool := fun _ ds => decide (uptoBulkAll ds ≤ 1048576)
def OpenSpec.upto (s : _root_.Go.ChangeSpec) : _root_.Go.OpenSpec := { _root_.Go.OpenSpec.ofChange s with cond := some uptoSmall }

/-- 'appleloftlaw.HexTexts', WHERE WHAT IT READS IS OF BULK AT MOST 1048576: true; the input reads as it did. -/
def hexTextsUptoRow : OpenClaim := { program := "ytnijkogpdahgnaa", sum := "7ecabc54f18b0db2c948bb4b6cfb056c7e43f5e6eb55b5bd18b0dd05209c33e2", func := "appleloft/appleloftlaw.HexTexts", spec := "hexTexts", inPlace := ["internal/bytealg.IndexByteString"], apart := false, narrowed := true }
def HexTextsUptoSaid : Prop := hexTextsUptoRow.holds Try.pinned (OpenSpec.upto hexTextsSpec)

/-- 'appleloftlaw.HexChecks', WHERE WHAT IT READS IS OF BULK AT MOST 1048576: true; the input reads as it did. -/
def hexChecksUptoRow : OpenClaim := { program := "ytnijkogpdahgnaa", sum := "7ecabc54f18b0db2c948bb4b6cfb056c7e43f5e6eb55b5bd18b0dd05209c33e2", func := "appleloft/appleloftlaw.HexChecks", spec := "hexChecks", inPlace := ["internal/bytealg.IndexByteString"], apart := false, narrowed := true }
def HexChecksUptoSaid : Prop := hexChecksUptoRow.holds Try.pinned (OpenSpec.upto hexChecksSpec)

/-- 'appleloftkeep.HexBack', WHERE WHAT IT READS IS OF BULK AT MOST 1048576: true; the input reads as it did. -/
def hexBackUptoRow : OpenClaim := { program := "ytnijkogpdahgnaa", sum := "7ecabc54f18b0db2c948bb4b6cfb056c7e43f5e6eb55b5bd18b0dd05209c33e2", func := "appleloft/appleloftkeep.HexBack", spec := "hexBack", apart := false, narrowed := true }
def HexBackUptoSaid : Prop := hexBackUptoRow.holds Try.pinned (OpenSpec.upto hexBackSpec)

/-- 'appleloftkeep.HexTurns', WHERE WHAT IT READS IS OF BULK AT MOST 1048576: true; the input reads as it did. -/
def hexTurnsUptoRow : OpenClaim := { program := "ytnijkogpdahgnaa", sum := "7ecabc54f18b0db2c948bb4b6cfb056c7e43f5e6eb55b5bd18b0dd05209c33e2", func := "appleloft/appleloftkeep.HexTurns", spec := "hexTurns", apart := false, narrowed := true }
def HexTurnsUptoSaid : Prop := hexTurnsUptoRow.holds Try.pinned (OpenSpec.upto hexTurnsSpec)

/-- 'appleloftkeep.HexOrdered', WHERE WHAT IT READS IS OF BULK AT MOST 1048576: true; the input reads as it did. -/
def hexOrderedUptoRow : OpenClaim := { program := "ytnijkogpdahgnaa", sum := "7ecabc54f18b0db2c948bb4b6cfb056c7e43f5e6eb55b5bd18b0dd05209c33e2", func := "appleloft/appleloftkeep.HexOrdered", spec := "hexOrdered", inPlace := ["internal/bytealg.abigen_runtime_cmpstring"], apart := false, narrowed := true }
def HexOrderedUptoSaid : Prop := hexOrderedUptoRow.holds Try.pinned (OpenSpec.upto hexOrderedSpec)

/-- 'appleloftkeep.HexDigests', WHERE WHAT IT READS IS OF BULK AT MOST 1048576: true; the input reads as it did. -/
def hexDigestsUptoRow : OpenClaim := { program := "ytnijkogpdahgnaa", sum := "7ecabc54f18b0db2c948bb4b6cfb056c7e43f5e6eb55b5bd18b0dd05209c33e2", func := "appleloft/appleloftkeep.HexDigests", spec := "hexDigests", inPlace := ["internal/abi.NoEscape", "internal/bytealg.MakeNoZero"], apart := false, narrowed := true }
def HexDigestsUptoSaid : Prop := hexDigestsUptoRow.holds Try.pinned (OpenSpec.upto hexDigestsSpec)

end Rows
end Go.Proofs.Ytnijkogpdahgnaa

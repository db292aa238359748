/-
  No cell of these rows narrows 'for every input' (looked for: loops, veiled, ifaces, maps, wideKeys, modest, calm, conditions, laid).
  DERIVED. THE GIVEN ROWS OF THIS SEAT. 8 by the template 'for every input the law returns true; each argument reads behind the call as it read before'; 0 by the template 'total and deterministic' (their statements: YtaaeihkbnfcolaaTotals.lean).
  GIVEN WITH THE SEED: the statements are not yours to turn. If you find one false, say at which input.
  Laid BY PROGRAM, IN A SANDBOX (cutbox-rows.mjs): the forced cells as the released guide's own fill.sh prints them over the translation 7629f2380170f113… (all of the seat's roots in one cut). By AI agents, Wed Nov 11 2026. No macro, syntax, notation, axiom, sorry.
-/
import Derived.Test.YtaaeihkbnfcolaaChecked
import GoSem.Claim
import GoSem.ClaimJoined
import GoSem.ClaimMapViews
import Derived.JoinedTies
import Derived.KernelRfl
namespace Go.Proofs.Ytaaeihkbnfcolaa
/- THE CELL 'sum', in the pinned program and in every row, IS THE sha256 OF THE DUMP (.gsa) THAT YtaaeihkbnfcolaaProg.lean LOADS. Nothing in Lean hashes anything: it is a label: what it is worth is what the hold of that sum in a sandbox is worth. -/
noncomputable def Try.pinned : Pinned := { name := "ytaaeihkbnfcolaa", sum := "7629f2380170f1131180da94d158c9cd02a03664783de92c2da681e593c4cd17", checked := Try.checked }
namespace Rows
def none {H : Type} : Left H := { results := [], args := [] }

/-- 'appleloftlaw.ManifestChecks': WHATEVER THE INPUT: true; the input reads as it did. -/
def manifestChecksSpec : ChangeSpec := { name := "manifestChecks", fn := fun _ => fun
  | [d1, d2] => { results := [.lit (.bool true)], args := [d1, d2] }
  | _ => none }
def manifestChecksRow : OpenClaim := { program := "ytaaeihkbnfcolaa", sum := "7629f2380170f1131180da94d158c9cd02a03664783de92c2da681e593c4cd17", func := "appleloft/appleloftlaw.ManifestChecks", spec := "manifestChecks", inPlace := ["internal/bytealg.IndexByteString"], apart := false }
def ManifestChecksSaid : Prop := manifestChecksRow.holds Try.pinned (OpenSpec.ofChange manifestChecksSpec)

/-- ITS FALSE NEIGHBOUR: 'it returns false'. Refute it at one input. -/
def manifestChecksWrong : ChangeSpec := { name := "manifestChecks", fn := fun _ => fun
  | [d1, d2] => { results := [.lit (.bool false)], args := [d1, d2] }
  | _ => none }
def ManifestChecksWrongFalsely : Prop := manifestChecksRow.holds Try.pinned (OpenSpec.ofChange manifestChecksWrong)

/-- 'appleloftlaw.ManifestEncodes': WHATEVER THE INPUT: true; the input reads as it did. -/
def manifestEncodesSpec : ChangeSpec := { name := "manifestEncodes", fn := fun _ => fun
  | [d] => { results := [.lit (.bool true)], args := [d] }
  | _ => none }
def manifestEncodesRow : OpenClaim := { program := "ytaaeihkbnfcolaa", sum := "7629f2380170f1131180da94d158c9cd02a03664783de92c2da681e593c4cd17", func := "appleloft/appleloftlaw.ManifestEncodes", spec := "manifestEncodes", inPlace := ["internal/bytealg.IndexByteString"], apart := false }
def ManifestEncodesSaid : Prop := manifestEncodesRow.holds Try.pinned (OpenSpec.ofChange manifestEncodesSpec)

/-- ITS FALSE NEIGHBOUR: 'it returns false'. Refute it at one input. -/
def manifestEncodesWrong : ChangeSpec := { name := "manifestEncodes", fn := fun _ => fun
  | [d] => { results := [.lit (.bool false)], args := [d] }
  | _ => none }
def ManifestEncodesWrongFalsely : Prop := manifestEncodesRow.holds Try.pinned (OpenSpec.ofChange manifestEncodesWrong)

/-- 'appleloftlaw.ManifestDecodes': WHATEVER THE INPUT: true; the input reads as it did. -/
def manifestDecodesSpec : ChangeSpec := { name := "manifestDecodes", fn := fun _ => fun
  | [d] => { results := [.lit (.bool true)], args := [d] }
  | _ => none }
def manifestDecodesRow : OpenClaim := { program := "ytaaeihkbnfcolaa", sum := "7629f2380170f1131180da94d158c9cd02a03664783de92c2da681e593c4cd17", func := "appleloft/appleloftlaw.ManifestDecodes", spec := "manifestDecodes", inPlace := ["internal/bytealg.IndexByteString"], apart := false }
def ManifestDecodesSaid : Prop := manifestDecodesRow.holds Try.pinned (OpenSpec.ofChange manifestDecodesSpec)

/-- ITS FALSE NEIGHBOUR: 'it returns false'. Refute it at one input. -/
def manifestDecodesWrong : ChangeSpec := { name := "manifestDecodes", fn := fun _ => fun
  | [d] => { results := [.lit (.bool false)], args := [d] }
  | _ => none }
def ManifestDecodesWrongFalsely : Prop := manifestDecodesRow.holds Try.pinned (OpenSpec.ofChange manifestDecodesWrong)

/-- 'appleloftkeep.ManifestBack': WHATEVER THE INPUT: true; the input reads as it did. -/
def manifestBackSpec : ChangeSpec := { name := "manifestBack", fn := fun _ => fun
  | [d] => { results := [.lit (.bool true)], args := [d] }
  | _ => none }
def manifestBackRow : OpenClaim := { program := "ytaaeihkbnfcolaa", sum := "7629f2380170f1131180da94d158c9cd02a03664783de92c2da681e593c4cd17", func := "appleloft/appleloftkeep.ManifestBack", spec := "manifestBack", inPlace := ["internal/bytealg.IndexByteString"], apart := false }
def ManifestBackSaid : Prop := manifestBackRow.holds Try.pinned (OpenSpec.ofChange manifestBackSpec)

/-- ITS FALSE NEIGHBOUR: 'it returns false'. Refute it at one input. -/
def manifestBackWrong : ChangeSpec := { name := "manifestBack", fn := fun _ => fun
  | [d] => { results := [.lit (.bool false)], args := [d] }
  | _ => none }
def ManifestBackWrongFalsely : Prop := manifestBackRow.holds Try.pinned (OpenSpec.ofChange manifestBackWrong)

/-- 'appleloftkeep.ManifestTorn': WHATEVER THE INPUT: true; the input reads as it did. -/
def manifestTornSpec : ChangeSpec := { name := "manifestTorn", fn := fun _ => fun
  | [d1, d2, d3] => { results := [.lit (.bool true)], args := [d1, d2, d3] }
  | _ => none }
def manifestTornRow : OpenClaim := { program := "ytaaeihkbnfcolaa", sum := "7629f2380170f1131180da94d158c9cd02a03664783de92c2da681e593c4cd17", func := "appleloft/appleloftkeep.ManifestTorn", spec := "manifestTorn", apart := false }
def ManifestTornSaid : Prop := manifestTornRow.holds Try.pinned (OpenSpec.ofChange manifestTornSpec)

/-- ITS FALSE NEIGHBOUR: 'it returns false'. Refute it at one input. -/
def manifestTornWrong : ChangeSpec := { name := "manifestTorn", fn := fun _ => fun
  | [d1, d2, d3] => { results := [.lit (.bool false)], args := [d1, d2, d3] }
  | _ => none }
def ManifestTornWrongFalsely : Prop := manifestTornRow.holds Try.pinned (OpenSpec.ofChange manifestTornWrong)

/-- 'appleloftkeep.ManifestTurns': WHATEVER THE INPUT: true; the input reads as it did. -/
def manifestTurnsSpec : ChangeSpec := { name := "manifestTurns", fn := fun _ => fun
  | [d1, d2, d3] => { results := [.lit (.bool true)], args := [d1, d2, d3] }
  | _ => none }
def manifestTurnsRow : OpenClaim := { program := "ytaaeihkbnfcolaa", sum := "7629f2380170f1131180da94d158c9cd02a03664783de92c2da681e593c4cd17", func := "appleloft/appleloftkeep.ManifestTurns", spec := "manifestTurns", apart := false }
def ManifestTurnsSaid : Prop := manifestTurnsRow.holds Try.pinned (OpenSpec.ofChange manifestTurnsSpec)

/-- ITS FALSE NEIGHBOUR: 'it returns false'. Refute it at one input. -/
def manifestTurnsWrong : ChangeSpec := { name := "manifestTurns", fn := fun _ => fun
  | [d1, d2, d3] => { results := [.lit (.bool false)], args := [d1, d2, d3] }
  | _ => none }
def ManifestTurnsWrongFalsely : Prop := manifestTurnsRow.holds Try.pinned (OpenSpec.ofChange manifestTurnsWrong)

/-- 'appleloftkeep.ManifestRises': WHATEVER THE INPUT: true; the input reads as it did. -/
def manifestRisesSpec : ChangeSpec := { name := "manifestRises", fn := fun _ => fun
  | [d1, d2, d3] => { results := [.lit (.bool true)], args := [d1, d2, d3] }
  | _ => none }
def manifestRisesRow : OpenClaim := { program := "ytaaeihkbnfcolaa", sum := "7629f2380170f1131180da94d158c9cd02a03664783de92c2da681e593c4cd17", func := "appleloft/appleloftkeep.ManifestRises", spec := "manifestRises", apart := false }
def ManifestRisesSaid : Prop := manifestRisesRow.holds Try.pinned (OpenSpec.ofChange manifestRisesSpec)

/-- ITS FALSE NEIGHBOUR: 'it returns false'. Refute it at one input. -/
def manifestRisesWrong : ChangeSpec := { name := "manifestRises", fn := fun _ => fun
  | [d1, d2, d3] => { results := [.lit (.bool false)], args := [d1, d2, d3] }
  | _ => none }
def ManifestRisesWrongFalsely : Prop := manifestRisesRow.holds Try.pinned (OpenSpec.ofChange manifestRisesWrong)

/-- 'appleloftkeep.ManifestLong': WHATEVER THE INPUT: true; the input reads as it did. -/
def manifestLongSpec : ChangeSpec := { name := "manifestLong", fn := fun _ => fun
  | [d1, d2] => { results := [.lit (.bool true)], args := [d1, d2] }
  | _ => none }
def manifestLongRow : OpenClaim := { program := "ytaaeihkbnfcolaa", sum := "7629f2380170f1131180da94d158c9cd02a03664783de92c2da681e593c4cd17", func := "appleloft/appleloftkeep.ManifestLong", spec := "manifestLong", apart := false }
def ManifestLongSaid : Prop := manifestLongRow.holds Try.pinned (OpenSpec.ofChange manifestLongSpec)

/-- ITS FALSE NEIGHBOUR: 'it returns false'. Refute it at one input. -/
def manifestLongWrong : ChangeSpec := { name := "manifestLong", fn := fun _ => fun
  | [d1, d2] => { results := [.lit (.bool false)], args := [d1, d2] }
  | _ => none }
def ManifestLongWrongFalsely : Prop := manifestLongRow.holds Try.pinned (OpenSpec.ofChange manifestLongWrong)

/- THE SECOND FORM. 'bulk': how many values and letters a reading holds, each counted each time it is reached (what is shared counts as often as it is met; a slice's spare places count too). A statement '..UptoSaid' is the law's where the arguments, and the package variables that the reading takes, are together of bulk at most 1048576: NARROWER than '..Said'. Prove '..Said' where nothing that the law and all that it calls make is longer than what came in: it says more and counts as full. Else prove '..UptoSaid'. A law counts once. -/
mutual
def uptoBulk {H : Type} : DataW H → Nat
  | .lit (.string bytes) => bytes.length + 1
  | .lit _ => 1
  | .nil => 1
  | .ptr d => uptoBulk d + 1
  | .slice elems spare => uptoBulkAll elems + uptoBulkAll spare + 1
  | .agg parts => uptoBulkAll parts + 1
  | .iface _ d => uptoBulk d + 1
  | .map entries => uptoBulkEntries entries + 1
  | .held _ => 1
def uptoBulkAll {H : Type} : List (DataW H) → Nat
  | [] => 0
  | d :: r => uptoBulk d + uptoBulkAll r
def uptoBulkEntries {H : Type} : List (Lit × DataW H) → Nat
  | [] => 0
  | x :: r => uptoBulkEntry x + uptoBulkEntries r
def uptoBulkEntry {H : Type} : Lit × DataW H → Nat
  | (.string bytes, d) => bytes.length + uptoBulk d + 1
  | (_, d) => uptoBulk d + 1
 end
def uptoSmall : (H : Type) → List (DataW H) → Bool := fun _ ds => decide (uptoBulkAll ds ≤ 1048576)
def OpenSpec.upto (s : _root_.Go.ChangeSpec) : _root_.Go.OpenSpec := { _root_.Go.OpenSpec.ofChange s with cond := some uptoSmall }

/-- 'appleloftlaw.ManifestChecks', WHERE WHAT IT READS IS OF BULK AT MOST 1048576: true; the input reads as it did. -/
def manifestChecksUptoRow : OpenClaim := { program := "ytaaeihkbnfcolaa", sum := "7629f2380170f1131180da94d158c9cd02a03664783de92c2da681e593c4cd17", func := "appleloft/appleloftlaw.ManifestChecks", spec := "manifestChecks", inPlace := ["internal/bytealg.IndexByteString"], apart := false, narrowed := true }
def ManifestChecksUptoSaid : Prop := manifestChecksUptoRow.holds Try.pinned (OpenSpec.upto manifestChecksSpec)

/-- 'appleloftlaw.ManifestEncodes', WHERE WHAT IT READS IS OF BULK AT MOST 1048576: true; the input reads as it did. -/
def manifestEncodesUptoRow : OpenClaim := { program := "ytaaeihkbnfcolaa", sum := "7629f2380170f1131180da94d158c9cd02a03664783de92c2da681e593c4cd17", func := "appleloft/appleloftlaw.ManifestEncodes", spec := "manifestEncodes", inPlace := ["internal/bytealg.IndexByteString"], apart := false, narrowed := true }
def ManifestEncodesUptoSaid : Prop := manifestEncodesUptoRow.holds Try.pinned (OpenSpec.upto manifestEncodesSpec)

/-- 'appleloftlaw.ManifestDecodes', WHERE WHAT IT READS IS OF BULK AT MOST 1048576: true; the input reads as it did. -/
def manifestDecodesUptoRow : OpenClaim := { program := "ytaaeihkbnfcolaa", sum := "7629f2380170f1131180da94d158c9cd02a03664783de92c2da681e593c4cd17", func := "appleloft/appleloftlaw.ManifestDecodes", spec := "manifestDecodes", inPlace := ["internal/bytealg.IndexByteString"], apart := false, narrowed := true }
def ManifestDecodesUptoSaid : Prop := manifestDecodesUptoRow.holds Try.pinned (OpenSpec.upto manifestDecodesSpec)

/-- 'appleloftkeep.ManifestBack', WHERE WHAT IT READS IS OF BULK AT MOST 1048576: true; the input reads as it did. -/
def manifestBackUptoRow : OpenClaim := { program := "ytaaeihkbnfcolaa", sum := "7629f2380170f1131180da94d158c9cd02a03664783de92c2da681e593c4cd17", func := "appleloft/appleloftkeep.ManifestBack", spec := "manifestBack", inPlace := ["internal/bytealg.IndexByteString"], apart := false, narrowed := true }
def ManifestBackUptoSaid : Prop := manifestBackUptoRow.holds Try.pinned (OpenSpec.upto manifestBackSpec)

/-- 'appleloftkeep.ManifestTorn', WHERE WHAT IT READS IS OF BULK AT MOST 1048576: true; the input reads as it did. -/
def manifestTornUptoRow : OpenClaim := { program := "ytaaeihkbnfcolaa", sum := "7629f2380170f1131180da94d158c9cd02a03664783de92c2da681e593c4cd17", func := "appleloft/appleloftkeep.ManifestTorn", spec := "manifestTorn", apart := false, narrowed := true }
def ManifestTornUptoSaid : Prop := manifestTornUptoRow.holds Try.pinned (OpenSpec.upto manifestTornSpec)

/-- 'appleloftkeep.ManifestTurns', WHERE WHAT IT READS IS OF BULK AT MOST 1048576: true; the input reads as it did. -/
def manifestTurnsUptoRow : OpenClaim := { program := "ytaaeihkbnfcolaa", sum := "7629f2380170f1131180da94d158c9cd02a03664783de92c2da681e593c4cd17", func := "appleloft/appleloftkeep.ManifestTurns", spec := "manifestTurns", apart := false, narrowed := true }
def ManifestTurnsUptoSaid : Prop := manifestTurnsUptoRow.holds Try.pinned (OpenSpec.upto manifestTurnsSpec)

/-- 'appleloftkeep.ManifestRises', WHERE WHAT IT READS IS OF BULK AT MOST 1048576: true; the input reads as it did. -/
def manifestRisesUptoRow : OpenClaim := { program := "ytaaeihkbnfcolaa", sum := "7629f2380170f1131180da94d158c9cd02a03664783de92c2da681e593c4cd17", func := "appleloft/appleloftkeep.ManifestRises", spec := "manifestRises", apart := false, narrowed := true }
def ManifestRisesUptoSaid : Prop := manifestRisesUptoRow.holds Try.pinned (OpenSpec.upto manifestRisesSpec)

/-- 'appleloftkeep.ManifestLong', WHERE WHAT IT READS IS OF BULK AT MOST 1048576: true; the input reads as it did. -/
def manifestLongUptoRow : OpenClaim := { program := "ytaaeihkbnfcolaa", sum := "7629f2380170f1131180da94d158c9cd02a03664783de92c2da681e593c4cd17", func := "appleloft/appleloftkeep.ManifestLong", spec := "manifestLong", apart := false, narrowed := true }
def ManifestLongUptoSaid : Prop := manifestLongUptoRow.holds Try.pinned (OpenSpec.upto manifestLongSpec)

end Rows
end Go.Proofs.Ytaaeihkbnfcolaa

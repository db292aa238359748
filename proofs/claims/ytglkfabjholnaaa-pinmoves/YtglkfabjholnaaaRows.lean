/-
  No cell of these rows narrows 'for every input' (looked for: loops, veiled, ifaces, maps, wideKeys, modest, calm, conditions, laid).
  DERIVED. THE GIVEN ROWS OF THIS SEAT. 3 by the template 'for every input the law returns true; each argument reads behind the call as it read before'; 0 by the template 'total and deterministic' (their statements: YtglkfabjholnaaaTotals.lean).
  GIVEN WITH THE SEED: the statements are not yours to turn. If you find one false, say at which input.
  Laid BY PROGRAM, IN A SANDBOX (cutbox-rows.mjs): the forced cells as the released guide's own fill.sh prints them over the translation ac1168f050081590… (all of the seat's roots in one cut). By AI agents, Wed Nov 11 2026. No macro, syntax, notation, axiom, sorry.
-/
import Derived.Test.YtglkfabjholnaaaChecked
import GoSem.Claim
import GoSem.ClaimJoined
import GoSem.ClaimMapViews
import Derived.JoinedTies
import Derived.KernelRfl
namespace Go.Proofs.Ytglkfabjholnaaa
/- THE CELL 'sum', in the pinned program and in every row, IS THE sha256 OF THE DUMP (.gsa) THAT YtglkfabjholnaaaProg.lean LOADS. Nothing in Lean hashes anything: it is a label: what it is worth is what the hold of that sum in a sandbox is worth. -/
noncomputable def Try.pinned : Pinned := { name := "ytglkfabjholnaaa", sum := "ac1168f050081590a9c3776b4077a7aa7c883eac4b3d4dc8eeead9f71c3b561e", checked := Try.checked }
namespace Rows
def none {H : Type} : Left H := { results := [], args := [] }

/-- 'appleloftlaw.PinMoves': WHATEVER THE INPUT: true; the input reads as it did. -/
def pinMovesSpec : ChangeSpec := { name := "pinMoves", fn := fun _ => fun
  | [d1, d2] => { results := [.lit (.bool true)], args := [d1, d2] }
  | _ => none }
def pinMovesRow : OpenClaim := { program := "ytglkfabjholnaaa", sum := "ac1168f050081590a9c3776b4077a7aa7c883eac4b3d4dc8eeead9f71c3b561e", func := "appleloft/appleloftlaw.PinMoves", spec := "pinMoves", apart := false }
def PinMovesSaid : Prop := pinMovesRow.holds Try.pinned (OpenSpec.ofChange pinMovesSpec)

/-- ITS FALSE NEIGHBOUR: 'it returns false'. Refute it at one input. -/
def pinMovesWrong : ChangeSpec := { name := "pinMoves", fn := fun _ => fun
  | [d1, d2] => { results := [.lit (.bool false)], args := [d1, d2] }
  | _ => none }
def PinMovesWrongFalsely : Prop := pinMovesRow.holds Try.pinned (OpenSpec.ofChange pinMovesWrong)

/-- 'appleloftkeep.PinBack': WHATEVER THE INPUT: true; the input reads as it did. -/
def pinBackSpec : ChangeSpec := { name := "pinBack", fn := fun _ => fun
  | [d] => { results := [.lit (.bool true)], args := [d] }
  | _ => none }
def pinBackRow : OpenClaim := { program := "ytglkfabjholnaaa", sum := "ac1168f050081590a9c3776b4077a7aa7c883eac4b3d4dc8eeead9f71c3b561e", func := "appleloft/appleloftkeep.PinBack", spec := "pinBack", apart := false }
def PinBackSaid : Prop := pinBackRow.holds Try.pinned (OpenSpec.ofChange pinBackSpec)

/-- ITS FALSE NEIGHBOUR: 'it returns false'. Refute it at one input. -/
def pinBackWrong : ChangeSpec := { name := "pinBack", fn := fun _ => fun
  | [d] => { results := [.lit (.bool false)], args := [d] }
  | _ => none }
def PinBackWrongFalsely : Prop := pinBackRow.holds Try.pinned (OpenSpec.ofChange pinBackWrong)

/-- 'appleloftkeep.PinWalks': WHATEVER THE INPUT: true; the input reads as it did. -/
def pinWalksSpec : ChangeSpec := { name := "pinWalks", fn := fun _ => fun
  | [d] => { results := [.lit (.bool true)], args := [d] }
  | _ => none }
def pinWalksRow : OpenClaim := { program := "ytglkfabjholnaaa", sum := "ac1168f050081590a9c3776b4077a7aa7c883eac4b3d4dc8eeead9f71c3b561e", func := "appleloft/appleloftkeep.PinWalks", spec := "pinWalks", apart := false }
def PinWalksSaid : Prop := pinWalksRow.holds Try.pinned (OpenSpec.ofChange pinWalksSpec)

/-- ITS FALSE NEIGHBOUR: 'it returns false'. Refute it at one input. -/
def pinWalksWrong : ChangeSpec := { name := "pinWalks", fn := fun _ => fun
  | [d] => { results := [.lit (.bool false)], args := [d] }
  | _ => none }
def PinWalksWrongFalsely : Prop := pinWalksRow.holds Try.pinned (OpenSpec.ofChange pinWalksWrong)

/- THE SECOND FORM. 'bulk': how many values and letters a reading holds, each counted each time it is reached (what is shared counts as often as it is met; a slice's spare places count too). A statement '..UptoSaid' is the law's where the arguments, and the package variables that the reading takes, are together of bulk at most 1048576: NARROWER than '..Said'. Prove '..Said' where nothing that the law and all that it calls make is longer than what came in: it says more and counts as full. Else prove '..UptoSaid'. A law counts once. -/
mutual
def uptoBulk {H : Type} : DataW H → Nat
  | .lit (.string bytes) => bytes.length + 1
  | .lit _ => 1
  | .nil => 1
  | .ptr d => uptoBulk d + 1
  | .slice elems spare => uptoBulkAll elems + uptoBulkAll spare + 1
  | .agg parts => uptoBulkAll parts + 1
  | .iface _ d => uptoBulk d + 1
  | .map entries => uptoBulkEntries entries + 1
  | .held _ => 1
def uptoBulkAll {H : Type} : List (DataW H) → Nat
  | [] => 0
  | d :: r => uptoBulk d + uptoBulkAll r
def uptoBulkEntries {H : Type} : List (Lit × DataW H) → Nat
  | [] => 0
  | x :: r => uptoBulkEntry x + uptoBulkEntries r
def uptoBulkEntry {H : Type} : Lit × DataW H → Nat
  | (.string bytes, d) => bytes.length + uptoBulk d + 1
  | (_, d) => uptoBulk d + 1
 end
def uptoSmall : (H : Type) → List (DataW H) → Bool := fun _ ds => decide (uptoBulkAll ds ≤ 1048576)
def OpenSpec.upto (s : _root_.Go.ChangeSpec) : _root_.Go.OpenSpec := { _root_.Go.OpenSpec.ofChange s with cond := some uptoSmall }

/-- 'appleloftlaw.PinMoves', WHERE WHAT IT READS IS OF BULK AT MOST 1048576: true; the input reads as it did. -/
def pinMovesUptoRow : OpenClaim := { program := "ytglkfabjholnaaa", sum := "ac1168f050081590a9c3776b4077a7aa7c883eac4b3d4dc8eeead9f71c3b561e", func := "appleloft/appleloftlaw.PinMoves", spec := "pinMoves", apart := false, narrowed := true }
def PinMovesUptoSaid : Prop := pinMovesUptoRow.holds Try.pinned (OpenSpec.upto pinMovesSpec)

/-- 'appleloftkeep.PinBack', WHERE WHAT IT READS IS OF BULK AT MOST 1048576: true; the input reads as it did. -/
def pinBackUptoRow : OpenClaim := { program := "ytglkfabjholnaaa", sum := "ac1168f050081590a9c3776b4077a7aa7c883eac4b3d4dc8eeead9f71c3b561e", func := "appleloft/appleloftkeep.PinBack", spec := "pinBack", apart := false, narrowed := true }
def PinBackUptoSaid : Prop := pinBackUptoRow.holds Try.pinned (OpenSpec.upto pinBackSpec)

/-- 'appleloftkeep.PinWalks', WHERE WHAT IT READS IS OF BULK AT MOST 1048576: true; the input reads as it did. -/
def pinWalksUptoRow : OpenClaim := { program := "ytglkfabjholnaaa", sum := "ac1168f050081590a9c3776b4077a7aa7c883eac4b3d4dc8eeead9f71c3b561e", func := "appleloft/appleloftkeep.PinWalks", spec := "pinWalks", apart := false, narrowed := true }
def PinWalksUptoSaid : Prop := pinWalksUptoRow.holds Try.pinned (OpenSpec.upto pinWalksSpec)

end Rows
end Go.Proofs.Ytglkfabjholnaaa

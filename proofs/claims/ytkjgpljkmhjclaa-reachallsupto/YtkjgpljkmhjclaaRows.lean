/-
  No cell of these rows narrows 'for every input' (looked for: loops, veiled, ifaces, maps, wideKeys, modest, calm, conditions, laid).
  DERIVED. THE GIVEN ROWS OF THIS SEAT. 4 by the template 'for every input the law returns true; each argument reads behind the call as it read before'; 0 by the template 'total and deterministic' (their statements: YtkjgpljkmhjclaaTotals.lean).
  GIVEN WITH THE SEED: the statements are not yours to turn. If you find one false, say at which input.
  Laid BY PROGRAM, IN A SANDBOX (cutbox-rows.mjs): the forced cells as the released guide's own fill.sh prints them over the translation ed731a627dcaf462… (all of the seat's roots in one cut). By AI agents, Wed Nov 11 2026. No macro, syntax, notation, axiom, sorry.
-/
import Derived.Test.YtkjgpljkmhjclaaChecked
import GoSem.Claim
import GoSem.ClaimJoined
import GoSem.ClaimMapViews
import Derived.JoinedTies
import Derived.KernelRfl
namespace Go.Proofs.Ytkjgpljkmhjclaa
/- THE CELL 'sum', in the pinned program and in every row, IS THE sha256 OF THE DUMP (.gsa) THAT YtkjgpljkmhjclaaProg.lean LOADS. Nothing in Lean hashes anything: it is a label: what it is worth is what the hold of that sum in a sandbox is worth. -/
noncomputable def Try.pinned : Pinned := { name := "ytkjgpljkmhjclaa", sum := "ed731a627dcaf462cdbfdee3d0d590aabf315b34d6e97ecbe665b345b874e77f", checked := Try.checked }
namespace Rows
def none {H : Type} : Left H := { results := [], args := [] }

/-- 'appleloftlaw.ReachParts': WHATEVER THE INPUT: true; the input reads as it did. -/
def reachPartsSpec : ChangeSpec := { name := "reachParts", fn := fun _ => fun
  | [d] => { results := [.lit (.bool true)], args := [d] }
  | _ => none }
def reachPartsRow : OpenClaim := { program := "ytkjgpljkmhjclaa", sum := "ed731a627dcaf462cdbfdee3d0d590aabf315b34d6e97ecbe665b345b874e77f", func := "appleloft/appleloftlaw.ReachParts", spec := "reachParts", inPlace := ["internal/bytealg.IndexByteString"], apart := false }
def ReachPartsSaid : Prop := reachPartsRow.holds Try.pinned (OpenSpec.ofChange reachPartsSpec)

/-- ITS FALSE NEIGHBOUR: 'it returns false'. Refute it at one input. -/
def reachPartsWrong : ChangeSpec := { name := "reachParts", fn := fun _ => fun
  | [d] => { results := [.lit (.bool false)], args := [d] }
  | _ => none }
def ReachPartsWrongFalsely : Prop := reachPartsRow.holds Try.pinned (OpenSpec.ofChange reachPartsWrong)

/-- 'appleloftlaw.ReachComes': WHATEVER THE INPUT: true; the input reads as it did. -/
def reachComesSpec : ChangeSpec := { name := "reachComes", fn := fun _ => fun
  | [d1, d2] => { results := [.lit (.bool true)], args := [d1, d2] }
  | _ => none }
def reachComesRow : OpenClaim := { program := "ytkjgpljkmhjclaa", sum := "ed731a627dcaf462cdbfdee3d0d590aabf315b34d6e97ecbe665b345b874e77f", func := "appleloft/appleloftlaw.ReachComes", spec := "reachComes", inPlace := ["internal/bytealg.IndexByteString"], unfollowed := true, recurses := true, apart := false }
def ReachComesSaid : Prop := reachComesRow.holds Try.pinned (OpenSpec.ofChange reachComesSpec)

/-- ITS FALSE NEIGHBOUR: 'it returns false'. Refute it at one input. -/
def reachComesWrong : ChangeSpec := { name := "reachComes", fn := fun _ => fun
  | [d1, d2] => { results := [.lit (.bool false)], args := [d1, d2] }
  | _ => none }
def ReachComesWrongFalsely : Prop := reachComesRow.holds Try.pinned (OpenSpec.ofChange reachComesWrong)

/-- 'appleloftlaw.ReachAlls': WHATEVER THE INPUT: true; the input reads as it did. -/
def reachAllsSpec : ChangeSpec := { name := "reachAlls", fn := fun _ => fun
  | [d] => { results := [.lit (.bool true)], args := [d] }
  | _ => none }
def reachAllsRow : OpenClaim := { program := "ytkjgpljkmhjclaa", sum := "ed731a627dcaf462cdbfdee3d0d590aabf315b34d6e97ecbe665b345b874e77f", func := "appleloft/appleloftlaw.ReachAlls", spec := "reachAlls", inPlace := ["internal/bytealg.IndexByteString"], unfollowed := true, recurses := true, apart := false }
def ReachAllsSaid : Prop := reachAllsRow.holds Try.pinned (OpenSpec.ofChange reachAllsSpec)

/-- ITS FALSE NEIGHBOUR: 'it returns false'. Refute it at one input. -/
def reachAllsWrong : ChangeSpec := { name := "reachAlls", fn := fun _ => fun
  | [d] => { results := [.lit (.bool false)], args := [d] }
  | _ => none }
def ReachAllsWrongFalsely : Prop := reachAllsRow.holds Try.pinned (OpenSpec.ofChange reachAllsWrong)

/-- 'appleloftkeep.ReachListed': WHATEVER THE INPUT: true; the input reads as it did. -/
def reachListedSpec : ChangeSpec := { name := "reachListed", fn := fun _ => fun
  | [d1, d2] => { results := [.lit (.bool true)], args := [d1, d2] }
  | _ => none }
def reachListedRow : OpenClaim := { program := "ytkjgpljkmhjclaa", sum := "ed731a627dcaf462cdbfdee3d0d590aabf315b34d6e97ecbe665b345b874e77f", func := "appleloft/appleloftkeep.ReachListed", spec := "reachListed", inPlace := ["internal/bytealg.IndexByteString"], apart := false }
def ReachListedSaid : Prop := reachListedRow.holds Try.pinned (OpenSpec.ofChange reachListedSpec)

/-- ITS FALSE NEIGHBOUR: 'it returns false'. Refute it at one input. -/
def reachListedWrong : ChangeSpec := { name := "reachListed", fn := fun _ => fun
  | [d1, d2] => { results := [.lit (.bool false)], args := [d1, d2] }
  | _ => none }
def ReachListedWrongFalsely : Prop := reachListedRow.holds Try.pinned (OpenSpec.ofChange reachListedWrong)

/- THE SECOND FORM. 'bulk': how many values and letters a reading holds, each counted each time it is reached (what is shared counts as often as it is met; a slice's spare places count too). A statement '..UptoSaid' is the law's where the arguments, and the package variables that the reading takes, are together of bulk at most 1048576: NARROWER than '..Said'. Prove '..Said' where nothing that the law and all that it calls make is longer than what came in: it says more and counts as full. Else prove '..UptoSaid'. A law counts once. -/
mutual
def uptoBulk {H : Type} : DataW H → Nat
  | .lit (.string bytes) => bytes.length + 1
  | .lit _ => 1
  | .nil => 1
  | .ptr d => uptoBulk d + 1
  | .slice elems spare => uptoBulkAll elems + uptoBulkAll spare + 1
  | .agg parts => uptoBulkAll parts + 1
  | .iface _ d => uptoBulk d + 1
  | .map entries => uptoBulkEntries entries + 1
  | .held _ => 1
def uptoBulkAll {H : Type} : List (DataW H) → Nat
  | [] => 0
  | d :: r => uptoBulk d + uptoBulkAll r
def uptoBulkEntries {H : Type} : List (Lit × DataW H) → Nat
  | [] => 0
  | x :: r => uptoBulkEntry x + uptoBulkEntries r
def uptoBulkEntry {H : Type} : Lit × DataW H → Nat
  | (.string bytes, d) => bytes.length + uptoBulk d + 1
  | (_, d) => uptoBulk d + 1
 end
def uptoSmall : (H : Type) → List (DataW H) → Bool := fun _ ds => decide (uptoBulkAll ds ≤ 1048576)
def OpenSpec.upto (s : _root_.Go.ChangeSpec) : _root_.Go.OpenSpec := { _root_.Go.OpenSpec.ofChange s with cond := some uptoSmall }

/-- 'appleloftlaw.ReachParts', WHERE WHAT IT READS IS OF BULK AT MOST 1048576: true; the input reads as it did. -/
def reachPartsUptoRow : OpenClaim := { program := "ytkjgpljkmhjclaa", sum := "ed731a627dcaf462cdbfdee3d0d590aabf315b34d6e97ecbe665b345b874e77f", func := "appleloft/appleloftlaw.ReachParts", spec := "reachParts", inPlace := ["internal/bytealg.IndexByteString"], apart := false, narrowed := true }
def ReachPartsUptoSaid : Prop := reachPartsUptoRow.holds Try.pinned (OpenSpec.upto reachPartsSpec)

/-- 'appleloftlaw.ReachComes', WHERE WHAT IT READS IS OF BULK AT MOST 1048576: true; the input reads as it did. -/
def reachComesUptoRow : OpenClaim := { program := "ytkjgpljkmhjclaa", sum := "ed731a627dcaf462cdbfdee3d0d590aabf315b34d6e97ecbe665b345b874e77f", func := "appleloft/appleloftlaw.ReachComes", spec := "reachComes", inPlace := ["internal/bytealg.IndexByteString"], unfollowed := true, recurses := true, apart := false, narrowed := true }
def ReachComesUptoSaid : Prop := reachComesUptoRow.holds Try.pinned (OpenSpec.upto reachComesSpec)

/-- 'appleloftlaw.ReachAlls', WHERE WHAT IT READS IS OF BULK AT MOST 1048576: true; the input reads as it did. -/
def reachAllsUptoRow : OpenClaim := { program := "ytkjgpljkmhjclaa", sum := "ed731a627dcaf462cdbfdee3d0d590aabf315b34d6e97ecbe665b345b874e77f", func := "appleloft/appleloftlaw.ReachAlls", spec := "reachAlls", inPlace := ["internal/bytealg.IndexByteString"], unfollowed := true, recurses := true, apart := false, narrowed := true }
def ReachAllsUptoSaid : Prop := reachAllsUptoRow.holds Try.pinned (OpenSpec.upto reachAllsSpec)

/-- 'appleloftkeep.ReachListed', WHERE WHAT IT READS IS OF BULK AT MOST 1048576: true; the input reads as it did. -/
def reachListedUptoRow : OpenClaim := { program := "ytkjgpljkmhjclaa", sum := "ed731a627dcaf462cdbfdee3d0d590aabf315b34d6e97ecbe665b345b874e77f", func := "appleloft/appleloftkeep.ReachListed", spec := "reachListed", inPlace := ["internal/bytealg.IndexByteString"], apart := false, narrowed := true }
def ReachListedUptoSaid : Prop := reachListedUptoRow.holds Try.pinned (OpenSpec.upto reachListedSpec)

end Rows
end Go.Proofs.Ytkjgpljkmhjclaa

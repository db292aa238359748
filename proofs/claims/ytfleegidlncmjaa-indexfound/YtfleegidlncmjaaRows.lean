/-
  No cell of these rows narrows 'for every input' (looked for: loops, veiled, ifaces, maps, wideKeys, modest, calm, conditions, laid).
  DERIVED. THE GIVEN ROWS OF THIS SEAT. 8 by the template 'for every input the law returns true; each argument reads behind the call as it read before'; 0 by the template 'total and deterministic' (their statements: YtfleegidlncmjaaTotals.lean).
  GIVEN WITH THE SEED: the statements are not yours to turn. If you find one false, say at which input.
  Laid BY PROGRAM, IN A SANDBOX (cutbox-rows.mjs): the forced cells as the released guide's own fill.sh prints them over the translation c36342ebd106e787… (all of the seat's roots in one cut). By AI agents, Wed Nov 11 2026. No macro, syntax, notation, axiom, sorry.
-/
import Derived.Test.YtfleegidlncmjaaChecked
import GoSem.Claim
import GoSem.ClaimJoined
import GoSem.ClaimMapViews
import Derived.JoinedTies
import Derived.KernelRfl
namespace Go.Proofs.Ytfleegidlncmjaa
/- THE CELL 'sum', in the pinned program and in every row, IS THE sha256 OF THE DUMP (.gsa) THAT YtfleegidlncmjaaProg.lean LOADS. Nothing in Lean hashes anything: it is a label: what it is worth is what the hold of that sum in a sandbox is worth. -/
noncomputable def Try.pinned : Pinned := { name := "ytfleegidlncmjaa", sum := "c36342ebd106e787ea410aa1fac3c61c99646aacab6304d80fdbfae5eb455b1b", checked := Try.checked }
namespace Rows
def none {H : Type} : Left H := { results := [], args := [] }

/-- 'appleloftlaw.IndexChecks': WHATEVER THE INPUT: true; the input reads as it did. -/
def indexChecksSpec : ChangeSpec := { name := "indexChecks", fn := fun _ => fun
  | [d] => { results := [.lit (.bool true)], args := [d] }
  | _ => none }
def indexChecksRow : OpenClaim := { program := "ytfleegidlncmjaa", sum := "c36342ebd106e787ea410aa1fac3c61c99646aacab6304d80fdbfae5eb455b1b", func := "appleloft/appleloftlaw.IndexChecks", spec := "indexChecks", inPlace := ["internal/bytealg.IndexByteString"], apart := false }
def IndexChecksSaid : Prop := indexChecksRow.holds Try.pinned (OpenSpec.ofChange indexChecksSpec)

/-- ITS FALSE NEIGHBOUR: 'it returns false'. Refute it at one input. -/
def indexChecksWrong : ChangeSpec := { name := "indexChecks", fn := fun _ => fun
  | [d] => { results := [.lit (.bool false)], args := [d] }
  | _ => none }
def IndexChecksWrongFalsely : Prop := indexChecksRow.holds Try.pinned (OpenSpec.ofChange indexChecksWrong)

/-- 'appleloftlaw.IndexPuts': WHATEVER THE INPUT: true; the input reads as it did. -/
def indexPutsSpec : ChangeSpec := { name := "indexPuts", fn := fun _ => fun
  | [d1, d2] => { results := [.lit (.bool true)], args := [d1, d2] }
  | _ => none }
def indexPutsRow : OpenClaim := { program := "ytfleegidlncmjaa", sum := "c36342ebd106e787ea410aa1fac3c61c99646aacab6304d80fdbfae5eb455b1b", func := "appleloft/appleloftlaw.IndexPuts", spec := "indexPuts", inPlace := ["slices.overlaps[appleloft/api.Entry]", "internal/bytealg.IndexByteString"], unfollowed := true, recurses := true, apart := false }
def IndexPutsSaid : Prop := indexPutsRow.holds Try.pinned (OpenSpec.ofChange indexPutsSpec)

/-- ITS FALSE NEIGHBOUR: 'it returns false'. Refute it at one input. -/
def indexPutsWrong : ChangeSpec := { name := "indexPuts", fn := fun _ => fun
  | [d1, d2] => { results := [.lit (.bool false)], args := [d1, d2] }
  | _ => none }
def IndexPutsWrongFalsely : Prop := indexPutsRow.holds Try.pinned (OpenSpec.ofChange indexPutsWrong)

/-- 'appleloftlaw.IndexDrops': WHATEVER THE INPUT: true; the input reads as it did. -/
def indexDropsSpec : ChangeSpec := { name := "indexDrops", fn := fun _ => fun
  | [d1, d2] => { results := [.lit (.bool true)], args := [d1, d2] }
  | _ => none }
def indexDropsRow : OpenClaim := { program := "ytfleegidlncmjaa", sum := "c36342ebd106e787ea410aa1fac3c61c99646aacab6304d80fdbfae5eb455b1b", func := "appleloft/appleloftlaw.IndexDrops", spec := "indexDrops", inPlace := ["internal/bytealg.IndexByteString"], unfollowed := true, recurses := true, apart := false }
def IndexDropsSaid : Prop := indexDropsRow.holds Try.pinned (OpenSpec.ofChange indexDropsSpec)

/-- ITS FALSE NEIGHBOUR: 'it returns false'. Refute it at one input. -/
def indexDropsWrong : ChangeSpec := { name := "indexDrops", fn := fun _ => fun
  | [d1, d2] => { results := [.lit (.bool false)], args := [d1, d2] }
  | _ => none }
def IndexDropsWrongFalsely : Prop := indexDropsRow.holds Try.pinned (OpenSpec.ofChange indexDropsWrong)

/-- 'appleloftlaw.IndexOlds': WHATEVER THE INPUT: true; the input reads as it did. -/
def indexOldsSpec : ChangeSpec := { name := "indexOlds", fn := fun _ => fun
  | [d] => { results := [.lit (.bool true)], args := [d] }
  | _ => none }
def indexOldsRow : OpenClaim := { program := "ytfleegidlncmjaa", sum := "c36342ebd106e787ea410aa1fac3c61c99646aacab6304d80fdbfae5eb455b1b", func := "appleloft/appleloftlaw.IndexOlds", spec := "indexOlds", apart := false }
def IndexOldsSaid : Prop := indexOldsRow.holds Try.pinned (OpenSpec.ofChange indexOldsSpec)

/-- ITS FALSE NEIGHBOUR: 'it returns false'. Refute it at one input. -/
def indexOldsWrong : ChangeSpec := { name := "indexOlds", fn := fun _ => fun
  | [d] => { results := [.lit (.bool false)], args := [d] }
  | _ => none }
def IndexOldsWrongFalsely : Prop := indexOldsRow.holds Try.pinned (OpenSpec.ofChange indexOldsWrong)

/-- 'appleloftkeep.IndexFound': WHATEVER THE INPUT: true; the input reads as it did. -/
def indexFoundSpec : ChangeSpec := { name := "indexFound", fn := fun _ => fun
  | [d1, d2] => { results := [.lit (.bool true)], args := [d1, d2] }
  | _ => none }
def indexFoundRow : OpenClaim := { program := "ytfleegidlncmjaa", sum := "c36342ebd106e787ea410aa1fac3c61c99646aacab6304d80fdbfae5eb455b1b", func := "appleloft/appleloftkeep.IndexFound", spec := "indexFound", inPlace := ["internal/bytealg.IndexByteString", "internal/bytealg.abigen_runtime_cmpstring", "slices.overlaps[appleloft/api.Entry]"], unfollowed := true, recurses := true, apart := false }
def IndexFoundSaid : Prop := indexFoundRow.holds Try.pinned (OpenSpec.ofChange indexFoundSpec)

/-- ITS FALSE NEIGHBOUR: 'it returns false'. Refute it at one input. -/
def indexFoundWrong : ChangeSpec := { name := "indexFound", fn := fun _ => fun
  | [d1, d2] => { results := [.lit (.bool false)], args := [d1, d2] }
  | _ => none }
def IndexFoundWrongFalsely : Prop := indexFoundRow.holds Try.pinned (OpenSpec.ofChange indexFoundWrong)

/-- 'appleloftkeep.IndexBack': WHATEVER THE INPUT: true; the input reads as it did. -/
def indexBackSpec : ChangeSpec := { name := "indexBack", fn := fun _ => fun
  | [d] => { results := [.lit (.bool true)], args := [d] }
  | _ => none }
def indexBackRow : OpenClaim := { program := "ytfleegidlncmjaa", sum := "c36342ebd106e787ea410aa1fac3c61c99646aacab6304d80fdbfae5eb455b1b", func := "appleloft/appleloftkeep.IndexBack", spec := "indexBack", inPlace := ["internal/bytealg.IndexByteString", "internal/bytealg.abigen_runtime_cmpstring", "slices.overlaps[appleloft/api.Entry]"], unfollowed := true, recurses := true, apart := false }
def IndexBackSaid : Prop := indexBackRow.holds Try.pinned (OpenSpec.ofChange indexBackSpec)

/-- ITS FALSE NEIGHBOUR: 'it returns false'. Refute it at one input. -/
def indexBackWrong : ChangeSpec := { name := "indexBack", fn := fun _ => fun
  | [d] => { results := [.lit (.bool false)], args := [d] }
  | _ => none }
def IndexBackWrongFalsely : Prop := indexBackRow.holds Try.pinned (OpenSpec.ofChange indexBackWrong)

/-- 'appleloftkeep.IndexOldest': WHATEVER THE INPUT: true; the input reads as it did. -/
def indexOldestSpec : ChangeSpec := { name := "indexOldest", fn := fun _ => fun
  | [d] => { results := [.lit (.bool true)], args := [d] }
  | _ => none }
def indexOldestRow : OpenClaim := { program := "ytfleegidlncmjaa", sum := "c36342ebd106e787ea410aa1fac3c61c99646aacab6304d80fdbfae5eb455b1b", func := "appleloft/appleloftkeep.IndexOldest", spec := "indexOldest", inPlace := ["internal/bytealg.IndexByteString", "internal/bytealg.abigen_runtime_cmpstring"], unfollowed := true, recurses := true, apart := false }
def IndexOldestSaid : Prop := indexOldestRow.holds Try.pinned (OpenSpec.ofChange indexOldestSpec)

/-- ITS FALSE NEIGHBOUR: 'it returns false'. Refute it at one input. -/
def indexOldestWrong : ChangeSpec := { name := "indexOldest", fn := fun _ => fun
  | [d] => { results := [.lit (.bool false)], args := [d] }
  | _ => none }
def IndexOldestWrongFalsely : Prop := indexOldestRow.holds Try.pinned (OpenSpec.ofChange indexOldestWrong)

/-- 'appleloftkeep.IndexAges': WHATEVER THE INPUT: true; the input reads as it did. -/
def indexAgesSpec : ChangeSpec := { name := "indexAges", fn := fun _ => fun
  | [d] => { results := [.lit (.bool true)], args := [d] }
  | _ => none }
def indexAgesRow : OpenClaim := { program := "ytfleegidlncmjaa", sum := "c36342ebd106e787ea410aa1fac3c61c99646aacab6304d80fdbfae5eb455b1b", func := "appleloft/appleloftkeep.IndexAges", spec := "indexAges", inPlace := ["internal/bytealg.IndexByteString", "internal/bytealg.abigen_runtime_cmpstring", "slices.overlaps[appleloft/api.Entry]"], unfollowed := true, recurses := true, apart := false }
def IndexAgesSaid : Prop := indexAgesRow.holds Try.pinned (OpenSpec.ofChange indexAgesSpec)

/-- ITS FALSE NEIGHBOUR: 'it returns false'. Refute it at one input. -/
def indexAgesWrong : ChangeSpec := { name := "indexAges", fn := fun _ => fun
  | [d] => { results := [.lit (.bool false)], args := [d] }
  | _ => none }
def IndexAgesWrongFalsely : Prop := indexAgesRow.holds Try.pinned (OpenSpec.ofChange indexAgesWrong)

/- THE SECOND FORM. 'bulk': how many values and letters a reading holds, each counted each time it is reached (what is shared counts as often as it is met; a slice's spare places count too). A statement '..UptoSaid' is the law's where the arguments, and the package variables that the reading takes, are together of bulk at most 1048576: NARROWER than '..Said'. Prove '..Said' where nothing that the law and all that it calls make is longer than what came in: it says more and counts as full. Else prove '..UptoSaid'. A law counts once. -/
mutual
def uptoBulk {H : Type} : DataW H → Nat
  | .lit (.string bytes) => bytes.length + 1
  | .lit _ => 1
  | .nil => 1
  | .ptr d => uptoBulk d + 1
  | .slice elems spare => uptoBulkAll elems + uptoBulkAll spare + 1
  | .agg parts => uptoBulkAll parts + 1
  | .iface _ d => uptoBulk d + 1
  | .map entries => uptoBulkEntries entries + 1
  | .held _ => 1
def uptoBulkAll {H : Type} : List (DataW H) → Nat
  | [] => 0
  | d :: r => uptoBulk d + uptoBulkAll r
def uptoBulkEntries {H : Type} : List (Lit × DataW H) → Nat
  | [] => 0
  | x :: r => uptoBulkEntry x + uptoBulkEntries r
def uptoBulkEntry {H : Type} : Lit × DataW H → Nat
  | (.string bytes, d) => bytes.length + uptoBulk d + 1
  | (_, d) => uptoBulk d + 1
 end
def uptoSmall : (H : Type) → List (DataW H) → Bool := fun _ ds => decide (uptoBulkAll ds ≤ 1048576)
def OpenSpec.upto (s : _root_.Go.ChangeSpec) : _root_.Go.OpenSpec := { _root_.Go.OpenSpec.ofChange s with cond := some uptoSmall }

/-- 'appleloftlaw.IndexChecks', WHERE WHAT IT READS IS OF BULK AT MOST 1048576: true; the input reads as it did. -/
def indexChecksUptoRow : OpenClaim := { program := "ytfleegidlncmjaa", sum := "c36342ebd106e787ea410aa1fac3c61c99646aacab6304d80fdbfae5eb455b1b", func := "appleloft/appleloftlaw.IndexChecks", spec := "indexChecks", inPlace := ["internal/bytealg.IndexByteString"], apart := false, narrowed := true }
def IndexChecksUptoSaid : Prop := indexChecksUptoRow.holds Try.pinned (OpenSpec.upto indexChecksSpec)

/-- 'appleloftlaw.IndexPuts', WHERE WHAT IT READS IS OF BULK AT MOST 1048576: true; the input reads as it did. -/
def indexPutsUptoRow : OpenClaim := { program := "ytfleegidlncmjaa", sum := "c36342ebd106e787ea410aa1fac3c61c99646aacab6304d80fdbfae5eb455b1b", func := "appleloft/appleloftlaw.IndexPuts", spec := "indexPuts", inPlace := ["slices.overlaps[appleloft/api.Entry]", "internal/bytealg.IndexByteString"], unfollowed := true, recurses := true, apart := false, narrowed := true }
def IndexPutsUptoSaid : Prop := indexPutsUptoRow.holds Try.pinned (OpenSpec.upto indexPutsSpec)

/-- 'appleloftlaw.IndexDrops', WHERE WHAT IT READS IS OF BULK AT MOST 1048576: true; the input reads as it did. -/
def indexDropsUptoRow : OpenClaim := { program := "ytfleegidlncmjaa", sum := "c36342ebd106e787ea410aa1fac3c61c99646aacab6304d80fdbfae5eb455b1b", func := "appleloft/appleloftlaw.IndexDrops", spec := "indexDrops", inPlace := ["internal/bytealg.IndexByteString"], unfollowed := true, recurses := true, apart := false, narrowed := true }
def IndexDropsUptoSaid : Prop := indexDropsUptoRow.holds Try.pinned (OpenSpec.upto indexDropsSpec)

/-- 'appleloftlaw.IndexOlds', WHERE WHAT IT READS IS OF BULK AT MOST 1048576: true; the input reads as it did. -/
def indexOldsUptoRow : OpenClaim := { program := "ytfleegidlncmjaa", sum := "c36342ebd106e787ea410aa1fac3c61c99646aacab6304d80fdbfae5eb455b1b", func := "appleloft/appleloftlaw.IndexOlds", spec := "indexOlds", apart := false, narrowed := true }
def IndexOldsUptoSaid : Prop := indexOldsUptoRow.holds Try.pinned (OpenSpec.upto indexOldsSpec)

/-- 'appleloftkeep.IndexFound', WHERE WHAT IT READS IS OF BULK AT MOST 1048576: true; the input reads as it did. -/
def indexFoundUptoRow : OpenClaim := { program := "ytfleegidlncmjaa", sum := "c36342ebd106e787ea410aa1fac3c61c99646aacab6304d80fdbfae5eb455b1b", func := "appleloft/appleloftkeep.IndexFound", spec := "indexFound", inPlace := ["internal/bytealg.IndexByteString", "internal/bytealg.abigen_runtime_cmpstring", "slices.overlaps[appleloft/api.Entry]"], unfollowed := true, recurses := true, apart := false, narrowed := true }
def IndexFoundUptoSaid : Prop := indexFoundUptoRow.holds Try.pinned (OpenSpec.upto indexFoundSpec)

/-- 'appleloftkeep.IndexBack', WHERE WHAT IT READS IS OF BULK AT MOST 1048576: true; the input reads as it did. -/
def indexBackUptoRow : OpenClaim := { program := "ytfleegidlncmjaa", sum := "c36342ebd106e787ea410aa1fac3c61c99646aacab6304d80fdbfae5eb455b1b", func := "appleloft/appleloftkeep.IndexBack", spec := "indexBack", inPlace := ["internal/bytealg.IndexByteString", "internal/bytealg.abigen_runtime_cmpstring", "slices.overlaps[appleloft/api.Entry]"], unfollowed := true, recurses := true, apart := false, narrowed := true }
def IndexBackUptoSaid : Prop := indexBackUptoRow.holds Try.pinned (OpenSpec.upto indexBackSpec)

/-- 'appleloftkeep.IndexOldest', WHERE WHAT IT READS IS OF BULK AT MOST 1048576: true; the input reads as it did. -/
def indexOldestUptoRow : OpenClaim := { program := "ytfleegidlncmjaa", sum := "c36342ebd106e787ea410aa1fac3c61c99646aacab6304d80fdbfae5eb455b1b", func := "appleloft/appleloftkeep.IndexOldest", spec := "indexOldest", inPlace := ["internal/bytealg.IndexByteString", "internal/bytealg.abigen_runtime_cmpstring"], unfollowed := true, recurses := true, apart := false, narrowed := true }
def IndexOldestUptoSaid : Prop := indexOldestUptoRow.holds Try.pinned (OpenSpec.upto indexOldestSpec)

/-- 'appleloftkeep.IndexAges', WHERE WHAT IT READS IS OF BULK AT MOST 1048576: true; the input reads as it did. -/
def indexAgesUptoRow : OpenClaim := { program := "ytfleegidlncmjaa", sum := "c36342ebd106e787ea410aa1fac3c61c99646aacab6304d80fdbfae5eb455b1b", func := "appleloft/appleloftkeep.IndexAges", spec := "indexAges", inPlace := ["internal/bytealg.IndexByteString", "internal/bytealg.abigen_runtime_cmpstring", "slices.overlaps[appleloft/api.Entry]"], unfollowed := true, recurses := true, apart := false, narrowed := true }
def IndexAgesUptoSaid : Prop := indexAgesUptoRow.holds Try.pinned (OpenSpec.upto indexAgesSpec)

end Rows
end Go.Proofs.Ytfleegidlncmjaa

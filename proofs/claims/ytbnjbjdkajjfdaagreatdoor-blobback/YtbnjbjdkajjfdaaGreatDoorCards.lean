/-
  DERIVED. GIVEN WITH THE SEED: THE CARDS: each row of YtbnjbjdkajjfdaaGreatDoorRows.lean that lists a variable, with what it lists TIED to the program's text (the seventh form; the later family's looks); each row that meets fmt, with fmt's text TOLD by the authors' own Lean function (tested against real Go, not proved from fmt's source: count such statements apart). THE CARD IS WHAT COUNTS. Prove the row's statement (the work); the ties are given (YtbnjbjdkajjfdaaGreatDoorTie.lean); close each card by the builder's one call (the guide's Derived/Test/ToyasCard.lean, 'card_holds'). Laid BY PROGRAM, IN A SANDBOX (cutbox-door.mjs). By AI agents, Wed Nov 11 2026. No macro, syntax, notation, axiom, sorry.
-/
import Derived.Test.YtbnjbjdkajjfdaaGreatDoorRows
import GoSem.ClaimSeven
namespace Go.Proofs.YtbnjbjdkajjfdaaGreatDoor
namespace Rows

/-- THE TIED CARD OF 'appleloftkeep.BlobBack'. -/
def blobBackCard : Claim7 := { stood := { row := blobBackRow, standIns := [], harness := (true, "3bdcd6302f39b237be4dd96e9b1fda40efe0714719b49c525722075968cabfea"), looks := false }, kinds := [], alts := [], laidByText := true, laidKinds := [.data], laidTests := true, laidLooks := .later }
def BlobBackCardSaid : Prop := Claim7.holds Tryz.pinned (.plain (OpenSpec.ofChange blobBackSpec)) blobBackCard

/-- THE SECOND FORM's CARD OF 'appleloftkeep.BlobBack'. -/
def blobBackUptoCard : Claim7 := { stood := { row := blobBackUptoRow, standIns := [], harness := (true, "3bdcd6302f39b237be4dd96e9b1fda40efe0714719b49c525722075968cabfea"), looks := false }, kinds := [], alts := [], laidByText := true, laidKinds := [.data], laidTests := true, laidLooks := .later }
def BlobBackUptoCardSaid : Prop := Claim7.holds Tryz.pinned (.plain (OpenSpec.upto blobBackSpec)) blobBackUptoCard
end Rows
end Go.Proofs.YtbnjbjdkajjfdaaGreatDoor

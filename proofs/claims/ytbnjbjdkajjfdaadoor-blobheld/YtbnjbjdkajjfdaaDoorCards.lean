/-
  DERIVED. GIVEN WITH THE SEED: THE CARDS: each row of YtbnjbjdkajjfdaaDoorRows.lean that lists a variable, with what it lists TIED to the program's text (the seventh form; the later family's looks); each row that meets fmt, with fmt's text TOLD by the authors' own Lean function (tested against real Go, not proved from fmt's source: count such statements apart). THE CARD IS WHAT COUNTS. Prove the row's statement (the work); the ties are given (YtbnjbjdkajjfdaaDoorTie.lean); close each card by the builder's one call (the guide's Derived/Test/ToyasCard.lean, 'card_holds'). Laid BY PROGRAM, IN A SANDBOX (cutbox-door.mjs). By AI agents, Wed Nov 11 2026. No macro, syntax, notation, axiom, sorry.
-/
import Derived.Test.YtbnjbjdkajjfdaaDoorRows
import GoSem.ClaimSeven
namespace Go.Proofs.YtbnjbjdkajjfdaaDoor
namespace Rows

/-- THE TIED CARD OF 'appleloftlaw.BlobChecks'. -/
def blobChecksCard : Claim7 := { stood := { row := blobChecksRow, standIns := [], harness := (true, "6231e553520e1afc120da11989e7f485909fcb6a174e3596b48cbad9ace76fae"), looks := false }, kinds := [], alts := [], laidByText := true, laidKinds := [.data], laidTests := true, laidLooks := .later }
def BlobChecksCardSaid : Prop := Claim7.holds Tryd.pinned (.plain (OpenSpec.ofChange blobChecksSpec)) blobChecksCard

/-- THE TIED CARD OF 'appleloftlaw.BlobPuts'. -/
def blobPutsCard : Claim7 := { stood := { row := blobPutsRow, standIns := [], harness := (true, "6231e553520e1afc120da11989e7f485909fcb6a174e3596b48cbad9ace76fae"), looks := false }, kinds := [], alts := [], laidByText := true, laidKinds := [.data], laidTests := true, laidLooks := .later }
def BlobPutsCardSaid : Prop := Claim7.holds Tryd.pinned (.plain (OpenSpec.ofChange blobPutsSpec)) blobPutsCard

/-- THE TIED CARD OF 'appleloftlaw.BlobDrops'. -/
def blobDropsCard : Claim7 := { stood := { row := blobDropsRow, standIns := [], harness := (true, "6231e553520e1afc120da11989e7f485909fcb6a174e3596b48cbad9ace76fae"), looks := false }, kinds := [], alts := [], laidByText := true, laidKinds := [.data], laidTests := true, laidLooks := .later }
def BlobDropsCardSaid : Prop := Claim7.holds Tryd.pinned (.plain (OpenSpec.ofChange blobDropsSpec)) blobDropsCard

/-- THE TIED CARD OF 'appleloftkeep.BlobGood'. -/
def blobGoodCard : Claim7 := { stood := { row := blobGoodRow, standIns := [], harness := (true, "6231e553520e1afc120da11989e7f485909fcb6a174e3596b48cbad9ace76fae"), looks := false }, kinds := [], alts := [], laidByText := true, laidKinds := [.data], laidTests := true, laidLooks := .later }
def BlobGoodCardSaid : Prop := Claim7.holds Tryd.pinned (.plain (OpenSpec.ofChange blobGoodSpec)) blobGoodCard

/-- THE TIED CARD OF 'appleloftkeep.BlobHeld'. -/
def blobHeldCard : Claim7 := { stood := { row := blobHeldRow, standIns := [], harness := (true, "6231e553520e1afc120da11989e7f485909fcb6a174e3596b48cbad9ace76fae"), looks := false }, kinds := [], alts := [], laidByText := true, laidKinds := [.data], laidTests := true, laidLooks := .later }
def BlobHeldCardSaid : Prop := Claim7.holds Tryd.pinned (.plain (OpenSpec.ofChange blobHeldSpec)) blobHeldCard

/-- THE TIED CARD OF 'appleloftkeep.BlobTrue'. -/
def blobTrueCard : Claim7 := { stood := { row := blobTrueRow, standIns := [], harness := (true, "6231e553520e1afc120da11989e7f485909fcb6a174e3596b48cbad9ace76fae"), looks := false }, kinds := [], alts := [], laidByText := true, laidKinds := [.data], laidTests := true, laidLooks := .later }
def BlobTrueCardSaid : Prop := Claim7.holds Tryd.pinned (.plain (OpenSpec.ofChange blobTrueSpec)) blobTrueCard

/-- THE TIED CARD OF 'appleloftkeep.BlobAny'. -/
def blobAnyCard : Claim7 := { stood := { row := blobAnyRow, standIns := [], harness := (true, "6231e553520e1afc120da11989e7f485909fcb6a174e3596b48cbad9ace76fae"), looks := false }, kinds := [], alts := [], laidByText := true, laidKinds := [.data], laidTests := true, laidLooks := .later }
def BlobAnyCardSaid : Prop := Claim7.holds Tryd.pinned (.plain (OpenSpec.ofChange blobAnySpec)) blobAnyCard

/-- THE SECOND FORM's CARD OF 'appleloftlaw.BlobChecks'. -/
def blobChecksUptoCard : Claim7 := { stood := { row := blobChecksUptoRow, standIns := [], harness := (true, "6231e553520e1afc120da11989e7f485909fcb6a174e3596b48cbad9ace76fae"), looks := false }, kinds := [], alts := [], laidByText := true, laidKinds := [.data], laidTests := true, laidLooks := .later }
def BlobChecksUptoCardSaid : Prop := Claim7.holds Tryd.pinned (.plain (OpenSpec.upto blobChecksSpec)) blobChecksUptoCard

/-- THE SECOND FORM's CARD OF 'appleloftlaw.BlobPuts'. -/
def blobPutsUptoCard : Claim7 := { stood := { row := blobPutsUptoRow, standIns := [], harness := (true, "6231e553520e1afc120da11989e7f485909fcb6a174e3596b48cbad9ace76fae"), looks := false }, kinds := [], alts := [], laidByText := true, laidKinds := [.data], laidTests := true, laidLooks := .later }
def BlobPutsUptoCardSaid : Prop := Claim7.holds Tryd.pinned (.plain (OpenSpec.upto blobPutsSpec)) blobPutsUptoCard

/-- THE SECOND FORM's CARD OF 'appleloftlaw.BlobDrops'. -/
def blobDropsUptoCard : Claim7 := { stood := { row := blobDropsUptoRow, standIns := [], harness := (true, "6231e553520e1afc120da11989e7f485909fcb6a174e3596b48cbad9ace76fae"), looks := false }, kinds := [], alts := [], laidByText := true, laidKinds := [.data], laidTests := true, laidLooks := .later }
def BlobDropsUptoCardSaid : Prop := Claim7.holds Tryd.pinned (.plain (OpenSpec.upto blobDropsSpec)) blobDropsUptoCard

/-- THE SECOND FORM's CARD OF 'appleloftkeep.BlobGood'. -/
def blobGoodUptoCard : Claim7 := { stood := { row := blobGoodUptoRow, standIns := [], harness := (true, "6231e553520e1afc120da11989e7f485909fcb6a174e3596b48cbad9ace76fae"), looks := false }, kinds := [], alts := [], laidByText := true, laidKinds := [.data], laidTests := true, laidLooks := .later }
def BlobGoodUptoCardSaid : Prop := Claim7.holds Tryd.pinned (.plain (OpenSpec.upto blobGoodSpec)) blobGoodUptoCard

/-- THE SECOND FORM's CARD OF 'appleloftkeep.BlobHeld'. -/
def blobHeldUptoCard : Claim7 := { stood := { row := blobHeldUptoRow, standIns := [], harness := (true, "6231e553520e1afc120da11989e7f485909fcb6a174e3596b48cbad9ace76fae"), looks := false }, kinds := [], alts := [], laidByText := true, laidKinds := [.data], laidTests := true, laidLooks := .later }
def BlobHeldUptoCardSaid : Prop := Claim7.holds Tryd.pinned (.plain (OpenSpec.upto blobHeldSpec)) blobHeldUptoCard

/-- THE SECOND FORM's CARD OF 'appleloftkeep.BlobTrue'. -/
def blobTrueUptoCard : Claim7 := { stood := { row := blobTrueUptoRow, standIns := [], harness := (true, "6231e553520e1afc120da11989e7f485909fcb6a174e3596b48cbad9ace76fae"), looks := false }, kinds := [], alts := [], laidByText := true, laidKinds := [.data], laidTests := true, laidLooks := .later }
def BlobTrueUptoCardSaid : Prop := Claim7.holds Tryd.pinned (.plain (OpenSpec.upto blobTrueSpec)) blobTrueUptoCard

/-- THE SECOND FORM's CARD OF 'appleloftkeep.BlobAny'. -/
def blobAnyUptoCard : Claim7 := { stood := { row := blobAnyUptoRow, standIns := [], harness := (true, "6231e553520e1afc120da11989e7f485909fcb6a174e3596b48cbad9ace76fae"), looks := false }, kinds := [], alts := [], laidByText := true, laidKinds := [.data], laidTests := true, laidLooks := .later }
def BlobAnyUptoCardSaid : Prop := Claim7.holds Tryd.pinned (.plain (OpenSpec.upto blobAnySpec)) blobAnyUptoCard
end Rows
end Go.Proofs.YtbnjbjdkajjfdaaDoor

/-
  DERIVED. GIVEN WITH THE SEED: THE CARDS: each row of YtdbdigcpibmgjaaGreatDoorRows.lean that lists a variable, with what it lists TIED to the program's text (the seventh form; the later family's looks); each row that meets fmt, with fmt's text TOLD by the authors' own Lean function (tested against real Go, not proved from fmt's source: count such statements apart). THE CARD IS WHAT COUNTS. Prove the row's statement (the work); the ties are given (YtdbdigcpibmgjaaGreatDoorTie.lean); close each card by the builder's one call (the guide's Derived/Test/ToyasCard.lean, 'card_holds'). Laid BY PROGRAM, IN A SANDBOX (cutbox-door.mjs). By AI agents, Wed Nov 11 2026. No macro, syntax, notation, axiom, sorry.
-/
import Derived.Test.YtdbdigcpibmgjaaGreatDoorRows
import GoSem.ClaimSeven
namespace Go.Proofs.YtdbdigcpibmgjaaGreatDoor
namespace Rows

/-- THE TIED CARD OF 'appleloftlaw.MarkBegins'. -/
def markBeginsCard : Claim7 := { stood := { row := markBeginsRow, standIns := [], harness := (true, "7bc45ead40f0771092d408c62e3d50779f87ecb4798034bd8fe28e0f03df1c27"), looks := false }, kinds := [], alts := [], laidByText := true, laidKinds := [.data], laidTests := true, laidLooks := .later }
def MarkBeginsCardSaid : Prop := Claim7.holds Tryz.pinned (.plain (OpenSpec.ofChange markBeginsSpec)) markBeginsCard

/-- THE TIED CARD OF 'appleloftlaw.MarkSteps'. -/
def markStepsCard : Claim7 := { stood := { row := markStepsRow, standIns := [], harness := (true, "7bc45ead40f0771092d408c62e3d50779f87ecb4798034bd8fe28e0f03df1c27"), looks := false }, kinds := [], alts := [], laidByText := true, laidKinds := [.data], laidTests := true, laidLooks := .later }
def MarkStepsCardSaid : Prop := Claim7.holds Tryz.pinned (.plain (OpenSpec.ofChange markStepsSpec)) markStepsCard

/-- THE TIED CARD OF 'appleloftkeep.MarkComes'. -/
def markComesCard : Claim7 := { stood := { row := markComesRow, standIns := [], harness := (true, "7bc45ead40f0771092d408c62e3d50779f87ecb4798034bd8fe28e0f03df1c27"), looks := false }, kinds := [], alts := [], laidByText := true, laidKinds := [.data], laidTests := true, laidLooks := .later }
def MarkComesCardSaid : Prop := Claim7.holds Tryz.pinned (.plain (OpenSpec.ofChange markComesSpec)) markComesCard

/-- THE TIED CARD OF 'appleloftkeep.MarkAll'. -/
def markAllCard : Claim7 := { stood := { row := markAllRow, standIns := [], harness := (true, "7bc45ead40f0771092d408c62e3d50779f87ecb4798034bd8fe28e0f03df1c27"), looks := false }, kinds := [], alts := [], laidByText := true, laidKinds := [.data], laidTests := true, laidLooks := .later }
def MarkAllCardSaid : Prop := Claim7.holds Tryz.pinned (.plain (OpenSpec.ofChange markAllSpec)) markAllCard

/-- THE SECOND FORM's CARD OF 'appleloftlaw.MarkBegins'. -/
def markBeginsUptoCard : Claim7 := { stood := { row := markBeginsUptoRow, standIns := [], harness := (true, "7bc45ead40f0771092d408c62e3d50779f87ecb4798034bd8fe28e0f03df1c27"), looks := false }, kinds := [], alts := [], laidByText := true, laidKinds := [.data], laidTests := true, laidLooks := .later }
def MarkBeginsUptoCardSaid : Prop := Claim7.holds Tryz.pinned (.plain (OpenSpec.upto markBeginsSpec)) markBeginsUptoCard

/-- THE SECOND FORM's CARD OF 'appleloftlaw.MarkSteps'. -/
def markStepsUptoCard : Claim7 := { stood := { row := markStepsUptoRow, standIns := [], harness := (true, "7bc45ead40f0771092d408c62e3d50779f87ecb4798034bd8fe28e0f03df1c27"), looks := false }, kinds := [], alts := [], laidByText := true, laidKinds := [.data], laidTests := true, laidLooks := .later }
def MarkStepsUptoCardSaid : Prop := Claim7.holds Tryz.pinned (.plain (OpenSpec.upto markStepsSpec)) markStepsUptoCard

/-- THE SECOND FORM's CARD OF 'appleloftkeep.MarkComes'. -/
def markComesUptoCard : Claim7 := { stood := { row := markComesUptoRow, standIns := [], harness := (true, "7bc45ead40f0771092d408c62e3d50779f87ecb4798034bd8fe28e0f03df1c27"), looks := false }, kinds := [], alts := [], laidByText := true, laidKinds := [.data], laidTests := true, laidLooks := .later }
def MarkComesUptoCardSaid : Prop := Claim7.holds Tryz.pinned (.plain (OpenSpec.upto markComesSpec)) markComesUptoCard

/-- THE SECOND FORM's CARD OF 'appleloftkeep.MarkAll'. -/
def markAllUptoCard : Claim7 := { stood := { row := markAllUptoRow, standIns := [], harness := (true, "7bc45ead40f0771092d408c62e3d50779f87ecb4798034bd8fe28e0f03df1c27"), looks := false }, kinds := [], alts := [], laidByText := true, laidKinds := [.data], laidTests := true, laidLooks := .later }
def MarkAllUptoCardSaid : Prop := Claim7.holds Tryz.pinned (.plain (OpenSpec.upto markAllSpec)) markAllUptoCard
end Rows
end Go.Proofs.YtdbdigcpibmgjaaGreatDoor

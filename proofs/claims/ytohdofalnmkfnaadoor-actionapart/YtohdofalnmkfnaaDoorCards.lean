/-
  DERIVED. GIVEN WITH THE SEED: THE CARDS: each row of YtohdofalnmkfnaaDoorRows.lean that lists a variable, with what it lists TIED to the program's text (the seventh form; the later family's looks); each row that meets fmt, with fmt's text TOLD by the authors' own Lean function (tested against real Go, not proved from fmt's source: count such statements apart). THE CARD IS WHAT COUNTS. Prove the row's statement (the work); the ties are given (YtohdofalnmkfnaaDoorTie.lean); close each card by the builder's one call (the guide's Derived/Test/ToyasCard.lean, 'card_holds'). Laid BY PROGRAM, IN A SANDBOX (cutbox-door.mjs). By AI agents, Wed Nov 11 2026. No macro, syntax, notation, axiom, sorry.
-/
import Derived.Test.YtohdofalnmkfnaaDoorRows
import GoSem.ClaimSeven
namespace Go.Proofs.YtohdofalnmkfnaaDoor
namespace Rows

/-- THE TIED CARD OF 'appleloftlaw.ActionKeys'. -/
def actionKeysCard : Claim7 := { stood := { row := actionKeysRow, standIns := [], harness := (true, "132fb88f62b7d629059b58b984abd55f094bdff1db56e834bb081844c02943eb"), looks := false }, kinds := [], alts := [], laidByText := true, laidKinds := [.data], laidTests := true, laidLooks := .later }
def ActionKeysCardSaid : Prop := Claim7.holds Tryd.pinned (.plain (OpenSpec.ofChange actionKeysSpec)) actionKeysCard

/-- THE TIED CARD OF 'appleloftkeep.ActionApart'. -/
def actionApartCard : Claim7 := { stood := { row := actionApartRow, standIns := [], harness := (true, "132fb88f62b7d629059b58b984abd55f094bdff1db56e834bb081844c02943eb"), looks := false }, kinds := [], alts := [], laidByText := true, laidKinds := [.data], laidTests := true, laidLooks := .later }
def ActionApartCardSaid : Prop := Claim7.holds Tryd.pinned (.plain (OpenSpec.ofChange actionApartSpec)) actionApartCard

/-- THE TIED CARD OF 'appleloftkeep.ActionLimits'. -/
def actionLimitsCard : Claim7 := { stood := { row := actionLimitsRow, standIns := [], harness := (true, "132fb88f62b7d629059b58b984abd55f094bdff1db56e834bb081844c02943eb"), looks := false }, kinds := [], alts := [], laidByText := true, laidKinds := [.data], laidTests := true, laidLooks := .later }
def ActionLimitsCardSaid : Prop := Claim7.holds Tryd.pinned (.plain (OpenSpec.ofChange actionLimitsSpec)) actionLimitsCard

/-- THE SECOND FORM's CARD OF 'appleloftlaw.ActionKeys'. -/
def actionKeysUptoCard : Claim7 := { stood := { row := actionKeysUptoRow, standIns := [], harness := (true, "132fb88f62b7d629059b58b984abd55f094bdff1db56e834bb081844c02943eb"), looks := false }, kinds := [], alts := [], laidByText := true, laidKinds := [.data], laidTests := true, laidLooks := .later }
def ActionKeysUptoCardSaid : Prop := Claim7.holds Tryd.pinned (.plain (OpenSpec.upto actionKeysSpec)) actionKeysUptoCard

/-- THE SECOND FORM's CARD OF 'appleloftkeep.ActionApart'. -/
def actionApartUptoCard : Claim7 := { stood := { row := actionApartUptoRow, standIns := [], harness := (true, "132fb88f62b7d629059b58b984abd55f094bdff1db56e834bb081844c02943eb"), looks := false }, kinds := [], alts := [], laidByText := true, laidKinds := [.data], laidTests := true, laidLooks := .later }
def ActionApartUptoCardSaid : Prop := Claim7.holds Tryd.pinned (.plain (OpenSpec.upto actionApartSpec)) actionApartUptoCard

/-- THE SECOND FORM's CARD OF 'appleloftkeep.ActionLimits'. -/
def actionLimitsUptoCard : Claim7 := { stood := { row := actionLimitsUptoRow, standIns := [], harness := (true, "132fb88f62b7d629059b58b984abd55f094bdff1db56e834bb081844c02943eb"), looks := false }, kinds := [], alts := [], laidByText := true, laidKinds := [.data], laidTests := true, laidLooks := .later }
def ActionLimitsUptoCardSaid : Prop := Claim7.holds Tryd.pinned (.plain (OpenSpec.upto actionLimitsSpec)) actionLimitsUptoCard
end Rows
end Go.Proofs.YtohdofalnmkfnaaDoor

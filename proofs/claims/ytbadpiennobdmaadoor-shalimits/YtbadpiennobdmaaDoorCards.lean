/-
  DERIVED. GIVEN WITH THE SEED: THE CARDS: each row of YtbadpiennobdmaaDoorRows.lean that lists a variable, with what it lists TIED to the program's text (the seventh form; the later family's looks); each row that meets fmt, with fmt's text TOLD by the authors' own Lean function (tested against real Go, not proved from fmt's source: count such statements apart). THE CARD IS WHAT COUNTS. Prove the row's statement (the work); the ties are given (YtbadpiennobdmaaDoorTie.lean); close each card by the builder's one call (the guide's Derived/Test/ToyasCard.lean, 'card_holds'). Laid BY PROGRAM, IN A SANDBOX (cutbox-door.mjs). By AI agents, Wed Nov 11 2026. No macro, syntax, notation, axiom, sorry.
-/
import Derived.Test.YtbadpiennobdmaaDoorRows
import GoSem.ClaimSeven
namespace Go.Proofs.YtbadpiennobdmaaDoor
namespace Rows

/-- THE TIED CARD OF 'appleloftlaw.ShaSteps'. -/
def shaStepsCard : Claim7 := { stood := { row := shaStepsRow, standIns := [], harness := (true, "4e04726c5cfc6e07826a8a6db0e2be4eed59ea7ddbfb173a36986c8da1dfad44"), looks := false }, kinds := [], alts := [], laidByText := true, laidKinds := [.data], laidTests := true, laidLooks := .later }
def ShaStepsCardSaid : Prop := Claim7.holds Tryd.pinned (.plain (OpenSpec.ofChange shaStepsSpec)) shaStepsCard

/-- THE TIED CARD OF 'appleloftlaw.ShaSums'. -/
def shaSumsCard : Claim7 := { stood := { row := shaSumsRow, standIns := [], harness := (true, "4e04726c5cfc6e07826a8a6db0e2be4eed59ea7ddbfb173a36986c8da1dfad44"), looks := false }, kinds := [], alts := [], laidByText := true, laidKinds := [.data], laidTests := true, laidLooks := .later }
def ShaSumsCardSaid : Prop := Claim7.holds Tryd.pinned (.plain (OpenSpec.ofChange shaSumsSpec)) shaSumsCard

/-- THE TIED CARD OF 'appleloftkeep.ShaPadded'. -/
def shaPaddedCard : Claim7 := { stood := { row := shaPaddedRow, standIns := [], harness := (true, "4e04726c5cfc6e07826a8a6db0e2be4eed59ea7ddbfb173a36986c8da1dfad44"), looks := false }, kinds := [], alts := [], laidByText := true, laidKinds := [.data, .pinned], laidTests := true, laidLooks := .later }
def ShaPaddedCardSaid : Prop := Claim7.holds Tryd.pinned (.plain (OpenSpec.ofChange shaPaddedSpec)) shaPaddedCard

/-- THE TIED CARD OF 'appleloftkeep.ShaChains'. -/
def shaChainsCard : Claim7 := { stood := { row := shaChainsRow, standIns := [], harness := (true, "4e04726c5cfc6e07826a8a6db0e2be4eed59ea7ddbfb173a36986c8da1dfad44"), looks := false }, kinds := [], alts := [], laidByText := true, laidKinds := [.data], laidTests := true, laidLooks := .later }
def ShaChainsCardSaid : Prop := Claim7.holds Tryd.pinned (.plain (OpenSpec.ofChange shaChainsSpec)) shaChainsCard

/-- THE TIED CARD OF 'appleloftkeep.ShaKnown'. -/
def shaKnownCard : Claim7 := { stood := { row := shaKnownRow, standIns := [], harness := (true, "4e04726c5cfc6e07826a8a6db0e2be4eed59ea7ddbfb173a36986c8da1dfad44"), looks := false }, kinds := [], alts := [], laidByText := true, laidKinds := [.data], laidTests := true, laidLooks := .later }
def ShaKnownCardSaid : Prop := Claim7.holds Tryd.pinned (.plain (OpenSpec.ofChange shaKnownSpec)) shaKnownCard

/-- THE TIED CARD OF 'appleloftkeep.ShaLimits'. -/
def shaLimitsCard : Claim7 := { stood := { row := shaLimitsRow, standIns := [], harness := (true, "4e04726c5cfc6e07826a8a6db0e2be4eed59ea7ddbfb173a36986c8da1dfad44"), looks := false }, kinds := [], alts := [], laidByText := true, laidKinds := [.data], laidTests := true, laidLooks := .later }
def ShaLimitsCardSaid : Prop := Claim7.holds Tryd.pinned (.plain (OpenSpec.ofChange shaLimitsSpec)) shaLimitsCard

/-- THE SECOND FORM's CARD OF 'appleloftlaw.ShaSteps'. -/
def shaStepsUptoCard : Claim7 := { stood := { row := shaStepsUptoRow, standIns := [], harness := (true, "4e04726c5cfc6e07826a8a6db0e2be4eed59ea7ddbfb173a36986c8da1dfad44"), looks := false }, kinds := [], alts := [], laidByText := true, laidKinds := [.data], laidTests := true, laidLooks := .later }
def ShaStepsUptoCardSaid : Prop := Claim7.holds Tryd.pinned (.plain (OpenSpec.upto shaStepsSpec)) shaStepsUptoCard

/-- THE SECOND FORM's CARD OF 'appleloftlaw.ShaSums'. -/
def shaSumsUptoCard : Claim7 := { stood := { row := shaSumsUptoRow, standIns := [], harness := (true, "4e04726c5cfc6e07826a8a6db0e2be4eed59ea7ddbfb173a36986c8da1dfad44"), looks := false }, kinds := [], alts := [], laidByText := true, laidKinds := [.data], laidTests := true, laidLooks := .later }
def ShaSumsUptoCardSaid : Prop := Claim7.holds Tryd.pinned (.plain (OpenSpec.upto shaSumsSpec)) shaSumsUptoCard

/-- THE SECOND FORM's CARD OF 'appleloftkeep.ShaPadded'. -/
def shaPaddedUptoCard : Claim7 := { stood := { row := shaPaddedUptoRow, standIns := [], harness := (true, "4e04726c5cfc6e07826a8a6db0e2be4eed59ea7ddbfb173a36986c8da1dfad44"), looks := false }, kinds := [], alts := [], laidByText := true, laidKinds := [.data, .pinned], laidTests := true, laidLooks := .later }
def ShaPaddedUptoCardSaid : Prop := Claim7.holds Tryd.pinned (.plain (OpenSpec.upto shaPaddedSpec)) shaPaddedUptoCard

/-- THE SECOND FORM's CARD OF 'appleloftkeep.ShaChains'. -/
def shaChainsUptoCard : Claim7 := { stood := { row := shaChainsUptoRow, standIns := [], harness := (true, "4e04726c5cfc6e07826a8a6db0e2be4eed59ea7ddbfb173a36986c8da1dfad44"), looks := false }, kinds := [], alts := [], laidByText := true, laidKinds := [.data], laidTests := true, laidLooks := .later }
def ShaChainsUptoCardSaid : Prop := Claim7.holds Tryd.pinned (.plain (OpenSpec.upto shaChainsSpec)) shaChainsUptoCard

/-- THE SECOND FORM's CARD OF 'appleloftkeep.ShaKnown'. -/
def shaKnownUptoCard : Claim7 := { stood := { row := shaKnownUptoRow, standIns := [], harness := (true, "4e04726c5cfc6e07826a8a6db0e2be4eed59ea7ddbfb173a36986c8da1dfad44"), looks := false }, kinds := [], alts := [], laidByText := true, laidKinds := [.data], laidTests := true, laidLooks := .later }
def ShaKnownUptoCardSaid : Prop := Claim7.holds Tryd.pinned (.plain (OpenSpec.upto shaKnownSpec)) shaKnownUptoCard

/-- THE SECOND FORM's CARD OF 'appleloftkeep.ShaLimits'. -/
def shaLimitsUptoCard : Claim7 := { stood := { row := shaLimitsUptoRow, standIns := [], harness := (true, "4e04726c5cfc6e07826a8a6db0e2be4eed59ea7ddbfb173a36986c8da1dfad44"), looks := false }, kinds := [], alts := [], laidByText := true, laidKinds := [.data], laidTests := true, laidLooks := .later }
def ShaLimitsUptoCardSaid : Prop := Claim7.holds Tryd.pinned (.plain (OpenSpec.upto shaLimitsSpec)) shaLimitsUptoCard
end Rows
end Go.Proofs.YtbadpiennobdmaaDoor

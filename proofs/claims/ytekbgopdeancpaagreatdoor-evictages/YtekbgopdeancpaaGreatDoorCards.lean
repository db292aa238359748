/-
  DERIVED. GIVEN WITH THE SEED: THE CARDS: each row of YtekbgopdeancpaaGreatDoorRows.lean that lists a variable, with what it lists TIED to the program's text (the seventh form; the later family's looks); each row that meets fmt, with fmt's text TOLD by the authors' own Lean function (tested against real Go, not proved from fmt's source: count such statements apart). THE CARD IS WHAT COUNTS. Prove the row's statement (the work); the ties are given (YtekbgopdeancpaaGreatDoorTie.lean); close each card by the builder's one call (the guide's Derived/Test/ToyasCard.lean, 'card_holds'). Laid BY PROGRAM, IN A SANDBOX (cutbox-door.mjs). By AI agents, Wed Nov 11 2026. No macro, syntax, notation, axiom, sorry.
-/
import Derived.Test.YtekbgopdeancpaaGreatDoorRows
import GoSem.ClaimSeven
namespace Go.Proofs.YtekbgopdeancpaaGreatDoor
namespace Rows

/-- THE TIED CARD OF 'appleloftlaw.EvictWastes'. -/
def evictWastesCard : Claim7 := { stood := { row := evictWastesRow, standIns := [], harness := (true, "523c51bbb9553dcd1deb19c01b0f0df1ec1aa1133f23a73cd7422b6fb0c47bc8"), looks := false }, kinds := [], alts := [], laidByText := true, laidKinds := [.data], laidTests := true, laidLooks := .later }
def EvictWastesCardSaid : Prop := Claim7.holds Tryz.pinned (.plain (OpenSpec.ofChange evictWastesSpec)) evictWastesCard

/-- THE TIED CARD OF 'appleloftlaw.EvictClears'. -/
def evictClearsCard : Claim7 := { stood := { row := evictClearsRow, standIns := [], harness := (true, "523c51bbb9553dcd1deb19c01b0f0df1ec1aa1133f23a73cd7422b6fb0c47bc8"), looks := false }, kinds := [], alts := [], laidByText := true, laidKinds := [.data], laidTests := true, laidLooks := .later }
def EvictClearsCardSaid : Prop := Claim7.holds Tryz.pinned (.plain (OpenSpec.ofChange evictClearsSpec)) evictClearsCard

/-- THE TIED CARD OF 'appleloftlaw.EvictRuns'. -/
def evictRunsCard : Claim7 := { stood := { row := evictRunsRow, standIns := [], harness := (true, "523c51bbb9553dcd1deb19c01b0f0df1ec1aa1133f23a73cd7422b6fb0c47bc8"), looks := false }, kinds := [], alts := [], laidByText := true, laidKinds := [.data], laidTests := true, laidLooks := .later }
def EvictRunsCardSaid : Prop := Claim7.holds Tryz.pinned (.plain (OpenSpec.ofChange evictRunsSpec)) evictRunsCard

/-- THE TIED CARD OF 'appleloftkeep.EvictWaste'. -/
def evictWasteCard : Claim7 := { stood := { row := evictWasteRow, standIns := [], harness := (true, "523c51bbb9553dcd1deb19c01b0f0df1ec1aa1133f23a73cd7422b6fb0c47bc8"), looks := false }, kinds := [], alts := [], laidByText := true, laidKinds := [.data], laidTests := true, laidLooks := .later }
def EvictWasteCardSaid : Prop := Claim7.holds Tryz.pinned (.plain (OpenSpec.ofChange evictWasteSpec)) evictWasteCard

/-- THE TIED CARD OF 'appleloftkeep.EvictCleans'. -/
def evictCleansCard : Claim7 := { stood := { row := evictCleansRow, standIns := [], harness := (true, "523c51bbb9553dcd1deb19c01b0f0df1ec1aa1133f23a73cd7422b6fb0c47bc8"), looks := false }, kinds := [], alts := [], laidByText := true, laidKinds := [.data], laidTests := true, laidLooks := .later }
def EvictCleansCardSaid : Prop := Claim7.holds Tryz.pinned (.plain (OpenSpec.ofChange evictCleansSpec)) evictCleansCard

/-- THE TIED CARD OF 'appleloftkeep.EvictFits'. -/
def evictFitsCard : Claim7 := { stood := { row := evictFitsRow, standIns := [], harness := (true, "523c51bbb9553dcd1deb19c01b0f0df1ec1aa1133f23a73cd7422b6fb0c47bc8"), looks := false }, kinds := [], alts := [], laidByText := true, laidKinds := [.data], laidTests := true, laidLooks := .later }
def EvictFitsCardSaid : Prop := Claim7.holds Tryz.pinned (.plain (OpenSpec.ofChange evictFitsSpec)) evictFitsCard

/-- THE TIED CARD OF 'appleloftkeep.EvictHeld'. -/
def evictHeldCard : Claim7 := { stood := { row := evictHeldRow, standIns := [], harness := (true, "523c51bbb9553dcd1deb19c01b0f0df1ec1aa1133f23a73cd7422b6fb0c47bc8"), looks := false }, kinds := [], alts := [], laidByText := true, laidKinds := [.data], laidTests := true, laidLooks := .later }
def EvictHeldCardSaid : Prop := Claim7.holds Tryz.pinned (.plain (OpenSpec.ofChange evictHeldSpec)) evictHeldCard

/-- THE TIED CARD OF 'appleloftkeep.EvictAges'. -/
def evictAgesCard : Claim7 := { stood := { row := evictAgesRow, standIns := [], harness := (true, "523c51bbb9553dcd1deb19c01b0f0df1ec1aa1133f23a73cd7422b6fb0c47bc8"), looks := false }, kinds := [], alts := [], laidByText := true, laidKinds := [.data], laidTests := true, laidLooks := .later }
def EvictAgesCardSaid : Prop := Claim7.holds Tryz.pinned (.plain (OpenSpec.ofChange evictAgesSpec)) evictAgesCard

/-- THE TIED CARD OF 'appleloftkeep.EvictTwice'. -/
def evictTwiceCard : Claim7 := { stood := { row := evictTwiceRow, standIns := [], harness := (true, "523c51bbb9553dcd1deb19c01b0f0df1ec1aa1133f23a73cd7422b6fb0c47bc8"), looks := false }, kinds := [], alts := [], laidByText := true, laidKinds := [.data], laidTests := true, laidLooks := .later }
def EvictTwiceCardSaid : Prop := Claim7.holds Tryz.pinned (.plain (OpenSpec.ofChange evictTwiceSpec)) evictTwiceCard

/-- THE TIED CARD OF 'appleloftkeep.EvictMore'. -/
def evictMoreCard : Claim7 := { stood := { row := evictMoreRow, standIns := [], harness := (true, "523c51bbb9553dcd1deb19c01b0f0df1ec1aa1133f23a73cd7422b6fb0c47bc8"), looks := false }, kinds := [], alts := [], laidByText := true, laidKinds := [.data], laidTests := true, laidLooks := .later }
def EvictMoreCardSaid : Prop := Claim7.holds Tryz.pinned (.plain (OpenSpec.ofChange evictMoreSpec)) evictMoreCard

/-- THE SECOND FORM's CARD OF 'appleloftlaw.EvictWastes'. -/
def evictWastesUptoCard : Claim7 := { stood := { row := evictWastesUptoRow, standIns := [], harness := (true, "523c51bbb9553dcd1deb19c01b0f0df1ec1aa1133f23a73cd7422b6fb0c47bc8"), looks := false }, kinds := [], alts := [], laidByText := true, laidKinds := [.data], laidTests := true, laidLooks := .later }
def EvictWastesUptoCardSaid : Prop := Claim7.holds Tryz.pinned (.plain (OpenSpec.upto evictWastesSpec)) evictWastesUptoCard

/-- THE SECOND FORM's CARD OF 'appleloftlaw.EvictClears'. -/
def evictClearsUptoCard : Claim7 := { stood := { row := evictClearsUptoRow, standIns := [], harness := (true, "523c51bbb9553dcd1deb19c01b0f0df1ec1aa1133f23a73cd7422b6fb0c47bc8"), looks := false }, kinds := [], alts := [], laidByText := true, laidKinds := [.data], laidTests := true, laidLooks := .later }
def EvictClearsUptoCardSaid : Prop := Claim7.holds Tryz.pinned (.plain (OpenSpec.upto evictClearsSpec)) evictClearsUptoCard

/-- THE SECOND FORM's CARD OF 'appleloftlaw.EvictRuns'. -/
def evictRunsUptoCard : Claim7 := { stood := { row := evictRunsUptoRow, standIns := [], harness := (true, "523c51bbb9553dcd1deb19c01b0f0df1ec1aa1133f23a73cd7422b6fb0c47bc8"), looks := false }, kinds := [], alts := [], laidByText := true, laidKinds := [.data], laidTests := true, laidLooks := .later }
def EvictRunsUptoCardSaid : Prop := Claim7.holds Tryz.pinned (.plain (OpenSpec.upto evictRunsSpec)) evictRunsUptoCard

/-- THE SECOND FORM's CARD OF 'appleloftkeep.EvictWaste'. -/
def evictWasteUptoCard : Claim7 := { stood := { row := evictWasteUptoRow, standIns := [], harness := (true, "523c51bbb9553dcd1deb19c01b0f0df1ec1aa1133f23a73cd7422b6fb0c47bc8"), looks := false }, kinds := [], alts := [], laidByText := true, laidKinds := [.data], laidTests := true, laidLooks := .later }
def EvictWasteUptoCardSaid : Prop := Claim7.holds Tryz.pinned (.plain (OpenSpec.upto evictWasteSpec)) evictWasteUptoCard

/-- THE SECOND FORM's CARD OF 'appleloftkeep.EvictCleans'. -/
def evictCleansUptoCard : Claim7 := { stood := { row := evictCleansUptoRow, standIns := [], harness := (true, "523c51bbb9553dcd1deb19c01b0f0df1ec1aa1133f23a73cd7422b6fb0c47bc8"), looks := false }, kinds := [], alts := [], laidByText := true, laidKinds := [.data], laidTests := true, laidLooks := .later }
def EvictCleansUptoCardSaid : Prop := Claim7.holds Tryz.pinned (.plain (OpenSpec.upto evictCleansSpec)) evictCleansUptoCard

/-- THE SECOND FORM's CARD OF 'appleloftkeep.EvictFits'. -/
def evictFitsUptoCard : Claim7 := { stood := { row := evictFitsUptoRow, standIns := [], harness := (true, "523c51bbb9553dcd1deb19c01b0f0df1ec1aa1133f23a73cd7422b6fb0c47bc8"), looks := false }, kinds := [], alts := [], laidByText := true, laidKinds := [.data], laidTests := true, laidLooks := .later }
def EvictFitsUptoCardSaid : Prop := Claim7.holds Tryz.pinned (.plain (OpenSpec.upto evictFitsSpec)) evictFitsUptoCard

/-- THE SECOND FORM's CARD OF 'appleloftkeep.EvictHeld'. -/
def evictHeldUptoCard : Claim7 := { stood := { row := evictHeldUptoRow, standIns := [], harness := (true, "523c51bbb9553dcd1deb19c01b0f0df1ec1aa1133f23a73cd7422b6fb0c47bc8"), looks := false }, kinds := [], alts := [], laidByText := true, laidKinds := [.data], laidTests := true, laidLooks := .later }
def EvictHeldUptoCardSaid : Prop := Claim7.holds Tryz.pinned (.plain (OpenSpec.upto evictHeldSpec)) evictHeldUptoCard

/-- THE SECOND FORM's CARD OF 'appleloftkeep.EvictAges'. -/
def evictAgesUptoCard : Claim7 := { stood := { row := evictAgesUptoRow, standIns := [], harness := (true, "523c51bbb9553dcd1deb19c01b0f0df1ec1aa1133f23a73cd7422b6fb0c47bc8"), looks := false }, kinds := [], alts := [], laidByText := true, laidKinds := [.data], laidTests := true, laidLooks := .later }
def EvictAgesUptoCardSaid : Prop := Claim7.holds Tryz.pinned (.plain (OpenSpec.upto evictAgesSpec)) evictAgesUptoCard

/-- THE SECOND FORM's CARD OF 'appleloftkeep.EvictTwice'. -/
def evictTwiceUptoCard : Claim7 := { stood := { row := evictTwiceUptoRow, standIns := [], harness := (true, "523c51bbb9553dcd1deb19c01b0f0df1ec1aa1133f23a73cd7422b6fb0c47bc8"), looks := false }, kinds := [], alts := [], laidByText := true, laidKinds := [.data], laidTests := true, laidLooks := .later }
def EvictTwiceUptoCardSaid : Prop := Claim7.holds Tryz.pinned (.plain (OpenSpec.upto evictTwiceSpec)) evictTwiceUptoCard

/-- THE SECOND FORM's CARD OF 'appleloftkeep.EvictMore'. -/
def evictMoreUptoCard : Claim7 := { stood := { row := evictMoreUptoRow, standIns := [], harness := (true, "523c51bbb9553dcd1deb19c01b0f0df1ec1aa1133f23a73cd7422b6fb0c47bc8"), looks := false }, kinds := [], alts := [], laidByText := true, laidKinds := [.data], laidTests := true, laidLooks := .later }
def EvictMoreUptoCardSaid : Prop := Claim7.holds Tryz.pinned (.plain (OpenSpec.upto evictMoreSpec)) evictMoreUptoCard
end Rows
end Go.Proofs.YtekbgopdeancpaaGreatDoor

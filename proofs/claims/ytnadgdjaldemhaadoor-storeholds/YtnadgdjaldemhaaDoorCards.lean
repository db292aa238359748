/-
  DERIVED. GIVEN WITH THE SEED: THE CARDS: each row of YtnadgdjaldemhaaDoorRows.lean that lists a variable, with what it lists TIED to the program's text (the seventh form; the later family's looks); each row that meets fmt, with fmt's text TOLD by the authors' own Lean function (tested against real Go, not proved from fmt's source: count such statements apart). THE CARD IS WHAT COUNTS. Prove the row's statement (the work); the ties are given (YtnadgdjaldemhaaDoorTie.lean); close each card by the builder's one call (the guide's Derived/Test/ToyasCard.lean, 'card_holds'). Laid BY PROGRAM, IN A SANDBOX (cutbox-door.mjs). By AI agents, Wed Nov 11 2026. No macro, syntax, notation, axiom, sorry.
-/
import Derived.Test.YtnadgdjaldemhaaDoorRows
import GoSem.ClaimSeven
namespace Go.Proofs.YtnadgdjaldemhaaDoor
namespace Rows

/-- THE TIED CARD OF 'appleloftlaw.StoreChecks'. -/
def storeChecksCard : Claim7 := { stood := { row := storeChecksRow, standIns := [], harness := (true, "16be35310dde562522afef83257763092a929f7964a15818d75b2d6b0c9bdb0d"), looks := false }, kinds := [], alts := [], laidByText := true, laidKinds := [.data], laidTests := true, laidLooks := .later }
def StoreChecksCardSaid : Prop := Claim7.holds Tryd.pinned (.plain (OpenSpec.ofChange storeChecksSpec)) storeChecksCard

/-- THE TIED CARD OF 'appleloftlaw.StorePutsBlob'. -/
def storePutsBlobCard : Claim7 := { stood := { row := storePutsBlobRow, standIns := [], harness := (true, "16be35310dde562522afef83257763092a929f7964a15818d75b2d6b0c9bdb0d"), looks := false }, kinds := [], alts := [], laidByText := true, laidKinds := [.data], laidTests := true, laidLooks := .later }
def StorePutsBlobCardSaid : Prop := Claim7.holds Tryd.pinned (.plain (OpenSpec.ofChange storePutsBlobSpec)) storePutsBlobCard

/-- THE TIED CARD OF 'appleloftlaw.StoreGetsBlob'. -/
def storeGetsBlobCard : Claim7 := { stood := { row := storeGetsBlobRow, standIns := [], harness := (true, "16be35310dde562522afef83257763092a929f7964a15818d75b2d6b0c9bdb0d"), looks := false }, kinds := [], alts := [], laidByText := true, laidKinds := [.data], laidTests := true, laidLooks := .later }
def StoreGetsBlobCardSaid : Prop := Claim7.holds Tryd.pinned (.plain (OpenSpec.ofChange storeGetsBlobSpec)) storeGetsBlobCard

/-- THE TIED CARD OF 'appleloftlaw.StorePuts'. -/
def storePutsCard : Claim7 := { stood := { row := storePutsRow, standIns := [], harness := (true, "16be35310dde562522afef83257763092a929f7964a15818d75b2d6b0c9bdb0d"), looks := false }, kinds := [], alts := [], laidByText := true, laidKinds := [.data], laidTests := true, laidLooks := .later }
def StorePutsCardSaid : Prop := Claim7.holds Tryd.pinned (.plain (OpenSpec.ofChange storePutsSpec)) storePutsCard

/-- THE TIED CARD OF 'appleloftlaw.StoreGets'. -/
def storeGetsCard : Claim7 := { stood := { row := storeGetsRow, standIns := [], harness := (true, "16be35310dde562522afef83257763092a929f7964a15818d75b2d6b0c9bdb0d"), looks := false }, kinds := [], alts := [], laidByText := true, laidKinds := [.data], laidTests := true, laidLooks := .later }
def StoreGetsCardSaid : Prop := Claim7.holds Tryd.pinned (.plain (OpenSpec.ofChange storeGetsSpec)) storeGetsCard

/-- THE TIED CARD OF 'appleloftlaw.StoreHolds'. -/
def storeHoldsCard : Claim7 := { stood := { row := storeHoldsRow, standIns := [], harness := (true, "16be35310dde562522afef83257763092a929f7964a15818d75b2d6b0c9bdb0d"), looks := false }, kinds := [], alts := [], laidByText := true, laidKinds := [.data], laidTests := true, laidLooks := .later }
def StoreHoldsCardSaid : Prop := Claim7.holds Tryd.pinned (.plain (OpenSpec.ofChange storeHoldsSpec)) storeHoldsCard

/-- THE SECOND FORM's CARD OF 'appleloftlaw.StoreChecks'. -/
def storeChecksUptoCard : Claim7 := { stood := { row := storeChecksUptoRow, standIns := [], harness := (true, "16be35310dde562522afef83257763092a929f7964a15818d75b2d6b0c9bdb0d"), looks := false }, kinds := [], alts := [], laidByText := true, laidKinds := [.data], laidTests := true, laidLooks := .later }
def StoreChecksUptoCardSaid : Prop := Claim7.holds Tryd.pinned (.plain (OpenSpec.upto storeChecksSpec)) storeChecksUptoCard

/-- THE SECOND FORM's CARD OF 'appleloftlaw.StorePutsBlob'. -/
def storePutsBlobUptoCard : Claim7 := { stood := { row := storePutsBlobUptoRow, standIns := [], harness := (true, "16be35310dde562522afef83257763092a929f7964a15818d75b2d6b0c9bdb0d"), looks := false }, kinds := [], alts := [], laidByText := true, laidKinds := [.data], laidTests := true, laidLooks := .later }
def StorePutsBlobUptoCardSaid : Prop := Claim7.holds Tryd.pinned (.plain (OpenSpec.upto storePutsBlobSpec)) storePutsBlobUptoCard

/-- THE SECOND FORM's CARD OF 'appleloftlaw.StoreGetsBlob'. -/
def storeGetsBlobUptoCard : Claim7 := { stood := { row := storeGetsBlobUptoRow, standIns := [], harness := (true, "16be35310dde562522afef83257763092a929f7964a15818d75b2d6b0c9bdb0d"), looks := false }, kinds := [], alts := [], laidByText := true, laidKinds := [.data], laidTests := true, laidLooks := .later }
def StoreGetsBlobUptoCardSaid : Prop := Claim7.holds Tryd.pinned (.plain (OpenSpec.upto storeGetsBlobSpec)) storeGetsBlobUptoCard

/-- THE SECOND FORM's CARD OF 'appleloftlaw.StorePuts'. -/
def storePutsUptoCard : Claim7 := { stood := { row := storePutsUptoRow, standIns := [], harness := (true, "16be35310dde562522afef83257763092a929f7964a15818d75b2d6b0c9bdb0d"), looks := false }, kinds := [], alts := [], laidByText := true, laidKinds := [.data], laidTests := true, laidLooks := .later }
def StorePutsUptoCardSaid : Prop := Claim7.holds Tryd.pinned (.plain (OpenSpec.upto storePutsSpec)) storePutsUptoCard

/-- THE SECOND FORM's CARD OF 'appleloftlaw.StoreGets'. -/
def storeGetsUptoCard : Claim7 := { stood := { row := storeGetsUptoRow, standIns := [], harness := (true, "16be35310dde562522afef83257763092a929f7964a15818d75b2d6b0c9bdb0d"), looks := false }, kinds := [], alts := [], laidByText := true, laidKinds := [.data], laidTests := true, laidLooks := .later }
def StoreGetsUptoCardSaid : Prop := Claim7.holds Tryd.pinned (.plain (OpenSpec.upto storeGetsSpec)) storeGetsUptoCard

/-- THE SECOND FORM's CARD OF 'appleloftlaw.StoreHolds'. -/
def storeHoldsUptoCard : Claim7 := { stood := { row := storeHoldsUptoRow, standIns := [], harness := (true, "16be35310dde562522afef83257763092a929f7964a15818d75b2d6b0c9bdb0d"), looks := false }, kinds := [], alts := [], laidByText := true, laidKinds := [.data], laidTests := true, laidLooks := .later }
def StoreHoldsUptoCardSaid : Prop := Claim7.holds Tryd.pinned (.plain (OpenSpec.upto storeHoldsSpec)) storeHoldsUptoCard
end Rows
end Go.Proofs.YtnadgdjaldemhaaDoor

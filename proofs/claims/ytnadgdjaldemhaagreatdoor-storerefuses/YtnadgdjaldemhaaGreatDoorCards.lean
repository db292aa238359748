/-
  DERIVED. GIVEN WITH THE SEED: THE CARDS: each row of YtnadgdjaldemhaaGreatDoorRows.lean that lists a variable, with what it lists TIED to the program's text (the seventh form; the later family's looks); each row that meets fmt, with fmt's text TOLD by the authors' own Lean function (tested against real Go, not proved from fmt's source: count such statements apart). THE CARD IS WHAT COUNTS. Prove the row's statement (the work); the ties are given (YtnadgdjaldemhaaGreatDoorTie.lean); close each card by the builder's one call (the guide's Derived/Test/ToyasCard.lean, 'card_holds'). Laid BY PROGRAM, IN A SANDBOX (cutbox-door.mjs). By AI agents, Wed Nov 11 2026. No macro, syntax, notation, axiom, sorry.
-/
import Derived.Test.YtnadgdjaldemhaaGreatDoorRows
import GoSem.ClaimSeven
namespace Go.Proofs.YtnadgdjaldemhaaGreatDoor
namespace Rows

/-- THE TIED CARD OF 'appleloftkeep.StoreGood'. -/
def storeGoodCard : Claim7 := { stood := { row := storeGoodRow, standIns := [], harness := (true, "7f338751081100f43eb770a2b01306b2872775144ad0ba6e46f94415e69d8814"), looks := false }, kinds := [], alts := [], laidByText := true, laidKinds := [.data], laidTests := true, laidLooks := .later }
def StoreGoodCardSaid : Prop := Claim7.holds Tryz.pinned (.plain (OpenSpec.ofChange storeGoodSpec)) storeGoodCard

/-- THE TIED CARD OF 'appleloftkeep.StoreBack'. -/
def storeBackCard : Claim7 := { stood := { row := storeBackRow, standIns := [], harness := (true, "7f338751081100f43eb770a2b01306b2872775144ad0ba6e46f94415e69d8814"), looks := false }, kinds := [], alts := [], laidByText := true, laidKinds := [.data], laidTests := true, laidLooks := .later }
def StoreBackCardSaid : Prop := Claim7.holds Tryz.pinned (.plain (OpenSpec.ofChange storeBackSpec)) storeBackCard

/-- THE TIED CARD OF 'appleloftkeep.StoreEntry'. -/
def storeEntryCard : Claim7 := { stood := { row := storeEntryRow, standIns := [], harness := (true, "7f338751081100f43eb770a2b01306b2872775144ad0ba6e46f94415e69d8814"), looks := false }, kinds := [], alts := [], laidByText := true, laidKinds := [.data], laidTests := true, laidLooks := .later }
def StoreEntryCardSaid : Prop := Claim7.holds Tryz.pinned (.plain (OpenSpec.ofChange storeEntrySpec)) storeEntryCard

/-- THE TIED CARD OF 'appleloftkeep.StoreRefuses'. -/
def storeRefusesCard : Claim7 := { stood := { row := storeRefusesRow, standIns := [], harness := (true, "7f338751081100f43eb770a2b01306b2872775144ad0ba6e46f94415e69d8814"), looks := false }, kinds := [], alts := [], laidByText := true, laidKinds := [.data], laidTests := true, laidLooks := .later }
def StoreRefusesCardSaid : Prop := Claim7.holds Tryz.pinned (.plain (OpenSpec.ofChange storeRefusesSpec)) storeRefusesCard

/-- THE TIED CARD OF 'appleloftkeep.StoreOwn'. -/
def storeOwnCard : Claim7 := { stood := { row := storeOwnRow, standIns := [], harness := (true, "7f338751081100f43eb770a2b01306b2872775144ad0ba6e46f94415e69d8814"), looks := false }, kinds := [], alts := [], laidByText := true, laidKinds := [.data], laidTests := true, laidLooks := .later }
def StoreOwnCardSaid : Prop := Claim7.holds Tryz.pinned (.plain (OpenSpec.ofChange storeOwnSpec)) storeOwnCard

/-- THE TIED CARD OF 'appleloftkeep.StoreHeld'. -/
def storeHeldCard : Claim7 := { stood := { row := storeHeldRow, standIns := [], harness := (true, "7f338751081100f43eb770a2b01306b2872775144ad0ba6e46f94415e69d8814"), looks := false }, kinds := [], alts := [], laidByText := true, laidKinds := [.data], laidTests := true, laidLooks := .later }
def StoreHeldCardSaid : Prop := Claim7.holds Tryz.pinned (.plain (OpenSpec.ofChange storeHeldSpec)) storeHeldCard

/-- THE TIED CARD OF 'appleloftkeep.StoreTwice'. -/
def storeTwiceCard : Claim7 := { stood := { row := storeTwiceRow, standIns := [], harness := (true, "7f338751081100f43eb770a2b01306b2872775144ad0ba6e46f94415e69d8814"), looks := false }, kinds := [], alts := [], laidByText := true, laidKinds := [.data], laidTests := true, laidLooks := .later }
def StoreTwiceCardSaid : Prop := Claim7.holds Tryz.pinned (.plain (OpenSpec.ofChange storeTwiceSpec)) storeTwiceCard

/-- THE SECOND FORM's CARD OF 'appleloftkeep.StoreGood'. -/
def storeGoodUptoCard : Claim7 := { stood := { row := storeGoodUptoRow, standIns := [], harness := (true, "7f338751081100f43eb770a2b01306b2872775144ad0ba6e46f94415e69d8814"), looks := false }, kinds := [], alts := [], laidByText := true, laidKinds := [.data], laidTests := true, laidLooks := .later }
def StoreGoodUptoCardSaid : Prop := Claim7.holds Tryz.pinned (.plain (OpenSpec.upto storeGoodSpec)) storeGoodUptoCard

/-- THE SECOND FORM's CARD OF 'appleloftkeep.StoreBack'. -/
def storeBackUptoCard : Claim7 := { stood := { row := storeBackUptoRow, standIns := [], harness := (true, "7f338751081100f43eb770a2b01306b2872775144ad0ba6e46f94415e69d8814"), looks := false }, kinds := [], alts := [], laidByText := true, laidKinds := [.data], laidTests := true, laidLooks := .later }
def StoreBackUptoCardSaid : Prop := Claim7.holds Tryz.pinned (.plain (OpenSpec.upto storeBackSpec)) storeBackUptoCard

/-- THE SECOND FORM's CARD OF 'appleloftkeep.StoreEntry'. -/
def storeEntryUptoCard : Claim7 := { stood := { row := storeEntryUptoRow, standIns := [], harness := (true, "7f338751081100f43eb770a2b01306b2872775144ad0ba6e46f94415e69d8814"), looks := false }, kinds := [], alts := [], laidByText := true, laidKinds := [.data], laidTests := true, laidLooks := .later }
def StoreEntryUptoCardSaid : Prop := Claim7.holds Tryz.pinned (.plain (OpenSpec.upto storeEntrySpec)) storeEntryUptoCard

/-- THE SECOND FORM's CARD OF 'appleloftkeep.StoreRefuses'. -/
def storeRefusesUptoCard : Claim7 := { stood := { row := storeRefusesUptoRow, standIns := [], harness := (true, "7f338751081100f43eb770a2b01306b2872775144ad0ba6e46f94415e69d8814"), looks := false }, kinds := [], alts := [], laidByText := true, laidKinds := [.data], laidTests := true, laidLooks := .later }
def StoreRefusesUptoCardSaid : Prop := Claim7.holds Tryz.pinned (.plain (OpenSpec.upto storeRefusesSpec)) storeRefusesUptoCard

/-- THE SECOND FORM's CARD OF 'appleloftkeep.StoreOwn'. -/
def storeOwnUptoCard : Claim7 := { stood := { row := storeOwnUptoRow, standIns := [], harness := (true, "7f338751081100f43eb770a2b01306b2872775144ad0ba6e46f94415e69d8814"), looks := false }, kinds := [], alts := [], laidByText := true, laidKinds := [.data], laidTests := true, laidLooks := .later }
def StoreOwnUptoCardSaid : Prop := Claim7.holds Tryz.pinned (.plain (OpenSpec.upto storeOwnSpec)) storeOwnUptoCard

/-- THE SECOND FORM's CARD OF 'appleloftkeep.StoreHeld'. -/
def storeHeldUptoCard : Claim7 := { stood := { row := storeHeldUptoRow, standIns := [], harness := (true, "7f338751081100f43eb770a2b01306b2872775144ad0ba6e46f94415e69d8814"), looks := false }, kinds := [], alts := [], laidByText := true, laidKinds := [.data], laidTests := true, laidLooks := .later }
def StoreHeldUptoCardSaid : Prop := Claim7.holds Tryz.pinned (.plain (OpenSpec.upto storeHeldSpec)) storeHeldUptoCard

/-- THE SECOND FORM's CARD OF 'appleloftkeep.StoreTwice'. -/
def storeTwiceUptoCard : Claim7 := { stood := { row := storeTwiceUptoRow, standIns := [], harness := (true, "7f338751081100f43eb770a2b01306b2872775144ad0ba6e46f94415e69d8814"), looks := false }, kinds := [], alts := [], laidByText := true, laidKinds := [.data], laidTests := true, laidLooks := .later }
def StoreTwiceUptoCardSaid : Prop := Claim7.holds Tryz.pinned (.plain (OpenSpec.upto storeTwiceSpec)) storeTwiceUptoCard
end Rows
end Go.Proofs.YtnadgdjaldemhaaGreatDoor

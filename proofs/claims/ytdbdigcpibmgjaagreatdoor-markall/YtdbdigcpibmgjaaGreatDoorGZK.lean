/- Texts that belong together: what the functions of the program and of the statements return. -/
import Derived.Test.YtdbdigcpibmgjaaGreatDoorGSA
import Derived.Test.YtdbdigcpibmgjaaGreatDoorGZ
import Derived.Test.YtdbdigcpibmgjaaGreatDoorGRC
import Derived.Test.YtdbdigcpibmgjaaGreatDoorGRB
import Derived.Test.YtdbdigcpibmgjaaGreatDoorGRB
/- The store of the closed facts: digests by the kernel. Nothing of the program. -/
namespace Go.Proofs.YtdbdigcpibmgjaaGreatDoor
open Go.RowKit
/-- the part of the manifest; the two blobs; the entry; the store -/
def smP : Prt := ⟨[120], dig [97, 98, 99], 3⟩
def smD : List UInt8 := man [smP]
def smA : Bl := ⟨dig [97, 98, 99], [97, 98, 99], 0, false⟩
def smM : Bl := ⟨dig smD, smD, 0, false⟩
set_option maxRecDepth 100000 in
theorem sm_abc : dig [97, 98, 99] = [98, 97, 55, 56, 49, 54, 98, 102, 56, 102, 48, 49, 99, 102, 101, 97, 52, 49, 52, 49, 52, 48, 100, 101, 53, 100, 97, 101, 50, 50, 50, 51, 98, 48, 48, 51, 54, 49, 97, 51, 57, 54, 49, 55, 55, 97, 57, 99, 98, 52, 49, 48, 102, 102, 54, 49, 102, 50, 48, 48, 49, 53, 97, 100] := by decide +kernel
end Go.Proofs.YtdbdigcpibmgjaaGreatDoor
/- The store of the closed facts: what it comes to. -/
namespace Go.Proofs.YtdbdigcpibmgjaaGreatDoor
open Go.RowKit
def smE : En := ⟨keyN 0, [⟨[109], dig smD, 39⟩], 0, 1⟩
set_option maxRecDepth 100000 in
theorem sm_less : Op.bytesLess smA.dg smM.dg = true := by decide +kernel
set_option maxRecDepth 100000 in
theorem sm_roots : (ris (roots [smA, smM] [smE])).length = 1 := by decide +kernel
set_option maxRecDepth 100000 in
theorem sm_all : (ris (rFrom [smA, smM] pOf (ris (roots [smA, smM] [smE])))).length = 2 := by decide +kernel
theorem sm_len : smD.length = 39 := by decide +kernel
end Go.Proofs.YtdbdigcpibmgjaaGreatDoor

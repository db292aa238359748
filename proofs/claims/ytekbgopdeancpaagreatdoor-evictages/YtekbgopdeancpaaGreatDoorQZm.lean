/- The store of the closed facts: what it comes to. -/
import Derived.Test.YtekbgopdeancpaaGreatDoorGRC
import Derived.Test.YtekbgopdeancpaaGreatDoorGRB
import Derived.Test.YtekbgopdeancpaaGreatDoorGRB
import Derived.Test.YtekbgopdeancpaaGreatDoorQZk
namespace Go.Proofs.YtekbgopdeancpaaGreatDoor
open Go.RowKit
def smE : En := ⟨keyN 0, [⟨[109], dig smD, 39⟩], 0, 1⟩
set_option maxRecDepth 100000 in
theorem sm_less : Op.bytesLess smA.dg smM.dg = true := by decide +kernel
set_option maxRecDepth 100000 in
theorem sm_roots : (ris (roots [smA, smM] [smE])).length = 1 := by decide +kernel
set_option maxRecDepth 100000 in
theorem sm_all : (ris (rFrom [smA, smM] pOf (ris (roots [smA, smM] [smE])))).length = 2 := by decide +kernel
theorem sm_len : smD.length = 39 := by decide +kernel
end Go.Proofs.YtekbgopdeancpaaGreatDoor

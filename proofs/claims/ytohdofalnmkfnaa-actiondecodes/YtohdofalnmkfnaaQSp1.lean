/- Parts compared by the statements' own function. -/
import Derived.Test.YtohdofalnmkfnaaGE
namespace Go.Proofs.Ytohdofalnmkfnaa
open Go.RowKit
set_option maxRecDepth 100000 in
set_option maxHeartbeats 400000 in
theorem sameParts_any (A B : Option Addr) (n0 m0 c d : Nat) (l m : List Prt) (w : World) (hr : Rd w 3 A n0 c (pcs l)) (hs : Rd w 3 B m0 d (pcs m)) :
    Calls Try.prog 14 #[.slice A n0 c, .slice B m0 d] w (GivesT (l = m) w) := by
  go_enter Try.func14, Try.ntmps14
  go_wp2_with fail
  with_reducible refine (equalParts_any _ _ _ _ _ _ _ _ _ hr hs).mono ?_
  rintro e w1 ⟨b, rfl, hb, hw⟩
  go_wp2
  go_ret
  exact ⟨_, rfl, hb, hw⟩
end Go.Proofs.Ytohdofalnmkfnaa

/- The law WireReads: the walk. -/
import Derived.Test.YtkiaildchmncoaaRq
import Derived.Test.YtkiaildchmncoaaSb
namespace Go.Proofs.Ytkiaildchmncoaa
open Go.RowKit
set_option maxHeartbeats 400000 in
theorem wireReads_walk (A : Option Addr) (n c : Nat) (l : List UInt8) (w : World) (hr : Rd w 1 A n c (l.map bv8)) (hz : n ≤ 140737488351232) :
    Calls Try.prog 4 #[.slice A n c] w fun e w' => e = .returned (.bool true) ∧ Below w.heap.size w w' := by
  go_enter Try.func4, Try.ntmps4
  go_wp2_with fail
  with_reducible refine (readNumber_any _ _ _ _ _ hr (by omega)).mono ?_
  rintro e w1 ⟨A1, n1, c1, rfl, hr1, hA1, hn1, hb1⟩
  go_wp2_with fail
  with_reducible refine (rof_any _ _ _ _ _ (hr.below hb1) hz).mono ?_
  rintro e w2 ⟨A2, n2, c2, rfl, hr2, hA2, hn2, hb2⟩
  have ee : (rRest l == rRest l) = true := by simp
  go_wp2_with ((with_reducible refine (sameBytes_any _ _ _ _ _ _ _ _ _ (hr1.below hb2) hr2).mono ?_); rintro e w3 ⟨rfl, rfl⟩)
  go_ret
  exact ⟨by simp, below_step hb1 hb2⟩
end Go.Proofs.Ytkiaildchmncoaa

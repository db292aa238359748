/- The law ShaSums: the digest of bytes is the reference's. -/
import Derived.Test.YtbadpiennobdmaaDoorSu
import Derived.Test.YtbadpiennobdmaaDoorRu
namespace Go.Proofs.YtbadpiennobdmaaDoor
open Go.RowKit
set_option maxHeartbeats 400000 in
theorem shaSums_walk (A : Option Addr) (n c : Nat) (l : List UInt8) (w : World) (hK : Kon w) (hr : Rd w 1 A n c (l.map bv8)) (hA : A = none → c = 0) (hz : n ≤ 140737488351232) :
    Calls Tryd.prog 4 #[.slice A n c] w fun e w' => e = .returned (.bool true) ∧ Below w.heap.size w w' := by
  by_cases hb : 2000 < n
  · have ee : (([] : List UInt8) == []) = true := rfl
    go_enter Tryd.func4, Tryd.ntmps4
    go_wp2_with fail
    with_reducible refine (sum_big _ _ _ _ hb (by omega)).mono ?_
    rintro e w1 ⟨rfl, rfl⟩
    go_wp2_with fail
    with_reducible refine (rsum_big _ _ _ _ hb (by omega)).mono ?_
    rintro e w1 ⟨rfl, rfl⟩
    go_wp2
    go_ret
    exact ⟨by simp, Below.refl _ _⟩
  · have ee : (dig l == dig l) = true := by simp
    go_enter Tryd.func4, Tryd.ntmps4
    go_wp2_with fail
    with_reducible refine (sum_ok _ _ _ l _ hK hr (by omega)).mono ?_
    rintro e w1 ⟨rfl, hb1⟩
    go_wp2_with fail
    with_reducible refine (rsum_ok _ _ _ l _ (hr.below hb1) hA (by omega)).mono ?_
    rintro e w2 ⟨rfl, hb2⟩
    go_wp2
    go_ret
    exact ⟨by simp, below_step hb1 hb2⟩
end Go.Proofs.YtbadpiennobdmaaDoor

/- The law ShaKnown: the digest of bytes is the statements' own. -/
import Derived.Test.YtbadpiennobdmaaDoorSu
import Derived.Test.YtbadpiennobdmaaDoorDg
namespace Go.Proofs.YtbadpiennobdmaaDoor
open Go.RowKit
set_option maxHeartbeats 400000 in
theorem shaKnown_walk (A : Option Addr) (n0 c : Nat) (l0 : List UInt8) (w : World) (hK : Kon w) (hr0 : Rd w 1 A n0 c (l0.map bv8)) :
    Calls Tryd.prog 7 #[.slice A n0 c] w fun e w' => e = .returned (.bool true) ∧ Below w.heap.size w w' := by
  have hlm := hr0.2.2.1
  have hlc := hr0.2.1
  unfold maxLen at hlm
  obtain ⟨l, n, hn, hr⟩ : ∃ (l : List UInt8) (n : Nat), n = min n0 1500 ∧ Rd w 1 A n c (l.map bv8) := by
    refine ⟨l0.take (min n0 1500), min n0 1500, rfl, ?_⟩
    have := hr0.take (min n0 1500) (by omega)
    rwa [← List.map_take] at this
  have hle : n ≤ 1500 := by omega
  have ee : (dig l == dig l) = true := by simp
  by_cases hc : n0 ≤ 1500
  · obtain rfl : n = n0 := by omega
    clear hn
    go_enter Tryd.func7, Tryd.ntmps7
    go_wp2_with fail
    with_reducible refine (sum_ok _ _ _ l _ hK hr (by omega)).mono ?_
    rintro e w1 ⟨rfl, hb1⟩
    go_wp2_with fail
    with_reducible refine (digest_ok _ _ _ l _ (hr.below hb1) (by omega)).mono ?_
    rintro e w2 ⟨rfl, hb2⟩
    go_wp2
    go_ret
    exact ⟨by simp, below_step hb1 hb2⟩
  · obtain rfl : n = 1500 := by omega
    clear hn
    go_enter Tryd.func7, Tryd.ntmps7
    go_wp2_with fail
    with_reducible refine (sum_ok _ _ _ l _ hK hr (by omega)).mono ?_
    rintro e w1 ⟨rfl, hb1⟩
    go_wp2_with fail
    with_reducible refine (digest_ok _ _ _ l _ (hr.below hb1) (by omega)).mono ?_
    rintro e w2 ⟨rfl, hb2⟩
    go_wp2
    go_ret
    exact ⟨by simp, below_step hb1 hb2⟩
end Go.Proofs.YtbadpiennobdmaaDoor

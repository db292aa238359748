/- The laws of chapter 2 that need no digest: the walks. -/
import Derived.Test.YtnijkogpdahgnaaH2v
namespace Go.Proofs.Ytnijkogpdahgnaa
open Go.RowKit
set_option maxHeartbeats 400000 in
theorem hexTexts_walk (A : Option Addr) (n c : Nat) (l m : List UInt8) (w : World) (hr : Rd w 1 A n c (l.map bv8)) (hz : n ≤ 140737488351232) (hm : m.length ≤ maxLen) :
    Calls Try.prog 3 #[.slice A n c, .string (str m)] w fun e w' => e = .returned (.bool true) ∧ Below w.heap.size w w' := by
  go_enter Try.func3, Try.ntmps3
  go_wp2_with fail
  with_reducible refine (text_any _ _ _ _ _ hr hz).mono ?_
  rintro e w1 ⟨rfl, hb1⟩
  go_wp2_with fail
  with_reducible refine (hbytes_all _ _ hm).mono ?_
  rintro e w2 ⟨A2, n2, c2, rfl, hr2, hb2⟩
  go_wp2_with fail
  with_reducible refine (hexText_any _ _ _ _ _ ((hr.below hb1).below hb2) hz).mono ?_
  rintro e w3 ⟨rfl, hb3⟩
  go_wp2_with fail
  with_reducible refine (rbytes_all _ _ hm).mono ?_
  rintro e w4 ⟨A4, n4, c4, rfl, hr4, hb4⟩
  have ee : (hexT l == hexT l) = true := by simp
  have ef : (hRes m == hRes m) = true := by simp
  go_wp2_with ((with_reducible refine (sameBytes_any _ _ _ _ _ _ _ _ _ ((hr2.below hb3).below hb4) hr4).mono ?_); rintro e w5 ⟨rfl, rfl⟩)
  go_ret
  exact ⟨by simp, below_step (below_step (below_step hb1 hb2) hb3) hb4⟩
set_option maxHeartbeats 400000 in
theorem hexChecks_walk (m : List UInt8) (w : World) (hm : m.length ≤ maxLen) :
    Calls Try.prog 4 #[.string (str m)] w fun e w' => e = .returned (.bool true) ∧ Below w.heap.size w w' := by
  go_enter Try.func4, Try.ntmps4
  go_wp2_with fail
  with_reducible refine (hcheck_all _ _ hm).mono ?_
  rintro e w1 ⟨rfl, rfl⟩
  go_wp2_with fail
  with_reducible refine (hexFault_all _ _ hm).mono ?_
  rintro e w2 ⟨rfl, hb2⟩
  go_wp2
  go_ret
  exact ⟨by simp, hb2⟩
end Go.Proofs.Ytnijkogpdahgnaa

/- The law WireTexts: the walk. -/
import Derived.Test.YtkiaildchmncoaaTx
import Derived.Test.YtkiaildchmncoaaRs
import Derived.Test.YtkiaildchmncoaaSb
import Derived.Test.YtkiaildchmncoaaW4N
namespace Go.Proofs.Ytkiaildchmncoaa
open Go.RowKit
/-- the bytes of whatever text, and the error -/
def xRes (m : List UInt8) : List UInt8 := if 2000 < m.length then [] else txt m
def xErr (m : List UInt8) : Int := if 2000 < m.length then 1 else 0
theorem text_all (m : List UInt8) (w : World) (hm : m.length ≤ maxLen) : Calls Try.prog 16 #[.string (str m)] w (GivesB (xRes m) (xErr m) w) := by
  by_cases h : 2000 < m.length
  · rw [show xRes m = [] from if_pos h, show xErr m = 1 from if_pos h]
    exact (text_big m w h hm).mono fun _ _ k => gives_nil k
  · rw [show xRes m = txt m from if_neg h, show xErr m = 0 from if_neg h]
    exact (text_ok m w (by omega)).mono fun _ _ k => gives_own k
theorem rtext_all (m : List UInt8) (w : World) (hm : m.length ≤ maxLen) : Calls Try.prog 18 #[.string (str m)] w (GivesB (xRes m) (xErr m) w) := by
  by_cases h : 2000 < m.length
  · rw [show xRes m = [] from if_pos h, show xErr m = 1 from if_pos h]
    exact (rtext_big m w h hm).mono fun _ _ k => gives_nil k
  · rw [show xRes m = txt m from if_neg h, show xErr m = 0 from if_neg h]
    exact (rtext_ok m w (by omega)).mono fun _ _ k => gives_own k
set_option maxHeartbeats 1000000 in
theorem wireTexts_walk (m : List UInt8) (A : Option Addr) (n c : Nat) (l : List UInt8) (w : World) (hm : m.length ≤ maxLen) (hr : Rd w 1 A n c (l.map bv8)) (hz : n ≤ 140737488351232) :
    Calls Try.prog 5 #[.string (str m), .slice A n c] w fun e w' => e = .returned (.bool true) ∧ Below w.heap.size w w' := by
  go_enter Try.func5, Try.ntmps5
  go_wp2_with fail
  with_reducible refine (text_all _ _ hm).mono ?_
  rintro e w1 ⟨A1, n1, c1, rfl, hr1, hb1⟩
  go_wp2_with fail
  with_reducible refine (readText_any _ _ _ _ _ (hr.below hb1) (by omega)).mono ?_
  rintro e w2 ⟨A2, n2, c2, rfl, hr2, hA2, hn2, hb2⟩
  go_wp2_with fail
  with_reducible refine (rtext_all _ _ hm).mono ?_
  rintro e w3 ⟨A3, n3, c3, rfl, hr3, hb3⟩
  go_wp2_with fail
  with_reducible refine (rtextOf_any _ _ _ _ _ (((hr.below hb1).below hb2).below hb3) hz).mono ?_
  rintro e w4 ⟨A4, n4, c4, rfl, hr4, hA4, hn4, hb4⟩
  have ee : (xRes m == xRes m) = true := by simp
  have ef : (tRest l == tRest l) = true := by simp
  have eg : (tStr l == tStr l) = true := by simp
  go_wp2_with (first | ((with_reducible refine (sameBytes_any A1 A3 n1 n3 c1 c3 _ _ _ (((hr1.below hb2).below hb3).below hb4) (hr3.below hb4)).mono ?_); rintro e w5 ⟨rfl, rfl⟩) | ((with_reducible refine (sameBytes_any A2 A4 n2 n4 c2 c4 _ _ _ ((hr2.below hb3).below hb4) hr4).mono ?_); rintro e w6 ⟨rfl, rfl⟩))
  go_ret
  exact ⟨by simp, below_step (below_step (below_step hb1 hb2) hb3) hb4⟩
end Go.Proofs.Ytkiaildchmncoaa

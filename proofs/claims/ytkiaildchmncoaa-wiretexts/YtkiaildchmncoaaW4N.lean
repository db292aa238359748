/- The law WireNumbers: the walk. -/
import Derived.Test.YtkiaildchmncoaaNr
import Derived.Test.YtkiaildchmncoaaSb
import Derived.Test.YtkiaildchmncoaaPk
namespace Go.Proofs.Ytkiaildchmncoaa
open Go.RowKit
/-- the bytes of whatever number, and the error -/
def nRes (n : Int) : List UInt8 := if n < 0 ∨ 4294967295 < n then [] else enc n.toNat
def nErr (n : Int) : Int := if n < 0 ∨ 4294967295 < n then 4 else 0
theorem gives_own {t : TypeId} {l : List UInt8} {w : World} {e : Ending} {w' : World} (h : GivesO t l w e w') : GivesB l 0 w e w' := by
  obtain ⟨v, rfl, hown, hbel⟩ := h
  obtain ⟨A, c, rfl, hr⟩ := own_rd hown
  exact ⟨A, _, c, rfl, hr, hbel⟩
theorem number_all (n : Int) (w : World) (h0 : -9223372036854775808 ≤ n) (h1 : n ≤ 9223372036854775807) : Calls Try.prog 11 #[.int .i64 n] w (GivesB (nRes n) (nErr n) w) := by
  by_cases h : n < 0 ∨ 4294967295 < n
  · rw [show nRes n = [] from if_pos h, show nErr n = 4 from if_pos h]
    exact (number_out n w h0 h1 h).mono fun _ _ k => gives_nil k
  · obtain ⟨k, rfl⟩ := Int.eq_ofNat_of_zero_le (a := n) (by omega)
    rw [show nRes k = enc k from if_neg h, show nErr k = 0 from if_neg h]
    exact (number_ok k w (by omega)).mono fun _ _ k => gives_own k
theorem rnumber_all (n : Int) (w : World) (h0 : -9223372036854775808 ≤ n) (h1 : n ≤ 9223372036854775807) : Calls Try.prog 12 #[.int .i64 n] w (GivesB (nRes n) (nErr n) w) := by
  by_cases h : n < 0 ∨ 4294967295 < n
  · rw [show nRes n = [] from if_pos h, show nErr n = 4 from if_pos h]
    exact (rnumber_out n w h0 h1 h).mono fun _ _ k => gives_nil k
  · obtain ⟨k, rfl⟩ := Int.eq_ofNat_of_zero_le (a := n) (by omega)
    rw [show nRes k = enc k from if_neg h, show nErr k = 0 from if_neg h]
    exact (rnumber_ok k w (by omega)).mono fun _ _ k => gives_own k
set_option maxHeartbeats 400000 in
theorem wireNumbers_walk (n : Int) (hw : (Lit.int .i64 n).wf = true) (w : World) :
    Calls Try.prog 3 #[.int .i64 n] w fun e w' => e = .returned (.bool true) ∧ Below w.heap.size w w' := by
  obtain ⟨h0, h1⟩ := i64_range hw
  go_enter Try.func3, Try.ntmps3
  go_wp2_with fail
  with_reducible refine (number_all _ _ h0 h1).mono ?_
  rintro e w1 ⟨A1, n1, c1, rfl, hr1, hb1⟩
  go_wp2_with fail
  with_reducible refine (rnumber_all _ _ h0 h1).mono ?_
  rintro e w2 ⟨A2, n2, c2, rfl, hr2, hb2⟩
  have ee : (nRes n == nRes n) = true := by simp
  go_wp2_with ((with_reducible refine (sameBytes_any _ _ _ _ _ _ _ _ _ (hr1.below hb2) hr2).mono ?_); rintro e w3 ⟨rfl, rfl⟩)
  go_ret
  exact ⟨by simp, below_step hb1 hb2⟩
end Go.Proofs.Ytkiaildchmncoaa

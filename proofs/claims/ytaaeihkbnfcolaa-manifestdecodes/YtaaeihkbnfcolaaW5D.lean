/- The law ManifestDecodes: the walk. -/
import Derived.Test.YtaaeihkbnfcolaaMm
import Derived.Test.YtaaeihkbnfcolaaPq
namespace Go.Proofs.Ytaaeihkbnfcolaa
open Go.RowKit
set_option maxHeartbeats 400000 in
theorem sameParts_any (A B : Option Addr) (n0 m0 c d : Nat) (l m : List Prt) (w : World) (hr : Rd w 3 A n0 c (pcs l)) (hs : Rd w 3 B m0 d (pcs m)) :
    Calls Try.prog 20 #[.slice A n0 c, .slice B m0 d] w (GivesT (l = m) w) := by
  go_enter Try.func20, Try.ntmps20
  go_wp2_with fail
  with_reducible refine (equalParts_any _ _ _ _ _ _ _ _ _ hr hs).mono ?_
  rintro e w1 ⟨b, rfl, hb, hw⟩
  go_wp2
  go_ret
  exact ⟨_, rfl, hb, hw⟩
set_option maxHeartbeats 400000 in
theorem manifestDecodes_walk (A : Option Addr) (n c : Nat) (l : List UInt8) (w : World) (hr : Rd w 1 A n c (l.map bv8)) (hz : n ≤ 140737488351232) :
    Calls Try.prog 5 #[.slice A n c] w fun e w' => e = .returned (.bool true) ∧ Below w.heap.size w w' := by
  go_enter Try.func5, Try.ntmps5
  go_wp2_with fail
  with_reducible refine (mdecode_any _ _ _ _ _ hr hz).mono ?_
  rintro e w1 ⟨A1, n1, c1, rfl, hr1, hA1, hb1⟩
  go_wp2_with fail
  with_reducible refine (partsOf_any _ _ _ _ _ (hr.below hb1)).mono ?_
  rintro e w2 ⟨A2, n2, c2, rfl, hr2, hA2, hb2⟩
  go_wp2_with fail
  refine ((sameParts_any _ _ _ _ _ _ _ _ _ (hr1.below hb2) hr2).mono fun _ _ h => h.yes rfl).mono ?_
  rintro e w3 ⟨rfl, hb3⟩
  go_wp2
  go_ret
  exact ⟨by simp, below_step (below_step hb1 hb2) hb3⟩
end Go.Proofs.Ytaaeihkbnfcolaa

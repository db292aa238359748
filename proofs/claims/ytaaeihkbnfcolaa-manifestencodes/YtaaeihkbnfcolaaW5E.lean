/- The law ManifestEncodes: the walk. -/
import Derived.Test.YtaaeihkbnfcolaaMm
import Derived.Test.YtaaeihkbnfcolaaSb
namespace Go.Proofs.Ytaaeihkbnfcolaa
open Go.RowKit
set_option maxHeartbeats 400000 in
theorem manifestEncodes_walk (A : Option Addr) (n c : Nat) (l : List Prt) (w : World) (hr : Rd w 3 A n c (pcs l)) (hg : ∀ p ∈ l, p.good) :
    Calls Try.prog 4 #[.slice A n c] w fun e w' => e = .returned (.bool true) ∧ Below w.heap.size w w' := by
  go_enter Try.func4, Try.ntmps4
  go_wp2_with fail
  with_reducible refine (mencode_any _ _ _ _ _ hr hg).mono ?_
  rintro e w1 ⟨A1, n1, c1, rfl, hr1, hb1⟩
  go_wp2_with fail
  with_reducible refine (partsBytes_any _ _ _ _ _ (hr.below hb1) hg).mono ?_
  rintro e w2 ⟨A2, n2, c2, rfl, hr2, hb2⟩
  have ee : (mRes l == mRes l) = true := by simp
  go_wp2_with ((with_reducible refine (sameBytes_any _ _ _ _ _ _ _ _ _ (hr1.below hb2) hr2).mono ?_); rintro e w3 ⟨rfl, rfl⟩)
  go_ret
  exact ⟨by simp, below_step hb1 hb2⟩
end Go.Proofs.Ytaaeihkbnfcolaa

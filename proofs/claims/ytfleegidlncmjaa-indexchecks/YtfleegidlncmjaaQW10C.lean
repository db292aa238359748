/- The law IndexChecks: the walk. -/
import Derived.Test.YtfleegidlncmjaaGEE
import Derived.Test.YtfleegidlncmjaaGY
namespace Go.Proofs.Ytfleegidlncmjaa
open Go.RowKit
set_option maxRecDepth 100000 in
set_option maxHeartbeats 1000000 in
theorem indexChecks_walk (A : Option Addr) (n c : Nat) (l : List En) (w : World) (hr : KRd kEn w A n c l) (hg : ∀ p ∈ l, p.good) :
    Calls Try.prog 3 #[.slice A n c] w fun e w' => e = .returned (.bool true) ∧ Below w.heap.size w w' := by
  have H1 := Lib.hid (icheck_any A n c l w hr hg)
  have H2 : Hid (∀ W : World, Below w.heap.size w W → _) := fun W hW => entriesFault_any A n c l W (hr.below hW) hg
  generalize xsErr l = er at *
  have q2 : (er == er) = true := by simp
  go_enter Try.func3, Try.ntmps3
  go_wp2_with fail
  with_reducible refine H1.out.mono ?_
  rintro e w1 ⟨rfl, hb1⟩
  go_wp2_with fail
  with_reducible refine (H2.out _ hb1).mono ?_
  rintro e w2 ⟨rfl, hb2⟩
  go_wp2
  go_ret
  exact ⟨by simp, below_step hb1 hb2⟩
end Go.Proofs.Ytfleegidlncmjaa

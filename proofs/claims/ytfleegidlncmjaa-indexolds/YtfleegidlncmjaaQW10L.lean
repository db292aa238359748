/- The law IndexOlds: the walk. -/
import Derived.Test.YtfleegidlncmjaaGEE
import Derived.Test.YtfleegidlncmjaaGY
namespace Go.Proofs.Ytfleegidlncmjaa
open Go.RowKit
set_option maxRecDepth 100000 in
set_option maxHeartbeats 1000000 in
theorem indexOlds_walk (A : Option Addr) (n c : Nat) (l : List En) (w : World) (hr : KRd kEn w A n c l) :
    Calls Try.prog 6 #[.slice A n c] w fun e w' => e = .returned (.bool true) ∧ Below w.heap.size w w' := by
  have H1 := Lib.hid (iold_any A n c l w hr)
  have H2 : Hid (∀ W : World, Below w.heap.size w W → _) := fun W hW => entryOldest_any A n c l W (hr.below hW)
  generalize (xOld l).1 = i at *
  generalize (xOld l).2 = er at *
  have q1 : (i == i) = true := by simp
  have q2 : (er == er) = true := by simp
  go_enter Try.func6, Try.ntmps6
  go_wp2_with fail
  with_reducible refine H1.out.mono ?_
  rintro e w1 ⟨rfl, hb1⟩
  go_wp2_with fail
  with_reducible refine (H2.out _ hb1).mono ?_
  rintro e w2 ⟨rfl, hb2⟩
  go_wp2
  go_ret
  exact ⟨by simp, below_step hb1 hb2⟩
end Go.Proofs.Ytfleegidlncmjaa

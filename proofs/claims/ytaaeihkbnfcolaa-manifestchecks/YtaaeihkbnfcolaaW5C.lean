/- The law ManifestChecks: the walk. -/
import Derived.Test.YtaaeihkbnfcolaaMm
namespace Go.Proofs.Ytaaeihkbnfcolaa
open Go.RowKit
set_option maxHeartbeats 400000 in
theorem manifestChecks_walk (A : Option Addr) (n c : Nat) (l : List Prt) (m : List UInt8) (w : World) (hr : Rd w 3 A n c (pcs l)) (hg : ∀ p ∈ l, p.good) (hm : m.length ≤ maxLen) :
    Calls Try.prog 3 #[.slice A n c, .string (str m)] w fun e w' => e = .returned (.bool true) ∧ Below w.heap.size w w' := by
  go_enter Try.func3, Try.ntmps3
  go_wp2_with fail
  with_reducible refine (mcheck_any _ _ _ _ _ hr hg).mono ?_
  rintro e w1 ⟨rfl, hb1⟩
  go_wp2_with fail
  with_reducible refine (mname_any _ _ hm).mono ?_
  rintro e w2 ⟨rfl, hb2⟩
  have hbA := below_step hb1 hb2
  go_wp2_with fail
  with_reducible refine (partsFault_any _ _ _ _ _ (hr.below hbA) hg).mono ?_
  rintro e w3 ⟨rfl, hb3⟩
  have hbB := below_step hbA hb3
  go_wp2_with fail
  with_reducible refine (nameFault_any _ _ hm).mono ?_
  rintro e w4 ⟨rfl, hb4⟩
  go_wp2
  go_ret
  exact ⟨by simp, below_step hbB hb4⟩
end Go.Proofs.Ytaaeihkbnfcolaa

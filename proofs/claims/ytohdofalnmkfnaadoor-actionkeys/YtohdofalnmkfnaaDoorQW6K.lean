/- The law ActionKeys: the walk. -/
import Derived.Test.YtohdofalnmkfnaaDoorQQl
namespace Go.Proofs.YtohdofalnmkfnaaDoor
open Go.RowKit
set_option maxRecDepth 100000 in
set_option maxHeartbeats 400000 in
theorem actionKeys_walk (m : List UInt8) (A : Option Addr) (n c : Nat) (l : List Prt) (w : World) (hK : Kon w) (hm : m.length ≤ maxLen) (hr : Rd w 3 A n c (pcs l)) (hg : ∀ p ∈ l, p.good) :
    Calls Tryd.prog 3 #[.agg #[.string (str m), .slice A n c]] w fun e w' => e = .returned (.bool true) ∧ Below w.heap.size w w' := by
  have hal := (Below.refl w.heap.size w).alloc (Nat.le_refl _) (.cells #[.string (str m), .slice A n c] 24)
  have hbk := Blk.new w 24 [.string (str m), .slice A n c]
  have e0 := hbk.cell 0
  have e1 := hbk.cell 1
  simp only [List.getElem?_cons_succ, List.getElem?_cons_zero] at e0 e1
  have ee : (kRes m l == kRes m l) = true := by simp
  have e2 : (aErr m l == aErr m l) = true := by simp
  go_enter Tryd.func3, Tryd.ntmps3
  go_wp2_with fail
  with_reducible refine (akey_any _ _ _ _ _ _ (hK.below hal) hm (hr.below hal) hg).mono ?_
  rintro e w1 ⟨rfl, hb1⟩
  have hbk1 := hbk.below hb1 hbk.lt
  have hbA := below_step hal hb1
  clear e0 e1 hbk hal hb1
  have e0 := hbk1.cell 0
  have e1 := hbk1.cell 1
  simp only [List.getElem?_cons_succ, List.getElem?_cons_zero] at e0 e1
  go_wp2_with fail
  with_reducible refine (rkey_any _ _ _ _ _ _ hm (hr.below hbA) hg).mono ?_
  rintro e w2 ⟨rfl, hb2⟩
  go_wp2
  go_ret
  exact ⟨by simp, below_step hbA hb2⟩
end Go.Proofs.YtohdofalnmkfnaaDoor

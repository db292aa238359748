/- The law ActionEncodes: the walk. -/
import Derived.Test.YtohdofalnmkfnaaGI
import Derived.Test.YtohdofalnmkfnaaGI
import Derived.Test.YtohdofalnmkfnaaGA
namespace Go.Proofs.Ytohdofalnmkfnaa
open Go.RowKit
set_option maxRecDepth 100000 in
set_option maxHeartbeats 1000000 in
theorem actionEncodes_walk (m : List UInt8) (A : Option Addr) (n c : Nat) (l : List Prt) (w : World) (hm : m.length ≤ maxLen) (hr : Rd w 3 A n c (pcs l)) (hg : ∀ p ∈ l, p.good) :
    Calls Try.prog 3 #[.agg #[.string (str m), .slice A n c]] w fun e w' => e = .returned (.bool true) ∧ Below w.heap.size w w' := by
  have hal := (Below.refl w.heap.size w).alloc (Nat.le_refl _) (.cells #[.string (str m), .slice A n c] 24)
  have hbk := Blk.new w 24 [.string (str m), .slice A n c]
  have e0 := hbk.cell 0
  have e1 := hbk.cell 1
  simp only [List.getElem?_cons_succ, List.getElem?_cons_zero] at e0 e1
  go_enter Try.func3, Try.ntmps3
  go_wp2_with fail
  with_reducible refine (acheck_any _ _ _ _ _ _ hm (hr.below hal) hg).mono ?_
  rintro e w1 ⟨rfl, hb1⟩
  have hbk1 := hbk.below hb1 hbk.lt
  have hbA := below_step hal hb1
  clear e0 e1 hbk hal hb1
  have e0 := hbk1.cell 0
  have e1 := hbk1.cell 1
  simp only [List.getElem?_cons_succ, List.getElem?_cons_zero] at e0 e1
  go_wp2_with fail
  with_reducible refine (aencode_any _ _ _ _ _ _ hm (hr.below hbA) hg).mono ?_
  rintro e w2 ⟨A2, n2, c2, rfl, hr2, hb2⟩
  have hbk2 := hbk1.below hb2 hbk1.lt
  have hbB := below_step hbA hb2
  clear e0 e1 hbk1 hbA hb2
  have e0 := hbk2.cell 0
  have e1 := hbk2.cell 1
  simp only [List.getElem?_cons_succ, List.getElem?_cons_zero] at e0 e1
  go_wp2_with fail
  with_reducible refine (actionFault_any _ _ _ _ _ _ hm (hr.below hbB) hg).mono ?_
  rintro e w3 ⟨rfl, hb3⟩
  have hbk3 := hbk2.below hb3 hbk2.lt
  have hbC := below_step hbB hb3
  have hr3 := hr2.below hb3
  clear e0 e1 hbk2 hbB hb3 hr2
  have e0 := hbk3.cell 0
  have e1 := hbk3.cell 1
  simp only [List.getElem?_cons_succ, List.getElem?_cons_zero] at e0 e1
  go_wp2_with fail
  with_reducible refine (actionBytes_any _ _ _ _ _ _ hm (hr.below hbC) hg).mono ?_
  rintro e w4 ⟨A4, n4, c4, rfl, hr4, hb4⟩
  have hbD := below_step hbC hb4
  have hr5 := hr3.below hb4
  have ee : (aRes m l == aRes m l) = true := by simp
  have e2 : (aErr m l == aErr m l) = true := by simp
  clear e0 e1 hbk3 hbC hb4 hr3
  go_wp2_with ((with_reducible refine (sameBytes_any _ _ _ _ _ _ _ _ _ hr5 hr4).mono ?_); rintro e w5 ⟨rfl, rfl⟩)
  go_ret
  exact ⟨by simp, hbD⟩
end Go.Proofs.Ytohdofalnmkfnaa

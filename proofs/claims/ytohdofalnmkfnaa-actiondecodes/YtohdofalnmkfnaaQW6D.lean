/- The law ActionDecodes: the walk. -/
import Derived.Test.YtohdofalnmkfnaaGI
import Derived.Test.YtohdofalnmkfnaaQSp1
namespace Go.Proofs.Ytohdofalnmkfnaa
open Go.RowKit
set_option maxRecDepth 100000 in
set_option maxHeartbeats 1000000 in
theorem actionDecodes_walk (A : Option Addr) (n c : Nat) (l : List UInt8) (w : World) (hr : Rd w 1 A n c (l.map bv8)) :
    Calls Try.prog 4 #[.slice A n c] w fun e w' => e = .returned (.bool true) ∧ Below w.heap.size w w' := by
  obtain ⟨er, her⟩ : ∃ er, (aDec l).1 = er := ⟨_, rfl⟩
  obtain ⟨m, hm⟩ : ∃ m, (aDec l).2.1 = m := ⟨_, rfl⟩
  obtain ⟨ps, hps⟩ : ∃ ps, (aDec l).2.2 = ps := ⟨_, rfl⟩
  have HE := Lib.hid her
  have HM := Lib.hid hm
  have HP := Lib.hid hps
  have ee : (m == m) = true := by simp
  have e2 : (er == er) = true := by simp
  clear her hm hps
  go_enter Try.func4, Try.ntmps4
  go_wp2_with fail
  with_reducible refine (adecode_any _ _ _ _ _ hr).mono ?_
  rw [HE.out, HM.out, HP.out]
  rintro e w1 ⟨A1, n1, c1, rfl, hr1, hA1, hb1⟩
  have hal := (Below.refl w1.heap.size w1).alloc (Nat.le_refl _) (.cells #[.string (str m), .slice A1 n1 c1] 24)
  have hbk := Blk.new w1 24 [.string (str m), .slice A1 n1 c1]
  have hbA := below_step hb1 hal
  have hr1' := hr1.below hal
  go_wp2_with fail
  with_reducible refine (actionOf_any _ _ _ _ _ (hr.below hbA)).mono ?_
  rw [HE.out, HM.out, HP.out]
  rintro e w2 ⟨A2, n2, c2, rfl, hr2, hA2, hb2⟩
  have hal2 := (Below.refl w2.heap.size w2).alloc (Nat.le_refl _) (.cells #[.string (str m), .slice A2 n2 c2] 24)
  have hbk1 := (hbk.below hb2 hbk.lt).alloc (.cells #[.string (str m), .slice A2 n2 c2] 24)
  have hbk2 := Blk.new w2 24 [.string (str m), .slice A2 n2 c2]
  have hbB := below_step (below_step hbA hb2) hal2
  have hr3 := (hr1'.below hb2).below hal2
  have hr4 := hr2.below hal2
  have e0 := hbk1.cell 0
  have e1 := hbk1.cell 1
  have d0 := hbk2.cell 0
  have d1 := hbk2.cell 1
  simp only [List.getElem?_cons_succ, List.getElem?_cons_zero] at e0 e1 d0 d1
  clear hbk hal hal2 hb1 hb2 hbA hr1 hr1' hr2 hr
  go_wp2_with fail
  refine ((sameParts_any _ _ _ _ _ _ _ _ _ hr3 hr4).mono fun _ _ h => h.yes rfl).mono ?_
  rintro e w3 ⟨rfl, hb3⟩
  go_wp2
  go_ret
  exact ⟨by simp, below_step hbB hb3⟩
end Go.Proofs.Ytohdofalnmkfnaa

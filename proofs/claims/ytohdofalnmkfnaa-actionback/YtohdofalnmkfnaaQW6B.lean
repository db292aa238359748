/- The law ActionBack: the walk. -/
import Derived.Test.YtohdofalnmkfnaaGJ
import Derived.Test.YtohdofalnmkfnaaGJ
import Derived.Test.YtohdofalnmkfnaaGE
namespace Go.Proofs.Ytohdofalnmkfnaa
open Go.RowKit
set_option maxRecDepth 100000 in
set_option maxHeartbeats 2000000 in
theorem actionBack_walk (q : Rw) (A : Option Addr) (n c : Nat) (l : List Rw) (w : World) (hq : (Lit.int .i64 q.ra).wf = true) (hr : Rd w 4 A n c (rcs l)) (hg : ∀ p ∈ l, p.good) (hn : n ≤ 4294967296000) :
    Calls Try.prog 5 #[.agg #[.int .i64 q.kd, .int .i64 q.ra, .int .i64 q.rb, .string (str q.tx)], .slice A n c] w fun e w' => e = .returned (.bool true) ∧ Below w.heap.size w w' := by
  have HG := Lib.hid hg
  have HQ := Lib.hid hq
  obtain ⟨ps, hps⟩ : ∃ ps, listedP l = ps := ⟨_, rfl⟩
  have h0 := listedP_ok l
  have hgood := listedP_good l
  rw [hps] at h0 hgood
  obtain ⟨cm, hcm⟩ : ∃ cm, cmd q.ra = cm := ⟨_, rfl⟩
  have hce := cmd_err q.ra
  rw [hcm] at hce
  have hae := aErr_of hce h0
  have HG2 := Lib.hid hgood
  have HAE := Lib.hid hae
  have HPS := Lib.hid hps
  have HCM := Lib.hid hcm
  obtain ⟨B, hB⟩ : ∃ B, aB cm ps = B := ⟨_, rfl⟩
  have hdb := aDec_back hae
  rw [hB] at hdb
  have HB := Lib.hid hB
  have HD := Lib.hid hdb
  have ee : (cm == cm) = true := by simp
  have HK := fun w hr => kaction_any q A n c l w HQ.out hr HG.out hn
  rw [HCM.out, HPS.out] at HK
  generalize q.kd = kd at *
  generalize q.ra = ra at *
  generalize q.rb = rb at *
  generalize q.tx = tx at *
  have hal := (Below.refl w.heap.size w).alloc (Nat.le_refl _) (.cells #[.int .i64 kd, .int .i64 ra, .int .i64 rb, .string (str tx)] 37)
  have hbk := Blk.new w 37 [.int .i64 kd, .int .i64 ra, .int .i64 rb, .string (str tx)]
  have e0 := hbk.cell 0
  have e1 := hbk.cell 1
  have e2 := hbk.cell 2
  have e3 := hbk.cell 3
  simp only [List.getElem?_cons_succ, List.getElem?_cons_zero] at e0 e1 e2 e3
  clear hg hgood h0 hps hcm hce hae hB hdb hq hbk
  go_enter Try.func5, Try.ntmps5
  go_wp2_with fail
  with_reducible refine (HK _ (hr.below hal)).mono ?_
  rintro e w1 ⟨A1, n1, c1, rfl, hr1, hA1, hb1⟩
  have hbA := below_step hal hb1
  have hal1 := (Below.refl w1.heap.size w1).alloc (Nat.le_refl _) (.cells #[.string (str cm), .slice A1 n1 c1] 24)
  have hbk1 := Blk.new w1 24 [.string (str cm), .slice A1 n1 c1]
  have hbB := below_step hbA hal1
  have hr2 := hr1.below hal1
  clear e0 e1 e2 e3 HK hal hb1 hbA hr1
  go_wp2_with fail
  with_reducible refine (aencode_ok _ _ _ _ _ _ hr2 HG2.out HAE.out B HB.out).mono ?_
  rintro e w2 ⟨A2, n2, c2, rfl, hr3, hb2⟩
  have hbk2 := hbk1.below hb2 hbk1.lt
  have hbC := below_step hbB hb2
  have hr4 := hr2.below hb2
  clear hbk1 hal1 hbB hr2 hb2
  go_wp2_with fail
  with_reducible refine (adecode_at _ _ _ _ _ hr3 0 cm ps (by rw [HD.out]) (by rw [HD.out]) (by rw [HD.out])).mono ?_
  rintro e w3 ⟨A3, n3, c3, rfl, hr5, hA3, hb3⟩
  have hal3 := (Below.refl w3.heap.size w3).alloc (Nat.le_refl _) (.cells #[.string (str cm), .slice A3 n3 c3] 24)
  have hbk3 := Blk.new w3 24 [.string (str cm), .slice A3 n3 c3]
  have hbk4 := (hbk2.below hb3 hbk2.lt).alloc (.cells #[.string (str cm), .slice A3 n3 c3] 24)
  have hbD := below_step (below_step hbC hb3) hal3
  have hr6 := (hr4.below hb3).below hal3
  have hr7 := hr5.below hal3
  have e0 := hbk4.cell 0
  have e1 := hbk4.cell 1
  have d0 := hbk3.cell 0
  have d1 := hbk3.cell 1
  simp only [List.getElem?_cons_succ, List.getElem?_cons_zero] at e0 e1 d0 d1
  clear hbk2 hbC hb3 hr3 hr4 hr5 hal3
  go_wp2_with fail
  refine ((equalParts_any _ _ _ _ _ _ _ _ _ hr6 hr7).mono fun _ _ h => h.yes rfl).mono ?_
  rintro e w4 ⟨rfl, hb4⟩
  go_wp2
  go_ret
  exact ⟨rfl, below_step hbD hb4⟩
end Go.Proofs.Ytohdofalnmkfnaa

/- The law ActionTurns: the walk. -/
import Derived.Test.YtohdofalnmkfnaaGJ
import Derived.Test.YtohdofalnmkfnaaGJ
import Derived.Test.YtohdofalnmkfnaaQW5U
namespace Go.Proofs.Ytohdofalnmkfnaa
open Go.RowKit
set_option maxRecDepth 100000 in
set_option maxHeartbeats 2000000 in
theorem actionTurns_walk (q : Rw) (A : Option Addr) (n c : Nat) (l : List Rw) (k : Int) (x : UInt8) (hk : (Lit.int .i64 k).wf = true) (w : World) (hq : (Lit.int .i64 q.ra).wf = true) (hr : Rd w 4 A n c (rcs l)) (hg : ∀ p ∈ l, p.good) (hn : n ≤ 4294967296000) :
    Calls Try.prog 6 #[.agg #[.int .i64 q.kd, .int .i64 q.ra, .int .i64 q.rb, .string (str q.tx)], .slice A n c, .int .i64 k, .int .u8 (y8 x)] w fun e w' => e = .returned (.bool true) ∧ Below w.heap.size w w' := by
  obtain ⟨k1, k2⟩ := i64_range hk
  have HG := Lib.hid hg
  have HQ := Lib.hid hq
  obtain ⟨ps, hps⟩ : ∃ ps, listedP l = ps := ⟨_, rfl⟩
  have h0 := listedP_ok l
  have hgood := listedP_good l
  rw [hps] at h0 hgood
  obtain ⟨cm, hcm⟩ : ∃ cm, cmd q.ra = cm := ⟨_, rfl⟩
  have hce := cmd_err q.ra
  rw [hcm] at hce
  have hae := aErr_of hce h0
  have HG2 := Lib.hid hgood
  have HAE := Lib.hid hae
  have HPS := Lib.hid hps
  have HCM := Lib.hid hcm
  obtain ⟨B, hB⟩ : ∃ B, aB cm ps = B := ⟨_, rfl⟩
  have hml := aB_length hae
  rw [hB] at hml
  obtain ⟨N, hN⟩ : ∃ N, B.length = N := ⟨_, rfl⟩
  rw [hN] at hml
  obtain ⟨N4, N600⟩ := hml
  obtain ⟨p, hp, hp2⟩ := pk_nat k (N : Int) (by omega)
  have Hp := Lib.hid hp
  have hpl : p < B.length := by omega
  obtain ⟨cc, hcc⟩ : ∃ cc, B.set p (B[p] ^^^ turnB x) = cc := ⟨_, rfl⟩
  have hccl : cc.length = N := by rw [← hcc, List.length_set]; exact hN
  obtain ⟨er, her⟩ : ∃ er, (aDec cc).1 = er := ⟨_, rfl⟩
  obtain ⟨am, ham⟩ : ∃ am, (aDec cc).2.1 = am := ⟨_, rfl⟩
  obtain ⟨xs, hxs⟩ : ∃ xs, (aDec cc).2.2 = xs := ⟨_, rfl⟩
  have HER := Lib.hid her
  have HAM := Lib.hid ham
  have HXS := Lib.hid hxs
  have HCC := Lib.hid hcc
  have HN := Lib.hid hN
  have HCL := Lib.hid hccl
  have HB := Lib.hid hB
  have hn1000 : N ≤ 1000 := by omega
  have hN0 : 0 < N := by omega
  have s4 : decide ((N : Int) < 4) = false := by simp; omega
  have HK := fun w hr => kaction_any q A n c l w HQ.out hr HG.out hn
  rw [HCM.out, HPS.out] at HK
  generalize q.kd = kd at *
  generalize q.ra = ra at *
  generalize q.rb = rb at *
  generalize q.tx = tx at *
  have hal := (Below.refl w.heap.size w).alloc (Nat.le_refl _) (.cells #[.int .i64 kd, .int .i64 ra, .int .i64 rb, .string (str tx)] 37)
  have hbk := Blk.new w 37 [.int .i64 kd, .int .i64 ra, .int .i64 rb, .string (str tx)]
  have e0 := hbk.cell 0
  have e1 := hbk.cell 1
  have e2 := hbk.cell 2
  have e3 := hbk.cell 3
  simp only [List.getElem?_cons_succ, List.getElem?_cons_zero] at e0 e1 e2 e3
  clear hg hgood h0 hps hcm hce hae hB hq hbk hN hp her ham hxs hcc hccl hk
  go_enter Try.func6, Try.ntmps6
  go_wp2_with fail
  with_reducible refine (HK _ (hr.below hal)).mono ?_
  rintro e w1 ⟨A1, n1, c1, rfl, hr1, hA1, hb1⟩
  have hbA := below_step hal hb1
  clear e0 e1 e2 e3 HK hal hb1
  go_wp2_with fail
  with_reducible refine (aencode_ok _ _ _ _ _ _ hr1 HG2.out HAE.out B HB.out).mono ?_
  rintro e w2 ⟨A2, n2, c2, rfl, hr2, hb2⟩
  obtain rfl : n2 = N := by rw [hr2.len]; exact HN.out
  have hbB := below_step hbA hb2
  clear hbA hb2 hr1
  go_wp2_with fail
  with_reducible refine (turned_any _ _ _ _ k x p k1 k2 _ hr2 hN0 hn1000 Hp hpl).mono ?_
  rw [HCC.out]
  rintro e w3 ⟨v3, rfl, hown3, hb3⟩
  obtain ⟨A3, c3, rfl, hr3⟩ := own_rd hown3
  have hbC := below_step hbB hb3
  clear hown3 hbB hb3 hr2
  go_wp2_with fail
  with_reducible refine (adecode_at _ _ _ _ _ hr3 er am xs HER.out HAM.out HXS.out).mono ?_
  rintro e w4 ⟨A4, n4, c4, rfl, hr4, hA4, hb4⟩
  have hal4 := (Below.refl w4.heap.size w4).alloc (Nat.le_refl _) (.cells #[.string (str am), .slice A4 n4 c4] 24)
  have hbk4 := Blk.new w4 24 [.string (str am), .slice A4 n4 c4]
  have hbD := below_step (below_step hbC hb4) hal4
  have hr5 := hr4.below hal4
  have hr6 := (hr3.below hb4).below hal4
  have e0 := hbk4.cell 0
  have e1 := hbk4.cell 1
  simp only [List.getElem?_cons_succ, List.getElem?_cons_zero] at e0 e1
  clear hbC hb4 hal4 hr4 hr3 hbk4
  by_cases he : er = 0
  · subst he
    obtain ⟨ht1, ht2⟩ := aDec_turn HER.out
    rw [HXS.out, HAM.out] at ht1 ht2
    have HT1 := Lib.hid ht1
    have HT2 := Lib.hid ht2
    have hgx : ∀ q ∈ xs, q.good := fun q hq => fine_good ((psErr_zero (aErr_zero HT2.out).2).2 q hq)
    have HGX := Lib.hid hgx
    clear ht1 ht2 hgx
    go_wp2_with fail
    with_reducible refine (aencode_ok _ _ _ _ _ _ hr5 HGX.out HT2.out cc HT1.out).mono ?_
    rintro e w5 ⟨A5, n5, c5, rfl, hr7, hb5⟩
    obtain rfl : n5 = n2 := by rw [hr7.len]; exact HCL.out
    have hbE := below_step hbD hb5
    have z1 := run_bytes_str (P := Try.prog) Try.underlying27 Try.underlying5 Try.underlying9 hr7.as
    have z2 := run_bytes_str (P := Try.prog) Try.underlying27 Try.underlying5 Try.underlying9 (hr6.below hb5).as
    rw [HCL.out] at z1 z2
    have ee : (cc == cc) = true := by simp
    go_wp2
    go_ret
    exact ⟨rfl, hbE⟩
  · have hne : (er != 0) = true := by rw [bne_iff_ne]; exact he
    have hx0 := aDec_no (b := cc) (by rw [HER.out]; exact he)
    have hx1 : am = [] := by rw [← HAM.out, hx0]
    have hx2 : xs = [] := by rw [← HXS.out, hx0]
    obtain rfl : n4 = 0 := by rw [hr5.plen, hx2]; rfl
    have m1 : (am == []) = true := by rw [hx1]; rfl
    clear he hx0 hx1 hx2
    go_wp2
    go_ret
    exact ⟨rfl, hbD⟩
end Go.Proofs.Ytohdofalnmkfnaa

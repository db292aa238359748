/- The law ManifestTurns: the walk. -/
import Derived.Test.YtaaeihkbnfcolaaQW5T
import Derived.Test.YtaaeihkbnfcolaaQW5U
import Derived.Test.YtaaeihkbnfcolaaGE
namespace Go.Proofs.Ytaaeihkbnfcolaa
open Go.RowKit
theorem rdTail_no : ∀ (k : Nat) (acc : List Prt) (r : List UInt8), (rdTail k acc r).1 ≠ 0 → (rdTail k acc r).2 = []
  | 0, acc, r, h => by
    rw [rdTail] at h ⊢
    split
    · rfl
    · rename_i h1
      rw [if_neg h1] at h
      split
      · rfl
      · rename_i h2
        rw [if_neg h2] at h
        exact absurd rfl h
  | k + 1, acc, r, h => by
    rw [rdTail_succ] at h ⊢
    split
    · rfl
    · rename_i h1
      rw [if_neg h1] at h
      split
      · rfl
      · rename_i h2
        rw [if_neg h2] at h
        split
        · rfl
        · rename_i h3
          rw [if_neg h3] at h
          exact rdTail_no k _ _ h
theorem dec_no {b : List UInt8} (h : (dec b).1 ≠ 0) : (dec b).2 = [] := by
  unfold dec at h ⊢
  split
  · rfl
  · rename_i h1
    rw [if_neg h1] at h
    split
    · rfl
    · rename_i h2
      rw [if_neg h2] at h
      split
      · rfl
      · rename_i h3
        rw [if_neg h3] at h
        split
        · rfl
        · rename_i h4
          rw [if_neg h4] at h
          exact rdTail_no _ _ _ h
set_option maxRecDepth 100000 in
set_option maxHeartbeats 2000000 in
theorem manifestTurns_walk (A : Option Addr) (n c : Nat) (l : List Rw) (k : Int) (x : UInt8) (hk : (Lit.int .i64 k).wf = true) (w : World) (hr : Rd w 4 A n c (rcs l)) (hg : ∀ p ∈ l, p.good) (hn : n ≤ 4294967296000) :
    Calls Try.prog 8 #[.slice A n c, .int .i64 k, .int .u8 (y8 x)] w fun e w' => e = .returned (.bool true) ∧ Below w.heap.size w w' := by
  obtain ⟨k1, k2⟩ := i64_range hk
  have HG := Lib.hid hg
  obtain ⟨ps, hps⟩ : ∃ ps, listedP l = ps := ⟨_, rfl⟩
  have h0 := listedP_ok l
  have hgood := listedP_good l
  rw [hps] at h0 hgood
  have HG2 := Lib.hid hgood
  have H0 := Lib.hid h0
  have HPS := Lib.hid hps
  have hml := man_length h0
  obtain ⟨N, hN⟩ : ∃ N, (man ps).length = N := ⟨_, rfl⟩
  rw [hN] at hml
  obtain ⟨N4, N500⟩ := hml
  obtain ⟨p, hp, hp2⟩ := pk_nat k (N : Int) (by omega)
  have Hp := Lib.hid hp
  have hpl : p < (man ps).length := by omega
  obtain ⟨cc, hcc⟩ : ∃ cc, (man ps).set p ((man ps)[p] ^^^ turnB x) = cc := ⟨_, rfl⟩
  have hccne : cc ≠ man ps := by
    intro q
    rw [← hcc] at q
    have h1 : ((man ps).set p ((man ps)[p] ^^^ turnB x))[p]? = (man ps)[p]? := by rw [q]
    rw [List.getElem?_set_self hpl, List.getElem?_eq_getElem hpl] at h1
    exact turn_ne _ _ (Option.some.inj h1)
  have hccl : cc.length = N := by rw [← hcc, List.length_set]; exact hN
  obtain ⟨er, her⟩ : ∃ er, (dec cc).1 = er := ⟨_, rfl⟩
  obtain ⟨xs, hxs⟩ : ∃ xs, (dec cc).2 = xs := ⟨_, rfl⟩
  have HER := Lib.hid her
  have HXS := Lib.hid hxs
  have HCC := Lib.hid hcc
  have HNE := Lib.hid hccne
  have HN := Lib.hid hN
  have HCL := Lib.hid hccl
  have hn1000 : N ≤ 1000 := by omega
  have hN0 : 0 < N := by omega
  clear hg hgood h0 hps hN hp her hxs hcc hccne hccl hk
  go_enter Try.func8, Try.ntmps8
  go_wp2_with fail
  with_reducible refine (listed_any _ _ _ _ _ hr HG.out hn).mono ?_
  rw [HPS.out]
  rintro e w1 ⟨v1, rfl, hown1, hb1⟩
  obtain ⟨A1, c1, rfl, hr1, hA1⟩ := own_rd3 hown1
  clear hown1
  go_wp2_with fail
  with_reducible refine (mencode_ok _ _ _ _ _ hr1 HG2.out H0.out).mono ?_
  rintro e w2 ⟨A2, n2, c2, rfl, hr2, hb2⟩
  obtain rfl : n2 = N := by rw [hr2.len]; exact HN.out
  have hbB := below_step hb1 hb2
  have s4 : decide ((n2 : Int) < 4) = false := by simp; omega
  go_wp2_with fail
  with_reducible refine (turned_any _ _ _ _ k x p k1 k2 _ hr2 hN0 hn1000 Hp hpl).mono ?_
  rw [HCC.out]
  rintro e w3 ⟨v3, rfl, hown3, hb3⟩
  obtain ⟨A3, c3, rfl, hr3⟩ := own_rd hown3
  have hbC := below_step hbB hb3
  clear hown3
  go_wp2_with fail
  with_reducible refine (mdecode_at _ _ _ _ _ hr3 (by omega) er xs HER.out HXS.out).mono ?_
  rintro e w4 ⟨A4, n4, c4, rfl, hr4, hA4, hb4⟩
  have hbD := below_step hbC hb4
  by_cases he : er = 0
  · subst he
    obtain ⟨ht1, ht2⟩ := dec_turn HER.out
    rw [HXS.out] at ht1 ht2
    have HT1 := Lib.hid ht1
    have HT2 := Lib.hid ht2
    have hgx : ∀ q ∈ xs, q.good := fun q hq => fine_good ((psErr_zero HT2.out).2 q hq)
    have HGX := Lib.hid hgx
    have hxne : ¬ xs = ps := fun q => HNE.out (by rw [← HT1.out, q])
    have HXN := Lib.hid hxne
    clear ht1 ht2 hgx hxne
    go_wp2_with fail
    with_reducible refine (mencode_ok _ _ _ _ _ hr4 HGX.out HT2.out).mono ?_
    rw [HT1.out]
    rintro e w5 ⟨A5, n5, c5, rfl, hr5, hb5⟩
    obtain rfl : n5 = n2 := by rw [hr5.len]; exact HCL.out
    have hbE := below_step hbD hb5
    have z1 := run_bytes_str (P := Try.prog) Try.underlying27 Try.underlying5 Try.underlying9 hr5.as
    have z2 := run_bytes_str (P := Try.prog) Try.underlying27 Try.underlying5 Try.underlying9 ((hr3.below hb4).below hb5).as
    rw [HCL.out] at z1 z2
    have ee : (cc == cc) = true := by simp
    go_wp2_with fail
    with_reducible refine (listed_any _ _ _ _ _ (hr.below hbE) HG.out hn).mono ?_
    rw [HPS.out]
    rintro e w6 ⟨v6, rfl, hown6, hb6⟩
    obtain ⟨A6, c6, rfl, hr6, hA6⟩ := own_rd3 hown6
    clear hown6 z1 z2
    go_wp2_with fail
    refine ((equalParts_any _ _ _ _ _ _ _ _ _ ((hr4.below hb5).below hb6) hr6).mono fun _ _ h => h.no HXN.out).mono ?_
    rintro e w7 ⟨rfl, hb7⟩
    go_wp2
    go_ret
    exact ⟨rfl, below_step (below_step hbE hb6) hb7⟩
  · have hne : (er != 0) = true := by rw [bne_iff_ne]; exact he
    have hx0 : xs = [] := by
      have := dec_no (b := cc) (by rw [HER.out]; exact he)
      rwa [HXS.out] at this
    obtain rfl : n4 = 0 := by rw [hr4.plen, hx0]; rfl
    clear he hx0
    go_wp2
    go_ret
    exact ⟨rfl, hbD⟩
end Go.Proofs.Ytaaeihkbnfcolaa

/- The law EvictAges: the walk. -/
import Derived.Test.YtekbgopdeancpaaGreatDoorQKv
import Derived.Test.YtekbgopdeancpaaGreatDoorQYf
import Derived.Test.YtekbgopdeancpaaGreatDoorQDgb
import Derived.Test.YtekbgopdeancpaaGreatDoorQW13G
import Derived.BigQuiet
import Derived.Deep.RegionHeldLaw
import Derived.Deep.CutBlock
import Derived.Deep.CutRange
namespace Go.Proofs.YtekbgopdeancpaaGreatDoor
open Go.RowKit
set_option maxRecDepth 100000 in
set_option maxHeartbeats 4000000 in
theorem evictAges_walk (A : Option Addr) (n c : Nat) (l : List Rw) (more : Int) (w : World) (hK : Kon w) (hr : Rd w 4 A n c (rcs l)) (hg : ∀ p ∈ l, p.good) (hn : n ≤ 4294967296000) (hmore : (Lit.int .i64 more).wf = true) :
    Calls Tryz.prog 10 #[.slice A n c, .int .i64 more] w fun e w' => e = .returned (.bool true) ∧ Below w.heap.size w w' := by
  have hal := Below.refl w.heap.size w
  have r0 := hr
  have HK0 := Lib.hid hK
  clear hr hK
  go_enter Tryz.func10, Tryz.ntmps10
  go_wp2_with fail
  with_reducible refine (store_both _ _ _ _ _ r0 hg hn).mono ?_
  rintro e w1 ⟨A1, c1, L, A2, c2, M, rm, ck, rfl, hN1, hM1, hS, hb1⟩
  have hbA := below_step hal hb1
  have hal2 := (Below.refl w1.heap.size w1).alloc (Nat.le_refl _) (.cells #[.slice A1 L.length c1, .slice A2 M.length c2, .int .i64 rm, .int .i64 ck] 25)
  have hs2 := Blk.new w1 25 [.slice A1 L.length c1, .slice A2 M.length c2, .int .i64 rm, .int .i64 ck]
  have hbB := below_step hbA hal2
  have rL2 := hN1.rd.below hal2
  have rM2 := hM1.rd.below hal2
  have HA1 := Lib.hid hN1.nilCap
  have HA2 := Lib.hid hM1.nilCap
  have HS := Lib.hid hS
  clear hal r0 hg hn hb1 hbA hN1 hM1 hS hal2
  go_upto_region 2 with fail
  generalize hw2 : w1.alloc (.cells [Value.slice A1 L.length c1, .slice A2 M.length c2, .int .i64 rm, .int .i64 ck].toArray 25) = w2 at *
  clear hw2
  have HSA : Hid (StA w2 A1 A2 L.length c1 M.length c2 ⟨L, M, rm, ck⟩) := sta_of (HK0.out.below hbB) rL2 rM2 HA1.out HA2.out HS.out.ok
  have hok := HS.out.ok
  have hK2 := Lib.hid (HK0.out.below hbB)
  obtain ⟨i0, i1⟩ := i64_range hmore
  obtain ⟨K, hpk, hKL⟩ := pk_nat more 4001 (by omega)
  have hK4 : K ≤ 4000 := by omega
  have hKi : (0 : Int) ≤ (K : Int) := by omega
  have hKj : (K : Int) ≤ 4000 := by omega
  obtain ⟨⟨E, ⟨L2, M2, r2, t2⟩, G⟩, hX⟩ : ∃ x, sRun ⟨L, M, rm, ck⟩ (K : Int) = x := ⟨_, rfl⟩
  have HP := Lib.hid (fun W => picked_k more 4001 K W i0 i1 (by omega) (by omega) hpk)
  have HR := Lib.hid (fun (W : World) (hb : Below w2.heap.size w2 W) => run_at (HSA.out.below hb) hK4 hX)
  have HX := Lib.hid hX
  clear hX hpk hKL i0 i1
  go_wp2_with fail
  with_reducible refine (HP.out _).mono ?_
  rintro e wp ⟨rfl, hbp⟩
  have hs2p := hs2.below hbp hs2.lt
  clear hs2
  obtain ⟨s0, s1, s2, s3⟩ := blk4 hs2p
  go_wp2_with fail
  with_reducible refine (HR.out _ hbp).mono ?_
  rintro e w3 ⟨A3, c3, B3, d3, P3, f3, rfl, hN3, hM3, hP3, hPn3, hb3⟩
  have hb23 := below_step hbp hb3
  have hs3 := hs2p.below hb3 hs2p.lt
  clear hs2p s0 s1 s2 s3 HP HR
  have hal4 := (Below.refl w3.heap.size w3).alloc (Nat.le_refl _) (.cells #[.slice A3 L2.length c3, .slice B3 M2.length d3, .int .i64 r2, .int .i64 t2] 25)
  have x4 := Blk.new w3 25 [.slice A3 L2.length c3, .slice B3 M2.length d3, .int .i64 r2, .int .i64 t2]
  have hsz4 : (w3.alloc (.cells #[.slice A3 L2.length c3, .slice B3 M2.length d3, .int .i64 r2, .int .i64 t2] 25)).heap.size = w3.heap.size + 1 := by simp
  have hal5 := (Below.refl _ (w3.alloc (.cells #[.slice A3 L2.length c3, .slice B3 M2.length d3, .int .i64 r2, .int .i64 t2] 25))).alloc (Nat.le_refl _) (.cells #[.slice P3 G.length f3] 26)
  have g5 := Blk.new (w3.alloc (.cells #[.slice A3 L2.length c3, .slice B3 M2.length d3, .int .i64 r2, .int .i64 t2] 25)) 26 [.slice P3 G.length f3]
  rw [hsz4] at g5
  have hb35 := hal4.trans (hal5.mono hal4.size)
  have x5 := x4.below hal5 x4.lt
  have hs5 := hs3.below hb35 hs3.lt
  have m5 := hM3.rd.below hb35
  have p5 := hP3.below hb35
  have hb25 := below_step hb23 hb35
  clear hs3 hN3 hM3 hP3 hb3 hal4 hal5 hb23 hsz4 x4 hb35
  go_upto_region 4 with fail
  generalize hw5 : (w3.alloc (.cells [Value.slice A3 L2.length c3, .slice B3 M2.length d3, .int .i64 r2, .int .i64 t2].toArray 25)).alloc (.cells [Value.slice P3 G.length f3].toArray 26) = w5 at *
  clear hw5
  go_wp2_with fail
  with_reducible refine (comes_ok _).mono ?_
  rintro e w6 ⟨rfl, hb6⟩
  have hb26 := below_step hb25 hb6
  have x6 := x5.below hb6 x5.lt
  have g6 := g5.below hb6 g5.lt
  have hs6 := hs5.below hb6 hs5.lt
  have m6 := m5.below hb6
  have p6 := p5.below hb6
  have rM6 := rM2.below hb26
  clear x5 g5 hs5 m5 p5 hb25 hb6
  have z0 : w6.cell? ⟨w3.heap.size + 1, 0, none⟩ = some (.slice P3 G.length f3) := g6.cell 0
  rcases run_err hok hKi hKj HX.out with rfl | ⟨rfl, -, -⟩
  · by_cases hG : G.length = 0
    · have hG1 : ((G.length : Int) == 0) = true := by rw [hG]; rfl
      have hG2 : (G.length : Int) = 0 := by omega
      clear HX
      go_wp2
      go_ret
      exact ⟨rfl, below_step hbB hb26⟩
    · have hGn : G ≠ [] := fun q => hG (by rw [q]; rfl)
      obtain ⟨hA1, hA2, -, hA4, hA5⟩ := run_ages hok hKi hKj HX.out hGn
      have hfew := run_few hok hKi hKj HX.out
      have hm10 := (xsErr_zero.1 hok.xe).1
      have hl24 := (bsErr_zero.1 hok.be).1
      simp only at hA1 hA2 hA4 hA5 hfew hm10 hl24
      have hG1 : ((G.length : Int) == 0) = false := by rw [beq_eq_false_iff_ne]; omega
      have hG2 : ¬ (G.length : Int) = 0 := by omega
      have HA1 := Lib.hid hA1
      have HA2' := Lib.hid hA2
      have HA5 := Lib.hid (And.intro hA4 hA5)
      obtain ⟨J, hJ⟩ : ∃ J, G.length = J + 1 := ⟨G.length - 1, by omega⟩
      obtain ⟨pb, po, rfl, hcl⟩ := p6.text (k := J) (by omega)
      have hlast : G[J]'(by omega) = G.getLast hGn := by rw [List.getLast_eq_getElem]; congr 1; omega
      rw [hlast] at hcl
      have hwr : IntKind.i64.wrap ((G.length : Int) - 1) = (J : Int) := by rw [IntWalk.i64_in _ (by omega)]; omega
      have hJG : (J : Int) < (G.length : Int) := by omega
      have HST := Lib.hid (fun (W : World) (hb : Below w6.heap.size w6 W) (key : List UInt8) => stamp_ok (n1 := L.length) (c1 := c1) (rm := rm) (ck := ck) key (hs6.below hb hs6.lt) (rM6.below hb) hm10)
      generalize G.getLast hGn = lst at *
      clear hA1 hA2 hA4 hA5 hlast hJ
      go_upto_region 9 with fail
      go_wp2
      go_loopw [41] (fun s wr => ∃ i : Nat, i ≤ G.length ∧ s = .int .i64 i ∧ Below w6.heap.size w6 wr) (fun s _ => G.length - (intOf s).toNat)
      case atStart => exact ⟨0, Nat.zero_le _, rfl, Below.refl _ _⟩
      case round =>
        obtain ⟨i, hi, rfl, hbel⟩ := hrel
        by_cases hlt : i < G.length
        · obtain ⟨b1, o1, hpe, hci⟩ := (p6.below hbel).text hlt
          injection hpe with hpe
          injection hpe with hpe1 hpe2
          subst hpe1; subst hpe2
          have hii : (i : Int) < (G.length : Int) := by omega
          by_cases hi0 : 0 < i
          · obtain ⟨j, hj⟩ : ∃ j, i = j + 1 := ⟨i - 1, by omega⟩
            obtain ⟨b2, o2, hpe, hcj⟩ := p6.text (k := j) (by omega)
            injection hpe with hpe
            injection hpe with hpe1 hpe2
            subst hpe1; subst hpe2
            have hcmp := HA1.out j i (by omega) hlt (by omega)
            have hwj : IntKind.i64.wrap ((i : Int) - 1) = (j : Int) := by rw [IntWalk.i64_in _ (by omega)]; omega
            have hjG : (j : Int) < (G.length : Int) := by omega
            have hip : (0 : Int) < (i : Int) := by omega
            have hdip : decide ((0 : Int) < (i : Int)) = true := by simpa using hi0
            have hpbl : pb < w6.heap.size := cell_lt hcj
            have hgl6 := g6.lt
            generalize hki : G[i] = ki at *
            generalize hkj : G[j]'(by omega) = kj at *
            have HD : Hid (decide (stampOf M ki < stampOf M kj) = false) := by show _ = _; rw [decide_eq_false_iff_not]; omega
            have hdn : decide (0 < i) = true := by simpa using hi0
            clear hj hki hkj hcmp
            go_upto_region 12 with fail
            go_cut [60] from 46 to 60 (fun s60 wx => s60 = .bool false ∧ Below wr.heap.size wr wx)
            case first =>
              have b0 := (Below.refl wr.heap.size wr).drew
              have hS : ∀ W : World, Below wr.heap.size wr W → (W.cell? ⟨w3.heap.size + 1, 0, none⟩ = some (.slice (some ⟨pb, po, none⟩) G.length f3) ∧ W.cell? ⟨pb, po + j, none⟩ = some (.string (str kj))) := fun W hb => ⟨((below_step hbel hb).cell (p := ⟨w3.heap.size + 1, 0, none⟩) hgl6).trans z0, ((below_step hbel hb).cell (p := ⟨pb, po + j, none⟩) hpbl).trans hcj⟩
              go_region_held_law (fun W => W.cell? ⟨w3.heap.size + 1, 0, none⟩ = some (.slice (some ⟨pb, po, none⟩) G.length f3) ∧ W.cell? ⟨pb, po + j, none⟩ = some (.string (str kj)))
                (first | with_reducible exact hS _ b0 | with_reducible exact hS _ B1 | with_reducible exact hS _ B2 | go_keep)
                (first
                  | ((first | go_at_call 33 | go_at_fn 33); (with_reducible refine (HST.out _ (below_step hbel b0) ki).mono ?_); rintro e v1 ⟨rfl, hb⟩; have B1 := below_step b0 hb; have cA := True.intro)
                  | ((first | go_at_call 33 | go_at_fn 33); have := cA; (with_reducible refine (HST.out _ (below_step hbel B1) kj).mono ?_); rintro e v2 ⟨rfl, hb⟩; have B2 := below_step B1 hb)
                  | ((first | go_at_call 33 | go_at_fn 33); (with_reducible refine (HST.out _ (below_step hbel b0) kj).mono ?_); rintro e v1 ⟨rfl, hb⟩; have B1 := below_step b0 hb; have cB := True.intro)
                  | ((first | go_at_call 33 | go_at_fn 33); have := cB; (with_reducible refine (HST.out _ (below_step hbel B1) ki).mono ?_); rintro e v2 ⟨rfl, hb⟩; have B2 := below_step B1 hb))
              all_goals
                go_wp2
                go_meet
                first | exact ⟨rfl, B2⟩ | exact ⟨by rw [HD.out], B2⟩
            case rest =>
              obtain ⟨rfl, hbx⟩ := hcut
              go_wp2
              go_roundw
              case rel => exact ⟨i + 1, by omega, by go_num, below_step hbel hbx⟩
              case measure => simp [intOf] <;> omega
          · have hip : ¬ (0 : Int) < (i : Int) := by omega
            have hdip : decide ((0 : Int) < (i : Int)) = false := decide_eq_false hip
            have hdn : decide (0 < i) = false := decide_eq_false hi0
            go_upto_region 12 with fail
            go_quiet (fail)
            have bQ := below_drewN (Below.refl wr.heap.size wr) nq
            go_wp2
            go_roundw
            case rel => exact ⟨i + 1, by omega, by go_num, below_step hbel bQ⟩
            case measure => simp [intOf] <;> omega
        · have hd2 : decide ((i : Int) < (G.length : Int)) = false := by rw [decide_eq_false_iff_not]; omega
          have x7 := x6.below hbel x6.lt
          obtain ⟨x0, x1, x2, x3⟩ := blk4 x7
          have hbel6 := hbel
          clear hbel HA1
          go_wp2
          rename World => wo
          go_loopw [65] (fun s wr => ∃ k : Nat, k ≤ M2.length ∧ s = .int .i64 k ∧ Below w6.heap.size w6 wr) (fun s _ => M2.length - (intOf s).toNat)
          case atStart => exact ⟨0, Nat.zero_le _, rfl, hbel6⟩
          case round =>
            clear hbel6 x7 x0 x1 x2 x3
            obtain ⟨k, hk, rfl, hbel⟩ := hrel
            have hgl6 := g6.lt
            have hpbl : pb < w6.heap.size := cell_lt hcl
            by_cases hlt2 : k < M2.length
            · obtain ⟨b, off, D, dn, dc, rfl, hc0, hc1, hc2, hc3, -, -⟩ := (m6.below hbel).entry hlt2
              have hki : (k : Int) < (M2.length : Int) := by omega
              have hcmp := HA2'.out M2[k] (List.getElem_mem hlt2)
              generalize M2[k] = y at *
              have hal7 := (Below.refl wr.heap.size wr).alloc (Nat.le_refl _) (.cells #[.string (str y.ky), .slice D dn dc, .int .i64 y.pn, .int .i64 y.st] 54)
              have v7 := Blk.new wr 54 [.string (str y.ky), .slice D dn dc, .int .i64 y.pn, .int .i64 y.st]
              have hbel7 := below_step hbel hal7
              go_upto_region 18 with fail
              generalize hwu : wr.alloc (.cells [Value.string (str y.ky), .slice D dn dc, .int .i64 y.pn, .int .i64 y.st].toArray 54) = u at *
              clear hwu hc0 hc1 hc2 hc3 hal7
              by_cases hpn : y.pn = 0
              · have hcm := hcmp hpn
                have HD : Hid (decide (y.st < stampOf M lst) = false) := by show _ = _; rw [decide_eq_false_iff_not]; omega
                have hp1 : (y.pn == 0) = true := by rw [beq_iff_eq]; exact hpn
                clear hcmp hcm hpn
                go_cut [84] from 69 to 84 (fun s84 wx => s84 = .bool false ∧ Below u.heap.size u wx)
                case first =>
                  have b0 := (Below.refl u.heap.size u).drew
                  have hS : ∀ W : World, Below u.heap.size u W → (W.cell? ⟨w3.heap.size + 1, 0, none⟩ = some (.slice (some ⟨pb, po, none⟩) G.length f3) ∧ W.cell? ⟨pb, po + J, none⟩ = some (.string (str lst)) ∧ W.cell? ⟨wr.heap.size, 2, none⟩ = some (.int .i64 y.pn) ∧ W.cell? ⟨wr.heap.size, 3, none⟩ = some (.int .i64 y.st)) := fun W hb => ⟨((below_step hbel7 hb).cell (p := ⟨w3.heap.size + 1, 0, none⟩) hgl6).trans z0, ((below_step hbel7 hb).cell (p := ⟨pb, po + J, none⟩) hpbl).trans hcl, (blk4 (v7.below hb v7.lt)).2.2.1, (blk4 (v7.below hb v7.lt)).2.2.2⟩
                  go_region_held_law (fun W => W.cell? ⟨w3.heap.size + 1, 0, none⟩ = some (.slice (some ⟨pb, po, none⟩) G.length f3) ∧ W.cell? ⟨pb, po + J, none⟩ = some (.string (str lst)) ∧ W.cell? ⟨wr.heap.size, 2, none⟩ = some (.int .i64 y.pn) ∧ W.cell? ⟨wr.heap.size, 3, none⟩ = some (.int .i64 y.st))
                    (first | with_reducible exact hS _ b0 | with_reducible exact hS _ B1 | go_keep)
                    (first | ((first | go_at_call 33 | go_at_fn 33); (with_reducible refine (HST.out _ (below_step hbel7 b0) lst).mono ?_); rintro e v1 ⟨rfl, hb⟩; have B1 := below_step b0 hb))
                  all_goals
                    go_wp2
                    go_meet
                    first | exact ⟨rfl, B1⟩ | exact ⟨by rw [HD.out], B1⟩
                case rest =>
                  obtain ⟨rfl, hbx⟩ := hcut
                  go_wp2
                  go_roundw
                  case rel => exact ⟨k + 1, by omega, by go_num, below_step hbel7 hbx⟩
                  case measure => simp [intOf] <;> omega
              · have hp1 : (y.pn == 0) = false := by rw [beq_eq_false_iff_ne]; exact hpn
                obtain ⟨f0, f1, f2, f3'⟩ := blk4 v7
                clear hcmp
                go_quiet (fail)
                have bQ := below_drewN (Below.refl u.heap.size u) nq
                clear f0 f1 f2 f3'
                go_wp2
                go_roundw
                case rel => exact ⟨k + 1, by omega, by go_num, below_step hbel7 bQ⟩
                case measure => simp [intOf] <;> omega
            · have hd3 : decide ((k : Int) < (M2.length : Int)) = false := by rw [decide_eq_false_iff_not]; omega
              have hbW := below_step hb26 hbel
              have HCP := Lib.hid (lCopyK (HSA.out.below hbW) hl24 hm10)
              have hs7 := hs6.below hbel hs6.lt
              obtain ⟨s0, s1, s2, s3⟩ := blk4 hs7
              clear HST HA2' x6 m6
              go_wp2_with fail
              with_reducible refine HCP.out.mono ?_
              rintro e w7 ⟨MM, q1, q2, e1, e2, rfl, hm1, hm2, hMz, hO, hb7⟩
              simp only at hm1 hm2 hO
              have hal8 := (Below.refl w7.heap.size w7).alloc (Nat.le_refl _) (.cells #[.slice (some ⟨q1, 0, none⟩) L.length L.length, .slice (some ⟨q2, 0, none⟩) M.length M.length, .int .i64 rm, .int .i64 ck] 25)
              have v8 := Blk.new w7 25 [.slice (some ⟨q1, 0, none⟩) L.length L.length, .slice (some ⟨q2, 0, none⟩) M.length M.length, .int .i64 rm, .int .i64 ck]
              have hO8 := hO.below hal8
              have hb68 := below_step (below_step hbel hb7) hal8
              have hb28 := below_step hb26 hb68
              have hq1 := hO.k1.ge
              have hq2 := hO.m1.1
              have hq3 := hO.k2.ge
              have hq4 := hO.m2.1
              have hz6r := hbel.size
              clear HCP s0 s1 s2 s3 hs7 hO hal8 hb7
              simp only
              go_upto_region 22 with fail
              generalize hw8 : w7.alloc (.cells [Value.slice (some ⟨q1, 0, none⟩) L.length L.length, .slice (some ⟨q2, 0, none⟩) M.length M.length, .int .i64 rm, .int .i64 ck].toArray 25) = w8 at *
              clear hw8
              have hgl8 : w3.heap.size + 1 < w8.heap.size := Nat.lt_of_lt_of_le hgl6 hb68.size
              have HDE := deleteE_any w8 MM q2 e2 [] M.length M.length (map_len' hm2).symm hO8.c2 (by omega) hO8.k2 (fun z => G.dropLast.any fun t => z.ky == t) 36 #[.pointer (some ⟨w3.heap.size + 1, 0, none⟩)] (enters_of Tryz.func36 (by kernel_rfl) rfl)
                (first_ok hgl8 (by omega) ((hb68.cell (p := ⟨w3.heap.size + 1, 0, none⟩) hgl6).trans z0) (p6.below hb68) (fun a ha => by cases ha; show pb ≠ q2; omega) (by omega) (by omega))
              have HDE2 := Lib.hid HDE
              obtain ⟨f0, f1, f2, f3'⟩ := blk4 v8
              clear HDE
              go_wp2_with fail
              with_reducible refine HDE2.out.mono ?_
              rintro e w9 ⟨hs', zs', m', rfl, hm', hmm, hcc, hxx, hk9, hf9⟩
              have hz2 := hb26.size
              have v9 := hf9.blk v8 (by omega)
              have hO9 := hO8.entries hf9 hk9 hcc hxx
              have v9' := v9.put 1 (.slice (some ⟨q2, 0, none⟩) m' M.length)
              simp only [List.set_cons_succ, List.set_cons_zero] at v9'
              have hOA := hO9.keep (w' := w9.setCell ⟨w7.heap.size, 1, none⟩ (.slice (some ⟨q2, 0, none⟩) m' M.length)) (by simp) hMz (fun k _ k2 => Below.heap_setCell _ ⟨w7.heap.size, 1, none⟩ _ k (by show k ≠ w7.heap.size; omega))
              have hb2A := (hb28.trans (hf9.below (show w2.heap.size ≤ q2 by omega))).setCell (p := ⟨w7.heap.size, 1, none⟩) (show w2.heap.size ≤ w7.heap.size by omega) (.slice (some ⟨q2, 0, none⟩) m' M.length)
              obtain ⟨-, z1, -, -⟩ := blk4 v9
              obtain ⟨-, y1, -, -⟩ := blk4z v9
              obtain ⟨E2, hE2⟩ : ∃ E2, rmv M G.dropLast = E2 := ⟨_, rfl⟩
              have hmm2 : hs'.map Prod.fst = E2 := by rw [hmm, hm2]; exact hE2
              have hml : m' = E2.length := by rw [← hm', ← hmm2, List.length_map]
              subst hml
              have hrm := rm_ok hok G.dropLast
              simp only at hrm
              rw [hE2] at hrm
              have hwo : sWo ⟨L, M, rm, ck⟩ G.dropLast = sClean ⟨L, E2, rm, ck⟩ := by rw [← hE2]; rfl
              have h5 := HA5.out
              rw [hwo] at h5
              obtain ⟨LW, hLW⟩ : ∃ LW, (sClean ⟨L, E2, rm, ck⟩).bs = LW := ⟨_, rfl⟩
              have hY : sClean ⟨L, E2, rm, ck⟩ = ⟨LW, E2, rm, ck⟩ := by rw [← hLW]; rfl
              have hXc := cleaned_ok hrm
              rw [hY] at h5 hXc
              obtain ⟨h5a, h5b⟩ := h5
              simp only at h5b
              have hF : rF LW rm (K : Int) = 7 := by
                have h1 := lacks_ok h5a hKi hKj
                simp only at h1
                rw [if_pos (by omega)] at h1
                unfold rF
                rw [h1, if_pos rfl, if_pos (by show 0 < _; omega)]
              have hd1 := hOA.rd1
              have hd2 := hOA.rd2
              rw [hm1, show e1.length = L.length from (map_len' hm1).symm] at hd1
              rw [hmm2, show hs'.length = E2.length from (map_len' hmm2).symm] at hd2
              have HSZ := Lib.hid (sta_of (hK2.out.below hb2A) hd1 hd2 (fun q => by cases q) (fun q => by cases q) hrm)
              have HCL := Lib.hid (clean_at HSZ.out hXc)
              have HF := Lib.hid hF
              clear f0 f1 f2 f3' HDE2 v8 hO8 v9 hO9 hk9 hxx hcc hmm hm' hwo hY hLW hXc h5a h5b hF hd1 hd2 hOA HSZ hrm hE2 hmm2 hm1 hm2 hf9 hb28 hb68
              obtain ⟨f0, f1, f2, f3'⟩ := blk4 v9'
              go_upto_region 23 with fail
              generalize hwA : w9.setCell ⟨w7.heap.size, 1, none⟩ (.slice (some ⟨q2, 0, none⟩) E2.length M.length) = wA at *
              clear hwA z1 y1
              go_wp2_with fail
              with_reducible refine HCL.out.mono ?_
              rintro e wC ⟨Ac, cc, Bc, dc, rfl, hNc, hMc, hbc⟩
              have halD := (Below.refl wC.heap.size wC).alloc (Nat.le_refl _) (.cells #[.slice Ac LW.length cc, .slice Bc E2.length dc, .int .i64 rm, .int .i64 ck] 25)
              have vD := Blk.new wC 25 [.slice Ac LW.length cc, .slice Bc E2.length dc, .int .i64 rm, .int .i64 ck]
              have nD := hNc.rd.below halD
              have hb2D := below_step (below_step hb2A hbc) halD
              clear f0 f1 f2 f3' HCL v9' hNc hMc hbc halD hb2A
              go_upto_region 24 with fail
              generalize hwD : wC.alloc (.cells [Value.slice Ac LW.length cc, .slice Bc E2.length dc, .int .i64 rm, .int .i64 ck].toArray 25) = wD at *
              clear hwD
              have HFT := fits_any Ac LW.length cc LW rm (K : Int) wD nD
              rw [HF.out] at HFT
              have HFT2 := Lib.hid HFT
              obtain ⟨x0, x1, x2, x3⟩ := blk4 vD
              clear HFT HF nD
              go_wp2_with fail
              with_reducible refine HFT2.out.mono ?_
              rintro e wE ⟨rfl, hbE⟩
              go_wp2
              go_ret
              exact ⟨by simp, below_step (below_step hbB hb2D) hbE⟩
  · clear HX
    go_wp2
    go_ret
    exact ⟨rfl, below_step hbB hb26⟩
end Go.Proofs.YtekbgopdeancpaaGreatDoor

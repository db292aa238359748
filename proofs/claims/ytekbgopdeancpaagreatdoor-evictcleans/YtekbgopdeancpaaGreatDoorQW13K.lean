/- The law EvictCleans: the walk. -/
import Derived.Test.YtekbgopdeancpaaGreatDoorQKv
import Derived.Test.YtekbgopdeancpaaGreatDoorQYf
import Derived.Test.YtekbgopdeancpaaGreatDoorQDgb
import Derived.Test.YtekbgopdeancpaaGreatDoorGRB
import Derived.BigQuiet
import Derived.Deep.RegionHeldLaw
import Derived.Deep.CutBlock
import Derived.Deep.CutRange
namespace Go.Proofs.YtekbgopdeancpaaGreatDoor
open Go.RowKit
set_option maxRecDepth 100000 in
set_option maxHeartbeats 4000000 in
theorem evictCleans_walk (A : Option Addr) (n c : Nat) (l : List Rw) (w : World) (hK : Kon w) (hr : Rd w 4 A n c (rcs l)) (hg : ∀ p ∈ l, p.good) (hn : n ≤ 4294967296000) :
    Calls Tryz.prog 7 #[.slice A n c] w fun e w' => e = .returned (.bool true) ∧ Below w.heap.size w w' := by
  have hal := Below.refl w.heap.size w
  have r0 := hr
  have HK0 := Lib.hid hK
  clear hr hK
  go_enter Tryz.func7, Tryz.ntmps7
  go_wp2_with fail
  with_reducible refine (store_both _ _ _ _ _ r0 hg hn).mono ?_
  rintro e w1 ⟨A1, c1, L, A2, c2, M, rm, ck, rfl, hN1, hM1, hS, hb1⟩
  have hbA := below_step hal hb1
  have hal2 := (Below.refl w1.heap.size w1).alloc (Nat.le_refl _) (.cells #[.slice A1 L.length c1, .slice A2 M.length c2, .int .i64 rm, .int .i64 ck] 25)
  have hs2 := Blk.new w1 25 [.slice A1 L.length c1, .slice A2 M.length c2, .int .i64 rm, .int .i64 ck]
  have hbB := below_step hbA hal2
  have rL2 := hN1.rd.below hal2
  have rM2 := hM1.rd.below hal2
  have HA1 := Lib.hid hN1.nilCap
  have HA2 := Lib.hid hM1.nilCap
  have HS := Lib.hid hS
  clear hal r0 hg hn hb1 hbA hN1 hM1 hS hal2
  go_upto_region 2 with fail
  generalize hw2 : w1.alloc (.cells [Value.slice A1 L.length c1, .slice A2 M.length c2, .int .i64 rm, .int .i64 ck].toArray 25) = w2 at *
  clear hw2
  have HSA : Hid (StA w2 A1 A2 L.length c1 M.length c2 ⟨L, M, rm, ck⟩) := sta_of (HK0.out.below hbB) rL2 rM2 HA1.out HA2.out HS.out.ok
  have hok := HS.out.ok
  have hK2 := Lib.hid (HK0.out.below hbB)
  have hsrt := (bsErr_zero.1 hok.be).2.2
  obtain ⟨L2, hL2⟩ : ∃ L2, (sClean ⟨L, M, rm, ck⟩).bs = L2 := ⟨_, rfl⟩
  have hY : sClean ⟨L, M, rm, ck⟩ = ⟨L2, M, rm, ck⟩ := by rw [← hL2]; rfl
  obtain ⟨Z, hZ⟩ : ∃ Z, (sWaste ⟨L, M, rm, ck⟩).length = Z := ⟨_, rfl⟩
  have hX := cleaned_ok hok
  rw [hY, hZ] at hX
  have hxok := clean_ok hok
  rw [hY] at hxok
  have hX2 := cleaned_ok hxok
  have hcc := clean_clean hsrt
  have hcw := clean_waste hsrt
  rw [hY] at hcc hcw
  rw [hcc, hcw] at hX2
  have hwl := waste_len ⟨L, M, rm, ck⟩
  rw [hL2, hZ] at hwl
  simp only at hwl
  obtain ⟨R, hR⟩ : ∃ R, live ⟨L, M, rm, ck⟩ = R := ⟨_, rfl⟩
  have hRL : R.length = L2.length := by rw [← hR, live_eq hsrt, List.length_map, hL2]
  have hR2 : live ⟨L2, M, rm, ck⟩ = R := by rw [← hY, live_clean hsrt]; exact hR
  have hl24 := (bsErr_zero.1 hok.be).1
  have hm10 := (xsErr_zero.1 hok.xe).1
  simp only at hl24 hm10
  have hrt := roots_few hok
  have hrt2 := roots_few hxok
  simp only at hrt hrt2
  have HC := Lib.hid (clean_at HSA.out hX)
  have HC2 := Lib.hid (fun (W : World) (A B : Option Addr) (c k : Nat) (h : StA W A B L2.length c M.length k ⟨L2, M, rm, ck⟩) => clean_at h hX2)
  have HALL := Lib.hid (fun (W : World) (A B : Option Addr) (c k : Nat) (h : StA W A B L.length c M.length k ⟨L, M, rm, ck⟩) => (by
    have := rall_any A B L.length c M.length k L M rm ck W h.hr h.he (fun b hb => (h.hgl b hb).1) (fun e he p hp => ((h.hge e he).2.1 p hp).2.1) h.hz (by omega)
    rw [show sReach L M = R from hR] at this
    exact this : Calls Tryz.prog 23 #[.agg #[.slice A L.length c, .slice B M.length k, .int .i64 rm, .int .i64 ck]] W (GivesTx R W)))
  have HALX := Lib.hid (fun (W : World) (A B : Option Addr) (c k : Nat) (h : StA W A B L2.length c M.length k ⟨L2, M, rm, ck⟩) => (by
    have h2 : L2.length ≤ 24 := by omega
    have := rall_any A B L2.length c M.length k L2 M rm ck W h.hr h.he (fun b hb => (h.hgl b hb).1) (fun e he p hp => ((h.hge e he).2.1 p hp).2.1) h.hz (by omega)
    rw [show sReach L2 M = R from hR2] at this
    exact this : Calls Tryz.prog 23 #[.agg #[.slice A L2.length c, .slice B M.length k, .int .i64 rm, .int .i64 ck]] W (GivesTx R W)))
  have HXO := Lib.hid hxok
  have hwr : IntKind.i64.wrap ((L.length : Int) - (L2.length : Int)) = (Z : Int) := by rw [IntWalk.i64_in _ (by omega)]; omega
  have HRL := Lib.hid hRL
  clear hX hX2 hcc hcw hY hL2 hZ hR hR2 hrt hrt2 hxok hok hRL hsrt
  obtain ⟨s0, s1, s2, s3⟩ := blk4 hs2
  go_wp2_with fail
  with_reducible refine HC.out.mono ?_
  rintro e w3 ⟨A3, c3, B3, d3, rfl, hN3, hM3, hb3⟩
  have hal4 := (Below.refl w3.heap.size w3).alloc (Nat.le_refl _) (.cells #[.slice A3 L2.length c3, .slice B3 M.length d3, .int .i64 rm, .int .i64 ck] 25)
  have x4 := Blk.new w3 25 [.slice A3 L2.length c3, .slice B3 M.length d3, .int .i64 rm, .int .i64 ck]
  have hs4 := (hs2.below hb3 hs2.lt).below hal4 (hs2.below hb3 hs2.lt).lt
  have n4 := hN3.rd.below hal4
  have m4 := hM3.rd.below hal4
  have HN4 := Lib.hid hN3.nilCap
  have HM4 := Lib.hid hM3.nilCap
  have hb24 := below_step hb3 hal4
  clear hs2 hN3 hM3 hb3 hal4 s0 s1 s2 s3 HC
  go_upto_region 3 with fail
  generalize hw4 : w3.alloc (.cells [Value.slice A3 L2.length c3, .slice B3 M.length d3, .int .i64 rm, .int .i64 ck].toArray 25) = w4 at *
  clear hw4
  have HSX : Hid (StA w4 A3 B3 L2.length c3 M.length d3 ⟨L2, M, rm, ck⟩) := sta_of (hK2.out.below hb24) n4 m4 HN4.out HM4.out HXO.out
  have HC3 := Lib.hid (HC2.out _ _ _ _ _ HSX.out)
  obtain ⟨x0, x1, x2, x3⟩ := blk4 x4
  go_wp2_with fail
  with_reducible refine HC3.out.mono ?_
  rintro e w5 ⟨A5, c5, B5, d5, rfl, hN5, hM5, hb5⟩
  have hal6 := (Below.refl w5.heap.size w5).alloc (Nat.le_refl _) (.cells #[.slice A5 L2.length c5, .slice B5 M.length d5, .int .i64 rm, .int .i64 ck] 25)
  have y6 := Blk.new w5 25 [.slice A5 L2.length c5, .slice B5 M.length d5, .int .i64 rm, .int .i64 ck]
  have x6 := (x4.below hb5 x4.lt).below hal6 (x4.below hb5 x4.lt).lt
  have hs6 := (hs4.below hb5 hs4.lt).below hal6 (hs4.below hb5 hs4.lt).lt
  have hb46 := below_step hb5 hal6
  have hb26 := below_step hb24 hb46
  have n6 := n4.below hb46
  have m6 := m4.below hb46
  have n7 := hN5.rd.below hal6
  have m7 := hM5.rd.below hal6
  clear x4 hs4 hN5 hM5 hb5 hal6 x0 x1 x2 x3 HC2 HC3 n4 m4 hb24
  go_upto_region 4 with fail
  generalize hw6 : w5.alloc (.cells [Value.slice A5 L2.length c5, .slice B5 M.length d5, .int .i64 rm, .int .i64 ck].toArray 25) = w6 at *
  clear hw6
  go_cut [59] from 24 to 59 (fun s59 wx => s59 = .bool false ∧ Below w6.heap.size w6 wx)
  case first =>
    go_wp2_with fail
    with_reducible refine (comes_ok _).mono ?_
    rintro e w8 ⟨rfl, hb8⟩
    have HSS := Lib.hid (ksameStore_any _ _ _ _ _ _ _ _ _ _ _ _ L2 L2 M M rm ck w8 (n6.below hb8) (m6.below hb8) (n7.below hb8) (m7.below hb8) true (by simp [alks_refl]))
    have x8 := x6.below hb8 x6.lt
    have y8 := y6.below hb8 y6.lt
    have s8 := hs6.below hb8 hs6.lt
    have HCK := Lib.hid (fun (W : World) (hb : Below w6.heap.size w6 W) => chk_at (HSX.out.below (below_step hb46 hb)) HXO.out)
    obtain ⟨x0, x1, x2, x3⟩ := blk4 x8
    obtain ⟨y0, y1, y2, y3⟩ := blk4 y8
    obtain ⟨s0, s1, s2, s3⟩ := blk4 s8
    clear x6 y6 hs6
    go_wp2_with fail
    with_reducible refine HSS.out.mono ?_
    rintro e w9 ⟨rfl, hb9⟩
    have x9 := x8.below hb9 x8.lt
    have s9 := s8.below hb9 s8.lt
    have hb69 := below_step hb8 hb9
    clear x0 x1 x2 x3 y0 y1 y2 y3 s0 s1 s2 s3 x8 y8 s8
    obtain ⟨x0, x1, x2, x3⟩ := blk4 x9
    obtain ⟨s0, s1, s2, s3⟩ := blk4 s9
    go_wp2_with fail
    with_reducible refine (HCK.out _ hb69).mono ?_
    rintro e wa ⟨rfl, hba⟩
    go_wp2
    go_meet
    exact ⟨by simp, below_step hb69 hba⟩
  case rest =>
    obtain ⟨rfl, hbx⟩ := hcut
    rename World => wx
    have hs8 := hs6.below hbx hs6.lt
    have x8 := x6.below hbx x6.lt
    have hb2x := below_step hb26 hbx
    have hbZ := below_step hbB hb2x
    have HS8 : Hid (StA wx A1 A2 L.length c1 M.length c2 ⟨L, M, rm, ck⟩) := HSA.out.below hb2x
    have HX8 : Hid (StA wx A3 B3 L2.length c3 M.length d3 ⟨L2, M, rm, ck⟩) := HSX.out.below (below_step hb46 hbx)
    clear hs6 x6 y6 n6 m6 n7 m7 HSA HSX hbx hb2x hb26 hb46
    go_upto_region 6 with fail
    have b0 := (Below.refl wx.heap.size wx).drew
    have hS : ∀ W : World, Below wx.heap.size wx W → ((W.cell? ⟨w3.heap.size, 0, none⟩ = some (.slice A3 L2.length c3) ∧ W.cell? ⟨w3.heap.size, 1, none⟩ = some (.slice B3 M.length d3) ∧ W.cell? ⟨w3.heap.size, 2, none⟩ = some (.int .i64 rm) ∧ W.cell? ⟨w3.heap.size, 3, none⟩ = some (.int .i64 ck)) ∧ W.cell? ⟨w1.heap.size, 0, none⟩ = some (.slice A1 L.length c1) ∧ W.cell? ⟨w1.heap.size, 1, none⟩ = some (.slice A2 M.length c2) ∧ W.cell? ⟨w1.heap.size, 2, none⟩ = some (.int .i64 rm) ∧ W.cell? ⟨w1.heap.size, 3, none⟩ = some (.int .i64 ck)) := fun W hb => ⟨blk4 (x8.below hb x8.lt), blk4 (hs8.below hb hs8.lt)⟩
    have hrq : (R.length : Int) = (L2.length : Int) := by rw [HRL.out]
    go_region_held_law (fun W => (W.cell? ⟨w3.heap.size, 0, none⟩ = some (.slice A3 L2.length c3) ∧ W.cell? ⟨w3.heap.size, 1, none⟩ = some (.slice B3 M.length d3) ∧ W.cell? ⟨w3.heap.size, 2, none⟩ = some (.int .i64 rm) ∧ W.cell? ⟨w3.heap.size, 3, none⟩ = some (.int .i64 ck)) ∧ W.cell? ⟨w1.heap.size, 0, none⟩ = some (.slice A1 L.length c1) ∧ W.cell? ⟨w1.heap.size, 1, none⟩ = some (.slice A2 M.length c2) ∧ W.cell? ⟨w1.heap.size, 2, none⟩ = some (.int .i64 rm) ∧ W.cell? ⟨w1.heap.size, 3, none⟩ = some (.int .i64 ck))
      (first | with_reducible exact hS _ b0 | with_reducible exact hS _ B1 | with_reducible exact hS _ B2 | with_reducible exact hS _ B3 | with_reducible exact hS _ B4 | go_keep)
      (first
       | (go_at_call 23; (with_reducible refine (HALL.out _ _ _ _ _ (HS8.out.below b0)).mono ?_); rintro e v1 hgv; obtain ⟨A5', c5', rfl, hr5, -, -, hb⟩ := hgv.rd; have B1 := below_step b0 hb; have cA := True.intro)
       | (go_at_call 23; have := cA; (with_reducible refine (HALX.out _ _ _ _ _ (HX8.out.below B1)).mono ?_); rintro e v2 hgv; obtain ⟨A6', c6', rfl, hr6, -, -, hb⟩ := hgv.rd; have B2 := below_step B1 hb; have HEQ := equalT_eq A5' A6' _ c5' _ c6' R v2 (hr5.below hb) hr6)
       | (go_at_call 23; (with_reducible refine (HALX.out _ _ _ _ _ (HX8.out.below b0)).mono ?_); rintro e v1 hgv; obtain ⟨A6', c6', rfl, hr6, -, -, hb⟩ := hgv.rd; have B1 := below_step b0 hb; have cB := True.intro)
       | (go_at_call 23; have := cB; (with_reducible refine (HALL.out _ _ _ _ _ (HS8.out.below B1)).mono ?_); rintro e v2 hgv; obtain ⟨A5', c5', rfl, hr5, -, -, hb⟩ := hgv.rd; have B2 := below_step B1 hb; have HEQ := equalT_eq A5' A6' _ c5' _ c6' R v2 hr5 (hr6.below hb))
       | (go_at_call 28; (with_reducible refine HEQ.mono ?_); rintro e v3 ⟨rfl, hb⟩; have B3 := below_step B2 hb)
       | (go_at_call 23; (with_reducible refine (HALX.out _ _ _ _ _ (HX8.out.below B3)).mono ?_); rintro e v4 hgv; obtain ⟨A7', c7', rfl, hr7, -, -, hb⟩ := hgv.rd; have B4 := below_step B3 hb))
    all_goals
      go_wp2
      go_ret
      exact ⟨by simp [HRL.out], below_step hbZ B4⟩
end Go.Proofs.YtekbgopdeancpaaGreatDoor

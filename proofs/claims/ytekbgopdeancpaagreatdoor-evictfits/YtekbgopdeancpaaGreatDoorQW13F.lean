/- The law EvictFits: the walk. -/
import Derived.Test.YtekbgopdeancpaaGreatDoorQKv
import Derived.Test.YtekbgopdeancpaaGreatDoorQYf
import Derived.Test.YtekbgopdeancpaaGreatDoorQDgb
import Derived.BigQuiet
import Derived.Deep.RegionHeldLaw
import Derived.Deep.CutBlock
import Derived.Deep.CutRange
namespace Go.Proofs.YtekbgopdeancpaaGreatDoor
open Go.RowKit
set_option maxRecDepth 100000 in
set_option maxHeartbeats 4000000 in
theorem evictFits_walk (A : Option Addr) (n c : Nat) (l : List Rw) (more : Int) (w : World) (hK : Kon w) (hr : Rd w 4 A n c (rcs l)) (hg : ∀ p ∈ l, p.good) (hn : n ≤ 4294967296000) (hmore : (Lit.int .i64 more).wf = true) :
    Calls Tryz.prog 8 #[.slice A n c, .int .i64 more] w fun e w' => e = .returned (.bool true) ∧ Below w.heap.size w w' := by
  have hal := Below.refl w.heap.size w
  have r0 := hr
  have HK0 := Lib.hid hK
  clear hr hK
  go_enter Tryz.func8, Tryz.ntmps8
  go_wp2_with fail
  with_reducible refine (store_both _ _ _ _ _ r0 hg hn).mono ?_
  rintro e w1 ⟨A1, c1, L, A2, c2, M, rm, ck, rfl, hN1, hM1, hS, hb1⟩
  have hbA := below_step hal hb1
  have hal2 := (Below.refl w1.heap.size w1).alloc (Nat.le_refl _) (.cells #[.slice A1 L.length c1, .slice A2 M.length c2, .int .i64 rm, .int .i64 ck] 25)
  have hs2 := Blk.new w1 25 [.slice A1 L.length c1, .slice A2 M.length c2, .int .i64 rm, .int .i64 ck]
  have hbB := below_step hbA hal2
  have rL2 := hN1.rd.below hal2
  have rM2 := hM1.rd.below hal2
  have HA1 := Lib.hid hN1.nilCap
  have HA2 := Lib.hid hM1.nilCap
  have HS := Lib.hid hS
  clear hal r0 hg hn hb1 hbA hN1 hM1 hS hal2
  go_upto_region 2 with fail
  generalize hw2 : w1.alloc (.cells [Value.slice A1 L.length c1, .slice A2 M.length c2, .int .i64 rm, .int .i64 ck].toArray 25) = w2 at *
  clear hw2
  have HSA : Hid (StA w2 A1 A2 L.length c1 M.length c2 ⟨L, M, rm, ck⟩) := sta_of (HK0.out.below hbB) rL2 rM2 HA1.out HA2.out HS.out.ok
  have hok := HS.out.ok
  have hK2 := Lib.hid (HK0.out.below hbB)
  obtain ⟨i0, i1⟩ := i64_range hmore
  obtain ⟨K, hpk, hKL⟩ := pk_nat more 4001 (by omega)
  have hK4 : K ≤ 4000 := by omega
  have hKi : (0 : Int) ≤ (K : Int) := by omega
  have hKj : (K : Int) ≤ 4000 := by omega
  obtain ⟨⟨E, ⟨L2, M2, r2, t2⟩, G⟩, hX⟩ : ∃ x, sRun ⟨L, M, rm, ck⟩ (K : Int) = x := ⟨_, rfl⟩
  have HP := Lib.hid (fun W => picked_k more 4001 K W i0 i1 (by omega) (by omega) hpk)
  have HR := Lib.hid (fun (W : World) (hb : Below w2.heap.size w2 W) => run_at (HSA.out.below hb) hK4 hX)
  have HX := Lib.hid hX
  clear hX hpk hKL i0 i1
  go_wp2_with fail
  with_reducible refine (HP.out _).mono ?_
  rintro e wp ⟨rfl, hbp⟩
  have hs2p := hs2.below hbp hs2.lt
  clear hs2
  obtain ⟨s0, s1, s2, s3⟩ := blk4 hs2p
  go_wp2_with fail
  with_reducible refine (HR.out _ hbp).mono ?_
  rintro e w3 ⟨A3, c3, B3, d3, P3, f3, rfl, hN3, hM3, hP3, hPn3, hb3⟩
  have hb23 := below_step hbp hb3
  have hs3 := hs2p.below hb3 hs2p.lt
  clear hs2p s0 s1 s2 s3 HP HR
  have hal4 := (Below.refl w3.heap.size w3).alloc (Nat.le_refl _) (.cells #[.slice A3 L2.length c3, .slice B3 M2.length d3, .int .i64 r2, .int .i64 t2] 25)
  have x4 := Blk.new w3 25 [.slice A3 L2.length c3, .slice B3 M2.length d3, .int .i64 r2, .int .i64 t2]
  have hs4 := hs3.below hal4 hs3.lt
  have n4 := hN3.rd.below hal4
  have m4 := hM3.rd.below hal4
  have p4 := hP3.below hal4
  have HN4 := Lib.hid hN3.nilCap
  have HM4 := Lib.hid hM3.nilCap
  have hb24 := below_step hb23 hal4
  have rL4 := rL2.below hb24
  have rM4 := rM2.below hb24
  clear hs3 hN3 hM3 hP3 hb3 hal4 hb23
  go_upto_region 4 with fail
  generalize hw4 : w3.alloc (.cells [Value.slice A3 L2.length c3, .slice B3 M2.length d3, .int .i64 r2, .int .i64 t2].toArray 25) = w4 at *
  clear hw4
  go_wp2_with fail
  with_reducible refine (comes_ok _).mono ?_
  rintro e w5 ⟨rfl, hb5⟩
  have hb25 := below_step hb24 hb5
  have x5 := x4.below hb5 x4.lt
  have hs5 := hs4.below hb5 hs4.lt
  have n5 := n4.below hb5
  have m5 := m4.below hb5
  have p5 := p4.below hb5
  have rL5 := rL4.below hb5
  have rM5 := rM4.below hb5
  clear x4 hs4 n4 m4 p4 rL4 rM4 hb24 hb5
  obtain ⟨x0, x1, x2, x3⟩ := blk4 x5
  obtain ⟨s0, s1, s2, s3⟩ := blk4 hs5
  rcases run_err hok hKi hKj HX.out with rfl | ⟨rfl, hsn, rfl⟩
  · have hrm := run_room hok hKi hKj HX.out
    obtain ⟨hxok, hfit, hlen⟩ := hrm
    simp only at hfit hlen
    have hfew := run_few hok hKi hKj HX.out
    simp only at hfew
    have HSX : Hid (StA w5 A3 B3 L2.length c3 M2.length d3 ⟨L2, M2, r2, t2⟩) := sta_of (hK2.out.below hb25) n5 m5 HN4.out HM4.out hxok
    have hF : rF L2 r2 (K : Int) = 0 := by
      have h1 := lacks_ok hxok hKi hKj
      simp only at h1
      rw [if_neg (by omega)] at h1
      unfold rF
      rw [h1]
      rfl
    have HF := fits_any A3 L2.length c3 L2 r2 (K : Int) w5 n5
    rw [hF] at HF
    have HF2 := Lib.hid HF
    have HCK := Lib.hid (fun (W : World) (hb : Below w5.heap.size w5 W) => chk_at (HSX.out.below hb) hxok)
    have hlen2 : IntKind.i64.wrap ((M2.length : Int) + (G.length : Int)) = (M.length : Int) := by rw [IntWalk.i64_in _ (by omega)]; omega
    clear HF hF HX hfit
    go_wp2_with fail
    with_reducible refine HF2.out.mono ?_
    rintro e w6 ⟨rfl, hb6⟩
    have x6 := x5.below hb6 x5.lt
    have hs6 := hs5.below hb6 hs5.lt
    clear x0 x1 x2 x3 s0 s1 s2 s3 x5 hs5
    obtain ⟨x0, x1, x2, x3⟩ := blk4 x6
    obtain ⟨s0, s1, s2, s3⟩ := blk4 hs6
    go_wp2_with fail
    with_reducible refine (HCK.out _ hb6).mono ?_
    rintro e w7 ⟨rfl, hb7⟩
    have x7 := x6.below hb7 x6.lt
    have hs7 := hs6.below hb7 hs6.lt
    clear x0 x1 x2 x3 s0 s1 s2 s3 x6 hs6
    obtain ⟨x0, x1, x2, x3⟩ := blk4 x7
    obtain ⟨s0, s1, s2, s3⟩ := blk4 hs7
    go_wp2
    go_ret
    exact ⟨by simp, below_step (below_step (below_step hbB hb25) hb6) hb7⟩
  · have hL0 : L2 = [] := congrArg Sto.bs hsn
    subst hL0
    clear HX hsn
    go_wp2
    go_ret
    exact ⟨by simp, below_step hbB hb25⟩
end Go.Proofs.YtekbgopdeancpaaGreatDoor

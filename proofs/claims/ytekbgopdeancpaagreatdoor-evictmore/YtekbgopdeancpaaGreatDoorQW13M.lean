/- The law EvictMore: the walk. -/
import Derived.Test.YtekbgopdeancpaaGreatDoorQKv
import Derived.Test.YtekbgopdeancpaaGreatDoorQYf
import Derived.Test.YtekbgopdeancpaaGreatDoorQDgb
import Derived.Test.YtekbgopdeancpaaGreatDoorGRB
import Derived.BigQuiet
import Derived.Deep.RegionHeldLaw
import Derived.Deep.CutBlock
import Derived.Deep.CutRange
namespace Go.Proofs.YtekbgopdeancpaaGreatDoor
open Go.RowKit
set_option maxRecDepth 100000 in
set_option maxHeartbeats 4000000 in
theorem evictMore_walk (A : Option Addr) (n c : Nat) (l : List Rw) (a b : Int) (w : World) (hK : Kon w) (hr : Rd w 4 A n c (rcs l)) (hg : ∀ p ∈ l, p.good) (hn : n ≤ 4294967296000) (ha : (Lit.int .i64 a).wf = true) (hbw : (Lit.int .i64 b).wf = true) :
    Calls Tryz.prog 12 #[.slice A n c, .int .i64 a, .int .i64 b] w fun e w' => e = .returned (.bool true) ∧ Below w.heap.size w w' := by
  have hal := Below.refl w.heap.size w
  have r0 := hr
  have HK0 := Lib.hid hK
  clear hr hK
  go_enter Tryz.func12, Tryz.ntmps12
  go_wp2_with fail
  with_reducible refine (store_both _ _ _ _ _ r0 hg hn).mono ?_
  rintro e w1 ⟨A1, c1, L, A2, c2, M, rm, ck, rfl, hN1, hM1, hS, hb1⟩
  have hbA := below_step hal hb1
  have hal2 := (Below.refl w1.heap.size w1).alloc (Nat.le_refl _) (.cells #[.slice A1 L.length c1, .slice A2 M.length c2, .int .i64 rm, .int .i64 ck] 25)
  have hs2 := Blk.new w1 25 [.slice A1 L.length c1, .slice A2 M.length c2, .int .i64 rm, .int .i64 ck]
  have hbB := below_step hbA hal2
  have rL2 := hN1.rd.below hal2
  have rM2 := hM1.rd.below hal2
  have HA1 := Lib.hid hN1.nilCap
  have HA2 := Lib.hid hM1.nilCap
  have HS := Lib.hid hS
  clear hal r0 hg hn hb1 hbA hN1 hM1 hS hal2
  go_upto_region 2 with fail
  generalize hw2 : w1.alloc (.cells [Value.slice A1 L.length c1, .slice A2 M.length c2, .int .i64 rm, .int .i64 ck].toArray 25) = w2 at *
  clear hw2
  have HSA : Hid (StA w2 A1 A2 L.length c1 M.length c2 ⟨L, M, rm, ck⟩) := sta_of (HK0.out.below hbB) rL2 rM2 HA1.out HA2.out HS.out.ok
  have hok := HS.out.ok
  have hK2 := Lib.hid (HK0.out.below hbB)
  obtain ⟨i0, i1⟩ := i64_range ha
  obtain ⟨j0, j1⟩ := i64_range hbw
  obtain ⟨Ka, hpa, hKa⟩ := pk_nat a 800 (by omega)
  obtain ⟨Kb, hpb, hKb⟩ := pk_nat b 800 (by omega)
  have HPA := Lib.hid (fun W => picked_k a 800 Ka W i0 i1 (by omega) (by omega) hpa)
  have HPB := Lib.hid (fun W => picked_k b 800 Kb W j0 j1 (by omega) (by omega) hpb)
  obtain ⟨K, hK⟩ : ∃ K, min Ka Kb = K := ⟨_, rfl⟩
  obtain ⟨H, hH⟩ : ∃ H, max Ka Kb = H := ⟨_, rfl⟩
  have hmn : min (Ka : Int) (Kb : Int) = (K : Int) := by omega
  have hmx : max (Ka : Int) (Kb : Int) = (H : Int) := by omega
  have hKH : (K : Int) ≤ (H : Int) := by omega
  have hK4 : K ≤ 4000 := by omega
  have hH4 : H ≤ 4000 := by omega
  have hKi : (0 : Int) ≤ (K : Int) := by omega
  have hHi : (0 : Int) ≤ (H : Int) := by omega
  have hKj : (K : Int) ≤ 4000 := by omega
  have hHj : (H : Int) ≤ 4000 := by omega
  obtain ⟨⟨E, ⟨L2, M2, r2, t2⟩, G⟩, hX⟩ : ∃ x, sRun ⟨L, M, rm, ck⟩ (K : Int) = x := ⟨_, rfl⟩
  obtain ⟨⟨E', ⟨L3, M3, r3, t3⟩, G'⟩, hX'⟩ : ∃ x, sRun ⟨L, M, rm, ck⟩ (H : Int) = x := ⟨_, rfl⟩
  have HR := Lib.hid (fun (W : World) (hb : Below w2.heap.size w2 W) => run_at (HSA.out.below hb) hK4 hX)
  have HR' := Lib.hid (fun (W : World) (hb : Below w2.heap.size w2 W) => run_at (HSA.out.below hb) hH4 hX')
  have HX := Lib.hid hX
  have HX' := Lib.hid hX'
  clear hX hX' hpa hpb i0 i1 j0 j1 hKa hKb hK hH
  go_wp2_with fail
  with_reducible refine (HPA.out _).mono ?_
  rintro e wp ⟨rfl, hbp⟩
  go_wp2_with fail
  with_reducible refine (HPB.out _).mono ?_
  rintro e wq ⟨rfl, hbq⟩
  have hb2q := below_step hbp hbq
  have hs2q := hs2.below hb2q hs2.lt
  clear hs2 hbp hbq
  obtain ⟨s0, s1, s2, s3⟩ := blk4 hs2q
  go_wp2_with fail
  with_reducible refine (HR.out _ hb2q).mono ?_
  rintro e w3 ⟨A3, c3, B3, d3, P3, f3, rfl, hN3, hM3, hP3, hPn3, hb3⟩
  have hb23 := below_step hb2q hb3
  have hal4 := (Below.refl w3.heap.size w3).alloc (Nat.le_refl _) (.cells #[.slice A3 L2.length c3, .slice B3 M2.length d3, .int .i64 r2, .int .i64 t2] 25)
  have hs4 := (hs2q.below hb3 hs2q.lt).below hal4 (hs2q.below hb3 hs2q.lt).lt
  have p4 := hP3.below hal4
  have hb24 := below_step hb23 hal4
  clear hs2q hN3 hM3 hP3 hb3 hal4 hb23 s0 s1 s2 s3 HPA HPB HR
  go_upto_region 4 with fail
  generalize hw4 : w3.alloc (.cells [Value.slice A3 L2.length c3, .slice B3 M2.length d3, .int .i64 r2, .int .i64 t2].toArray 25) = w4 at *
  clear hw4
  obtain ⟨s0, s1, s2, s3⟩ := blk4 hs4
  go_wp2_with fail
  with_reducible refine (HR'.out _ hb24).mono ?_
  rintro e w5 ⟨A5, c5, B5, d5, P5, f5, rfl, hN5, hM5, hP5, hPn5, hb5⟩
  have hb25 := below_step hb24 hb5
  have hal6 := (Below.refl w5.heap.size w5).alloc (Nat.le_refl _) (.cells #[.slice A5 L3.length c5, .slice B5 M3.length d5, .int .i64 r3, .int .i64 t3] 25)
  have p6 := (p4.below hb5).below hal6
  have q6 := hP5.below hal6
  have hb26 := below_step hb25 hal6
  clear hs4 hN5 hM5 hP5 hb5 hal6 hb25 s0 s1 s2 s3 p4 HR'
  go_upto_region 5 with fail
  generalize hw6 : w5.alloc (.cells [Value.slice A5 L3.length c5, .slice B5 M3.length d5, .int .i64 r3, .int .i64 t3].toArray 25) = w6 at *
  clear hw6
  go_wp2_with fail
  with_reducible refine (comes_ok _).mono ?_
  rintro e w7 ⟨rfl, hb7⟩
  have hb27 := below_step hb26 hb7
  have p7 := p6.below hb7
  have q7 := q6.below hb7
  clear p6 q6 hb7 hb26
  rcases run_err hok hHi hHj HX'.out with rfl | ⟨rfl, -, -⟩
  · obtain ⟨y', G2, hr, hpre⟩ := run_more hok hKi hKH hHj HX'.out
    have hE := HX.out
    rw [hr] at hE
    simp only [Prod.mk.injEq] at hE
    obtain ⟨rfl, -, rfl⟩ := hE
    have hle := hpre.length_le
    have hlf := run_few hok hHi hHj HX'.out
    simp only at hlf
    have hcap := q7.2.1
    have hli : (G2.length : Int) ≤ (G'.length : Int) := by omega
    have hlc : (G2.length : Int) ≤ (f5 : Int) := by omega
    have hdl : decide ((G2.length : Int) ≤ (G'.length : Int)) = true := by simpa using hle
    have hT := q7.take G2.length hle
    rw [← List.map_take, ← List.prefix_iff_eq_take.1 hpre] at hT
    have HEQ := Lib.hid (equalT_eq P3 P5 _ _ _ _ G2 w7 p7 hT)
    clear HX HX' hr hpre
    go_wp2_with fail
    with_reducible refine HEQ.out.mono ?_
    rintro e w8 ⟨rfl, hb8⟩
    go_wp2
    go_ret
    exact ⟨by simp, below_step (below_step hbB hb27) hb8⟩
  · clear HX HX'
    go_wp2
    go_ret
    exact ⟨by simp, below_step hbB hb27⟩
end Go.Proofs.YtekbgopdeancpaaGreatDoor

/- The law StoreHeld: the walk. -/
import Derived.Test.YtnadgdjaldemhaaGreatDoorQKh
import Derived.Test.YtnadgdjaldemhaaGreatDoorQKw
import Derived.Test.YtnadgdjaldemhaaGreatDoorQYf
import Derived.BigQuiet
import Derived.Deep.RegionHeldLaw
import Derived.Deep.CutBlock
import Derived.Deep.CutRange
namespace Go.Proofs.YtnadgdjaldemhaaGreatDoor
open Go.RowKit
theorem picked_sm (n : Int) (m : Int) (a : Nat) (w : World) (h0 : -9223372036854775808 ≤ n) (h1 : n ≤ 9223372036854775807) (hm : 0 < m) (hm2 : m ≤ 4611686018427387904) (ha : pk n m = a) :
    Calls Tryz.prog 29 #[.int .i64 n, .int .i64 m] w fun e w' => e = .returned (.int .i64 (a : Int)) ∧ w' = w :=
  (picked_nat n m a w h0 h1 hm hm2 ha).mono fun _ _ ⟨h1, h2⟩ => ⟨h1, h2.symm⟩
set_option maxRecDepth 100000 in
set_option maxHeartbeats 4000000 in
theorem storeHeld_walk (A : Option Addr) (n c : Nat) (l : List Rw) (i j : Int) (w : World) (hK : Kon w) (hr : Rd w 4 A n c (rcs l)) (hg : ∀ p ∈ l, p.good) (hn : n ≤ 4294967296000) (hi : (Lit.int .i64 i).wf = true) (hj : (Lit.int .i64 j).wf = true) :
    Calls Tryz.prog 8 #[.slice A n c, .int .i64 i, .int .i64 j] w fun e w' => e = .returned (.bool true) ∧ Below w.heap.size w w' := by
  have hal := Below.refl w.heap.size w
  have r0 := hr
  have HK0 := Lib.hid hK
  clear hr hK
  go_enter Tryz.func8, Tryz.ntmps8
  go_wp2_with fail
  with_reducible refine (store_both _ _ _ _ _ r0 hg hn).mono ?_
  rintro e w1 ⟨A1, c1, L, A2, c2, M, rm, ck, rfl, hN1, hM1, hS, hb1⟩
  have hbA := below_step hal hb1
  have hal2 := (Below.refl w1.heap.size w1).alloc (Nat.le_refl _) (.cells #[.slice A1 L.length c1, .slice A2 M.length c2, .int .i64 rm, .int .i64 ck] 28)
  have hs2 := Blk.new w1 28 [.slice A1 L.length c1, .slice A2 M.length c2, .int .i64 rm, .int .i64 ck]
  have hbB := below_step hbA hal2
  have rL2 := hN1.rd.below hal2
  have rM2 := hM1.rd.below hal2
  have HA1 := Lib.hid hN1.nilCap
  have HA2 := Lib.hid hM1.nilCap
  have HS := Lib.hid hS
  clear hal r0 hg hn hb1 hbA hN1 hM1 hS hal2
  go_upto_region 2 with fail
  generalize hw2 : w1.alloc (.cells [Value.slice A1 L.length c1, .slice A2 M.length c2, .int .i64 rm, .int .i64 ck].toArray 28) = w2 at *
  clear hw2
  have HSA : Hid (StA w2 A1 A2 L.length c1 M.length c2 ⟨L, M, rm, ck⟩) := sta_of (HK0.out.below hbB) rL2 rM2 HA1.out HA2.out HS.out.ok
  have hK2 := Lib.hid (HK0.out.below hbB)
  obtain ⟨s0, s1, s2, s3⟩ := blk4 hs2
  go_upto_if 23 with fail
  go_cut [8] from 8 to 62 (fun _ wx => Below w2.heap.size w2 wx)
  case first =>
    clear s0 s1 s2 s3
    by_cases hl0 : L.length = 0
    · have hl1 : ¬ (0 : Int) < (L.length : Int) := by omega
      have hl2 : decide ((0 : Int) < (L.length : Int)) = false := decide_eq_false hl1
      go_wp2_with fail
      go_meet
      exact Below.refl _ _
    · have hl2 : decide ((0 : Int) < (L.length : Int)) = true := by rw [decide_eq_true_eq]; omega
      obtain ⟨i0, i1⟩ := i64_range hi
      have h12 : L.length ≤ 24 := by have h1 := HS.out.b.len; have h2 := HS.out.e.len; omega
      obtain ⟨K, hK, hKL⟩ := pk_nat i (L.length : Int) (by omega)
      have hKn : K < L.length := by omega
      have hKi : (K : Int) < (L.length : Int) := hKL
      obtain ⟨L2, hX, hX2, hok2, hdiff⟩ := held_b (L := L) (M := M) HS.out.ok hKn ((HS.out.few _ (List.getElem_mem hKn)).2.2)
      have hdl : L[K].dg.length ≤ maxLen := (HS.out.b.good _ (List.getElem_mem hKn)).1
      obtain ⟨g, off, D, dn, dc, rfl, a0, -, -, -, -, -⟩ := rL2.blob hKn
      have HP := Lib.hid (fun W => picked_sm i (L.length : Int) K W i0 i1 (by omega) (by omega) hK)
      have HH1 := Lib.hid (fun (W : World) (hb : Below w2.heap.size w2 W) => hb_at (HSA.out.below hb) hdl hX)
      have HH2 := Lib.hid (fun (W : World) (A B : Option Addr) (c k : Nat) (h1 : Kon W) (h2 : KRd kBl W A L2.length c L2) (h3 : KRd kEn W B M.length k M) (h4 : A = none → c = 0) (h5 : B = none → k = 0) => hb_at (sta_of h1 h2 h3 h4 h5 hok2) hdl hX2)
      generalize L[K].dg = d at *
      clear hX hX2 hdl hok2 hK hKL i0 i1
      obtain ⟨s0, s1, s2, s3⟩ := blk4 hs2
      go_upto_region 3 with fail
      go_quiet (first | (go_at_call 29; with_reducible exact Calls.quiet_of_same (HP.out _)))
      have bQ := below_drewN (Below.refl w2.heap.size w2) nq
      clear s0 s1 s2 s3
      have hs3 := hs2.below bQ hs2.lt
      have HH := Lib.hid (HH1.out _ bQ)
      clear HP a0
      generalize w2.drewN nq = w3 at *
      obtain ⟨s0, s1, s2, s3⟩ := blk4 hs3
      go_upto_region 4 with fail
      go_wp2_with fail
      with_reducible refine HH.out.mono ?_
      rintro e w4 ⟨A4, c4, B4, d4, rfl, hN4, hM4, hb4⟩
      have bR := below_step bQ hb4
      have hs4 := hs3.below hb4 hs3.lt
      have hal4 := (Below.refl w4.heap.size w4).alloc (Nat.le_refl _) (.cells #[.slice A4 L2.length c4, .slice B4 M.length d4, .int .i64 rm, .int .i64 ck] 28)
      have x5 := Blk.new w4 28 [.slice A4 L2.length c4, .slice B4 M.length d4, .int .i64 rm, .int .i64 ck]
      have hs5 := hs4.below hal4 hs4.lt
      have bS := below_step bR hal4
      have n5 := hN4.rd.below hal4
      have m5 := hM4.rd.below hal4
      have HN5 := Lib.hid hN4.nilCap
      have HM5 := Lib.hid hM4.nilCap
      clear hs3 s0 s1 s2 s3 hs4 hal4 hN4 hM4 hb4 bR HH
      go_upto_region 5 with fail
      generalize hw5 : w4.alloc (.cells [Value.slice A4 L2.length c4, .slice B4 M.length d4, .int .i64 rm, .int .i64 ck].toArray 28) = w5 at *
      clear hw5
      have HHH := Lib.hid (HH2.out w5 A4 B4 c4 d4 (hK2.out.below bS) n5 m5 HN5.out HM5.out)
      obtain ⟨f0, f1, f2, f3⟩ := blk4 x5
      go_wp2_with fail
      with_reducible refine HHH.out.mono ?_
      rintro e w6 ⟨A6, c6, B6, d6, rfl, hN6, hM6, hb6⟩
      have bT := below_step bS hb6
      have hs6 := hs5.below hb6 hs5.lt
      have x6 := x5.below hb6 x5.lt
      have hal6 := (Below.refl w6.heap.size w6).alloc (Nat.le_refl _) (.cells #[.slice A6 L.length c6, .slice B6 M.length d6, .int .i64 rm, .int .i64 ck] 28)
      have y7 := Blk.new w6 28 [.slice A6 L.length c6, .slice B6 M.length d6, .int .i64 rm, .int .i64 ck]
      have hs7 := hs6.below hal6 hs6.lt
      have x7 := x6.below hal6 x6.lt
      have bU := below_step bT hal6
      have n7 := (n5.below hb6).below hal6
      have m7 := (m5.below hb6).below hal6
      have n8 := hN6.rd.below hal6
      have m8 := hM6.rd.below hal6
      have rL7 := rL2.below bU
      have rM7 := rM2.below bU
      clear hs5 x5 hs6 x6 hal6 hN6 hM6 hb6 f0 f1 f2 f3 HHH n5 m5 bS bT HH1 HH2
      go_upto_region 6 with fail
      generalize hw7 : w6.alloc (.cells [Value.slice A6 L.length c6, .slice B6 M.length d6, .int .i64 rm, .int .i64 ck].toArray 28) = w7 at *
      clear hw7
      obtain ⟨s0, s1, s2, s3⟩ := blk4 hs7
      obtain ⟨f0, f1, f2, f3⟩ := blk4 x7
      obtain ⟨y0, y1, y2, y3⟩ := blk4 y7
      have HSS := Lib.hid (ksameStore_any _ _ _ _ _ _ _ _ _ _ _ _ L L M M rm ck w7 rL7 rM7 n8 m8 true (by simp [alks_refl]))
      have HSD := Lib.hid (fun (W : World) (hb : Below w7.heap.size w7 W) => ksameStore_any _ _ _ _ _ _ _ _ _ _ _ _ L L2 M M rm ck W (rL7.below hb) (rM7.below hb) (n7.below hb) (m7.below hb) false (by simp [hdiff]))
      clear n7 m7 n8 m8 rL7 rM7
      go_wp2_with fail
      with_reducible refine HSS.out.mono ?_
      rintro e w8 ⟨rfl, hb8⟩
      have hs8 := hs7.below hb8 hs7.lt
      have x8 := x7.below hb8 x7.lt
      clear s0 s1 s2 s3 f0 f1 f2 f3 y0 y1 y2 y3
      obtain ⟨s0, s1, s2, s3⟩ := blk4 hs8
      obtain ⟨f0, f1, f2, f3⟩ := blk4 x8
      go_wp2_with fail
      with_reducible refine (HSD.out _ hb8).mono ?_
      rintro e w9 ⟨rfl, hb9⟩
      go_wp2_with fail
      go_meet
      exact below_step (below_step bU hb8) hb9
  case rest =>
    clear s0 s1 s2 s3
    rename World => wc
    have rL3 := rL2.below hcut
    have rM3 := rM2.below hcut
    have hs3 := hs2.below hcut hs2.lt
    have hbC := below_step hbB hcut
    have HSA3 := Lib.hid (HSA.out.below hcut)
    have hK3 := Lib.hid (hK2.out.below hcut)
    clear rL2 rM2 hs2 hbB HSA hK2 hcut
    have hbB := hbC
    have rL2 := rL3
    have rM2 := rM3
    have hs2 := hs3
    have hK2 := hK3
    have HSA := HSA3
    clear hbC rL3 rM3 hs3 hK3 HSA3 hi
    obtain ⟨s0, s1, s2, s3⟩ := blk4 hs2
    go_upto_if 66 with fail
    go_cut [13] from 13 to 105 (fun _ wx => Below wc.heap.size wc wx)
    case first =>
      clear s0 s1 s2 s3
      by_cases hl0 : M.length = 0
      · have hl1 : ¬ (0 : Int) < (M.length : Int) := by omega
        have hl2 : decide ((0 : Int) < (M.length : Int)) = false := decide_eq_false hl1
        go_wp2_with fail
        go_meet
        exact Below.refl _ _
      · have hl2 : decide ((0 : Int) < (M.length : Int)) = true := by rw [decide_eq_true_eq]; omega
        obtain ⟨i0, i1⟩ := i64_range hj
        have h12 : M.length ≤ 24 := by have h1 := HS.out.b.len; have h2 := HS.out.e.len; omega
        obtain ⟨K, hK, hKL⟩ := pk_nat j (M.length : Int) (by omega)
        have hKn : K < M.length := by omega
        have hKi : (K : Int) < (M.length : Int) := hKL
        obtain ⟨M2, hX, hX2, hok2, hdiff⟩ := held_e (L := L) (M := M) HS.out.ok hKn ((HS.out.e.few _ (List.getElem_mem hKn)).1)
        have hdl : M[K].ky.length ≤ maxLen := (fine_good_en (HS.out.e.fine _ (List.getElem_mem hKn))).1
        obtain ⟨g, off, D, dn, dc, rfl, a0, -, -, -, -, -⟩ := rM2.entry hKn
        have HP := Lib.hid (fun W => picked_sm j (M.length : Int) K W i0 i1 (by omega) (by omega) hK)
        have HH1 := Lib.hid (fun (W : World) (hb : Below wc.heap.size wc W) => hd_at (HSA.out.below hb) hdl hX)
        have HH2 := Lib.hid (fun (W : World) (A B : Option Addr) (c k : Nat) (h1 : Kon W) (h2 : KRd kBl W A L.length c L) (h3 : KRd kEn W B M2.length k M2) (h4 : A = none → c = 0) (h5 : B = none → k = 0) => hd_at (sta_of h1 h2 h3 h4 h5 hok2) hdl hX2)
        generalize M[K].ky = d at *
        clear hX hX2 hdl hok2 hK hKL i0 i1
        obtain ⟨s0, s1, s2, s3⟩ := blk4 hs2
        go_upto_region 9 with fail
        go_quiet (first | (go_at_call 29; with_reducible exact Calls.quiet_of_same (HP.out _)))
        have bQ := below_drewN (Below.refl wc.heap.size wc) nq
        clear s0 s1 s2 s3
        have hs3 := hs2.below bQ hs2.lt
        have HH := Lib.hid (HH1.out _ bQ)
        clear HP a0
        generalize wc.drewN nq = w3 at *
        obtain ⟨s0, s1, s2, s3⟩ := blk4 hs3
        go_upto_region 10 with fail
        go_wp2_with fail
        with_reducible refine HH.out.mono ?_
        rintro e w4 ⟨A4, c4, B4, d4, rfl, hN4, hM4, hb4⟩
        have bR := below_step bQ hb4
        have hs4 := hs3.below hb4 hs3.lt
        have hal4 := (Below.refl w4.heap.size w4).alloc (Nat.le_refl _) (.cells #[.slice A4 L.length c4, .slice B4 M2.length d4, .int .i64 rm, .int .i64 ck] 28)
        have x5 := Blk.new w4 28 [.slice A4 L.length c4, .slice B4 M2.length d4, .int .i64 rm, .int .i64 ck]
        have hs5 := hs4.below hal4 hs4.lt
        have bS := below_step bR hal4
        have n5 := hN4.rd.below hal4
        have m5 := hM4.rd.below hal4
        have HN5 := Lib.hid hN4.nilCap
        have HM5 := Lib.hid hM4.nilCap
        clear hs3 s0 s1 s2 s3 hs4 hal4 hN4 hM4 hb4 bR HH
        go_upto_region 11 with fail
        generalize hw5 : w4.alloc (.cells [Value.slice A4 L.length c4, .slice B4 M2.length d4, .int .i64 rm, .int .i64 ck].toArray 28) = w5 at *
        clear hw5
        have HHH := Lib.hid (HH2.out w5 A4 B4 c4 d4 (hK2.out.below bS) n5 m5 HN5.out HM5.out)
        obtain ⟨f0, f1, f2, f3⟩ := blk4 x5
        go_wp2_with fail
        with_reducible refine HHH.out.mono ?_
        rintro e w6 ⟨A6, c6, B6, d6, rfl, hN6, hM6, hb6⟩
        have bT := below_step bS hb6
        have hs6 := hs5.below hb6 hs5.lt
        have x6 := x5.below hb6 x5.lt
        have hal6 := (Below.refl w6.heap.size w6).alloc (Nat.le_refl _) (.cells #[.slice A6 L.length c6, .slice B6 M.length d6, .int .i64 rm, .int .i64 ck] 28)
        have y7 := Blk.new w6 28 [.slice A6 L.length c6, .slice B6 M.length d6, .int .i64 rm, .int .i64 ck]
        have hs7 := hs6.below hal6 hs6.lt
        have x7 := x6.below hal6 x6.lt
        have bU := below_step bT hal6
        have n7 := (n5.below hb6).below hal6
        have m7 := (m5.below hb6).below hal6
        have n8 := hN6.rd.below hal6
        have m8 := hM6.rd.below hal6
        have rL7 := rL2.below bU
        have rM7 := rM2.below bU
        clear hs5 x5 hs6 x6 hal6 hN6 hM6 hb6 f0 f1 f2 f3 HHH n5 m5 bS bT HH1 HH2
        go_upto_region 12 with fail
        generalize hw7 : w6.alloc (.cells [Value.slice A6 L.length c6, .slice B6 M.length d6, .int .i64 rm, .int .i64 ck].toArray 28) = w7 at *
        clear hw7
        obtain ⟨s0, s1, s2, s3⟩ := blk4 hs7
        obtain ⟨f0, f1, f2, f3⟩ := blk4 x7
        obtain ⟨y0, y1, y2, y3⟩ := blk4 y7
        have HSS := Lib.hid (ksameStore_any _ _ _ _ _ _ _ _ _ _ _ _ L L M M rm ck w7 rL7 rM7 n8 m8 true (by simp [alks_refl]))
        have HSD := Lib.hid (fun (W : World) (hb : Below w7.heap.size w7 W) => ksameStore_any _ _ _ _ _ _ _ _ _ _ _ _ L L M M2 rm ck W (rL7.below hb) (rM7.below hb) (n7.below hb) (m7.below hb) false (by simp [hdiff]))
        clear n7 m7 n8 m8 rL7 rM7
        go_wp2_with fail
        with_reducible refine HSS.out.mono ?_
        rintro e w8 ⟨rfl, hb8⟩
        have hs8 := hs7.below hb8 hs7.lt
        have x8 := x7.below hb8 x7.lt
        clear s0 s1 s2 s3 f0 f1 f2 f3 y0 y1 y2 y3
        obtain ⟨s0, s1, s2, s3⟩ := blk4 hs8
        obtain ⟨f0, f1, f2, f3⟩ := blk4 x8
        go_wp2_with fail
        with_reducible refine (HSD.out _ hb8).mono ?_
        rintro e w9 ⟨rfl, hb9⟩
        go_wp2_with fail
        go_meet
        exact below_step (below_step bU hb8) hb9
    case rest =>
      go_wp2_with fail
      with_reducible refine (kept_any _ (hK2.out.below hcut)).mono ?_
      rintro e w8 ⟨rfl, hb8⟩
      go_wp2
      go_ret
      exact ⟨rfl, below_step (below_step hbB hcut) hb8⟩
end Go.Proofs.YtnadgdjaldemhaaGreatDoor

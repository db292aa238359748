/- The law MarkComes: the walk. -/
import Derived.Test.YtdbdigcpibmgjaaGreatDoorGMB
import Derived.Test.YtdbdigcpibmgjaaGreatDoorQMkm
import Derived.Test.YtdbdigcpibmgjaaGreatDoorQLmb
import Derived.Test.YtdbdigcpibmgjaaGreatDoorQLms
import Derived.Test.YtdbdigcpibmgjaaGreatDoorQSal
import Derived.Test.YtdbdigcpibmgjaaGreatDoorQTc
import Derived.BigQuiet
import Derived.BigRegion
import Derived.Deep.RegionHeldLaw
import Derived.Deep.CutBlock
import Derived.Deep.CutRange

namespace Go.Proofs.YtdbdigcpibmgjaaGreatDoor
open Go.RowKit
set_option maxRecDepth 100000 in
set_option maxHeartbeats 4000000 in
theorem markComes_walk (A : Option Addr) (n c : Nat) (l : List Rw) (w : World) (hK : Kon w) (hr : Rd w 4 A n c (rcs l)) (hg : ∀ p ∈ l, p.good) (hn : n ≤ 4294967296000) :
    Calls Tryz.prog 5 #[.slice A n c] w fun e w' => e = .returned (.bool true) ∧ Below w.heap.size w w' := by
  have hal := Below.refl w.heap.size w
  have r0 := hr
  have HK0 := Lib.hid hK
  have HMK := Lib.hid (fun (W : World) (hb : Below w.heap.size w W) => marks_ok W (hK.below hb))
  clear hr hK
  go_enter Tryz.func5, Tryz.ntmps5
  go_wp2_with fail
  with_reducible refine (store_both _ _ _ _ _ r0 hg hn).mono ?_
  rintro e w1 ⟨A1, c1, L, A2, c2, M, rm, ck, rfl, hN1, hM1, hS, hb1⟩
  have hbA := below_step hal hb1
  have HB1 := lMBegin_any (sta_of (HK0.out.below hbA) hN1.rd hM1.rd hN1.nilCap hM1.nilCap hS.ok)
  rw [begun_ok (sErr_zero.2 hS.ok)] at HB1
  simp only at HB1
  rw [marks_off (fun b hb => (hS.few b hb).2.1)] at HB1
  obtain ⟨R, hR⟩ : ∃ R, ris (roots L M) = R := ⟨_, rfl⟩
  have st0 : MSt L M 0 L R 1 := by rw [← hR]; exact MSt.zero hS
  rw [hR] at HB1
  have HB := Lib.hid HB1
  have HS := Lib.hid hS
  have HST := Lib.hid st0
  clear HB1 hR hal r0 hg hn hS hb1 hN1 hM1 st0
  go_wp2_with fail
  with_reducible refine HB.out.mono ?_
  rintro e w2 ⟨A3, c3, B3, d3, P3, f3, rfl, hN3, hM3, hR3, hP3, -, hb2⟩
  simp only at hN3 hM3 hR3 ⊢
  have hbx := below_step hbA hb2
  have hl := ((Below.refl w2.heap.size w2).alloc (Nat.le_refl _) (.cells #[.slice A3 L.length c3, .slice B3 M.length d3, .int .i64 rm, .int .i64 ck] 25)).alloc (by simp) (.cells #[.int .i64 1, .slice P3 R.length f3, .string (str [])] 28)
  have x1 := (Blk.new w2 25 [.slice A3 L.length c3, .slice B3 M.length d3, .int .i64 rm, .int .i64 ck]).alloc (.cells #[.int .i64 1, .slice P3 R.length f3, .string (str [])] 28)
  have y1 := Blk.new (w2.alloc (.cells #[.slice A3 L.length c3, .slice B3 M.length d3, .int .i64 rm, .int .i64 ck] 25)) 28 [.int .i64 1, .slice P3 R.length f3, .string (str [])]
  have e1 : (w2.alloc (.cells #[.slice A3 L.length c3, .slice B3 M.length d3, .int .i64 rm, .int .i64 ck] 25)).heap.size = w2.heap.size + 1 := by simp
  rw [e1] at y1
  have hb3 := below_step hbx hl
  have hg0 := hbx.size
  have hI1 : Hid (MkI w _ w2.heap.size L M rm ck 0 L R 1 A3 B3 P3 c3 d3 f3) := Lib.hid ⟨HST.out, x1, y1, sta_of (HK0.out.below hb3) (hN3.rd.below hl) (hM3.rd.below hl) hN3.nilCap hM3.nilCap HS.out.ok, hR3.below hl, hP3, hb3⟩
  clear HB hN3 hM3 hR3 hP3 hb2 hbx hbA hl x1 y1 e1 HST
  go_upto_region 2 with fail
  generalize hw : (w2.alloc (.cells [Value.slice A3 L.length c3, .slice B3 M.length d3, .int .i64 rm, .int .i64 ck].toArray 25)).alloc (.cells [Value.int .i64 1, .slice P3 R.length f3, .string (str [])].toArray 28) = w3 at *
  clear hw
  generalize w2.heap.size = g at *
  go_wp2_with fail
  with_reducible refine (HMK.out _ hb3).mono ?_
  rintro e w4 ⟨rfl, hb4⟩
  have hI4 := Lib.hid (hI1.out.below hb4)
  clear hI1 hb3 hb4 HMK
  go_upto_block 0 with fail
  go_cut [25] from 25 to 41 (fun _ wr => ∃ l A B P c d f, MkI w wr g L M rm ck 100 l [] 2 A B P c d f)
  case first =>
    go_wp2_with fail
    go_loopw [25] (fun s wr => ∃ (i : Nat) (l : List Bl) (gr : List (List UInt8)) (ph : Int) (A B P : Option Addr) (c d f : Nat), s = .int .i64 (i : Int) ∧ i ≤ 100 ∧ MkI w wr g L M rm ck i l gr ph A B P c d f) (fun s _ => 100 - (intOf s).toNat)
    case atStart => exact ⟨0, _, _, _, _, _, _, _, _, _, rfl, by omega, hI4.out⟩
    case round =>
      obtain ⟨i, l, gr, ph, A, B, P, c, d, f, rfl, hi, hI⟩ := hrel
      obtain ⟨q0, q1, q2⟩ := blk3 hI.bC
      by_cases hlt : i < 100
      · have hlt' : (i : Int) < 100 := by omega
        by_cases hp : ph = 1
        · subst hp
          obtain ⟨l', gr', ph', hX, hM'⟩ := hI.st.next HS.out
          have hst := lMStep_any (cl := ⟨1, gr, []⟩) hI.a hI.r hI.hP (by have := hI.st.few; omega)
          rw [hX] at hst
          have HST := Lib.hid hst
          have HI := Lib.hid hI
          have HM := Lib.hid hM'
          obtain ⟨a0, a1, a2, a3⟩ := blk4 hI.bS
          clear hst hX hM' hI
          go_wp2_with fail
          with_reducible refine HST.out.mono ?_
          rintro e w8 ⟨A8, c8, B8, d8, P8, f8, rfl, hN8, hM8, hR8, hP8, hF8, hb8⟩
          simp only at hN8 hM8 hR8 ⊢
          have hbC := HI.out.bC.lt
          have hb8' := below_step HI.out.b hb8
          have hl := ((Below.refl w8.heap.size w8).alloc (Nat.le_refl _) (.cells #[.slice A8 l'.length c8, .slice B8 M.length d8, .int .i64 rm, .int .i64 ck] 25)).alloc (by simp) (.cells #[.int .i64 ph', .slice P8 gr'.length f8, .string (str [])] 28)
          have k8 := (HI.out.bS.below hb8 HI.out.bS.lt).below hl (HI.out.bS.below hb8 HI.out.bS.lt).lt
          have j8 := (HI.out.bC.below hb8 HI.out.bC.lt).below hl (HI.out.bC.below hb8 HI.out.bC.lt).lt
          have x8 := (Blk.new w8 25 [.slice A8 l'.length c8, .slice B8 M.length d8, .int .i64 rm, .int .i64 ck]).alloc (.cells #[.int .i64 ph', .slice P8 gr'.length f8, .string (str [])] 28)
          have y8 := Blk.new (w8.alloc (.cells #[.slice A8 l'.length c8, .slice B8 M.length d8, .int .i64 rm, .int .i64 ck] 25)) 28 [.int .i64 ph', .slice P8 gr'.length f8, .string (str [])]
          have e1 : (w8.alloc (.cells #[.slice A8 l'.length c8, .slice B8 M.length d8, .int .i64 rm, .int .i64 ck] 25)).heap.size = w8.heap.size + 1 := by simp
          rw [e1] at y8
          have hN9 := hN8.below hl
          have hM9 := hM8.below hl
          have hR9 := hR8.below hl
          have hb9 := below_step hb8' hl
          have hz8 := hb8.size
          have hg8 : g + 1 < wr.heap.size := hbC
          clear HST hN8 hM8 hR8 hb8 hb8' hl e1 a0 a1 a2 a3 q0 q1 q2 hbC
          go_upto_region 10 with fail
          generalize hw : (w8.alloc (.cells [Value.slice A8 l'.length c8, .slice B8 M.length d8, .int .i64 rm, .int .i64 ck].toArray 25)).alloc (.cells [Value.int .i64 ph', .slice P8 gr'.length f8, .string (str [])].toArray 28) = w9 at *
          clear hw
          generalize w8.heap.size = h at *
          obtain ⟨z0, z1, z2, z3⟩ := blk4 k8
          obtain ⟨t0, t1, t2, t3⟩ := blk4z k8
          have ja := j8.far4s (q := g) (by omega) (.slice A8 l'.length c8) (.slice B8 M.length d8) (.int .i64 rm) (.int .i64 ck)
          obtain ⟨z4, z5, z6⟩ := blk3 ja
          obtain ⟨t4, t5, t6⟩ := blk3z ja
          have ya := y8.far4s (q := g) (by omega) (.slice A8 l'.length c8) (.slice B8 M.length d8) (.int .i64 rm) (.int .i64 ck)
          have HPUT := Lib.hid (MkI.put HS.out HM.out k8 j8 hg0 hg8 hN9 hM9 hR9 hP8 hF8 hb9 HK0.out)
          obtain ⟨u0, u1, u2, u3⟩ := blk4 x8
          obtain ⟨v0, v1, v2⟩ := blk3 y8
          obtain ⟨v3, v4, v5⟩ := blk3 ya
          clear k8 j8 ja ya x8 y8 hN9 hM9 hR9 hb9 HI HM hP8 hF8
          go_region
          all_goals
            go_wp2
            go_roundw
            case rel => exact ⟨i + 1, _, _, _, _, _, _, _, _, _, by go_num, by omega, HPUT.out.below (Below.refl _ _).drew⟩
            case measure => simp [intOf] <;> omega
        · have hd2 : (ph != 1) = true := by rw [bne_iff_ne]; exact hp
          have HE := Lib.hid (hI.end_ (hI.st.ph_of hp))
          clear hI hp
          go_wp2_with fail
          go_meet
          exact ⟨_, _, _, _, _, _, _, HE.out⟩
      · have hd2 : decide ((i : Int) < 100) = false := by rw [decide_eq_false_iff_not]; omega
        have HE := Lib.hid (hI.end_ (hI.st.end_ (by omega)))
        clear hI
        go_wp2_with fail
        go_meet
        exact ⟨_, _, _, _, _, _, _, HE.out⟩
  case rest =>
    obtain ⟨l, A, B, P, c, d, f, hI⟩ := hcut
    rename World => w5
    have hok := sErr_zero.1 (hI.st.ok HS.out)
    have hrt := roots_few hok
    have hl24 := (bsErr_zero.1 hok.be).1
    simp only at hrt hl24
    have hR := rall_any A B l.length c M.length d l M rm ck w5 hI.a.hr hI.a.he (fun b hb => (hI.a.hgl b hb).1) (fun e he p hp => ((hI.a.hge e he).2.1 p hp).2.1) hI.a.hz (by omega)
    obtain ⟨R, hRR⟩ : ∃ R, sReach l M = R := ⟨_, rfl⟩
    have HD : Hid (∀ b ∈ l, b.mr = true ↔ b.dg ∈ R) := fun b hb => by rw [← hRR]; exact hI.st.done HS.out hb
    rw [hRR] at hR
    have HR := Lib.hid hR
    have HI := Lib.hid hI
    obtain ⟨a0, a1, a2, a3⟩ := blk4 hI.bS
    clear hok hrt hR hRR hI hI4 HK0 HS
    go_wp2_with fail
    with_reducible refine HR.out.mono ?_
    rintro e w6 hgv
    obtain ⟨A6, c6, rfl, hR6, -, -, hb6⟩ := hgv.rd
    have hI6 := HI.out.below hb6
    have rL6 := hI6.a.hr
    have hb26 := hI6.b
    have s6 := hI6.bC
    have b6 := hI6.bS
    clear HR hgv hb6 HI a0 a1 a2 a3 hI6
    obtain ⟨a0, a1, a2, a3⟩ := blk4 b6
    go_wp2
    go_loopw [47] (fun s wr => ∃ k : Nat, k ≤ l.length ∧ s = .int .i64 k ∧ Below w6.heap.size w6 wr) (fun s _ => l.length - (intOf s).toNat)
    case atStart => exact ⟨0, Nat.zero_le _, rfl, Below.refl _ _⟩
    case round =>
      obtain ⟨k, hk, rfl, hbel⟩ := hrel
      by_cases hlt : k < l.length
      · obtain ⟨b, off, D, dn, dc, rfl, hc0, hc1, hc2, hc3, -, -⟩ := (rL6.below hbel).blob hlt
        have hki : (k : Int) < (l.length : Int) := by omega
        have hmem := HD.out l[k] (List.getElem_mem hlt)
        generalize l[k] = x at *
        have hal8 := (Below.refl wr.heap.size wr).alloc (Nat.le_refl _) (.cells #[.string (str x.dg), .slice D dn dc, .int .i64 x.pn, .bool x.mr] 45)
        have v8 := Blk.new wr 45 [.string (str x.dg), .slice D dn dc, .int .i64 x.pn, .bool x.mr]
        have hb78 := below_step hbel hal8
        clear a0 a1 a2 a3 hal8
        go_upto_region 16 with fail
        generalize hw8 : wr.alloc (.cells [Value.string (str x.dg), .slice D dn dc, .int .i64 x.pn, .bool x.mr].toArray 45) = w8 at *
        clear hw8 hc0 hc1 hc2 hc3
        have HC1 := Lib.hid (fun (W : World) (hb : Below w8.heap.size w8 W) => containsT_any A6 _ c6 R x.dg W (hR6.below (below_step hb78 hb)) x.mr hmem)
        have heq : (x.mr != x.mr) = false := by simp
        clear hmem
        go_cut [57] from 51 to 57 (fun s57 wx => s57 = .bool false ∧ Below w8.heap.size w8 wx)
        case first =>
          have b0 := (Below.refl w8.heap.size w8).drew
          have hS : ∀ W : World, Below w8.heap.size w8 W → (W.cell? ⟨wr.heap.size, 0, none⟩ = some (.string (str x.dg)) ∧ W.cell? ⟨wr.heap.size, 3, none⟩ = some (.bool x.mr)) := fun W hb => ⟨(blk4 (v8.below hb v8.lt)).1, (blk4 (v8.below hb v8.lt)).2.2.2⟩
          go_region_held_law (fun W => W.cell? ⟨wr.heap.size, 0, none⟩ = some (.string (str x.dg)) ∧ W.cell? ⟨wr.heap.size, 3, none⟩ = some (.bool x.mr))
            (first | with_reducible exact hS _ b0 | go_keep)
            ((go_at_call 19; (with_reducible refine (HC1.out _ b0).mono ?_); rintro e v1 ⟨rfl, rfl⟩))
          all_goals
            go_wp2
            go_meet
            first | exact ⟨rfl, b0⟩ | exact ⟨by rw [heq], b0⟩ | exact ⟨by simp, b0⟩
        case rest =>
          obtain ⟨rfl, hbx⟩ := hcut
          go_wp2
          go_roundw
          case rel => exact ⟨k + 1, by omega, by go_num, below_step hb78 hbx⟩
          case measure => simp [intOf] <;> omega
      · have hd2 : decide ((k : Int) < (l.length : Int)) = false := by rw [decide_eq_false_iff_not]; omega
        obtain rfl : k = l.length := by omega
        have s8 := s6.below hbel s6.lt
        clear a0 a1 a2 a3
        obtain ⟨t0, t1, t2⟩ := blk3 s8
        go_wp2
        go_ret
        exact ⟨by simp, below_step hb26 hbel⟩
end Go.Proofs.YtdbdigcpibmgjaaGreatDoor

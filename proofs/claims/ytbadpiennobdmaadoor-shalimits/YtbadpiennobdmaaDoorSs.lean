/- The program's Step: one block of SHA-256. -/
import Derived.Test.YtbadpiennobdmaaDoorSc
import Derived.Test.YtbadpiennobdmaaDoorSr
namespace Go.Proofs.YtbadpiennobdmaaDoor
open Go.RowKit
/-- the program's table of round constants, as it was laid -/
def Kon (w : World) : Prop := Rd w 1 (some ⟨0, 0, none⟩) 64 64 (kon.map wv)
theorem Kon.below {w w' : World} (h : Kon w) (hb : Below w.heap.size w w') : Kon w' := Rd.below h hb
theorem add_at (s v : St) (k : Nat) (hk : k < 8) : ∃ x y : BitVec 32, (s.list.map wv)[k]? = some (.int .u32 (u x)) ∧ (v.list.map wv)[k]? = some (.int .u32 (u y)) ∧ ((s.add v).list.map wv)[k]? = some (.int .u32 (u (x + y))) := by
  rcases (by omega : k = 0 ∨ k = 1 ∨ k = 2 ∨ k = 3 ∨ k = 4 ∨ k = 5 ∨ k = 6 ∨ k = 7) with rfl | rfl | rfl | rfl | rfl | rfl | rfl | rfl
  · exact ⟨s.a, v.a, rfl, rfl, rfl⟩
  · exact ⟨s.b, v.b, rfl, rfl, rfl⟩
  · exact ⟨s.c, v.c, rfl, rfl, rfl⟩
  · exact ⟨s.d, v.d, rfl, rfl, rfl⟩
  · exact ⟨s.e, v.e, rfl, rfl, rfl⟩
  · exact ⟨s.f, v.f, rfl, rfl, rfl⟩
  · exact ⟨s.g, v.g, rfl, rfl, rfl⟩
  · exact ⟨s.h, v.h, rfl, rfl, rfl⟩
theorem round_lit (s : St) (k x : BitVec 32) (w : World) :
    Calls Tryd.prog 25 #[.agg #[.int .u32 (u s.a), .int .u32 (u s.b), .int .u32 (u s.c), .int .u32 (u s.d), .int .u32 (u s.e), .int .u32 (u s.f), .int .u32 (u s.g), .int .u32 (u s.h)], .int .u32 (u (k + x))] w fun e w' => e = .returned (.agg ((rnd s k x).list.map wv).toArray) ∧ Below w.heap.size w w' := round_any s k x w
set_option maxHeartbeats 400000 in
theorem step_size (A B : Option Addr) (n m c d : Nat) (w : World) (h : n ≠ 8 ∨ m ≠ 16) :
    Calls Tryd.prog 9 #[.slice A n c, .slice B m d] w fun e w' => e = .returned (.tuple #[.slice none 0 0, .int .i64 1]) ∧ w = w' := by
  by_cases h8 : n = 8
  · subst h8
    have h1 : (((m : Nat) : Int) != 16) = true := by rw [bne_iff_ne]; omega
    go_enter Tryd.func9, Tryd.ntmps9
    go_wp2
    go_ret2
    exact ⟨rfl, rfl⟩
  · have h1 : (((n : Nat) : Int) != 8) = true := by rw [bne_iff_ne]; omega
    go_enter Tryd.func9, Tryd.ntmps9
    go_wp2
    go_ret2
    exact ⟨rfl, rfl⟩
attribute [local irreducible] sch rnds kon nxt t1 t2 rnd
set_option maxRecDepth 100000 in
set_option maxHeartbeats 4000000 in
theorem step_ok (s : St) (bl : List (BitVec 32)) (A B : Option Addr) (c d : Nat) (w : World) (hK : Kon w) (hh : Rd w 1 A 8 c (s.list.map wv)) (hb : Rd w 1 B 16 d (bl.map wv)) :
    Calls Tryd.prog 9 #[.slice A 8 c, .slice B 16 d] w fun e w' => ∃ g, e = .returned (.tuple #[.slice (some ⟨g, 0, none⟩) 8 8, .int .i64 0]) ∧ Blk w' g 42 ((stp s bl).list.map wv) ∧ Below w.heap.size w w' := by
  obtain ⟨i0, hi0, hz0, hz1, hz2⟩ := info_parts u32_info
  have hbl : bl.length = 16 := hb.len.symm
  have HBL := Lib.hid hbl
  clear hbl
  obtain ⟨hB, ho, rfl, hhl, hhc⟩ := hh.addr (by simp [St.list])
  have HHC := Lib.hid hhc
  clear hhc
  obtain ⟨kB, ko, hke, hkl, hkc⟩ := hK.addr (by rw [List.length_map, kon_length]; omega)
  injection hke with hke
  injection hke with hk1 hk2
  subst hk1 hk2
  have HKC := Lib.hid hkc
  clear hkc
  have hb0 := (Below.refl w.heap.size w).alloc (Nat.le_refl _) (.cells (reps 8 (.int .u32 0)).toArray 43)
  have hg0 := Blk.new w 43 (reps 8 (.int .u32 0))
  have hh0 := hh.below hb0
  have hmk := run_make1 (P := Tryd.prog) Tryd.underlying22 hi0 hz0 hz1 rfl hz2 8 8 rfl (by omega) (by omega)
  go_enter Tryd.func9, Tryd.ntmps9
  go_wp2_with ((with_reducible refine at_copy ?_); refine wpList_copyR rfl (.tmp 19) (.tmp 20) _ _ rfl Tryd.underlying22 hi0 hz1 w.heap.size 8 8 rfl rfl (reps 8 (.int .u32 0)) 43 hg0 hh0 (by omega) (by rw [reps_length]; omega) (words_one s.list) w.heap.size w hb0 (Nat.le_refl _) ?_; intro w1 HG1 hb1)
  have hg1 : Blk w1 w.heap.size 43 (s.list.map wv) := HG1.out
  clear HG1 hb0 hg0 hh0
  with_reducible refine (schedule_any bl _ _ _ (hb.below hb1)).mono ?_
  rintro e w2 ⟨rfl, hb2⟩
  have hg2 := hg1.below hb2 hg1.lt
  replace hb2 := below_step hb1 hb2
  clear hb1 hg1
  have hWl := sch_length bl HBL.out 48
  generalize hW : sch bl 48 = W at *
  have HW := Lib.hid hW
  clear hW
  have hWm : (W.map wv).toArray.size = 64 := by simp; omega
  have hn2 := Blk.new w2 44 (reps 64 (.int .u32 0))
  have hb3 := hb2.alloc hb2.size (.cells (reps 64 (.int .u32 0)).toArray 44)
  have hg3 := hg2.alloc (.cells (reps 64 (.int .u32 0)).toArray 44)
  have hlt2 := hg2.lt
  obtain ⟨gw, hgw⟩ : ∃ g, g = w2.heap.size := ⟨_, rfl⟩
  have hgn : w.heap.size < gw := by omega
  rw [← hgw] at hn2
  have Hgw := Lib.hid hgw
  clear hg2 hb2 hlt2
  go_wp2_with ((with_reducible refine at_store 44 ?_); refine wpList_store_row rfl 44 (.tmp 7) (.tmp 23) rfl gw (W.map wv).toArray (by rw [Hgw.out]; rfl) rfl 44 (reps 64 (.int .u32 0)).toArray hn2 (by rw [hWm]; exact arr64_info) (by rw [hWm]; simp [reps]) (words_all1 W) ?_)
  rw [← hgw]
  have hn4 : Blk (World.setRow _ gw _) gw 44 (W.map wv) := hn2.row
  have hg4 := hg3.otherRow (g := gw) (ys := (W.map wv).toArray) (by omega)
  have hb4 := below_setRow hb3 (Nat.le_of_lt hgn) (W.map wv).toArray
  clear hn2 hb3 hg3 hgw
  go_loopw [8, 24] (fun _ q wr => ∃ (k : Nat) (v : St), Hid (v = rnds s W k) ∧ k ≤ 64 ∧ q = .int .i64 k ∧ Blk wr w.heap.size 43 (v.list.map wv) ∧ Blk wr gw 44 (W.map wv) ∧ Below w.heap.size w wr) (fun _ q _ => 64 - (intOf q).toNat)
  case atStart => exact ⟨0, s, (rnds_zero s W).symm, by omega, rfl, hg4, hn4, hb4⟩
  case round =>
    clear hg4 hn4 hb4
    obtain ⟨k, v, Hv, hk, rfl, hg, hn, hbel⟩ := hrel
    by_cases hlt : k < 64
    · have hwk : wr.cell? ⟨gw, k, none⟩ = some (.int .u32 (u (W.getD k 0))) := (hn.cell k).trans (by rw [List.getElem?_map, List.getElem?_eq_getElem (by omega), getD_lt (by omega)]; rfl)
      have hkk : wr.cell? ⟨0, k, none⟩ = some (.int .u32 (u (kon.getD k 0))) := (hbel.cell (p := ⟨0, k, none⟩) hkl).trans (by have := HKC.out k _ (by rw [List.getElem?_map, List.getElem?_eq_getElem (by rw [kon_length]; omega)]; rfl); rw [Nat.zero_add] at this; rw [this, getD_lt (by rw [kon_length]; omega)]; rfl)
      have hrn := rnds_succ s W k
      rw [← Hv.out] at hrn
      have Hrn := Lib.hid hrn.symm
      clear hrn
      generalize W.getD k 0 = xw at *
      generalize kon.getD k 0 = xk at *
      have q3 : (k : Int) < 64 := by omega
      have y0 : wr.cell? ⟨w.heap.size, 0, none⟩ = some (.int .u32 (u v.a)) := hg.cell 0
      have y1 : wr.cell? ⟨w.heap.size, 1, none⟩ = some (.int .u32 (u v.b)) := hg.cell 1
      have y2 : wr.cell? ⟨w.heap.size, 2, none⟩ = some (.int .u32 (u v.c)) := hg.cell 2
      have y3 : wr.cell? ⟨w.heap.size, 3, none⟩ = some (.int .u32 (u v.d)) := hg.cell 3
      have y4 : wr.cell? ⟨w.heap.size, 4, none⟩ = some (.int .u32 (u v.e)) := hg.cell 4
      have y5 : wr.cell? ⟨w.heap.size, 5, none⟩ = some (.int .u32 (u v.f)) := hg.cell 5
      have y6 : wr.cell? ⟨w.heap.size, 6, none⟩ = some (.int .u32 (u v.g)) := hg.cell 6
      have y7 : wr.cell? ⟨w.heap.size, 7, none⟩ = some (.int .u32 (u v.h)) := hg.cell 7
      go_wp2
      go_still_tail 8, (by kernel_rfl)
      change wpList _ _ _ _ _ wr.drew
      clear y0 y1 y2 y3 y4 y5 y6 y7 hwk hkk
      replace hg := hg.drew
      replace hn := hn.drew
      replace hbel := hbel.drew
      generalize wr.drew = w5 at *
      go_wp2_with fail
      with_reducible refine (round_lit v xk xw _).mono ?_
      rintro e w6 ⟨rfl, hb6⟩
      have hg6 := hg.below hb6 hg.lt
      have hn6 := hn.below hb6 hn.lt
      replace hb6 := below_step hbel hb6
      clear hg hn hbel
      go_wp2_with ((with_reducible refine at_store 43 ?_); refine wpList_store_row rfl 43 (.tmp 6) (.tmp 35) rfl w.heap.size ((rnd v xk xw).list.map wv).toArray rfl rfl 43 (v.list.map wv).toArray hg6 arr8_info rfl (words_all1 _) ?_)
      go_roundw
      case rel => exact ⟨k + 1, rnd v xk xw, Hrn.out, by omega, by go_num, hg6.row, hn6.otherRow (by omega), below_setRow hb6 (Nat.le_refl _) _⟩
      case measure => simp [intOf]; omega
    · have hk' : k = 64 := by omega
      have hfin : stp s bl = s.add v := by rw [stp_eq, HW.out, Hv.out, hk']
      have Hfin := Lib.hid hfin
      have hdk : decide ((k : Int) < 64) = false := by simp; omega
      clear hk' hfin hn
      go_wp2
      have hbm := hbel.alloc hbel.size (.cells (reps 8 (.int .u32 0)).toArray 42)
      have hgm := hg.alloc (.cells (reps 8 (.int .u32 0)).toArray 42)
      have hnm := Blk.new wr 42 (reps 8 (.int .u32 0))
      have hgl := hg.lt
      obtain ⟨gn, hgn2⟩ : ∃ g, g = wr.heap.size := ⟨_, rfl⟩
      have hgn3 : w.heap.size < gn := by omega
      rw [← hgn2] at hnm ⊢
      generalize hwo : wr.alloc (.cells (reps 8 (.int .u32 0)).toArray 42) = wo at *
      clear hg hbel hgl hgn2 hwo
      go_loopw [10, 40] (fun _ q wr2 => ∃ j : Nat, j ≤ 8 ∧ q = .int .i64 j ∧ Blk wr2 gn 42 (((s.add v).list.map wv).take j ++ reps (8 - j) (.int .u32 0)) ∧ Blk wr2 w.heap.size 43 (v.list.map wv) ∧ Below w.heap.size w wr2) (fun _ q _ => 8 - (intOf q).toNat)
      case atStart => exact ⟨0, by omega, rfl, by simpa using hnm, hgm, hbm⟩
      case round =>
        clear hnm hgm hbm
        obtain ⟨j, hj, rfl, hn, hg, hbel⟩ := hrel
        by_cases hlt : j < 8
        · obtain ⟨x, y, e0, e1, e2⟩ := add_at s v j hlt
          have c0 : wr.cell? ⟨hB, ho + j, none⟩ = some (.int .u32 (u x)) := (hbel.cell (p := ⟨hB, ho + j, none⟩) hhl).trans (HHC.out j _ e0)
          have c1 : wr.cell? ⟨w.heap.size, j, none⟩ = some (.int .u32 (u y)) := (hg.cell j).trans e1
          have c2 : wr.drew.cell? ⟨gn, j, none⟩ = some (.int .u32 0) := (hn.cell j).trans (fill_at (by omega) (by simpa [St.list] using hlt))
          have f2 : wr.drew.frozen? ⟨gn, j, none⟩ = false := hn.frozen j
          have q3 : (j : Int) < 8 := by omega
          have p0 := hn.drew.put j (.int .u32 (u (x + y)))
          rw [fill_step hlt e2] at p0
          have P := Lib.hid p0
          have hg2 := hg.drew
          have hb2 := hbel.drew
          clear p0 e0 e1 e2 hn hg hbel
          go_wp2
          go_still_tail 11, (by kernel_rfl)
          change wpList _ _ _ _ _ wr.drew
          clear c0 c1
          generalize wr.drew = w9 at *
          go_wp2
          go_roundw
          case rel => exact ⟨j + 1, by omega, by go_num, P.out, hg2.far (p := ⟨gn, j, none⟩) (by simp; omega) _, hb2.setCell (p := ⟨gn, j, none⟩) (Nat.le_of_lt hgn3) _⟩
          case measure => simp [intOf]; omega
        · have hj8 : j = 8 := by omega
          have hdj : decide ((j : Int) < 8) = false := by simp; omega
          rw [hj8, fill_end (ys := (s.add v).list.map wv) (m := 8) rfl] at hn
          clear hj8
          go_wp2
          go_ret2
          exact ⟨gn, rfl, by rw [Hfin.out]; exact hn, hbel⟩
end Go.Proofs.YtbadpiennobdmaaDoor

/- The program's schedule of a block. -/
import Derived.Test.YtbadpiennobdmaaDoorSm
namespace Go.Proofs.YtbadpiennobdmaaDoor
open Go.RowKit
attribute [local irreducible] sch nxt mix2 mix3
set_option maxRecDepth 100000 in
set_option maxHeartbeats 4000000 in
theorem schedule_any (bl : List (BitVec 32)) (A : Option Addr) (c : Nat) (w : World) (hb : Rd w 1 A 16 c (bl.map wv)) :
    Calls Tryd.prog 24 #[.slice A 16 c] w fun e w' => e = .returned (.agg ((sch bl 48).map wv).toArray) ∧ Below w.heap.size w w' := by
  have hbl : bl.length = 16 := hb.len.symm
  obtain ⟨i0, hi0, hz0, hz1, hz2⟩ := info_parts u32_info
  have HBL := Lib.hid hbl
  clear hbl
  have hb0 := (Below.refl w.heap.size w).alloc (Nat.le_refl _) (.cells (reps 64 (.int .u32 0)).toArray 44)
  have hb1 := hb0.alloc (by simp) (.cells (reps 64 (.int .u32 0)).toArray 44)
  have hr1 := hb.below hb1
  have hg0 := (Blk.new w 44 (reps 64 (.int .u32 0))).alloc (.cells (reps 64 (.int .u32 0)).toArray 44)
  have hg1 := Blk.new (w.alloc (.cells (reps 64 (.int .u32 0)).toArray 44)) 44 (reps 64 (.int .u32 0))
  have es : (w.alloc (.cells (reps 64 (.int .u32 0)).toArray 44)).heap.size = w.heap.size + 1 := by simp
  rw [es] at hg1
  go_enter Tryd.func24, Tryd.ntmps24
  go_wp2_with ((with_reducible refine at_copy ?_); refine wpList_copyR rfl (.tmp 5) (.tmp 6) _ _ rfl Tryd.underlying22 hi0 hz1 (w.heap.size + 1) 64 64 rfl rfl (reps 64 (.int .u32 0)) 44 hg1 hr1 (by omega) (by rw [reps_length]; omega) (words_one bl) (w.heap.size + 1) _ (Below.refl _ _) (Nat.le_refl _) ?_; intro w1 HG1 hk1; have hbel := hb1.trans (hk1.mono (Nat.le_succ _)); have hg0' := hg0.below hk1 (Nat.lt_succ_self _); clear hk1 hg0 hg1 hb0 hb1 hr1 es)
  go_loopw [4] (fun q wr => ∃ t : Nat, 16 ≤ t ∧ t ≤ 64 ∧ q = .int .i64 t ∧ Blk wr (w.heap.size + 1) 44 (fillS bl t) ∧ Blk wr w.heap.size 44 (reps 64 (.int .u32 0)) ∧ Below w.heap.size w wr) (fun q _ => 64 - (intOf q).toNat)
  case atStart => exact ⟨16, by omega, by omega, rfl, (by rw [fillS_start]; exact HG1.out), hg0', hbel⟩
  case round =>
    clear HG1 hg0' hbel
    obtain ⟨t, ht0, ht1, rfl, hg1, hg0, hbel⟩ := hrel
    by_cases hlt : t < 64
    · have v0 := (hg1.cell (t - 16)).trans (fillS_at bl HBL.out t (t - 16) ht0 (by omega))
      have v1 := (hg1.cell (t - 7)).trans (fillS_at bl HBL.out t (t - 7) ht0 (by omega))
      have v2 := (hg1.cell (t - 15)).trans (fillS_at bl HBL.out t (t - 15) ht0 (by omega))
      have v3 := (hg1.cell (t - 2)).trans (fillS_at bl HBL.out t (t - 2) ht0 (by omega))
      have v4 : wr.drew.cell? ⟨w.heap.size + 1, t, none⟩ = some (.int .u32 0) := (hg1.cell t).trans (fillS_free bl HBL.out t ht0 hlt)
      have f4 : wr.drew.frozen? ⟨w.heap.size + 1, t, none⟩ = false := hg1.frozen t
      have h5 := nxt_s (sch bl (t - 16)) t
      have h6 := fillS_step bl HBL.out t ht0 hlt
      rw [← h5] at h6
      generalize (sch bl (t - 16)).getD (t - 16) 0 = x0 at *
      generalize (sch bl (t - 16)).getD (t - 7) 0 = x1 at *
      generalize (sch bl (t - 16)).getD (t - 15) 0 = x2 at *
      generalize (sch bl (t - 16)).getD (t - 2) 0 = x3 at *
      clear h5
      have p0 := hg1.drew.put t (.int .u32 (u (x0 + mix2 x2 + x1 + mix3 x3)))
      rw [h6] at p0
      have P := Lib.hid p0
      clear h6 p0 hg1
      have hg0' := hg0.drew
      have hbd := hbel.drew
      have a0 : IntKind.i64.wrap ((t : Int) - 16) = (t : Int) - 16 := IntWalk.i64_in _ (by omega)
      have a1 : IntKind.i64.wrap ((t : Int) - 7) = (t : Int) - 7 := IntWalk.i64_in _ (by omega)
      have a2 : IntKind.i64.wrap ((t : Int) - 15) = (t : Int) - 15 := IntWalk.i64_in _ (by omega)
      have a3 : IntKind.i64.wrap ((t : Int) - 2) = (t : Int) - 2 := IntWalk.i64_in _ (by omega)
      have n0 : ((t : Int) - 16).toNat = t - 16 := by omega
      have n1 : ((t : Int) - 7).toNat = t - 7 := by omega
      have n2 : ((t : Int) - 15).toNat = t - 15 := by omega
      have n3 : ((t : Int) - 2).toNat = t - 2 := by omega
      have b0 : (0 : Int) ≤ (t : Int) - 16 ∧ (0 : Int) ≤ (t : Int) - 7 ∧ (0 : Int) ≤ (t : Int) - 15 ∧ (0 : Int) ≤ (t : Int) - 2 := by omega
      obtain ⟨b0, b1, b2, b3⟩ := b0
      have e0 : (16 : Int) ≤ t ∧ (7 : Int) ≤ t ∧ (15 : Int) ≤ t ∧ (2 : Int) ≤ t := by omega
      obtain ⟨e0, e1, e2, e3⟩ := e0
      have d0 : (t : Int) - 16 < 64 ∧ (t : Int) - 7 < 64 ∧ (t : Int) - 15 < 64 ∧ (t : Int) - 2 < 64 ∧ (t : Int) < 64 := by omega
      obtain ⟨d0, d1, d2, d3, d4⟩ := d0
      go_wp2
      refine wp_region_still_tail 23 (by kernel_rfl) (by kernel_rfl) ?_
      simp only [List.take_succ_cons, List.take_zero, List.drop_succ_cons, List.drop_zero]
      repeat still_step
      still_call (smix_2 _ _)
      repeat still_step
      still_call (smix_3 _ _)
      repeat still_step
      refine wpStill_nil ?_
      change wpList _ _ _ _ _ wr.drew
      clear a0 a1 a2 a3 n0 n1 n2 n3 v0 v1 v2 v3
      generalize wr.drew = w2 at *
      go_wp2
      go_roundw
      case rel => exact ⟨t + 1, by omega, by omega, by go_num, P.out, hg0'.far (p := ⟨w.heap.size + 1, t, none⟩) (by simp) _, hbd.setCell (p := ⟨w.heap.size + 1, t, none⟩) (by simp) _⟩
      case measure => simp [intOf]; omega
    · have hk : t = 64 := by omega
      rw [hk, fillS_end] at hg1
      have hdt : decide ((t : Int) < 64) = false := by simp; omega
      clear hk
      have hWl := sch_length bl HBL.out 48
      generalize hW : sch bl 48 = W at *
      have hWm : (W.map wv).toArray.size = 64 := by simp; omega
      go_wp2_with (first
        | ((with_reducible refine at_load 44 ?_); refine wpList_load_row rfl 44 (.tmp 3) rfl (w.heap.size + 1) rfl 44 (W.map wv).toArray (0, 0) _ hg1 Tryd.underlying44 rfl (by rw [hWm]; exact arr64_info) ?_)
        | ((with_reducible refine at_store 44 ?_); refine wpList_store_row rfl 44 (.tmp 2) (.tmp 35) rfl w.heap.size (W.map wv).toArray rfl rfl 44 (reps 64 (.int .u32 0)).toArray hg0 (by rw [hWm]; exact arr64_info) (by rw [hWm]; simp [reps]) (words_all1 W) ?_))
      refine bodyPost_ret (v := .agg (W.map wv).toArray) (results_cell_row rfl _ _ w.heap.size 44 (W.map wv).toArray (0, 0) _ rfl hg0.row Tryd.underlying44 rfl (by rw [hWm]; exact arr64_info)) rfl ⟨by rw [hW], below_setRow hbel (Nat.le_refl _) _⟩
end Go.Proofs.YtbadpiennobdmaaDoor

/- The program's round. -/
import Derived.Test.YtbadpiennobdmaaDoorSm
namespace Go.Proofs.YtbadpiennobdmaaDoor
open Go.RowKit
theorem t1_s (s : St) (k w : BitVec 32) : s.h + mix1 s.e + chs s.e s.f s.g + (k + w) = t1 s k w := by
  unfold t1; rw [BitVec.add_assoc _ k w]
theorem t2_s (s : St) : mix0 s.a + mst s.a s.b s.c = t2 s := rfl
theorem st_cells (s : St) : (s.list.map wv).toArray = #[.int .u32 (u s.a), .int .u32 (u s.b), .int .u32 (u s.c), .int .u32 (u s.d), .int .u32 (u s.e), .int .u32 (u s.f), .int .u32 (u s.g), .int .u32 (u s.h)] := rfl
theorem choose_st (x y z : BitVec 32) (w : World) : Calls Tryd.prog 47 #[.int .u32 (u x), .int .u32 (u y), .int .u32 (u z)] w fun e w' => e = .returned (.int .u32 (u (chs x y z))) ∧ w' = w := (choose_any x y z w).mono fun _ _ ⟨a, b⟩ => ⟨a, b.symm⟩
theorem most_st (x y z : BitVec 32) (w : World) : Calls Tryd.prog 48 #[.int .u32 (u x), .int .u32 (u y), .int .u32 (u z)] w fun e w' => e = .returned (.int .u32 (u (mst x y z))) ∧ w' = w := (most_any x y z w).mono fun _ _ ⟨a, b⟩ => ⟨a, b.symm⟩
attribute [local irreducible] mix0 mix1 chs mst t1 t2
set_option maxRecDepth 100000 in
set_option maxHeartbeats 4000000 in
theorem round_any (s : St) (k x : BitVec 32) (w : World) :
    Calls Tryd.prog 25 #[.agg (s.list.map wv).toArray, .int .u32 (u (k + x))] w fun e w' => e = .returned (.agg ((rnd s k x).list.map wv).toArray) ∧ Below w.heap.size w w' := by
  have g1 := Lib.hid (t1_s s k x)
  have g2 := Lib.hid (t2_s s)
  have hbel := ((Below.refl w.heap.size w).alloc (Nat.le_refl _) (.cells (s.list.map wv).toArray 43)).alloc (by simp) (.cells (reps 8 (.int .u32 0)).toArray 43)
  have hs0 := (Blk.new w 43 (s.list.map wv)).alloc (.cells (reps 8 (.int .u32 0)).toArray 43)
  have hr0 := Blk.new (w.alloc (.cells (s.list.map wv).toArray 43)) 43 (reps 8 (.int .u32 0))
  have es : (w.alloc (.cells (s.list.map wv).toArray 43)).heap.size = w.heap.size + 1 := by simp
  rw [es] at hr0
  go_enter Tryd.func25, Tryd.ntmps25
  go_wp2_with fail
  change Code.wp _ _ _ _ ((w.alloc (.cells (s.list.map wv).toArray 43)).alloc (.cells (reps 8 (.int .u32 0)).toArray 43))
  generalize (w.alloc (.cells (s.list.map wv).toArray 43)).alloc (.cells (reps 8 (.int .u32 0)).toArray 43) = w1 at *
  have y0 : w1.cell? ⟨w.heap.size, 0, none⟩ = some (.int .u32 (u s.a)) := hs0.cell 0
  have y1 : w1.cell? ⟨w.heap.size, 1, none⟩ = some (.int .u32 (u s.b)) := hs0.cell 1
  have y2 : w1.cell? ⟨w.heap.size, 2, none⟩ = some (.int .u32 (u s.c)) := hs0.cell 2
  have y3 : w1.cell? ⟨w.heap.size, 3, none⟩ = some (.int .u32 (u s.d)) := hs0.cell 3
  have y4 : w1.cell? ⟨w.heap.size, 4, none⟩ = some (.int .u32 (u s.e)) := hs0.cell 4
  have y5 : w1.cell? ⟨w.heap.size, 5, none⟩ = some (.int .u32 (u s.f)) := hs0.cell 5
  have y6 : w1.cell? ⟨w.heap.size, 6, none⟩ = some (.int .u32 (u s.g)) := hs0.cell 6
  have y7 : w1.cell? ⟨w.heap.size, 7, none⟩ = some (.int .u32 (u s.h)) := hs0.cell 7
  refine wp_region_still_lit (by kernel_rfl) (by kernel_rfl) ?_
  repeat still_step
  refine wpStill_nil ?_
  change Exit.then _ _ Exit.normal _ w1.drew
  replace hr0 := hr0.drew
  replace hbel := hbel.drew
  clear y0 y1 y2 y3 y4 y5 y6 y7 hs0 es
  generalize w1.drew = w2 at *
  go_wp2_with (first
    | ((with_reducible refine (smix_1 _ _).mono ?_); rintro e w' ⟨rfl, rfl⟩)
    | ((with_reducible refine (smix_0 _ _).mono ?_); rintro e w' ⟨rfl, rfl⟩)
    | ((with_reducible refine (choose_st _ _ _ _).mono ?_); rintro e w' ⟨rfl, rfl⟩)
    | ((with_reducible refine (most_st _ _ _ _).mono ?_); rintro e w' ⟨rfl, rfl⟩)
    | ((with_reducible refine at_store 43 ?_); refine wpList_store_row rfl 43 (.tmp 4) (.tmp 61) rfl (w.heap.size + 1) ((rnd s k x).list.map wv).toArray rfl (by simp only [g1.out, g2.out]; rfl) 43 (reps 8 (.int .u32 0)).toArray hr0 arr8_info rfl (words_all1 _) ?_))
  refine bodyPost_ret (v := .agg ((rnd s k x).list.map wv).toArray) (results_cell_row rfl _ _ (w.heap.size + 1) 43 ((rnd s k x).list.map wv).toArray (0, 0) _ rfl hr0.row Tryd.underlying43 rfl arr8_info) rfl ⟨rfl, below_setRow hbel (Nat.le_succ _) _⟩
end Go.Proofs.YtbadpiennobdmaaDoor

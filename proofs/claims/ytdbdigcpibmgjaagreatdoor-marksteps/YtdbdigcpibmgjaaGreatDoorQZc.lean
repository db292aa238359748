/- The reference's StoreCopy. -/
import Derived.Test.YtdbdigcpibmgjaaGreatDoorQZd
import Derived.Test.YtdbdigcpibmgjaaGreatDoorGSA
import Derived.Test.YtdbdigcpibmgjaaGreatDoorGR
import Derived.Test.YtdbdigcpibmgjaaGreatDoorGY
import Derived.Deep.RegionHeldLaw
import Derived.Deep.CutBlock
import Derived.Deep.CutRange
namespace Go.Proofs.YtdbdigcpibmgjaaGreatDoor
open Go.RowKit
set_option maxRecDepth 100000 in
set_option maxHeartbeats 4000000 in
theorem storeCopy_own (A B : Option Addr) (n c m k : Nat) (l : List Bl) (es : List En) (rm ck : Int) (w : World) (hr : KRd kBl w A n c l) (he : KRd kEn w B m k es) (hgl : ∀ p ∈ l, p.good) (hge : ∀ p ∈ es, p.good) (hz : n * 56 ≤ 140737488351232) (hz2 : m * 56 ≤ 140737488351232) :
    Calls Tryz.prog 31 #[.agg #[.slice A n c, .slice B m k, .int .i64 rm, .int .i64 ck]] w (GivesStoO ⟨l, es, rm, ck⟩ w) := by
  have hal := ((Below.refl w.heap.size w).alloc (Nat.le_refl _) (.cells #[.slice A n c, .slice B m k, .int .i64 rm, .int .i64 ck] 25)).alloc (by simp) (.cells #[.slice none 0 0, .slice none 0 0, .int .i64 0, .int .i64 0] 25)
  have hb1 := (Blk.new w 25 [.slice A n c, .slice B m k, .int .i64 rm, .int .i64 ck]).alloc (.cells #[.slice none 0 0, .slice none 0 0, .int .i64 0, .int .i64 0] 25)
  have hb2 := Blk.new (w.alloc (.cells #[.slice A n c, .slice B m k, .int .i64 rm, .int .i64 ck] 25)) 25 [.slice none 0 0, .slice none 0 0, .int .i64 0, .int .i64 0]
  have hsz : (w.alloc (.cells #[.slice A n c, .slice B m k, .int .i64 rm, .int .i64 ck] 25)).heap.size = w.heap.size + 1 := by simp
  rw [hsz] at hb2
  have hr0 := hr.below hal
  have he0 := he.below hal
  go_enter Tryz.func31, Tryz.ntmps31
  go_upto_region 1 with fail
  generalize hu : (w.alloc (.cells [Value.slice A n c, Value.slice B m k, Value.int .i64 rm, Value.int .i64 ck].toArray 25)).alloc (.cells [Value.slice none 0 0, Value.slice none 0 0, Value.int .i64 0, Value.int .i64 0].toArray 25) = u at *
  clear hu
  have hsu : w.heap.size + 2 ≤ u.heap.size := by have := hb2.lt; omega
  have hne : w.heap.size ≠ w.heap.size + 1 := by omega
  go_region_held_law (fun W => W.cell? ⟨w.heap.size, 0, none⟩ = some (.slice A n c) ∧ W.cell? ⟨w.heap.size, 1, none⟩ = some (.slice B m k) ∧ W.cell? ⟨w.heap.size, 2, none⟩ = some (.int .i64 rm) ∧ W.cell? ⟨w.heap.size, 3, none⟩ = some (.int .i64 ck)) (first | with_reducible exact blk4 hb1.drew | with_reducible exact blk4 h1a | with_reducible exact blk4 h2a | with_reducible exact blk4 (h2a.far4s hne _ _ _ _) | go_keep)
   (first
    | (go_at_call 75; with_reducible refine (blobsCopy_any A n c l _ hr0.drew hgl hz).mono ?_; rintro e w1 ⟨v1, rfl, hown1, hc1⟩; obtain ⟨A1, c1, rfl, -⟩ := hown1.new; have h1a := hb1.drew.below hc1 hb1.drew.lt; have h1b := hb2.drew.below hc1 hb2.drew.lt; have he1 := he0.drew.below hc1)
    | (go_at_call 76; with_reducible refine (entriesCopy_any B m k es _ he1 hge hz2).mono ?_; rintro e w2 ⟨v2, rfl, hown2, hc2⟩; obtain ⟨A2, c2, rfl, -⟩ := hown2.new; have h2a := h1a.below hc2 h1a.lt; have h2b := h1b.below hc2 h1b.lt; have hN1' := hown1.below hc2; obtain ⟨z0, z1, z2, z3⟩ := blk4 h2b; obtain ⟨y0, y1, y2, y3⟩ := blk4z h2b))
  all_goals
    have hz1 := hc1.size
    have hbB := below_step (below_step hal.drew hc1) hc2
    have hzd : u.drew.heap.size = u.heap.size := rfl
    go_wp2
    refine bodyPost_ret (results_cell_row rfl _ _ (w.heap.size + 1) 25 _ (0, 0) _ rfl (h2b.put4s _ _ _ _) Tryz.underlying25 rfl store_size) rfl ?_
    obtain ⟨hg1, hup⟩ := (hown1.rebase (base' := w.heap.size + 2) (by omega)).upto
    have hz2' := hc2.size
    refine ⟨_, _, w1.heap.size, rfl, (hN1'.set4s (by omega) _ _ _ _).rebase (by omega), hown2.set4s (by omega) _ _ _ _, by omega, hg1, fun w3 h1 h2 => hup w3 (by simp at h1; omega) fun k k1 k2 => ?_, below4s hbB (by omega) _ _ _ _⟩
    have e1 : k ≠ w.heap.size + 1 := by omega
    rw [h2 k k1 k2, Below.heap_setCell _ ⟨w.heap.size + 1, 3, none⟩ _ _ e1, Below.heap_setCell _ ⟨w.heap.size + 1, 2, none⟩ _ _ e1, Below.heap_setCell _ ⟨w.heap.size + 1, 1, none⟩ _ _ e1, Below.heap_setCell _ ⟨w.heap.size + 1, 0, none⟩ _ _ e1]
    exact hc2.block k k2
theorem storeCopy_any (A B : Option Addr) (n c m k : Nat) (l : List Bl) (es : List En) (rm ck : Int) (w : World) (hr : KRd kBl w A n c l) (he : KRd kEn w B m k es) (hgl : ∀ p ∈ l, p.good) (hge : ∀ p ∈ es, p.good) (hz : n * 56 ≤ 140737488351232) (hz2 : m * 56 ≤ 140737488351232) :
    Calls Tryz.prog 31 #[.agg #[.slice A n c, .slice B m k, .int .i64 rm, .int .i64 ck]] w (GivesSto ⟨l, es, rm, ck⟩ w) :=
  (storeCopy_own A B n c m k l es rm ck w hr he hgl hge hz hz2).mono fun _ _ h => h.sto
end Go.Proofs.YtdbdigcpibmgjaaGreatDoor

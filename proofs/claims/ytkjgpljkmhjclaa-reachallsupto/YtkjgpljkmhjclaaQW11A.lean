/- The law ReachAlls: the walk. -/
import Derived.Test.YtkjgpljkmhjclaaGRD
import Derived.Test.YtkjgpljkmhjclaaGRB
import Derived.Deep.RegionHeldLaw
namespace Go.Proofs.Ytkjgpljkmhjclaa
open Go.RowKit
set_option maxRecDepth 100000 in
set_option maxHeartbeats 4000000 in
theorem reachAlls_walk (A B : Option Addr) (n c m k : Nat) (l : List Bl) (es : List En) (rm ck : Int) (w : World) (hr : KRd kBl w A n c l) (he : KRd kEn w B m k es) (hz : n * 56 ≤ 140737488351232) (hgl : ∀ b ∈ l, b.good) (hge : ∀ e ∈ es, e.good) (hT0 : ((roots l es).length + 8 * l.length) * 16 ≤ 140737488351232) :
    Calls Try.prog 5 #[.agg #[.slice A n c, .slice B m k, .int .i64 rm, .int .i64 ck]] w fun e w' => e = .returned (.bool true) ∧ Below w.heap.size w w' := by
  have hT : (roots l es).length * 16 ≤ 140737488351232 := by omega
  have hg1 : ∀ b ∈ l, b.dg.length ≤ maxLen := fun b hb => (hgl b hb).1
  have hg2 : ∀ e ∈ es, ∀ p ∈ e.ps, p.dg.length ≤ maxLen := fun e he p hp => ((hge e he).2.1 p hp).2.1
  have hal := (Below.refl w.heap.size w).alloc (Nat.le_refl _) (.cells #[.slice A n c, .slice B m k, .int .i64 rm, .int .i64 ck] 34)
  have hbk := Blk.new w 34 [.slice A n c, .slice B m k, .int .i64 rm, .int .i64 ck]
  have HR : Hid (∀ W : World, Below w.heap.size w W → Calls Try.prog 12 #[.agg #[.slice A n c, .slice B m k, .int .i64 rm, .int .i64 ck]] W (GivesTx (ris (roots l es)) W)) := fun W hW => rroots_any A B n c m k l es rm ck W (hr.below hW) (he.below hW) hg1 hg2 hT
  have HA : Hid (∀ W : World, Below w.heap.size w W → Calls Try.prog 13 #[.agg #[.slice A n c, .slice B m k, .int .i64 rm, .int .i64 ck]] W (GivesTx (sReach l es) W)) := fun W hW => rall_any A B n c m k l es rm ck W (hr.below hW) (he.below hW) hg1 hg2 hz hT0
  have HR2 : Hid (∀ W : World, Below w.heap.size w W → Calls Try.prog 14 #[.agg #[.slice A n c, .slice B m k, .int .i64 rm, .int .i64 ck]] W (GivesTx (ris (roots l es)) W)) := fun W hW => reachRoots_any A B n c m k l es rm ck W (hr.below hW) (he.below hW) hT
  have HA2 : Hid (∀ W : World, Below w.heap.size w W → Calls Try.prog 15 #[.agg #[.slice A n c, .slice B m k, .int .i64 rm, .int .i64 ck]] W (GivesTx (sReach l es) W)) := fun W hW => reachAll_any A B n c m k l es rm ck W (hr.below hW) (he.below hW) hz hT
  clear hT hT0 hgl hge hg1 hg2
  generalize ris (roots l es) = R at *
  generalize sReach l es = S at *
  have st4 : ∀ {W : World}, Blk W w.heap.size 34 [.slice A n c, .slice B m k, .int .i64 rm, .int .i64 ck] → W.cell? ⟨w.heap.size, 0, none⟩ = some (.slice A n c) ∧ W.cell? ⟨w.heap.size, 1, none⟩ = some (.slice B m k) ∧ W.cell? ⟨w.heap.size, 2, none⟩ = some (.int .i64 rm) ∧ W.cell? ⟨w.heap.size, 3, none⟩ = some (.int .i64 ck) := fun h => ⟨h.cell 0, h.cell 1, h.cell 2, h.cell 3⟩
  go_enter Try.func5, Try.ntmps5
  go_upto_region 1 with fail
  generalize hu : w.alloc (.cells [Value.slice A n c, Value.slice B m k, Value.int .i64 rm, Value.int .i64 ck].toArray 34) = u at *
  clear hu
  go_region_held_law (fun W => W.cell? ⟨w.heap.size, 0, none⟩ = some (.slice A n c) ∧ W.cell? ⟨w.heap.size, 1, none⟩ = some (.slice B m k) ∧ W.cell? ⟨w.heap.size, 2, none⟩ = some (.int .i64 rm) ∧ W.cell? ⟨w.heap.size, 3, none⟩ = some (.int .i64 ck)) (first | with_reducible exact st4 hbk.drew | with_reducible exact st4 h1k | with_reducible exact st4 h2k | go_keep)
   (first
    | (go_at_call 12; with_reducible refine (HR.out _ hal.drew).mono ?_; rintro e w1 hq1; obtain ⟨A1, c1, rfl, hr1, -, -, hb1⟩ := hq1.rd; have h1k := hbk.drew.below hb1 hbk.drew.lt; have hB1 := below_step hal.drew hb1)
    | (go_at_call 13; with_reducible refine (HA.out _ hB1).mono ?_; rintro e w2 hq2; obtain ⟨A2, c2, rfl, hr2, -, -, hb2⟩ := hq2.rd; have h2k := h1k.below hb2 h1k.lt; have hB2 := below_step hB1 hb2; have hr1' := hr1.below hb2))
  go_wp2_with fail
  clear h1k hr1 hB1 hb1 hb2 hq1 hq2 hbk hal HR HA
  go_region_held_law (fun W => W.cell? ⟨w.heap.size, 0, none⟩ = some (.slice A n c) ∧ W.cell? ⟨w.heap.size, 1, none⟩ = some (.slice B m k) ∧ W.cell? ⟨w.heap.size, 2, none⟩ = some (.int .i64 rm) ∧ W.cell? ⟨w.heap.size, 3, none⟩ = some (.int .i64 ck)) (first | with_reducible exact st4 h2k.drew | with_reducible exact st4 h3k | with_reducible exact st4 h4k | go_keep)
   (first
    | (go_at_call 14; with_reducible refine (HR2.out _ hB2.drew).mono ?_; rintro e w3 hq3; obtain ⟨A3, c3, rfl, hr3, -, -, hb3⟩ := hq3.rd; have h3k := h2k.drew.below hb3 h2k.drew.lt; have hB3 := below_step hB2.drew hb3; have s1 := hr1'.drew.below hb3; have s2 := hr2.drew.below hb3)
    | (go_at_call 15; with_reducible refine (HA2.out _ hB3).mono ?_; rintro e w4 hq4; obtain ⟨A4, c4, rfl, hr4, -, -, hb4⟩ := hq4.rd; have h4k := h3k.below hb4 h3k.lt; have hB4 := below_step hB3 hb4; have t1 := s1.below hb4; have t2 := s2.below hb4; have t3 := hr3.below hb4))
  go_wp2_with fail
  with_reducible refine (sameTexts_eq _ _ _ _ _ _ R _ t1 t3).mono ?_
  rintro e w5 ⟨rfl, hb5⟩
  have v2 := t2.below hb5
  have v4 := hr4.below hb5
  go_wp2_with fail
  with_reducible refine (sameTexts_eq _ _ _ _ _ _ S _ v2 v4).mono ?_
  rintro e w6 ⟨rfl, hb6⟩
  go_wp2
  go_ret
  exact ⟨by simp, below_step (below_step hB4 hb5) hb6⟩
end Go.Proofs.Ytkjgpljkmhjclaa

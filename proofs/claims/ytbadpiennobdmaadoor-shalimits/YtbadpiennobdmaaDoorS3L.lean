/- The law ShaLimits: 2000 bytes have a digest, more have none. -/
import Derived.Test.YtbadpiennobdmaaDoorSu
import Derived.Test.YtbadpiennobdmaaDoorDg
import Derived.Test.YtbadpiennobdmaaDoorRep
import Derived.Test.YtbadpiennobdmaaDoorApm
import Derived.Test.YtbadpiennobdmaaDoorPk
namespace Go.Proofs.YtbadpiennobdmaaDoor
open Go.RowKit
attribute [local irreducible] dig
set_option maxRecDepth 100000 in
set_option maxHeartbeats 1000000 in
theorem shaLimits_walk (x : UInt8) (a : Int) (hw : (Lit.int .i64 a).wf = true) (w : World) (hK : Kon w) :
    Calls Tryd.prog 8 #[.int .u8 (y8 x), .int .i64 a] w fun e w' => e = .returned (.bool true) ∧ Below w.heap.size w w' := by
  obtain ⟨i0, hi0, hz0, hz1, hz2⟩ := info_parts u8_info
  have hra := i64_range hw
  have hpk := pk_range a 50 (by omega)
  obtain ⟨k, hk⟩ : ∃ k : Nat, 1 + pk a 50 = (k : Int) := ⟨(1 + pk a 50).toNat, by omega⟩
  have hk1 : 1 ≤ k := by omega
  have hk2 : k ≤ 50 := by omega
  have hb0 := (Below.refl w.heap.size w).alloc (Nat.le_refl _) (.cells #[.int .u8 (y8 x)] 5)
  have hr0 : Rd (w.alloc (.cells #[.int .u8 (y8 x)] 5)) 1 (some ⟨w.heap.size, 0, none⟩) 1 1 ([x].map bv8) := blk_rd (Blk.new w 5 ([x].map bv8)) (n := 1) rfl (by omega)
  obtain ⟨L, hL⟩ : ∃ L, List.replicate 2000 x = L := ⟨_, rfl⟩
  have hLl : L.length = 2000 := by rw [← hL, List.length_replicate]
  have ee : (dig L == dig L) = true := by simp
  have e0 : (([] : List UInt8) == []) = true := rfl
  clear hw hpk
  go_enter Tryd.func8, Tryd.ntmps8
  go_wp2_with fail
  with_reducible refine (repeat_one x _ _ _ hr0).mono ?_
  rintro e w1 ⟨g1, rfl, hg1, hblk1, hb1⟩
  rw [hL] at hblk1
  have hr1 := blk_rd hblk1 (n := 2000) (by rw [List.length_map]; exact hLl) (by omega)
  replace hb1 := below_step hb0 hb1
  clear hblk1 hb0 hr0 hL hg1
  go_wp2_with fail
  with_reducible refine (sum_ok _ _ _ L _ (hK.below hb1) hr1 (by omega)).mono ?_
  rintro e w2 ⟨rfl, hb2⟩
  replace hr1 := hr1.below hb2
  replace hb2 := below_step hb1 hb2
  clear hb1
  go_wp2_with fail
  with_reducible refine (picked_any a 50 _ hra.1 hra.2 (by omega) (by omega)).mono ?_
  rintro e w3 ⟨rfl, rfl⟩
  go_wp2_with (at_builtin; refine wpList_appendM rfl (.tmp 19) (.tmp 22) _ _ rfl Tryd.underlying27 Tryd.underlying3 hi0 hz0 hz1 hz2 g1 2000 k (L.map bv8) rfl rfl hr1 hk1 (by omega) ?_; intro g4 c4 w4 hb4)
  replace hr1 := hr1.below hb4
  replace hb4 := below_step hb2 hb4
  clear hb2
  with_reducible refine (sum_big _ _ _ _ (by omega) (by omega)).mono ?_
  rintro e w5 ⟨rfl, rfl⟩
  go_wp2_with fail
  with_reducible refine (digest_ok _ _ _ L _ hr1 (by omega)).mono ?_
  rintro e w6 ⟨rfl, hb6⟩
  go_wp2
  go_ret
  exact ⟨by simp, below_step hb4 hb6⟩
end Go.Proofs.YtbadpiennobdmaaDoor

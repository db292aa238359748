/- The law BlobChecks: the walk. -/
import Derived.Test.YtbnjbjdkajjfdaaDoorGP
import Derived.Test.YtbnjbjdkajjfdaaDoorGR
namespace Go.Proofs.YtbnjbjdkajjfdaaDoor
open Go.RowKit
set_option maxRecDepth 100000 in
set_option maxHeartbeats 1000000 in
theorem blobChecks_walk (b : Bl) (h : Hd) (A : Option Addr) (n c : Nat) (l : List Bl) (w : World) (hK : Kon w) (hd : kBl.deep w b h) (hb : b.good) (hr : KRd kBl w A n c l) (hg : ∀ p ∈ l, p.good) :
    Calls Tryd.prog 3 #[.agg #[.string (str b.dg), .slice h.A h.n h.c, .int .i64 b.pn, .bool b.mr], .slice A n c] w fun e w' => e = .returned (.bool true) ∧ Below w.heap.size w w' := by
  obtain ⟨hd1, hd2⟩ := hd
  have hal := (Below.refl w.heap.size w).alloc (Nat.le_refl _) (.cells #[.string (str b.dg), .slice h.A h.n h.c, .int .i64 b.pn, .bool b.mr] 24)
  have hbk := Blk.new w 24 [.string (str b.dg), .slice h.A h.n h.c, .int .i64 b.pn, .bool b.mr]
  have e0 := hbk.cell 0
  have e1 := hbk.cell 1
  have e2 := hbk.cell 2
  have e3 := hbk.cell 3
  simp only [List.getElem?_cons_succ, List.getElem?_cons_zero] at e0 e1 e2 e3
  have q1 : (bErr b == bErr b) = true := by simp
  have q2 : (bsErr l == bsErr l) = true := by simp
  go_enter Tryd.func3, Tryd.ntmps3
  go_wp2_with fail
  with_reducible refine (right_any b _ _ _ _ (hK.below hal) (hd1.below hal) hb).mono ?_
  rintro e w1 ⟨rfl, hb1⟩
  have hbk1 := hbk.below hb1 hbk.lt
  have hbA := below_step hal hb1
  clear e0 e1 e2 e3 hbk hal hb1
  go_wp2_with fail
  with_reducible refine (bcheck_any _ _ _ _ _ (hK.below hbA) (hr.below hbA) hg).mono ?_
  rintro e w2 ⟨rfl, hb2⟩
  have hbk2 := hbk1.below hb2 hbk1.lt
  have hbB := below_step hbA hb2
  clear hbk1 hbA hb2
  have e0 := hbk2.cell 0
  have e1 := hbk2.cell 1
  have e2 := hbk2.cell 2
  have e3 := hbk2.cell 3
  simp only [List.getElem?_cons_succ, List.getElem?_cons_zero] at e0 e1 e2 e3
  go_wp2_with fail
  with_reducible refine (blobFault_any b _ _ _ _ (hd1.below hbB) hd2 hb).mono ?_
  rintro e w3 ⟨rfl, hb3⟩
  have hbC := below_step hbB hb3
  clear hbB hb3 hbk2 e0 e1 e2 e3
  go_wp2_with fail
  with_reducible refine (blobsFault_any _ _ _ _ _ (hr.below hbC) hg).mono ?_
  rintro e w4 ⟨rfl, hb4⟩
  go_wp2
  go_ret
  exact ⟨by simp, below_step hbC hb4⟩
end Go.Proofs.YtbnjbjdkajjfdaaDoor

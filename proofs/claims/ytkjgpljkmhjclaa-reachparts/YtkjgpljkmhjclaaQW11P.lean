/- The law ReachParts: the walk. -/
import Derived.Test.YtkjgpljkmhjclaaGRD
import Derived.Test.YtkjgpljkmhjclaaGRB
namespace Go.Proofs.Ytkjgpljkmhjclaa
open Go.RowKit
set_option maxRecDepth 100000 in
set_option maxHeartbeats 1000000 in
theorem reachParts_walk (b : Bl) (h : Hd) (w : World) (hx : kBl.deep w b h) :
    Calls Try.prog 3 #[.agg #[.string (str b.dg), .slice h.A h.n h.c, .int .i64 b.pn, .bool b.mr]] w fun e w' => e = .returned (.bool true) ∧ Below w.heap.size w w' := by
  have h1 : ∀ W : World, Below w.heap.size w W → Calls Try.prog 7 #[.agg #[.string (str b.dg), .slice h.A h.n h.c, .int .i64 b.pn, .bool b.mr]] W (GivesTx (pOf b) W) := fun W hW => rparts_any b h.A h.n h.c W (hx.1.below hW)
  have h2 : ∀ W : World, Below w.heap.size w W → Calls Try.prog 8 #[.agg #[.string (str b.dg), .slice h.A h.n h.c, .int .i64 b.pn, .bool b.mr]] W (GivesTx (pOf b) W) := fun W hW => partsIn_any b h.A h.n h.c W (hx.1.below hW)
  have H1 := Lib.hid h1
  have H2 := Lib.hid h2
  clear h1 h2 hx
  generalize pOf b = R at *
  obtain ⟨dg, dt, pn, mr⟩ := b
  have hal := (Below.refl w.heap.size w).alloc (Nat.le_refl _) (.cells #[.string (str dg), .slice h.A h.n h.c, .int .i64 pn, .bool mr] 24)
  have hbk := Blk.new w 24 [.string (str dg), .slice h.A h.n h.c, .int .i64 pn, .bool mr]
  go_enter Try.func3, Try.ntmps3
  go_wp2_with fail
  with_reducible refine (H1.out _ hal).mono ?_
  rintro e w1 h1
  obtain ⟨A1, c1, rfl, hr1, -, -, hb1⟩ := h1.rd
  have hk1 := hbk.below hb1 hbk.lt
  have hbA := below_step hal hb1
  have e0 := hk1.cell 0
  have e1 := hk1.cell 1
  have e2 := hk1.cell 2
  have e3 := hk1.cell 3
  simp only [List.getElem?_cons_succ, List.getElem?_cons_zero] at e0 e1 e2 e3
  go_wp2_with fail
  with_reducible refine (H2.out _ hbA).mono ?_
  rintro e w2 h2
  obtain ⟨A2, c2, rfl, hr2, -, -, hb2⟩ := h2.rd
  have hbB := below_step hbA hb2
  have hr1' := hr1.below hb2
  go_wp2_with fail
  with_reducible refine (sameTexts_eq _ _ _ _ _ _ R _ hr1' hr2).mono ?_
  rintro e w3 ⟨rfl, hb3⟩
  go_wp2
  go_ret
  exact ⟨rfl, below_step hbB hb3⟩
end Go.Proofs.Ytkjgpljkmhjclaa

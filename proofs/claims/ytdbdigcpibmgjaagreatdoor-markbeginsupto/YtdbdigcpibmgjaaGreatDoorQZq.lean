/- The statements' sameStore: of stores that read alike it returns true. -/
import Derived.Test.YtdbdigcpibmgjaaGreatDoorGR
import Derived.Test.YtdbdigcpibmgjaaGreatDoorQXs
namespace Go.Proofs.YtdbdigcpibmgjaaGreatDoor
open Go.RowKit
set_option maxRecDepth 100000 in
set_option maxHeartbeats 2000000 in
theorem sameStore_eq (A B A2 B2 : Option Addr) (n c m k n2 c2 m2 k2 : Nat) (l : List Bl) (es : List En) (rm ck : Int) (w : World) (hr : KRd kBl w A n c l) (he : KRd kEn w B m k es) (hr2 : KRd kBl w A2 n2 c2 l) (he2 : KRd kEn w B2 m2 k2 es) :
    Calls Tryz.prog 11 #[.agg #[.slice A n c, .slice B m k, .int .i64 rm, .int .i64 ck], .agg #[.slice A2 n2 c2, .slice B2 m2 k2, .int .i64 rm, .int .i64 ck]] w fun e w' => e = .returned (.bool true) ∧ Below w.heap.size w w' := by
  have hal := ((Below.refl w.heap.size w).alloc (Nat.le_refl _) (.cells #[.slice A n c, .slice B m k, .int .i64 rm, .int .i64 ck] 25)).alloc (by simp) (.cells #[.slice A2 n2 c2, .slice B2 m2 k2, .int .i64 rm, .int .i64 ck] 25)
  have hb1 := (Blk.new w 25 [.slice A n c, .slice B m k, .int .i64 rm, .int .i64 ck]).alloc (.cells #[.slice A2 n2 c2, .slice B2 m2 k2, .int .i64 rm, .int .i64 ck] 25)
  have hb2 := Blk.new (w.alloc (.cells #[.slice A n c, .slice B m k, .int .i64 rm, .int .i64 ck] 25)) 25 [.slice A2 n2 c2, .slice B2 m2 k2, .int .i64 rm, .int .i64 ck]
  have hsz : (w.alloc (.cells #[.slice A n c, .slice B m k, .int .i64 rm, .int .i64 ck] 25)).heap.size = w.heap.size + 1 := by simp
  rw [hsz] at hb2
  have a0 := hb1.cell 0
  have b0 := hb2.cell 0
  simp only [List.getElem?_cons_zero] at a0 b0
  have HS := Lib.hid (sameBlobs_eq A A2 n n2 c c2 l _ (hr.below hal) (hr2.below hal))
  have d1 : (rm == rm) = true := by simp
  have d2 : (ck == ck) = true := by simp
  clear hsz
  go_enter Tryz.func11, Tryz.ntmps11
  go_wp2_with fail
  with_reducible refine HS.out.mono ?_
  rintro e w2 ⟨rfl, hc2⟩
  have k1 := hb1.below hc2 hb1.lt
  have k2' := hb2.below hc2 hb2.lt
  have hbB := below_step hal hc2
  have e1 := k1.cell 1
  have f1 := k2'.cell 1
  simp only [List.getElem?_cons_succ, List.getElem?_cons_zero] at e1 f1
  have HE := Lib.hid (sameEntries_eq B B2 m m2 k k2 es _ (he.below hbB) (he2.below hbB))
  clear hb1 hb2 hal hc2 a0 b0 HS hr he hr2 he2
  go_wp2_with fail
  with_reducible refine HE.out.mono ?_
  rintro e w3 ⟨rfl, hc3⟩
  have k3 := k1.below hc3 k1.lt
  have k4 := k2'.below hc3 k2'.lt
  have hbC := below_step hbB hc3
  have e2 := k3.cell 2
  have e3 := k3.cell 3
  have f2 := k4.cell 2
  have f3 := k4.cell 3
  simp only [List.getElem?_cons_succ, List.getElem?_cons_zero] at e2 e3 f2 f3
  go_wp2
  go_ret
  exact ⟨by simp, hbC⟩
end Go.Proofs.YtdbdigcpibmgjaaGreatDoor

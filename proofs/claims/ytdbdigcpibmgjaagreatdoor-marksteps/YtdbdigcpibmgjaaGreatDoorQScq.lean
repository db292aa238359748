/- The statements' own sameCollector, of collectors that read alike. -/
import Derived.Test.YtdbdigcpibmgjaaGreatDoorGRB
import Derived.Test.YtdbdigcpibmgjaaGreatDoorQMow
namespace Go.Proofs.YtdbdigcpibmgjaaGreatDoor
open Go.RowKit
set_option maxRecDepth 100000 in
set_option maxHeartbeats 1000000 in
theorem sameCollector_eq (P Q : Option Addr) (n m f g : Nat) (gr : List (List UInt8)) (ph : Int) (t : List UInt8) (w : World) (hr : Rd w 1 P n f (gr.map sv)) (hs : Rd w 1 Q m g (gr.map sv)) :
    Calls Tryz.prog 12 #[.agg #[.int .i64 ph, .slice P n f, .string (str t)], .agg #[.int .i64 ph, .slice Q m g, .string (str t)]] w fun e w' => e = .returned (.bool true) ∧ Below w.heap.size w w' := by
  have hal := ((Below.refl w.heap.size w).alloc (Nat.le_refl _) (.cells #[.int .i64 ph, .slice P n f, .string (str t)] 28)).alloc (by simp) (.cells #[.int .i64 ph, .slice Q m g, .string (str t)] 28)
  have hb1 := (Blk.new w 28 [.int .i64 ph, .slice P n f, .string (str t)]).alloc (.cells #[.int .i64 ph, .slice Q m g, .string (str t)] 28)
  have hb2 := Blk.new (w.alloc (.cells #[.int .i64 ph, .slice P n f, .string (str t)] 28)) 28 [.int .i64 ph, .slice Q m g, .string (str t)]
  have hsz : (w.alloc (.cells #[.int .i64 ph, .slice P n f, .string (str t)] 28)).heap.size = w.heap.size + 1 := by simp
  rw [hsz] at hb2
  obtain ⟨a0, a1, a2⟩ := blk3 hb1
  obtain ⟨b0, b1, b2⟩ := blk3 hb2
  have HS := Lib.hid (sameTexts_eq P Q n f m g gr _ (hr.below hal) (hs.below hal))
  have d1 : (ph == ph) = true := by simp
  have d2 : (t == t) = true := by simp
  clear hsz hr hs
  go_enter Tryz.func12, Tryz.ntmps12
  go_wp2_with fail
  with_reducible refine HS.out.mono ?_
  rintro e w2 ⟨rfl, hc2⟩
  go_wp2
  go_ret
  exact ⟨by simp, below_step hal hc2⟩
end Go.Proofs.YtdbdigcpibmgjaaGreatDoor

/- math/bits.RotateLeft32. -/
import Derived.Test.YtbadpiennobdmaaDoorRows
import Derived.Test.YtbadpiennobdmaaDoorMd1
import Derived.Test.YtbadpiennobdmaaDoorMem
import Derived.Lib.Hide
import Derived.IntWalk
namespace Go.Proofs.YtbadpiennobdmaaDoor
open Go.RowKit
set_option maxHeartbeats 400000 in
theorem rotl_any (x : BitVec 32) (k : Int) (w : World) :
    Calls Tryd.prog 57 #[.int .u32 (u x), .int .i64 k] w fun e w' => e = .returned (.int .u32 (u (rotl x k))) ∧ w = w' := by
  have h0 : 0 ≤ k % 32 := by omega
  have h1 : k % 32 ≤ 31 := by omega
  have h2 := and31 k
  go_enter Tryd.func57, Tryd.ntmps57
  go_wp2
  go_ret
  exact ⟨rfl, rfl⟩
theorem rotl_st (x : BitVec 32) (k : Int) (w : World) :
    Calls Tryd.prog 57 #[.int .u32 (u x), .int .i64 k] w fun e w' => e = .returned (.int .u32 (u (rotl x k))) ∧ w' = w := (rotl_any x k w).mono fun _ _ ⟨a, b⟩ => ⟨a, b.symm⟩
end Go.Proofs.YtbadpiennobdmaaDoor

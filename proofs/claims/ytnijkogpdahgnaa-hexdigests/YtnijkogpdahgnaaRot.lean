/- math/bits.RotateLeft32. -/
import Derived.Test.YtnijkogpdahgnaaRows
import Derived.Test.YtnijkogpdahgnaaMd1
import Derived.Test.YtnijkogpdahgnaaMem
import Derived.Lib.Hide
import Derived.IntWalk
namespace Go.Proofs.Ytnijkogpdahgnaa
open Go.RowKit
set_option maxHeartbeats 400000 in
theorem rotl_any (x : BitVec 32) (k : Int) (w : World) :
    Calls Try.prog 35 #[.int .u32 (u x), .int .i64 k] w fun e w' => e = .returned (.int .u32 (u (rotl x k))) ∧ w = w' := by
  have h0 : 0 ≤ k % 32 := by omega
  have h1 : k % 32 ≤ 31 := by omega
  have h2 := and31 k
  go_enter Try.func35, Try.ntmps35
  go_wp2
  go_ret
  exact ⟨rfl, rfl⟩
theorem rotl_st (x : BitVec 32) (k : Int) (w : World) :
    Calls Try.prog 35 #[.int .u32 (u x), .int .i64 k] w fun e w' => e = .returned (.int .u32 (u (rotl x k))) ∧ w' = w := (rotl_any x k w).mono fun _ _ ⟨a, b⟩ => ⟨a, b.symm⟩
end Go.Proofs.Ytnijkogpdahgnaa

/- math/bits.Add64, no carry in. -/
import Derived.Test.YtbadpiennobdmaaDoorRows
import Derived.Laws.Externs
import Derived.WalkKit
namespace Go.Proofs.YtbadpiennobdmaaDoor
open Go.RowKit
theorem add64_at (x y s o : Nat) (hs : (x + y) % 18446744073709551616 = s) (ho : (x + y) / 18446744073709551616 = o) (w : World) :
    (callFunc 51 #[.int .u64 x, .int .u64 y, .int .u64 0]).run Tryd.prog w = .ok (.value (.tuple #[.int .u64 (s : Int), .int .u64 (o : Int)])) w := by
  subst hs ho
  rw [run_callFunc_extern Tryd.func51 (by kernel_rfl) (by kernel_rfl) (by kernel_rfl) (e := add64Entry) (by kernel_rfl), run_add64 x y 0 (by omega) (by omega) (by omega) (by omega)]
  simp only [Result.andThen]
  congr 5 <;> omega
end Go.Proofs.YtbadpiennobdmaaDoor

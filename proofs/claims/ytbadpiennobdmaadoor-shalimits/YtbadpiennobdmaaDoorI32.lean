/- The row of words in the program's table. -/
import Derived.Test.YtbadpiennobdmaaDoorRows
import Derived.OwnWalk
namespace Go.Proofs.YtbadpiennobdmaaDoor

theorem u32_info : (Tryd.prog.info? 42).map (fun i => (i.zero, i.size, i.bytes)) = some (some (.int .u32 0), 1, 4) := by kernel_rfl
end Go.Proofs.YtbadpiennobdmaaDoor

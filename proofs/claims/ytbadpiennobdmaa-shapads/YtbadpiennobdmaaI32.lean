/- The row of words in the program's table. -/
import Derived.Test.YtbadpiennobdmaaRows
import Derived.OwnWalk
namespace Go.Proofs.Ytbadpiennobdmaa

theorem u32_info : (Try.prog.info? 31).map (fun i => (i.zero, i.size, i.bytes)) = some (some (.int .u32 0), 1, 4) := by kernel_rfl
end Go.Proofs.Ytbadpiennobdmaa

/- The row of bytes in the program's table. -/
import Derived.Test.YtaaeihkbnfcolaaRows
import Derived.OwnWalk
namespace Go.Proofs.Ytaaeihkbnfcolaa

theorem u8_info : (Try.prog.info? 5).map (fun i => (i.zero, i.size, i.bytes)) = some (some (.int .u8 0), 1, 1) := by kernel_rfl
end Go.Proofs.Ytaaeihkbnfcolaa

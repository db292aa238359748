/- Bytes compared by the statements' own function. -/
import Derived.Test.YtaaeihkbnfcolaaRows
import Derived.Test.YtaaeihkbnfcolaaMem
namespace Go.Proofs.Ytaaeihkbnfcolaa
open Go.RowKit
set_option maxHeartbeats 400000 in
theorem sameBytes_any (A B : Option Addr) (n0 m0 c d : Nat) (l m : List UInt8) (w : World) (hr : Rd w 1 A n0 c (l.map bv8)) (hs : Rd w 1 B m0 d (m.map bv8)) :
    Calls Try.prog 17 #[.slice A n0 c, .slice B m0 d] w fun e w' => e = .returned (.bool (l == m)) ∧ w = w' := by
  obtain rfl := hr.len
  obtain rfl := hs.len
  have k1 := run_bytes_str (P := Try.prog) Try.underlying27 Try.underlying5 Try.underlying9 hr
  have k2 := run_bytes_str (P := Try.prog) Try.underlying27 Try.underlying5 Try.underlying9 hs
  go_enter Try.func17, Try.ntmps17
  go_wp2
  go_ret
  exact ⟨rfl, rfl⟩
end Go.Proofs.Ytaaeihkbnfcolaa

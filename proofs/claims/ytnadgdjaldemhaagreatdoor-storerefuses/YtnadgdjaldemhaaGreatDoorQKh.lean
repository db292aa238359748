/- The store's calls in letters: HoldBlob, Hold. -/
import Derived.Test.YtnadgdjaldemhaaGreatDoorQKx
import Derived.Test.YtnadgdjaldemhaaGreatDoorQL8
import Derived.Test.YtnadgdjaldemhaaGreatDoorQL9
namespace Go.Proofs.YtnadgdjaldemhaaGreatDoor
open Go.RowKit
theorem hb_at {W : World} {A B : Option Addr} {n c m k : Nat} {L L2 : List Bl} {M M2 : List En} {r t r2 t2 E : Int} {d : List UInt8} {up : Bool} (h : StA W A B n c m k ⟨L, M, r, t⟩) (hd : d.length ≤ maxLen) (hX : sHoldBlob ⟨L, M, r, t⟩ d up = (E, ⟨L2, M2, r2, t2⟩)) :
    Calls Tryz.prog 20 #[.agg #[.slice A n c, .slice B m k, .int .i64 r, .int .i64 t], .string (str d), .bool up] W (S2l E L2 M2 r2 t2 W) := by
  have := lHoldBlob_any (up := up) h hd
  rw [hX] at this
  exact this
theorem hd_at {W : World} {A B : Option Addr} {n c m k : Nat} {L L2 : List Bl} {M M2 : List En} {r t r2 t2 E : Int} {d : List UInt8} {up : Bool} (h : StA W A B n c m k ⟨L, M, r, t⟩) (hd : d.length ≤ maxLen) (hX : sHold ⟨L, M, r, t⟩ d up = (E, ⟨L2, M2, r2, t2⟩)) :
    Calls Tryz.prog 22 #[.agg #[.slice A n c, .slice B m k, .int .i64 r, .int .i64 t], .string (str d), .bool up] W (S2l E L2 M2 r2 t2 W) := by
  have := lHold_any (up := up) h hd
  rw [hX] at this
  exact this
end Go.Proofs.YtnadgdjaldemhaaGreatDoor

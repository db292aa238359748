/- What a put hands back, where it may be written. Nothing of the program. -/
import Derived.Test.YtdohiioiollfhaaGreatDoorQWb
import Derived.Test.YtdohiioiollfhaaGreatDoorGQ
import Derived.Test.YtdohiioiollfhaaGreatDoorGY
namespace Go.Proofs.YtdohiioiollfhaaGreatDoor
open Go.RowKit
def GivesPutW (l : List Bl) (d : List UInt8) (err : Int) (w : World) (e : Ending) (w' : World) : Prop :=
  ∃ A n c, e = .returned (.tuple #[.slice A n c, .string (str d), .int .i64 err]) ∧ Nw kBlW w' w.heap.size A n c l ∧ Below w.heap.size w w'
theorem givesPut_nilW {w w' : World} {err : Int} {e : Ending} (h : e = .returned (.tuple #[.slice none 0 0, .string (str []), .int .i64 err])) (hb : Below w.heap.size w w') : GivesPutW [] [] err w e w' :=
  ⟨none, 0, 0, h, Nw.nil _ _, hb⟩
def GivesEsW (l : List En) (err : Int) (w : World) (e : Ending) (w' : World) : Prop :=
  ∃ A n c, e = .returned (.tuple #[.slice A n c, .int .i64 err]) ∧ Nw kEnW w' w.heap.size A n c l ∧ Below w.heap.size w w'
theorem givesEs_nilW {w w' : World} {err : Int} {e : Ending} (h : e = .returned (.tuple #[.slice none 0 0, .int .i64 err])) (hb : Below w.heap.size w w') : GivesEsW [] err w e w' :=
  ⟨none, 0, 0, h, Nw.nil _ _, hb⟩
end Go.Proofs.YtdohiioiollfhaaGreatDoor

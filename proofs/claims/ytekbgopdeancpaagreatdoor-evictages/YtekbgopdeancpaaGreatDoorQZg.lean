/- What the calls of eviction hand back: a store and a number or texts, and an error. -/
import Derived.Test.YtekbgopdeancpaaGreatDoorQZd
import Derived.Test.YtekbgopdeancpaaGreatDoorGRB
namespace Go.Proofs.YtekbgopdeancpaaGreatDoor
open Go.RowKit
/-- texts of the call's own and an error -/
def GivesTE (x : Int × List (List UInt8)) (w : World) (e : Ending) (w' : World) : Prop :=
  ∃ A c, e = .returned (.tuple #[.slice A x.2.length c, .int .i64 x.1]) ∧ Rd w' 1 A x.2.length c (x.2.map sv) ∧ (A = none → c = 0) ∧ Below w.heap.size w w'
theorem givesTE_no {w w' : World} {er : Int} {e : Ending} (h : e = .returned (.tuple #[.slice none 0 0, .int .i64 er])) (hb : Below w.heap.size w w') : GivesTE (er, []) w e w' :=
  ⟨none, 0, h, Rd.nil _ _, fun _ => rfl, hb⟩
/-- a store of the call's own, a number and an error -/
def GivesSN (x : Int × Sto × Int) (w : World) (e : Ending) (w' : World) : Prop :=
  ∃ A c B d, e = .returned (.tuple #[.agg #[.slice A x.2.1.bs.length c, .slice B x.2.1.es.length d, .int .i64 x.2.1.rm, .int .i64 x.2.1.ck], .int .i64 x.2.2, .int .i64 x.1]) ∧ KNew kBl w' w.heap.size A x.2.1.bs.length c x.2.1.bs ∧
    KNew kEn w' w.heap.size B x.2.1.es.length d x.2.1.es ∧ Below w.heap.size w w'
theorem givesSN_no {w w' : World} {er : Int} {e : Ending} (h : e = .returned (.tuple #[.agg #[.slice none 0 0, .slice none 0 0, .int .i64 0, .int .i64 0], .int .i64 0, .int .i64 er])) (hb : Below w.heap.size w w') : GivesSN (er, sNil, 0) w e w' :=
  ⟨none, 0, none, 0, h, KNew.nil _ _, KNew.nil _ _, hb⟩
/-- a store of the call's own, texts and an error -/
def GivesSX (x : Int × Sto × List (List UInt8)) (w : World) (e : Ending) (w' : World) : Prop :=
  ∃ A c B d P f, e = .returned (.tuple #[.agg #[.slice A x.2.1.bs.length c, .slice B x.2.1.es.length d, .int .i64 x.2.1.rm, .int .i64 x.2.1.ck], .slice P x.2.2.length f, .int .i64 x.1]) ∧ KNew kBl w' w.heap.size A x.2.1.bs.length c x.2.1.bs ∧
    KNew kEn w' w.heap.size B x.2.1.es.length d x.2.1.es ∧ Rd w' 1 P x.2.2.length f (x.2.2.map sv) ∧ (P = none → f = 0) ∧ Below w.heap.size w w'
theorem givesSX_no {w w' : World} {er : Int} {e : Ending} (h : e = .returned (.tuple #[.agg #[.slice none 0 0, .slice none 0 0, .int .i64 0, .int .i64 0], .slice none 0 0, .int .i64 er])) (hb : Below w.heap.size w w') : GivesSX (er, sNil, []) w e w' :=
  ⟨none, 0, none, 0, none, 0, h, KNew.nil _ _, KNew.nil _ _, Rd.nil _ _, fun _ => rfl, hb⟩
end Go.Proofs.YtekbgopdeancpaaGreatDoor

/- The program's table of round constants, as the row lists it: its cells; a world that holds it. -/
import Derived.Test.YtbadpiennobdmaaDoorCards
import Derived.Test.YtbadpiennobdmaaDoorSs
import Derived.Deep.DeepHandedRow
import Derived.Lib.LaidTab
namespace Go.Proofs.YtbadpiennobdmaaDoor
open Go.ChangeShapes Go.WideShapes Go.ChangeAt Go.RowKit
theorem gKon : Tryd.prog.globalNamed "appleloft/sha.roundConstants" = some 0 := by kernel_rfl
theorem gKonType : (Tryd.prog.globals[0]?).map (·.type) = some 44 := by kernel_rfl
theorem cellsKon : Tryd.prog.cellsOf 44 = 64 := by kernel_rfl
theorem cellsU32 : Tryd.prog.cellsOf 42 = 1 := by kernel_rfl
def konZ : List Int := kon.map u
theorem laid_kon : Rows.laid_appleloft_sha_roundConstants = (Lib.tabData .u32 konZ : DataW Unit) := by kernel_rfl
theorem kon_of_laid {W : World} {rest : List (String × DataW Unit)} (h : laidMet Tryd.prog (("appleloft/sha.roundConstants", Rows.laid_appleloft_sha_roundConstants) :: rest) W) : Kon W := by
  rw [laid_kon] at h
  have hT := Lib.tabIs_of_head (rest := rest) gKon gKonType Tryd.underlying44 Tryd.underlying42 cellsU32 cellsKon h
  refine ⟨by rw [List.length_map, kon_length], Nat.le_refl _, by simp [maxLen], fun _ => ⟨0, 0, rfl, fun j v hv => ?_⟩⟩
  rw [List.getElem?_map] at hv
  have hj : j < kon.length := by
    rcases Nat.lt_or_ge j kon.length with h1 | h1
    · exact h1
    · rw [List.getElem?_eq_none h1] at hv; cases hv
  have hc := hT.cell gKon j (by unfold konZ; rw [List.length_map]; exact hj)
  rw [Nat.zero_add, hc]
  rw [List.getElem?_eq_getElem hj] at hv
  injection hv with hv
  rw [← hv]
  unfold konZ
  rw [getD_lt (by rw [List.length_map]; exact hj), List.getElem_map]
  rfl
/-- a world for the witness: the settled one, the table holding what its initialiser lays -/
noncomputable def konWorld (os : Os) : World :=
  { World.holding Tryd.prog os ⟨#[], #[], []⟩ with heap := (World.holding Tryd.prog os ⟨#[], #[], []⟩).heap.modify 0 fun
      | .cells _ t frozen => .cells (kon.map wv).toArray t frozen
      | o => o }
end Go.Proofs.YtbadpiennobdmaaDoor

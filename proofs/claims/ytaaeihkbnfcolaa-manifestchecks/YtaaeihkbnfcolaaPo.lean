/- The program's slices of parts that came in. -/
import Derived.Test.YtaaeihkbnfcolaaRows
import Derived.Test.YtaaeihkbnfcolaaPa
namespace Go.Proofs.Ytaaeihkbnfcolaa
open Go.RowKit
theorem trod_parts {H : Type} {enc : TypeId × Value → H} {W : World} {A : Option Addr} {n c : Nat} {d : DataW H} {p : List MemPlace} (h : DataW.Trod enc Try.prog W 0 (fun _ => true) true 22 (.slice A n c) d p) :
    ∃ l : List Prt, Rd W 3 A n c (pcs l) ∧ (∀ p ∈ l, p.good) ∧ (A = none → c = 0) := by
  obtain ⟨fuel, hf⟩ := h
  obtain ⟨A', n', c', l, hcs, hr, hg, hA, _⟩ := open_parts Try.underlying22 Try.underlying39 (by kernel_rfl) rfl rfl rfl (by kernel_rfl) (by kernel_rfl) (by kernel_rfl) Try.underlying9 Try.underlying9 Try.underlying3 hf
  simp [Value.cells] at hcs
  obtain ⟨rfl, rfl, rfl⟩ := hcs
  exact ⟨l, hr, hg, hA⟩
end Go.Proofs.Ytaaeihkbnfcolaa

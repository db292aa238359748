/- Parts of the program that came in by value, and how long they are. -/
import Derived.Test.YtnadgdjaldemhaaDoorQEo
namespace Go.Proofs.YtnadgdjaldemhaaDoor
open Go.RowKit
theorem trod_partsZ {H : Type} {enc : TypeId × Value → H} {W : World} {A : Option Addr} {n c : Nat} {d : DataW H} {p : List MemPlace} (h : DataW.Trod enc Tryd.prog W 0 (fun _ => true) true 39 (.slice A n c) d p)
    (hsz : ∀ n ∈ d.weights Tryd.prog 39, n ≤ reachBytes) :
    ∃ l : List Prt, Rd W 3 A n c (pcs l) ∧ (∀ p ∈ l, p.good) ∧ (A = none → c = 0) ∧ l.length * 40 ≤ 140737488351232 := by
  obtain ⟨fuel, hf⟩ := h
  obtain ⟨A', n', c', l, hcs, hr, hA, hg, hz⟩ := open_pa hf hsz
  simp [Value.cells] at hcs
  obtain ⟨rfl, rfl, rfl⟩ := hcs
  exact ⟨l, hr, hg, hA, hz⟩
end Go.Proofs.YtnadgdjaldemhaaDoor

/- A collector of the program that came in by value. -/
import Derived.Test.YtdbdigcpibmgjaaGreatDoorGRB
import Derived.Test.YtdbdigcpibmgjaaGreatDoorGMA
import Derived.Lib.SmallJoins
namespace Go.Proofs.YtdbdigcpibmgjaaGreatDoor
open Go.RowKit
set_option maxRecDepth 100000 in
theorem trod_collector {H : Type} {enc : TypeId × Value → H} {W : World} {r : Reach} {b0 : Nat} {v : Value} {d : DataW H} {p : List MemPlace} (hv : Value.okWide Tryz.prog W r b0 28 v) (h : DataW.Trod enc Tryz.prog W 0 (fun _ => true) true 28 v d p)
    (hsz : ∀ n ∈ d.weights Tryz.prog 28, n ≤ reachBytes) :
    ∃ (q : Col) (P : Option Addr) (n f : Nat), v = .agg #[.int .i64 q.ph, .slice P n f, .string (str q.at_)] ∧ (Lit.int .i64 q.ph).wf = true ∧ q.at_.length ≤ maxLen ∧ Rd W 1 P n f (q.gr.map sv) ∧ (∀ t ∈ q.gr, t.length ≤ maxLen) ∧ (P = none → f = 0) ∧ n * 16 ≤ 140737488351232 := by
  obtain ⟨v0, v1, v2, y0, y1, y2, n, rfl, hd, _, g0, g1, g2⟩ := Go.Joins.open_agg3 Tryz.underlying28 (by kernel_rfl) (by kernel_rfl) hv h
  have w1 : ∀ n ∈ y1.1.weights Tryz.prog 26, n ≤ reachBytes := fun n hn => hsz n (by
    rw [hd]
    simp only [DataW.weights, Tryz.underlying28, DataW.weightsEach, List.map, List.mem_append]
    exact .inr (.inl hn))
  obtain ⟨ph, q0, _, z0⟩ := DataW.trod_int Tryz.underlying3 g0
  obtain ⟨A, n1, c, gr, q1, hr1, hg1, hA1, hz1⟩ := open_kin kTx Tryz.underlying26 (by kernel_rfl) (fun t : List UInt8 => t.length ≤ maxLen) (fun fuel cs y hl _ ht => by
    obtain ⟨s0, q0, _, z0⟩ := DataW.trod_string Tryz.underlying9 ht
    obtain ⟨m0, rfl⟩ := str_of s0
    exact ⟨m0, (), q0, trivial, z0⟩) g1 w1
  obtain ⟨s2, q2, _, z2⟩ := DataW.trod_string Tryz.underlying9 g2
  obtain ⟨m2, rfl⟩ := str_of s2
  simp only [List.cons.injEq, and_true] at q0 q1 q2
  subst q0; subst q1; subst q2
  have hby : Tryz.prog.bytesOf 9 = 16 := by kernel_rfl
  rw [hby] at hz1
  unfold reachBytes at hz1
  exact ⟨⟨ph, gr, m2⟩, A, n1, c, rfl, z0, z2, hr1.texts, hg1, hA1, hz1⟩
end Go.Proofs.YtdbdigcpibmgjaaGreatDoor

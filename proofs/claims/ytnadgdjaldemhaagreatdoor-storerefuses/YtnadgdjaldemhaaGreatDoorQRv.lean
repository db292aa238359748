/- A raw thing that came in by value, with its reach. -/
import Derived.Test.YtnadgdjaldemhaaGreatDoorRows
import Derived.Test.YtnadgdjaldemhaaGreatDoorGE
import Derived.Lib.SmallJoins
namespace Go.Proofs.YtnadgdjaldemhaaGreatDoor
open Go.RowKit
set_option maxRecDepth 100000 in
theorem trod_rawG {H : Type} {enc : TypeId × Value → H} {W : World} {r : Reach} {b0 : Nat} {v : Value} {d : DataW H} {p : List MemPlace} (hv : Value.okWide Tryz.prog W r b0 24 v) (h : DataW.Trod enc Tryz.prog W 0 (fun _ => true) true 24 v d p)
    (hsz : ∀ n ∈ d.weights Tryz.prog 24, n ≤ reachBytes) :
    ∃ q : Rw, v = .agg #[.int .i64 q.kd, .int .i64 q.ra, .int .i64 q.rb, .string (str q.tx)] ∧ q.good := by
  obtain ⟨v0, v1, v2, v3, y0, y1, y2, y3, n, rfl, hd, _, h0, h1, h2, h3⟩ := Go.Joins.open_agg4 Tryz.underlying24 (by kernel_rfl) (by kernel_rfl) hv h
  obtain ⟨i0, q0, _, z0⟩ := DataW.trod_int Tryz.underlying3 h0
  obtain ⟨i1, q1, _, z1⟩ := DataW.trod_int Tryz.underlying3 h1
  obtain ⟨i2, q2, _, z2⟩ := DataW.trod_int Tryz.underlying3 h2
  obtain ⟨s3, q3, r3, z3⟩ := DataW.trod_string Tryz.underlying9 h3
  simp only [List.cons.injEq, and_true] at q0 q1 q2 q3
  subst q0; subst q1; subst q2; subst q3
  have hw3 : s3.size ≤ reachBytes := by
    have := hsz s3.data.toList.length (by
      rw [hd, r3]
      simp [DataW.weights, Tryz.underlying24, DataW.weightsEach])
    simpa using this
  obtain ⟨m3, rfl⟩ := str_of s3
  rw [str_size] at hw3
  unfold reachBytes at hw3
  exact ⟨⟨i0, i1, i2, m3⟩, rfl, z0, z1, z2, hw3⟩
end Go.Proofs.YtnadgdjaldemhaaGreatDoor

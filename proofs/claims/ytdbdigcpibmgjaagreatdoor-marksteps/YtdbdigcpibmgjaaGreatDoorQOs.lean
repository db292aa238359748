/- A store of the program that came in by value. -/
import Derived.Test.YtdbdigcpibmgjaaGreatDoorQBo
import Derived.Test.YtdbdigcpibmgjaaGreatDoorQEo
namespace Go.Proofs.YtdbdigcpibmgjaaGreatDoor
open Go.RowKit
set_option maxRecDepth 100000 in
theorem trod_store {H : Type} {enc : TypeId × Value → H} {W : World} {r : Reach} {b0 : Nat} {v : Value} {d : DataW H} {p : List MemPlace} (hv : Value.okWide Tryz.prog W r b0 25 v) (h : DataW.Trod enc Tryz.prog W 0 (fun _ => true) true 25 v d p)
    (hsz : ∀ n ∈ d.weights Tryz.prog 25, n ≤ reachBytes) :
    ∃ (A B : Option Addr) (n c m k : Nat) (l : List Bl) (es : List En) (rm ck : Int), v = .agg #[.slice A n c, .slice B m k, .int .i64 rm, .int .i64 ck] ∧ KRd kBl W A n c l ∧ (∀ p ∈ l, p.good) ∧ (A = none → c = 0) ∧ n * 56 ≤ 140737488351232 ∧
      KRd kEn W B m k es ∧ (∀ p ∈ es, p.good) ∧ (B = none → k = 0) ∧ m * 56 ≤ 140737488351232 ∧ (Lit.int .i64 rm).wf = true ∧ (Lit.int .i64 ck).wf = true := by
  obtain ⟨v0, v1, v2, v3, y0, y1, y2, y3, n, rfl, hd, _, g0, g1, g2, g3⟩ := Go.Joins.open_agg4 Tryz.underlying25 (by kernel_rfl) (by kernel_rfl) hv h
  have w0 : ∀ n ∈ y0.1.weights Tryz.prog 22, n ≤ reachBytes := fun n hn => hsz n (by
    rw [hd]
    simp only [DataW.weights, Tryz.underlying25, DataW.weightsEach, List.map, List.mem_append]
    exact .inl hn)
  have w1 : ∀ n ∈ y1.1.weights Tryz.prog 23, n ≤ reachBytes := fun n hn => hsz n (by
    rw [hd]
    simp only [DataW.weights, Tryz.underlying25, DataW.weightsEach, List.map, List.mem_append]
    exact .inr (.inl hn))
  obtain ⟨A, n0, c, l, q0, hr0, hg0, hA0, hz0⟩ := open_kin kBl Tryz.underlying22 (by kernel_rfl) Bl.good (fun _ _ _ hl hs ht => each_blob hl hs ht) g0 w0
  obtain ⟨B, n1, k, es, q1, hr1, hg1, hA1, hz1⟩ := open_kin kEn Tryz.underlying23 (by kernel_rfl) En.good (fun _ _ _ hl hs ht => each_entry hl hs ht) g1 w1
  obtain ⟨i2, q2, _, z2⟩ := DataW.trod_int Tryz.underlying3 g2
  obtain ⟨i3, q3, _, z3⟩ := DataW.trod_int Tryz.underlying3 g3
  simp only [List.cons.injEq, and_true] at q0 q1 q2 q3
  subst q0; subst q1; subst q2; subst q3
  have hb0 : Tryz.prog.bytesOf 45 = 56 := by kernel_rfl
  have hb1 : Tryz.prog.bytesOf 74 = 56 := by kernel_rfl
  rw [hb0] at hz0
  rw [hb1] at hz1
  unfold reachBytes at hz0 hz1
  exact ⟨A, B, n0, c, n1, k, l, es, i2, i3, rfl, hr0, hg0, hA0, hz0, hr1, hg1, hA1, hz1, z2, z3⟩
end Go.Proofs.YtdbdigcpibmgjaaGreatDoor

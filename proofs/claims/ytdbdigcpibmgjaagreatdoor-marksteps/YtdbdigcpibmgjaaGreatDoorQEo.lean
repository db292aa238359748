/- The program's entries that came in: slices of them, and one by value. -/
import Derived.Test.YtdbdigcpibmgjaaGreatDoorRows
import Derived.Test.YtdbdigcpibmgjaaGreatDoorGN
import Derived.ChangeSlices
import Derived.Lib.SmallJoins
namespace Go.Proofs.YtdbdigcpibmgjaaGreatDoor
open Go.RowKit
set_option maxRecDepth 100000 in
/-- parts that came in, with their reach -/
theorem open_pa {H : Type} {enc : TypeId × Value → H} {W : World} {fuel : Nat} {cs : List Value} {x : DataW H × List MemPlace} (h : DataW.trod enc Tryz.prog W 0 (fun _ => true) true fuel 67 cs = some x) (hsz : ∀ n ∈ x.1.weights Tryz.prog 67, n ≤ reachBytes) :
    ∃ (A : Option Addr) (n c : Nat) (l : List Prt), cs = [.slice A n c] ∧ Rd W 3 A n c (pcs l) ∧ (A = none → c = 0) ∧ (∀ p ∈ l, p.good) ∧ l.length * 40 ≤ 140737488351232 := by
  obtain ⟨A, n, c, l, hcs, hr, hg, hA, el, sp, hx⟩ := open_parts Tryz.underlying67 Tryz.underlying97 (by kernel_rfl) rfl rfl rfl (by kernel_rfl) (by kernel_rfl) (by kernel_rfl) Tryz.underlying9 Tryz.underlying9 Tryz.underlying3 h
  refine ⟨A, n, c, l, hcs, hr, hA, hg, ?_⟩
  have hl := hr.plen
  rcases hx with ⟨_, h0⟩ | ⟨hx, hel⟩
  · omega
  · have hb : Tryz.prog.bytesOf 97 = 40 := by kernel_rfl
    have := hsz ((el.length + sp.length) * Tryz.prog.bytesOf 97) (by rw [hx]; simp [DataW.weights, Tryz.underlying67])
    rw [hb] at this
    unfold reachBytes at this
    omega
set_option maxRecDepth 100000 in
theorem each_entry {H : Type} {enc : TypeId × Value → H} {W : World} {fuel : Nat} {cs : List Value} {y : DataW H × List MemPlace} (hl : cs.length = 4) (hsz : ∀ n ∈ y.1.weights Tryz.prog 74, n ≤ reachBytes)
    (h : DataW.trod enc Tryz.prog W 0 (fun _ => true) true fuel 74 cs = some y) : ∃ a g, cs = kEn.cells a g ∧ kEn.deep W a g ∧ a.good := by
  obtain ⟨xs, k, hk, hxy, _, hxl, hf⟩ := DataW.trod_struct Tryz.underlying74 h
  match xs, hxl, cs, hl with
  | [y0, y1, y2, y3], _, [v0, v1, v2, v3], _ =>
    have g0 := hf 0 _ rfl
    have g1 := hf 1 _ rfl
    have g2 := hf 2 _ rfl
    have g3 := hf 3 _ rfl
    have c0 : Tryz.prog.cellsOf 9 = 1 := by kernel_rfl
    have c1 : Tryz.prog.cellsOf 67 = 1 := by kernel_rfl
    have c2 : Tryz.prog.cellsOf 3 = 1 := by kernel_rfl
    simp [c0, c1, c2] at g0 g1 g2 g3
    have hD : y.1 = .agg [y0.1, y1.1, y2.1, y3.1] := by simpa using congrArg Prod.fst hxy
    have w1 : ∀ n ∈ y1.1.weights Tryz.prog 67, n ≤ reachBytes := fun n hn => hsz n (by
      rw [hD]
      simp only [DataW.weights, Tryz.underlying74, DataW.weightsEach, List.map, List.mem_append]
      exact .inr (.inl hn))
    obtain ⟨s0, q0, r0, z0⟩ := DataW.trod_string Tryz.underlying9 g0
    obtain ⟨A, n, c, l, q1, hr, hA, hgp, hlen⟩ := open_pa g1 w1
    obtain ⟨i2, q2, _, z2⟩ := DataW.trod_int Tryz.underlying3 g2
    obtain ⟨b3, q3, _, z3⟩ := DataW.trod_int Tryz.underlying3 g3
    simp only [List.cons.injEq, and_true] at q0 q1 q2 q3
    subst q0; subst q1; subst q2; subst q3
    obtain ⟨m0, rfl⟩ := str_of s0
    exact ⟨⟨m0, l, i2, b3⟩, ⟨A, n, c⟩, rfl, ⟨hr, hA⟩, z0, hgp, z2, z3, hlen⟩
set_option maxRecDepth 100000 in
theorem trod_entries {H : Type} {enc : TypeId × Value → H} {W : World} {A : Option Addr} {n c : Nat} {d : DataW H} {p : List MemPlace} (h : DataW.Trod enc Tryz.prog W 0 (fun _ => true) true 23 (.slice A n c) d p)
    (hsz : ∀ n ∈ d.weights Tryz.prog 23, n ≤ reachBytes) :
    ∃ l : List En, KRd kEn W A n c l ∧ (∀ p ∈ l, p.good) ∧ (A = none → c = 0) ∧ n * 56 ≤ 140737488351232 := by
  obtain ⟨fuel, hf⟩ := h
  obtain ⟨A', n', c', l, hcs, hr, hg, hA, hz⟩ := open_kin kEn Tryz.underlying23 (by kernel_rfl) En.good (fun _ _ _ hl hs ht => each_entry hl hs ht) hf hsz
  simp [Value.cells] at hcs
  obtain ⟨rfl, rfl, rfl⟩ := hcs
  have hby : Tryz.prog.bytesOf 74 = 56 := by kernel_rfl
  rw [hby] at hz
  unfold reachBytes at hz
  exact ⟨l, hr, hg, hA, hz⟩
set_option maxRecDepth 100000 in
theorem trod_entry {H : Type} {enc : TypeId × Value → H} {W : World} {r : Reach} {b0 : Nat} {v : Value} {d : DataW H} {p : List MemPlace} (hv : Value.okWide Tryz.prog W r b0 74 v) (h : DataW.Trod enc Tryz.prog W 0 (fun _ => true) true 74 v d p)
    (hsz : ∀ n ∈ d.weights Tryz.prog 74, n ≤ reachBytes) :
    ∃ (a : En) (g : Hd), v = .agg #[.string (str a.ky), .slice g.A g.n g.c, .int .i64 a.pn, .int .i64 a.st] ∧ kEn.deep W a g ∧ a.good := by
  obtain ⟨v0, v1, v2, v3, y0, y1, y2, y3, n, rfl, hd, _, g0, g1, g2, g3⟩ := Go.Joins.open_agg4 Tryz.underlying74 (by kernel_rfl) (by kernel_rfl) hv h
  have w1 : ∀ n ∈ y1.1.weights Tryz.prog 67, n ≤ reachBytes := fun n hn => hsz n (by
    rw [hd]
    simp only [DataW.weights, Tryz.underlying74, DataW.weightsEach, List.map, List.mem_append]
    exact .inr (.inl hn))
  obtain ⟨s0, q0, r0, z0⟩ := DataW.trod_string Tryz.underlying9 g0
  obtain ⟨A, n, c, l, q1, hr, hA, hgp, hlen⟩ := open_pa g1 w1
  obtain ⟨i2, q2, _, z2⟩ := DataW.trod_int Tryz.underlying3 g2
  obtain ⟨b3, q3, _, z3⟩ := DataW.trod_int Tryz.underlying3 g3
  simp only [List.cons.injEq, and_true] at q0 q1 q2 q3
  subst q0; subst q1; subst q2; subst q3
  obtain ⟨m0, rfl⟩ := str_of s0
  exact ⟨⟨m0, l, i2, b3⟩, ⟨A, n, c⟩, rfl, ⟨hr, hA⟩, z0, hgp, z2, z3, hlen⟩
end Go.Proofs.YtdbdigcpibmgjaaGreatDoor

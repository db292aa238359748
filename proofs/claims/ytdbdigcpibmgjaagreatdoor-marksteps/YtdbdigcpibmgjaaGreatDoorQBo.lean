/- The program's blobs that came in: slices of them, and one by value. -/
import Derived.Test.YtdbdigcpibmgjaaGreatDoorRows
import Derived.Test.YtdbdigcpibmgjaaGreatDoorGN
import Derived.ChangeSlices
import Derived.Lib.SmallJoins
namespace Go.Proofs.YtdbdigcpibmgjaaGreatDoor
open Go.RowKit
section
variable {H : Type} {enc : TypeId × Value → H} {P : Program} {w : World} {base : Nat} {held : Bool}
/-- bytes that came in, with their reach -/
theorem open_by {t e : TypeId} {fuel : Nat} {cs : List Value} {x : DataW H × List MemPlace} (ht : P.underlying t = some (.slice e)) (he : P.underlying e = some (.int .u8)) (hc : P.cellsOf e = 1) (hb : P.bytesOf e = 1)
    (h : DataW.trod enc P w base (fun _ => true) held fuel t cs = some x) (hsz : ∀ n ∈ x.1.weights P t, n ≤ reachBytes) :
    ∃ (A : Option Addr) (n c : Nat) (l : List UInt8), cs = [.slice A n c] ∧ Rd w 1 A n c (l.map bv8) ∧ (A = none → c = 0) ∧ l.length ≤ 140737488351232 := by
  rcases ChangeShapes.open_ints ht he hc h with ⟨rfl, _⟩ | ⟨a, len, cap, zs, rfl, _, hl, hm, hz, rfl, hcell, hwz⟩
  · exact ⟨none, 0, 0, [], rfl, Rd.nil _ _, fun _ => rfl, by simp⟩
  · obtain ⟨l, hll, hr⟩ := rd_bytes hl hm (by simpa using hz) hcell hwz
    refine ⟨some a, len, cap, l, rfl, hr, fun h => (by cases h), ?_⟩
    have := hsz (((ChangeShapes.lits (H := H) .u8 (zs.take len)).length + (ChangeShapes.lits (H := H) .u8 (zs.drop len)).length) * P.bytesOf e) (by simp [DataW.weights, ht])
    rw [hb] at this
    have hz' : zs.length = cap := by simpa using hz
    simp only [ChangeShapes.lits, List.length_map, List.length_take, List.length_drop, reachBytes] at this
    omega
end
set_option maxRecDepth 100000 in
theorem each_blob {H : Type} {enc : TypeId × Value → H} {W : World} {fuel : Nat} {cs : List Value} {y : DataW H × List MemPlace} (hl : cs.length = 4) (hsz : ∀ n ∈ y.1.weights Tryz.prog 45, n ≤ reachBytes)
    (h : DataW.trod enc Tryz.prog W 0 (fun _ => true) true fuel 45 cs = some y) : ∃ a g, cs = kBl.cells a g ∧ kBl.deep W a g ∧ a.good := by
  obtain ⟨xs, k, hk, hxy, _, hxl, hf⟩ := DataW.trod_struct Tryz.underlying45 h
  match xs, hxl, cs, hl with
  | [y0, y1, y2, y3], _, [v0, v1, v2, v3], _ =>
    have g0 := hf 0 _ rfl
    have g1 := hf 1 _ rfl
    have g2 := hf 2 _ rfl
    have g3 := hf 3 _ rfl
    have c0 : Tryz.prog.cellsOf 9 = 1 := by kernel_rfl
    have c1 : Tryz.prog.cellsOf 43 = 1 := by kernel_rfl
    have c2 : Tryz.prog.cellsOf 3 = 1 := by kernel_rfl
    have c3 : Tryz.prog.cellsOf 4 = 1 := by kernel_rfl
    simp [c0, c1, c2, c3] at g0 g1 g2 g3
    have hD : y.1 = .agg [y0.1, y1.1, y2.1, y3.1] := by simpa using congrArg Prod.fst hxy
    have w1 : ∀ n ∈ y1.1.weights Tryz.prog 43, n ≤ reachBytes := fun n hn => hsz n (by
      rw [hD]
      simp only [DataW.weights, Tryz.underlying45, DataW.weightsEach, List.map, List.mem_append]
      exact .inr (.inl hn))
    obtain ⟨s0, q0, r0, z0⟩ := DataW.trod_string Tryz.underlying9 g0
    obtain ⟨A, n, c, l, q1, hr, hA, hlen⟩ := open_by Tryz.underlying43 Tryz.underlying5 (by kernel_rfl) (by kernel_rfl) g1 w1
    obtain ⟨i2, q2, _, z2⟩ := DataW.trod_int Tryz.underlying3 g2
    obtain ⟨b3, q3, _⟩ := DataW.trod_bool Tryz.underlying4 g3
    simp only [List.cons.injEq, and_true] at q0 q1 q2 q3
    subst q0; subst q1; subst q2; subst q3
    obtain ⟨m0, rfl⟩ := str_of s0
    exact ⟨⟨m0, l, i2, b3⟩, ⟨A, n, c⟩, rfl, ⟨hr, hA⟩, z0, z2, hlen⟩
set_option maxRecDepth 100000 in
theorem trod_blobs {H : Type} {enc : TypeId × Value → H} {W : World} {A : Option Addr} {n c : Nat} {d : DataW H} {p : List MemPlace} (h : DataW.Trod enc Tryz.prog W 0 (fun _ => true) true 22 (.slice A n c) d p)
    (hsz : ∀ n ∈ d.weights Tryz.prog 22, n ≤ reachBytes) :
    ∃ l : List Bl, KRd kBl W A n c l ∧ (∀ p ∈ l, p.good) ∧ (A = none → c = 0) ∧ n * 56 ≤ 140737488351232 := by
  obtain ⟨fuel, hf⟩ := h
  obtain ⟨A', n', c', l, hcs, hr, hg, hA, hz⟩ := open_kin kBl Tryz.underlying22 (by kernel_rfl) Bl.good (fun _ _ _ hl hs ht => each_blob hl hs ht) hf hsz
  simp [Value.cells] at hcs
  obtain ⟨rfl, rfl, rfl⟩ := hcs
  have hby : Tryz.prog.bytesOf 45 = 56 := by kernel_rfl
  rw [hby] at hz
  unfold reachBytes at hz
  exact ⟨l, hr, hg, hA, hz⟩
set_option maxRecDepth 100000 in
theorem trod_blob {H : Type} {enc : TypeId × Value → H} {W : World} {r : Reach} {b0 : Nat} {v : Value} {d : DataW H} {p : List MemPlace} (hv : Value.okWide Tryz.prog W r b0 45 v) (h : DataW.Trod enc Tryz.prog W 0 (fun _ => true) true 45 v d p)
    (hsz : ∀ n ∈ d.weights Tryz.prog 45, n ≤ reachBytes) :
    ∃ (a : Bl) (g : Hd), v = .agg #[.string (str a.dg), .slice g.A g.n g.c, .int .i64 a.pn, .bool a.mr] ∧ kBl.deep W a g ∧ a.good := by
  obtain ⟨v0, v1, v2, v3, y0, y1, y2, y3, n, rfl, hd, _, g0, g1, g2, g3⟩ := Go.Joins.open_agg4 Tryz.underlying45 (by kernel_rfl) (by kernel_rfl) hv h
  have w1 : ∀ n ∈ y1.1.weights Tryz.prog 43, n ≤ reachBytes := fun n hn => hsz n (by
    rw [hd]
    simp only [DataW.weights, Tryz.underlying45, DataW.weightsEach, List.map, List.mem_append]
    exact .inr (.inl hn))
  obtain ⟨s0, q0, r0, z0⟩ := DataW.trod_string Tryz.underlying9 g0
  obtain ⟨A, n, c, l, q1, hr, hA, hlen⟩ := open_by Tryz.underlying43 Tryz.underlying5 (by kernel_rfl) (by kernel_rfl) g1 w1
  obtain ⟨i2, q2, _, z2⟩ := DataW.trod_int Tryz.underlying3 g2
  obtain ⟨b3, q3, _⟩ := DataW.trod_bool Tryz.underlying4 g3
  simp only [List.cons.injEq, and_true] at q0 q1 q2 q3
  subst q0; subst q1; subst q2; subst q3
  obtain ⟨m0, rfl⟩ := str_of s0
  exact ⟨⟨m0, l, i2, b3⟩, ⟨A, n, c⟩, rfl, ⟨hr, hA⟩, z0, z2, hlen⟩
end Go.Proofs.YtdbdigcpibmgjaaGreatDoor

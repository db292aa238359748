/- Texts that belong together: what the functions of the program and of the statements return. -/
import Derived.Test.YtkjgpljkmhjclaaGreatGX
import Derived.Test.YtkjgpljkmhjclaaGreatGN
import Derived.Test.YtkjgpljkmhjclaaGreatRows
/- Raw things of the statements as a list, and slices of them that came in. Nothing of the program. -/
namespace Go.Proofs.YtkjgpljkmhjclaaGreat
open Go.RowKit
/-- one raw thing -/
structure Rw where
  kd : Int
  ra : Int
  rb : Int
  tx : List UInt8
instance : Inhabited Rw := ⟨⟨0, 0, 0, []⟩⟩
/-- its cells -/
def Rw.cells (p : Rw) : List Value := [.int .i64 p.kd, .int .i64 p.ra, .int .i64 p.rb, .string (str p.tx)]
def rcs (l : List Rw) : List Value := l.flatMap Rw.cells
theorem rcs_cons (p : Rw) (l : List Rw) : rcs (p :: l) = .int .i64 p.kd :: .int .i64 p.ra :: .int .i64 p.rb :: .string (str p.tx) :: rcs l := rfl
theorem rcs_append (l m : List Rw) : rcs (l ++ m) = rcs l ++ rcs m := by simp [rcs]
theorem rcs_length : ∀ l : List Rw, (rcs l).length = l.length * 4
  | [] => rfl
  | p :: r => by rw [rcs_cons, List.length_cons, List.length_cons, List.length_cons, List.length_cons, rcs_length r, List.length_cons]; omega
theorem rcs_at : ∀ (l : List Rw) (k : Nat) (h : k < l.length), (rcs l)[k * 4]? = some (.int .i64 l[k].kd) ∧ (rcs l)[k * 4 + 1]? = some (.int .i64 l[k].ra) ∧ (rcs l)[k * 4 + 2]? = some (.int .i64 l[k].rb) ∧ (rcs l)[k * 4 + 3]? = some (.string (str l[k].tx))
  | [], _, h => absurd h (by simp)
  | p :: r, 0, _ => ⟨rfl, rfl, rfl, rfl⟩
  | p :: r, k + 1, h => by
    have := rcs_at r k (by simpa using h)
    rw [rcs_cons, show (k + 1) * 4 = k * 4 + 1 + 1 + 1 + 1 from by omega]
    simpa using this
theorem Rd.rlen {w : World} {A : Option Addr} {n c : Nat} {l : List Rw} (h : Rd w 4 A n c (rcs l)) : n = l.length := by
  have := h.1; rw [rcs_length] at this; omega
/-- the four cells of raw thing k -/
theorem Rd.raw {w : World} {A : Option Addr} {n c : Nat} {l : List Rw} (h : Rd w 4 A n c (rcs l)) {k : Nat} (hk : k < l.length) :
    ∃ b off, A = some ⟨b, off, none⟩ ∧ w.cell? ⟨b, off + k * 4, none⟩ = some (.int .i64 l[k].kd) ∧ w.cell? ⟨b, off + k * 4 + 1, none⟩ = some (.int .i64 l[k].ra) ∧ w.cell? ⟨b, off + k * 4 + 2, none⟩ = some (.int .i64 l[k].rb) ∧ w.cell? ⟨b, off + k * 4 + 3, none⟩ = some (.string (str l[k].tx)) := by
  obtain ⟨b, off, rfl, hc⟩ := h.2.2.2 (by rw [rcs_length]; omega)
  obtain ⟨h0, h1, h2, h3⟩ := rcs_at l k hk
  exact ⟨b, off, rfl, hc _ _ h0, hc _ _ h1, hc _ _ h2, hc _ _ h3⟩
/-- what is asked of a raw thing that came in: numbers of their kind, a text within the reach -/
def Rw.good (p : Rw) : Prop := (Lit.int .i64 p.kd).wf = true ∧ (Lit.int .i64 p.ra).wf = true ∧ (Lit.int .i64 p.rb).wf = true ∧ p.tx.length ≤ 140737488351232
section
variable {H : Type} {enc : TypeId × Value → H} {P : Program} {w : World} {base : Nat} {spare : Nat → Bool} {held : Bool}
theorem open_raws {t e : TypeId} {f0 f1 f2 f3 : Field} {fuel : Nat} {cs : List Value} {x : DataW H × List MemPlace} (ht : P.underlying t = some (.slice e)) (he : P.underlying e = some (.struct #[f0, f1, f2, f3]))
    (ce : P.cellsOf e = 4) (o0 : f0.offset = 0) (o1 : f1.offset = 1) (o2 : f2.offset = 2) (o3 : f3.offset = 3) (c0 : P.cellsOf f0.type = 1) (c1 : P.cellsOf f1.type = 1) (c2 : P.cellsOf f2.type = 1) (c3 : P.cellsOf f3.type = 1)
    (t0 : P.underlying f0.type = some (.int .i64)) (t1 : P.underlying f1.type = some (.int .i64)) (t2 : P.underlying f2.type = some (.int .i64)) (t3 : P.underlying f3.type = some .string)
    (h : DataW.trod enc P w base spare held fuel t cs = some x) (hsz : ∀ n ∈ x.1.weights P t, n ≤ reachBytes) :
    ∃ (A : Option Addr) (n c : Nat) (l : List Rw), cs = [.slice A n c] ∧ Rd w 4 A n c (rcs l) ∧ (∀ p ∈ l, p.good) ∧ (A = none → c = 0) ∧ n * P.bytesOf e ≤ reachBytes := by
  rcases Deep.open_slice ht h with ⟨rfl, rfl⟩ | ⟨a, len, cap, m, n, D, Pl, rfl, hb, hl, hm, hmm, rfl, hx⟩
  · exact ⟨none, 0, 0, [], rfl, Rd.nil _ _, fun _ h => (by cases h), fun _ => rfl, by omega⟩
  have hlm : len ≤ m := by rw [hmm]; split <;> omega
  have each : ∀ i, i < len → ∃ p : Rw, p.good ∧ w.cell? (a.add (i * 4)) = some (.int .i64 p.kd) ∧ w.cell? (a.add (i * 4 + 1)) = some (.int .i64 p.ra) ∧ w.cell? (a.add (i * 4 + 2)) = some (.int .i64 p.rb) ∧ w.cell? (a.add (i * 4 + 3)) = some (.string (str p.tx)) := by
    intro i hi
    obtain ⟨cs', h1, h2⟩ := hx i (by omega)
    rw [ce] at h1
    obtain ⟨_, hlen, hcell⟩ := World.cells?_some h1
    obtain ⟨xs, k, hk, hxy, _, hxl, hf⟩ := DataW.trod_struct he h2
    match xs, hxl, cs', hlen with
    | [y0, y1, y2, y3], _, [v0, v1, v2, v3], _ =>
      have g0 := hf 0 f0 rfl
      have g1 := hf 1 f1 rfl
      have g2 := hf 2 f2 rfl
      have g3 := hf 3 f3 rfl
      simp [o0, o1, o2, o3, c0, c1, c2, c3] at g0 g1 g2 g3
      have e0 := hcell 0 (by omega)
      have e1 := hcell 1 (by omega)
      have e2 := hcell 2 (by omega)
      have e3 := hcell 3 (by omega)
      rw [Deep.add_add] at e0 e1 e2 e3
      obtain ⟨i0, q0, _, z0⟩ := DataW.trod_int t0 g0
      obtain ⟨i1, q1, _, z1⟩ := DataW.trod_int t1 g1
      obtain ⟨i2, q2, _, z2⟩ := DataW.trod_int t2 g2
      obtain ⟨s3, q3, r3, z3⟩ := DataW.trod_string t3 g3
      simp only [List.cons.injEq, and_true] at q0 q1 q2 q3
      subst q0; subst q1; subst q2; subst q3
      have hD : D i = .agg [y0.1, y1.1, y2.1, y3.1] := by simpa using congrArg Prod.fst hxy
      have hw3 : s3.size ≤ reachBytes := by
        have hin : s3.data.toList.length ∈ (D i).weights P e := by
          rw [hD, r3]
          simp [DataW.weights, he, DataW.weightsEach]
        have := hsz s3.data.toList.length (by
          simp only [DataW.weights, ht, List.mem_cons, List.mem_append]
          exact .inr (.inl (weightsAll_mem (List.mem_map.2 ⟨i, by simpa using hi, rfl⟩) _ hin)))
        simpa using this
      obtain ⟨m3, rfl⟩ := str_of s3
      refine ⟨⟨i0, i1, i2, m3⟩, ⟨z0, z1, z2, ?_⟩, by simpa using e0, by simpa using e1, by simpa using e2, by simpa using e3⟩
      rw [str_size] at hw3
      unfold reachBytes at hw3
      exact hw3
  obtain ⟨q, hq⟩ := Deep.choose_lt each
  refine ⟨some a, len, cap, (List.range len).map q, rfl, ?_, ?_, fun h => (by cases h), ?_⟩
  · refine ⟨by rw [rcs_length]; simp, hl, hm, fun hp => ?_⟩
    rw [rcs_length] at hp
    simp at hp
    obtain ⟨b, off, spot⟩ := a
    have h0 := (hq 0 (by omega)).2.1
    have hspot : spot = none := by simpa [Addr.add] using World.cell?_spot h0
    subst hspot
    have spotE : ∀ j, (⟨b, off, none⟩ : Addr).add j = ⟨b, off + j, none⟩ := fun j => by unfold Addr.add; split <;> simp_all
    refine ⟨b, off, rfl, fun j v hv => ?_⟩
    have hj : j < (rcs ((List.range len).map q)).length := (List.getElem?_eq_some_iff.1 hv).1
    rw [rcs_length] at hj
    simp at hj
    obtain ⟨k, r, hr, rfl⟩ : ∃ k r, r < 4 ∧ j = k * 4 + r := ⟨j / 4, j % 4, by omega, by omega⟩
    have hk : k < len := by omega
    obtain ⟨p0, p1, p2, p3⟩ := rcs_at ((List.range len).map q) k (by simpa using hk)
    obtain ⟨_, d0, d1, d2, d3⟩ := hq k hk
    rw [spotE] at d0 d1 d2 d3
    simp only [List.getElem_map, List.getElem_range] at p0 p1 p2 p3
    match r, hr with
    | 0, _ => rw [Nat.add_zero, p0] at hv; rw [Nat.add_zero, d0]; exact hv
    | 1, _ => rw [p1] at hv; rw [d1]; exact hv
    | 2, _ => rw [p2] at hv; rw [d2]; exact hv
    | 3, _ => rw [p3] at hv; rw [d3]; exact hv
  · intro p hp
    obtain ⟨i, hi, rfl⟩ := List.mem_map.1 hp
    exact (hq i (by simpa using hi)).1
  · have := hsz ((len + (m - len)) * P.bytesOf e) (by simp [DataW.weights, ht])
    refine Nat.le_trans (Nat.mul_le_mul_right _ ?_) this
    omega
end
end Go.Proofs.YtkjgpljkmhjclaaGreat
/- The program's slices of raw things that came in. -/
namespace Go.Proofs.YtkjgpljkmhjclaaGreat
open Go.RowKit
theorem trod_raws {H : Type} {enc : TypeId × Value → H} {W : World} {A : Option Addr} {n c : Nat} {d : DataW H} {p : List MemPlace} (h : DataW.Trod enc Tryz.prog W 0 (fun _ => true) true 22 (.slice A n c) d p)
    (hsz : ∀ n ∈ d.weights Tryz.prog 22, n ≤ reachBytes) :
    ∃ l : List Rw, Rd W 4 A n c (rcs l) ∧ (∀ p ∈ l, p.good) ∧ (A = none → c = 0) ∧ n * 40 ≤ 140737488351232 := by
  obtain ⟨fuel, hf⟩ := h
  obtain ⟨A', n', c', l, hcs, hr, hg, hA, hz⟩ := open_raws Tryz.underlying22 Tryz.underlying52 (by kernel_rfl) rfl rfl rfl rfl (by kernel_rfl) (by kernel_rfl) (by kernel_rfl) (by kernel_rfl) Tryz.underlying3 Tryz.underlying3 Tryz.underlying3 Tryz.underlying9 hf hsz
  simp [Value.cells] at hcs
  obtain ⟨rfl, rfl, rfl⟩ := hcs
  have hby : Tryz.prog.bytesOf 52 = 40 := by kernel_rfl
  rw [hby] at hz
  unfold reachBytes at hz
  exact ⟨l, hr, hg, hA, hz⟩
end Go.Proofs.YtkjgpljkmhjclaaGreat

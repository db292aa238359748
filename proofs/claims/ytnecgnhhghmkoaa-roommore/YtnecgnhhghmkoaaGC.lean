/- Parts of a manifest as a list, and slices of them. Nothing of the program. -/
import Derived.Test.YtnecgnhhghmkoaaGA
import Derived.Deep.Slices
import Derived.SizedLaws
namespace Go.Proofs.Ytnecgnhhghmkoaa
open Go.RowKit
/-- one part: its name, its digest's text, its size -/
structure Prt where
  nm : List UInt8
  dg : List UInt8
  sz : Int
instance : Inhabited Prt := ⟨⟨[], [], 0⟩⟩
/-- its cells -/
def Prt.cells (p : Prt) : List Value := [.string (str p.nm), .string (str p.dg), .int .i64 p.sz]
/-- the cells of parts, one behind the other -/
def pcs (l : List Prt) : List Value := l.flatMap Prt.cells
theorem pcs_cons (p : Prt) (l : List Prt) : pcs (p :: l) = .string (str p.nm) :: .string (str p.dg) :: .int .i64 p.sz :: pcs l := rfl
theorem pcs_append (l m : List Prt) : pcs (l ++ m) = pcs l ++ pcs m := by simp [pcs]
theorem pcs_length : ∀ l : List Prt, (pcs l).length = l.length * 3
  | [] => rfl
  | p :: r => by rw [pcs_cons, List.length_cons, List.length_cons, List.length_cons, pcs_length r, List.length_cons]; omega
theorem pcs_at : ∀ (l : List Prt) (k : Nat) (h : k < l.length), (pcs l)[k * 3]? = some (.string (str l[k].nm)) ∧ (pcs l)[k * 3 + 1]? = some (.string (str l[k].dg)) ∧ (pcs l)[k * 3 + 2]? = some (.int .i64 l[k].sz)
  | [], _, h => absurd h (by simp)
  | p :: r, 0, _ => ⟨rfl, rfl, rfl⟩
  | p :: r, k + 1, h => by
    have := pcs_at r k (by simpa using h)
    rw [pcs_cons, show (k + 1) * 3 = k * 3 + 1 + 1 + 1 from by omega]
    simpa using this
theorem Rd.plen {w : World} {A : Option Addr} {n c : Nat} {l : List Prt} (h : Rd w 3 A n c (pcs l)) : n = l.length := by
  have := h.1; rw [pcs_length] at this; omega
/-- the three cells of part k -/
theorem Rd.part {w : World} {A : Option Addr} {n c : Nat} {l : List Prt} (h : Rd w 3 A n c (pcs l)) {k : Nat} (hk : k < l.length) :
    ∃ b off, A = some ⟨b, off, none⟩ ∧ w.cell? ⟨b, off + k * 3, none⟩ = some (.string (str l[k].nm)) ∧ w.cell? ⟨b, off + k * 3 + 1, none⟩ = some (.string (str l[k].dg)) ∧ w.cell? ⟨b, off + k * 3 + 2, none⟩ = some (.int .i64 l[k].sz) := by
  obtain ⟨b, off, rfl, hc⟩ := h.2.2.2 (by rw [pcs_length]; omega)
  obtain ⟨h0, h1, h2⟩ := pcs_at l k hk
  exact ⟨b, off, rfl, hc _ _ h0, hc _ _ h1, hc _ _ h2⟩
/-- what is asked of a part that came in -/
def Prt.good (p : Prt) : Prop := p.nm.length ≤ maxLen ∧ p.dg.length ≤ maxLen ∧ (Lit.int .i64 p.sz).wf = true
section
variable {H : Type} {enc : TypeId × Value → H} {P : Program} {w : World} {base : Nat} {spare : Nat → Bool} {held : Bool}
/-- a slice of parts that came in -/
theorem open_parts {t e : TypeId} {f0 f1 f2 : Field} {fuel : Nat} {cs : List Value} {x : DataW H × List MemPlace} (ht : P.underlying t = some (.slice e)) (he : P.underlying e = some (.struct #[f0, f1, f2]))
    (ce : P.cellsOf e = 3) (o0 : f0.offset = 0) (o1 : f1.offset = 1) (o2 : f2.offset = 2) (c0 : P.cellsOf f0.type = 1) (c1 : P.cellsOf f1.type = 1) (c2 : P.cellsOf f2.type = 1)
    (t0 : P.underlying f0.type = some .string) (t1 : P.underlying f1.type = some .string) (t2 : P.underlying f2.type = some (.int .i64))
    (h : DataW.trod enc P w base spare held fuel t cs = some x) :
    ∃ (A : Option Addr) (n c : Nat) (l : List Prt), cs = [.slice A n c] ∧ Rd w 3 A n c (pcs l) ∧ (∀ p ∈ l, p.good) ∧ (A = none → c = 0) ∧ ∃ el sp, (x.1 = .nil ∧ n = 0 ∨ x.1 = .slice el sp ∧ el.length = n) := by
  rcases Deep.open_slice ht h with ⟨rfl, rfl⟩ | ⟨a, len, cap, m, n, D, Pl, rfl, hb, hl, hm, hmm, rfl, hx⟩
  · exact ⟨none, 0, 0, [], rfl, Rd.nil _ _, fun _ h => (by cases h), fun _ => rfl, [], [], .inl ⟨rfl, rfl⟩⟩
  have hlm : len ≤ m := by rw [hmm]; split <;> omega
  have each : ∀ i, i < len → ∃ p : Prt, p.good ∧ w.cell? (a.add (i * 3)) = some (.string (str p.nm)) ∧ w.cell? (a.add (i * 3 + 1)) = some (.string (str p.dg)) ∧ w.cell? (a.add (i * 3 + 2)) = some (.int .i64 p.sz) := by
    intro i hi
    obtain ⟨cs', h1, h2⟩ := hx i (by omega)
    rw [ce] at h1
    obtain ⟨_, hlen, hcell⟩ := World.cells?_some h1
    obtain ⟨xs, k, hk, hxy, _, hxl, hf⟩ := DataW.trod_struct he h2
    match xs, hxl, cs', hlen with
    | [y0, y1, y2], _, [v0, v1, v2], _ =>
      have g0 := hf 0 f0 rfl
      have g1 := hf 1 f1 rfl
      have g2 := hf 2 f2 rfl
      simp [o0, o1, o2, c0, c1, c2] at g0 g1 g2
      have e0 := hcell 0 (by omega)
      have e1 := hcell 1 (by omega)
      have e2 := hcell 2 (by omega)
      rw [Deep.add_add] at e0 e1 e2
      obtain ⟨s0, q0, _, z0⟩ := DataW.trod_string t0 g0
      obtain ⟨s1, q1, _, z1⟩ := DataW.trod_string t1 g1
      obtain ⟨i2, q2, _, z2⟩ := DataW.trod_int t2 g2
      simp only [List.cons.injEq, and_true] at q0 q1 q2
      subst q0; subst q1; subst q2
      obtain ⟨m0, rfl⟩ := str_of s0
      obtain ⟨m1, rfl⟩ := str_of s1
      exact ⟨⟨m0, m1, i2⟩, ⟨z0, z1, z2⟩, by simpa using e0, by simpa using e1, by simpa using e2⟩
  obtain ⟨q, hq⟩ := Deep.choose_lt each
  refine ⟨some a, len, cap, (List.range len).map q, rfl, ?_, ?_, fun h => (by cases h), _, _, .inr ⟨rfl, by simp⟩⟩
  · refine ⟨by rw [pcs_length]; simp, hl, hm, fun hp => ?_⟩
    rw [pcs_length] at hp
    simp at hp
    obtain ⟨b, off, spot⟩ := a
    have h0 := (hq 0 (by omega)).2.1
    have hspot : spot = none := by simpa [Addr.add] using World.cell?_spot h0
    subst hspot
    have spotE : ∀ j, (⟨b, off, none⟩ : Addr).add j = ⟨b, off + j, none⟩ := fun j => by unfold Addr.add; split <;> simp_all
    refine ⟨b, off, rfl, fun j v hv => ?_⟩
    have hj : j < (pcs ((List.range len).map q)).length := (List.getElem?_eq_some_iff.1 hv).1
    rw [pcs_length] at hj
    simp at hj
    obtain ⟨k, r, hr, rfl⟩ : ∃ k r, r < 3 ∧ j = k * 3 + r := ⟨j / 3, j % 3, by omega, by omega⟩
    have hk : k < len := by omega
    obtain ⟨p0, p1, p2⟩ := pcs_at ((List.range len).map q) k (by simpa using hk)
    obtain ⟨_, d0, d1, d2⟩ := hq k hk
    rw [spotE] at d0 d1 d2
    simp only [List.getElem_map, List.getElem_range] at p0 p1 p2
    match r, hr with
    | 0, _ => rw [Nat.add_zero, p0] at hv; rw [Nat.add_zero, d0]; exact hv
    | 1, _ => rw [p1] at hv; rw [d1]; exact hv
    | 2, _ => rw [p2] at hv; rw [d2]; exact hv
  · intro p hp
    obtain ⟨i, hi, rfl⟩ := List.mem_map.1 hp
    exact (hq i (by simpa using hi)).1
end
end Go.Proofs.Ytnecgnhhghmkoaa

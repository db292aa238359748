/- Texts that belong together: what the functions of the program and of the statements return. -/
import Derived.Test.YtdbdigcpibmgjaaGreatDoorRows
import Derived.Test.YtdbdigcpibmgjaaGreatDoorGX
import Derived.Lib.Hide
import Derived.IntWalk
import Derived.Deep.QuietTactic
import Derived.BigQuiet
import Derived.Test.YtdbdigcpibmgjaaGreatDoorGN
/- slices.Equal of parts. -/
namespace Go.Proofs.YtdbdigcpibmgjaaGreatDoor
open Go.RowKit
/-- the call answers whether Q holds -/
def GivesT (Q : Prop) (w : World) (e : Ending) (w' : World) : Prop := ∃ b, e = .returned (.bool b) ∧ Hid (b = true ↔ Q) ∧ Below w.heap.size w w'
/-- .. and nothing is done but drawn -/
def GivesQ (Q : Prop) (w : World) (e : Ending) (w' : World) : Prop := ∃ b, e = .returned (.bool b) ∧ Hid (b = true ↔ Q) ∧ ∃ nn, w' = w.drewN nn
theorem GivesT.yes {Q : Prop} {w : World} {e : Ending} {w' : World} (h : GivesT Q w e w') (hq : Q) : e = .returned (.bool true) ∧ Below w.heap.size w w' := by
  obtain ⟨b, rfl, hb, hw⟩ := h
  exact ⟨by rw [hb.out.2 hq], hw⟩
theorem GivesT.no {Q : Prop} {w : World} {e : Ending} {w' : World} (h : GivesT Q w e w') (hq : ¬ Q) : e = .returned (.bool false) ∧ Below w.heap.size w w' := by
  obtain ⟨b, rfl, hb, hw⟩ := h
  cases b
  · exact ⟨rfl, hw⟩
  · exact absurd (hb.out.1 rfl) hq
set_option maxRecDepth 100000 in
set_option maxHeartbeats 1000000 in
theorem equalParts_q (A B : Option Addr) (n0 m0 c d : Nat) (l m : List Prt) (w : World) (hr : Rd w 3 A n0 c (pcs l)) (hs : Rd w 3 B m0 d (pcs m)) :
    Calls Tryz.prog 117 #[.slice A n0 c, .slice B m0 d] w (GivesQ (l = m) w) := by
  obtain rfl := hr.plen
  obtain rfl := hs.plen
  have hcx := hr.2.2.1
  have hcm := hr.2.1
  unfold maxLen at hcx
  by_cases hlen : l.length = m.length
  · have hne : ((l.length : Int) != (m.length : Int)) = false := by rw [bne_eq_false_iff_eq]; omega
    have Hlen := Lib.hid hlen
    have hle1 : l.length ≤ m.length := by omega
    have hle2 : m.length ≤ l.length := by omega
    clear hlen
    go_enter Tryz.func117, Tryz.ntmps117
    go_wp2
    go_loopw [5, 13] (fun _ i wr => ∃ k nn : Nat, k ≤ l.length ∧ i = .int .i64 k ∧ Hid (l.take k = m.take k) ∧ wr = w.drewN nn) (fun _ i _ => l.length - (intOf i).toNat)
    case atStart => exact ⟨0, 0, by omega, rfl, rfl, rfl⟩
    case round =>
      obtain ⟨k, nn, hk, rfl, HE, rfl⟩ := hrel
      by_cases hlt : k < l.length
      · have hltm : k < m.length := by omega
        obtain ⟨b, off, rfl, a0, a1, a2⟩ := hr.part hlt
        obtain ⟨b2, off2, rfl, d0, d1, d2⟩ := hs.part hltm
        have i0 : (k : Int) < l.length := by omega
        have i1 : (k : Int) < m.length := by omega
        have HP : Hid (l.take (k + 1) = m.take (k + 1) ↔ l[k] = m[k]) := by
          show _ ↔ _
          rw [List.take_succ_eq_append_getElem hlt, List.take_succ_eq_append_getElem (l := m) hltm, HE.out, List.append_right_inj, List.cons.injEq]
          exact ⟨fun h => h.1, fun h => ⟨h, rfl⟩⟩
        have HQ : Hid (l = m → l[k] = m[k]) := by
          show _ → _
          intro q; subst q; rfl
        generalize l[k] = p at *
        generalize m[k] = q at *
        have HN0 : Hid (p ≠ q → Hid (false = true ↔ l = m)) := fun hpq => ⟨fun h => (by cases h), fun h => absurd (HQ.out h) hpq⟩
        by_cases e1 : p.nm = q.nm
        · have f1 : (p.nm == q.nm) = true := by rw [beq_iff_eq]; exact e1
          by_cases e2 : p.dg = q.dg
          · have f2 : (p.dg == q.dg) = true := by rw [beq_iff_eq]; exact e2
            by_cases e3 : p.sz = q.sz
            · have f3 : (p.sz == q.sz) = true := by rw [beq_iff_eq]; exact e3
              have HPQ : Hid (p = q) := by show _ = _; cases p; cases q; simp_all
              clear e1 e2 e3 HN0 HQ
              go_wp2
              go_quiet (fail)
              go_wp2
              go_roundw
              case rel => exact ⟨k + 1, nn + nq, by omega, by go_num, HP.out.2 HPQ.out, rfl⟩
              case measure => simp [intOf] <;> omega
            · have f3 : (p.sz == q.sz) = false := by rw [beq_eq_false_iff_ne]; exact e3
              have HN := HN0.out (fun h => e3 (by rw [h]))
              clear e1 e2 e3 HN0 HQ HP
              go_wp2
              go_quiet (fail)
              go_wp2
              go_ret
              exact ⟨_, rfl, HN, _, World.drewN_drewN _ _ _⟩
          · have f2 : (p.dg == q.dg) = false := by rw [beq_eq_false_iff_ne]; exact e2
            have HN := HN0.out (fun h => e2 (by rw [h]))
            clear e1 e2 HN0 HQ HP
            go_wp2
            go_quiet (fail)
            go_wp2
            go_ret
            exact ⟨_, rfl, HN, _, World.drewN_drewN _ _ _⟩
        · have f1 : (p.nm == q.nm) = false := by rw [beq_eq_false_iff_ne]; exact e1
          have HN := HN0.out (fun h => e1 (by rw [h]))
          clear e1 HN0 HQ HP
          go_wp2
          go_quiet (fail)
          go_wp2
          go_ret
          exact ⟨_, rfl, HN, _, World.drewN_drewN _ _ _⟩
      · have hd : decide ((k : Int) < (l.length : Int)) = false := by simp; omega
        have HN : Hid (l = m) := by
          show _ = _
          have := HE.out
          rwa [List.take_of_length_le (by omega), List.take_of_length_le (by omega)] at this
        go_wp2
        go_ret
        exact ⟨_, rfl, ⟨fun _ => HN.out, fun _ => rfl⟩, _, rfl⟩
  · have hne : ((l.length : Int) != (m.length : Int)) = true := by rw [bne_iff_ne]; omega
    have HN : Hid (false = true ↔ l = m) := by
      show _ ↔ _
      refine ⟨fun h => (by cases h), fun h => ?_⟩
      subst h
      exact absurd rfl hlen
    clear hlen
    go_enter Tryz.func117, Tryz.ntmps117
    go_wp2
    go_ret
    exact ⟨_, rfl, HN, 0, rfl⟩
theorem equalParts_any (A B : Option Addr) (n0 m0 c d : Nat) (l m : List Prt) (w : World) (hr : Rd w 3 A n0 c (pcs l)) (hs : Rd w 3 B m0 d (pcs m)) :
    Calls Tryz.prog 117 #[.slice A n0 c, .slice B m0 d] w (GivesT (l = m) w) :=
  (equalParts_q A B n0 m0 c d l m w hr hs).mono fun _ _ ⟨b, h1, h2, nn, h3⟩ => ⟨b, h1, h2, by rw [h3]; exact below_drewN (Below.refl _ _) nn⟩
/-- of parts that are the same, as a quiet call -/
theorem equalParts_quiet (A B : Option Addr) (n0 m0 c d : Nat) (l : List Prt) (w : World) (hr : Rd w 3 A n0 c (pcs l)) (hs : Rd w 3 B m0 d (pcs l)) (nn : Nat) :
    Calls Tryz.prog 117 #[.slice A n0 c, .slice B m0 d] (w.drewN nn) fun e w' => e = .returned (.bool true) ∧ ∃ m, w' = w.drewN m :=
  (equalParts_q A B n0 m0 c d l l (w.drewN nn) (hr.drewN nn) (hs.drewN nn)).mono fun _ _ ⟨b, h1, h2, k, h3⟩ => ⟨by rw [h1, h2.out.2 rfl], nn + k, by rw [h3, World.drewN_drewN]⟩
end Go.Proofs.YtdbdigcpibmgjaaGreatDoor
/- Raw things of the statements as a list, and slices of them that came in. Nothing of the program. -/
namespace Go.Proofs.YtdbdigcpibmgjaaGreatDoor
open Go.RowKit
/-- one raw thing -/
structure Rw where
  kd : Int
  ra : Int
  rb : Int
  tx : List UInt8
instance : Inhabited Rw := ⟨⟨0, 0, 0, []⟩⟩
/-- its cells -/
def Rw.cells (p : Rw) : List Value := [.int .i64 p.kd, .int .i64 p.ra, .int .i64 p.rb, .string (str p.tx)]
def rcs (l : List Rw) : List Value := l.flatMap Rw.cells
theorem rcs_cons (p : Rw) (l : List Rw) : rcs (p :: l) = .int .i64 p.kd :: .int .i64 p.ra :: .int .i64 p.rb :: .string (str p.tx) :: rcs l := rfl
theorem rcs_append (l m : List Rw) : rcs (l ++ m) = rcs l ++ rcs m := by simp [rcs]
theorem rcs_length : ∀ l : List Rw, (rcs l).length = l.length * 4
  | [] => rfl
  | p :: r => by rw [rcs_cons, List.length_cons, List.length_cons, List.length_cons, List.length_cons, rcs_length r, List.length_cons]; omega
theorem rcs_at : ∀ (l : List Rw) (k : Nat) (h : k < l.length), (rcs l)[k * 4]? = some (.int .i64 l[k].kd) ∧ (rcs l)[k * 4 + 1]? = some (.int .i64 l[k].ra) ∧ (rcs l)[k * 4 + 2]? = some (.int .i64 l[k].rb) ∧ (rcs l)[k * 4 + 3]? = some (.string (str l[k].tx))
  | [], _, h => absurd h (by simp)
  | p :: r, 0, _ => ⟨rfl, rfl, rfl, rfl⟩
  | p :: r, k + 1, h => by
    have := rcs_at r k (by simpa using h)
    rw [rcs_cons, show (k + 1) * 4 = k * 4 + 1 + 1 + 1 + 1 from by omega]
    simpa using this
theorem Rd.rlen {w : World} {A : Option Addr} {n c : Nat} {l : List Rw} (h : Rd w 4 A n c (rcs l)) : n = l.length := by
  have := h.1; rw [rcs_length] at this; omega
/-- the four cells of raw thing k -/
theorem Rd.raw {w : World} {A : Option Addr} {n c : Nat} {l : List Rw} (h : Rd w 4 A n c (rcs l)) {k : Nat} (hk : k < l.length) :
    ∃ b off, A = some ⟨b, off, none⟩ ∧ w.cell? ⟨b, off + k * 4, none⟩ = some (.int .i64 l[k].kd) ∧ w.cell? ⟨b, off + k * 4 + 1, none⟩ = some (.int .i64 l[k].ra) ∧ w.cell? ⟨b, off + k * 4 + 2, none⟩ = some (.int .i64 l[k].rb) ∧ w.cell? ⟨b, off + k * 4 + 3, none⟩ = some (.string (str l[k].tx)) := by
  obtain ⟨b, off, rfl, hc⟩ := h.2.2.2 (by rw [rcs_length]; omega)
  obtain ⟨h0, h1, h2, h3⟩ := rcs_at l k hk
  exact ⟨b, off, rfl, hc _ _ h0, hc _ _ h1, hc _ _ h2, hc _ _ h3⟩
/-- what is asked of a raw thing that came in: numbers of their kind, a text within the reach -/
def Rw.good (p : Rw) : Prop := (Lit.int .i64 p.kd).wf = true ∧ (Lit.int .i64 p.ra).wf = true ∧ (Lit.int .i64 p.rb).wf = true ∧ p.tx.length ≤ 140737488351232
section
variable {H : Type} {enc : TypeId × Value → H} {P : Program} {w : World} {base : Nat} {spare : Nat → Bool} {held : Bool}
theorem open_raws {t e : TypeId} {f0 f1 f2 f3 : Field} {fuel : Nat} {cs : List Value} {x : DataW H × List MemPlace} (ht : P.underlying t = some (.slice e)) (he : P.underlying e = some (.struct #[f0, f1, f2, f3]))
    (ce : P.cellsOf e = 4) (o0 : f0.offset = 0) (o1 : f1.offset = 1) (o2 : f2.offset = 2) (o3 : f3.offset = 3) (c0 : P.cellsOf f0.type = 1) (c1 : P.cellsOf f1.type = 1) (c2 : P.cellsOf f2.type = 1) (c3 : P.cellsOf f3.type = 1)
    (t0 : P.underlying f0.type = some (.int .i64)) (t1 : P.underlying f1.type = some (.int .i64)) (t2 : P.underlying f2.type = some (.int .i64)) (t3 : P.underlying f3.type = some .string)
    (h : DataW.trod enc P w base spare held fuel t cs = some x) (hsz : ∀ n ∈ x.1.weights P t, n ≤ reachBytes) :
    ∃ (A : Option Addr) (n c : Nat) (l : List Rw), cs = [.slice A n c] ∧ Rd w 4 A n c (rcs l) ∧ (∀ p ∈ l, p.good) ∧ (A = none → c = 0) ∧ n * P.bytesOf e ≤ reachBytes := by
  rcases Deep.open_slice ht h with ⟨rfl, rfl⟩ | ⟨a, len, cap, m, n, D, Pl, rfl, hb, hl, hm, hmm, rfl, hx⟩
  · exact ⟨none, 0, 0, [], rfl, Rd.nil _ _, fun _ h => (by cases h), fun _ => rfl, by omega⟩
  have hlm : len ≤ m := by rw [hmm]; split <;> omega
  have each : ∀ i, i < len → ∃ p : Rw, p.good ∧ w.cell? (a.add (i * 4)) = some (.int .i64 p.kd) ∧ w.cell? (a.add (i * 4 + 1)) = some (.int .i64 p.ra) ∧ w.cell? (a.add (i * 4 + 2)) = some (.int .i64 p.rb) ∧ w.cell? (a.add (i * 4 + 3)) = some (.string (str p.tx)) := by
    intro i hi
    obtain ⟨cs', h1, h2⟩ := hx i (by omega)
    rw [ce] at h1
    obtain ⟨_, hlen, hcell⟩ := World.cells?_some h1
    obtain ⟨xs, k, hk, hxy, _, hxl, hf⟩ := DataW.trod_struct he h2
    match xs, hxl, cs', hlen with
    | [y0, y1, y2, y3], _, [v0, v1, v2, v3], _ =>
      have g0 := hf 0 f0 rfl
      have g1 := hf 1 f1 rfl
      have g2 := hf 2 f2 rfl
      have g3 := hf 3 f3 rfl
      simp [o0, o1, o2, o3, c0, c1, c2, c3] at g0 g1 g2 g3
      have e0 := hcell 0 (by omega)
      have e1 := hcell 1 (by omega)
      have e2 := hcell 2 (by omega)
      have e3 := hcell 3 (by omega)
      rw [Deep.add_add] at e0 e1 e2 e3
      obtain ⟨i0, q0, _, z0⟩ := DataW.trod_int t0 g0
      obtain ⟨i1, q1, _, z1⟩ := DataW.trod_int t1 g1
      obtain ⟨i2, q2, _, z2⟩ := DataW.trod_int t2 g2
      obtain ⟨s3, q3, r3, z3⟩ := DataW.trod_string t3 g3
      simp only [List.cons.injEq, and_true] at q0 q1 q2 q3
      subst q0; subst q1; subst q2; subst q3
      have hD : D i = .agg [y0.1, y1.1, y2.1, y3.1] := by simpa using congrArg Prod.fst hxy
      have hw3 : s3.size ≤ reachBytes := by
        have hin : s3.data.toList.length ∈ (D i).weights P e := by
          rw [hD, r3]
          simp [DataW.weights, he, DataW.weightsEach]
        have := hsz s3.data.toList.length (by
          simp only [DataW.weights, ht, List.mem_cons, List.mem_append]
          exact .inr (.inl (weightsAll_mem (List.mem_map.2 ⟨i, by simpa using hi, rfl⟩) _ hin)))
        simpa using this
      obtain ⟨m3, rfl⟩ := str_of s3
      refine ⟨⟨i0, i1, i2, m3⟩, ⟨z0, z1, z2, ?_⟩, by simpa using e0, by simpa using e1, by simpa using e2, by simpa using e3⟩
      rw [str_size] at hw3
      unfold reachBytes at hw3
      exact hw3
  obtain ⟨q, hq⟩ := Deep.choose_lt each
  refine ⟨some a, len, cap, (List.range len).map q, rfl, ?_, ?_, fun h => (by cases h), ?_⟩
  · refine ⟨by rw [rcs_length]; simp, hl, hm, fun hp => ?_⟩
    rw [rcs_length] at hp
    simp at hp
    obtain ⟨b, off, spot⟩ := a
    have h0 := (hq 0 (by omega)).2.1
    have hspot : spot = none := by simpa [Addr.add] using World.cell?_spot h0
    subst hspot
    have spotE : ∀ j, (⟨b, off, none⟩ : Addr).add j = ⟨b, off + j, none⟩ := fun j => by unfold Addr.add; split <;> simp_all
    refine ⟨b, off, rfl, fun j v hv => ?_⟩
    have hj : j < (rcs ((List.range len).map q)).length := (List.getElem?_eq_some_iff.1 hv).1
    rw [rcs_length] at hj
    simp at hj
    obtain ⟨k, r, hr, rfl⟩ : ∃ k r, r < 4 ∧ j = k * 4 + r := ⟨j / 4, j % 4, by omega, by omega⟩
    have hk : k < len := by omega
    obtain ⟨p0, p1, p2, p3⟩ := rcs_at ((List.range len).map q) k (by simpa using hk)
    obtain ⟨_, d0, d1, d2, d3⟩ := hq k hk
    rw [spotE] at d0 d1 d2 d3
    simp only [List.getElem_map, List.getElem_range] at p0 p1 p2 p3
    match r, hr with
    | 0, _ => rw [Nat.add_zero, p0] at hv; rw [Nat.add_zero, d0]; exact hv
    | 1, _ => rw [p1] at hv; rw [d1]; exact hv
    | 2, _ => rw [p2] at hv; rw [d2]; exact hv
    | 3, _ => rw [p3] at hv; rw [d3]; exact hv
  · intro p hp
    obtain ⟨i, hi, rfl⟩ := List.mem_map.1 hp
    exact (hq i (by simpa using hi)).1
  · have := hsz ((len + (m - len)) * P.bytesOf e) (by simp [DataW.weights, ht])
    refine Nat.le_trans (Nat.mul_le_mul_right _ ?_) this
    omega
end
end Go.Proofs.YtdbdigcpibmgjaaGreatDoor
/- The program's slices of raw things that came in. -/
namespace Go.Proofs.YtdbdigcpibmgjaaGreatDoor
open Go.RowKit
theorem trod_raws {H : Type} {enc : TypeId × Value → H} {W : World} {A : Option Addr} {n c : Nat} {d : DataW H} {p : List MemPlace} (h : DataW.Trod enc Tryz.prog W 0 (fun _ => true) true 39 (.slice A n c) d p)
    (hsz : ∀ n ∈ d.weights Tryz.prog 39, n ≤ reachBytes) :
    ∃ l : List Rw, Rd W 4 A n c (rcs l) ∧ (∀ p ∈ l, p.good) ∧ (A = none → c = 0) ∧ n * 40 ≤ 140737488351232 := by
  obtain ⟨fuel, hf⟩ := h
  obtain ⟨A', n', c', l, hcs, hr, hg, hA, hz⟩ := open_raws Tryz.underlying39 Tryz.underlying64 (by kernel_rfl) rfl rfl rfl rfl (by kernel_rfl) (by kernel_rfl) (by kernel_rfl) (by kernel_rfl) Tryz.underlying3 Tryz.underlying3 Tryz.underlying3 Tryz.underlying9 hf hsz
  simp [Value.cells] at hcs
  obtain ⟨rfl, rfl, rfl⟩ := hcs
  have hby : Tryz.prog.bytesOf 64 = 40 := by kernel_rfl
  rw [hby] at hz
  unfold reachBytes at hz
  exact ⟨l, hr, hg, hA, hz⟩
end Go.Proofs.YtdbdigcpibmgjaaGreatDoor

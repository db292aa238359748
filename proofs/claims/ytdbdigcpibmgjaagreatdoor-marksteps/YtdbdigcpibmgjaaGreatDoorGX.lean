/- Texts that belong together: what the functions of the program and of the statements return. -/
import Derived.Test.YtdbdigcpibmgjaaGreatDoorGA
import Derived.Deep.Slices
import Derived.SizedLaws
import Derived.Test.YtdbdigcpibmgjaaGreatDoorGB
import Derived.Laws.Concat
import Derived.ArgAppend
import Derived.Lib.SlBytesConst
import Derived.Lib.AppendStr
import Derived.RegionTactic
/- Parts of a manifest as a list, and slices of them. Nothing of the program. -/
namespace Go.Proofs.YtdbdigcpibmgjaaGreatDoor
open Go.RowKit
/-- one part: its name, its digest's text, its size -/
structure Prt where
  nm : List UInt8
  dg : List UInt8
  sz : Int
instance : Inhabited Prt := ⟨⟨[], [], 0⟩⟩
/-- its cells -/
def Prt.cells (p : Prt) : List Value := [.string (str p.nm), .string (str p.dg), .int .i64 p.sz]
/-- the cells of parts, one behind the other -/
def pcs (l : List Prt) : List Value := l.flatMap Prt.cells
theorem pcs_cons (p : Prt) (l : List Prt) : pcs (p :: l) = .string (str p.nm) :: .string (str p.dg) :: .int .i64 p.sz :: pcs l := rfl
theorem pcs_append (l m : List Prt) : pcs (l ++ m) = pcs l ++ pcs m := by simp [pcs]
theorem pcs_length : ∀ l : List Prt, (pcs l).length = l.length * 3
  | [] => rfl
  | p :: r => by rw [pcs_cons, List.length_cons, List.length_cons, List.length_cons, pcs_length r, List.length_cons]; omega
theorem pcs_at : ∀ (l : List Prt) (k : Nat) (h : k < l.length), (pcs l)[k * 3]? = some (.string (str l[k].nm)) ∧ (pcs l)[k * 3 + 1]? = some (.string (str l[k].dg)) ∧ (pcs l)[k * 3 + 2]? = some (.int .i64 l[k].sz)
  | [], _, h => absurd h (by simp)
  | p :: r, 0, _ => ⟨rfl, rfl, rfl⟩
  | p :: r, k + 1, h => by
    have := pcs_at r k (by simpa using h)
    rw [pcs_cons, show (k + 1) * 3 = k * 3 + 1 + 1 + 1 from by omega]
    simpa using this
theorem Rd.plen {w : World} {A : Option Addr} {n c : Nat} {l : List Prt} (h : Rd w 3 A n c (pcs l)) : n = l.length := by
  have := h.1; rw [pcs_length] at this; omega
/-- the three cells of part k -/
theorem Rd.part {w : World} {A : Option Addr} {n c : Nat} {l : List Prt} (h : Rd w 3 A n c (pcs l)) {k : Nat} (hk : k < l.length) :
    ∃ b off, A = some ⟨b, off, none⟩ ∧ w.cell? ⟨b, off + k * 3, none⟩ = some (.string (str l[k].nm)) ∧ w.cell? ⟨b, off + k * 3 + 1, none⟩ = some (.string (str l[k].dg)) ∧ w.cell? ⟨b, off + k * 3 + 2, none⟩ = some (.int .i64 l[k].sz) := by
  obtain ⟨b, off, rfl, hc⟩ := h.2.2.2 (by rw [pcs_length]; omega)
  obtain ⟨h0, h1, h2⟩ := pcs_at l k hk
  exact ⟨b, off, rfl, hc _ _ h0, hc _ _ h1, hc _ _ h2⟩
/-- what is asked of a part that came in -/
def Prt.good (p : Prt) : Prop := p.nm.length ≤ maxLen ∧ p.dg.length ≤ maxLen ∧ (Lit.int .i64 p.sz).wf = true
section
variable {H : Type} {enc : TypeId × Value → H} {P : Program} {w : World} {base : Nat} {spare : Nat → Bool} {held : Bool}
/-- a slice of parts that came in -/
theorem open_parts {t e : TypeId} {f0 f1 f2 : Field} {fuel : Nat} {cs : List Value} {x : DataW H × List MemPlace} (ht : P.underlying t = some (.slice e)) (he : P.underlying e = some (.struct #[f0, f1, f2]))
    (ce : P.cellsOf e = 3) (o0 : f0.offset = 0) (o1 : f1.offset = 1) (o2 : f2.offset = 2) (c0 : P.cellsOf f0.type = 1) (c1 : P.cellsOf f1.type = 1) (c2 : P.cellsOf f2.type = 1)
    (t0 : P.underlying f0.type = some .string) (t1 : P.underlying f1.type = some .string) (t2 : P.underlying f2.type = some (.int .i64))
    (h : DataW.trod enc P w base spare held fuel t cs = some x) :
    ∃ (A : Option Addr) (n c : Nat) (l : List Prt), cs = [.slice A n c] ∧ Rd w 3 A n c (pcs l) ∧ (∀ p ∈ l, p.good) ∧ (A = none → c = 0) ∧ ∃ el sp, (x.1 = .nil ∧ n = 0 ∨ x.1 = .slice el sp ∧ el.length = n) := by
  rcases Deep.open_slice ht h with ⟨rfl, rfl⟩ | ⟨a, len, cap, m, n, D, Pl, rfl, hb, hl, hm, hmm, rfl, hx⟩
  · exact ⟨none, 0, 0, [], rfl, Rd.nil _ _, fun _ h => (by cases h), fun _ => rfl, [], [], .inl ⟨rfl, rfl⟩⟩
  have hlm : len ≤ m := by rw [hmm]; split <;> omega
  have each : ∀ i, i < len → ∃ p : Prt, p.good ∧ w.cell? (a.add (i * 3)) = some (.string (str p.nm)) ∧ w.cell? (a.add (i * 3 + 1)) = some (.string (str p.dg)) ∧ w.cell? (a.add (i * 3 + 2)) = some (.int .i64 p.sz) := by
    intro i hi
    obtain ⟨cs', h1, h2⟩ := hx i (by omega)
    rw [ce] at h1
    obtain ⟨_, hlen, hcell⟩ := World.cells?_some h1
    obtain ⟨xs, k, hk, hxy, _, hxl, hf⟩ := DataW.trod_struct he h2
    match xs, hxl, cs', hlen with
    | [y0, y1, y2], _, [v0, v1, v2], _ =>
      have g0 := hf 0 f0 rfl
      have g1 := hf 1 f1 rfl
      have g2 := hf 2 f2 rfl
      simp [o0, o1, o2, c0, c1, c2] at g0 g1 g2
      have e0 := hcell 0 (by omega)
      have e1 := hcell 1 (by omega)
      have e2 := hcell 2 (by omega)
      rw [Deep.add_add] at e0 e1 e2
      obtain ⟨s0, q0, _, z0⟩ := DataW.trod_string t0 g0
      obtain ⟨s1, q1, _, z1⟩ := DataW.trod_string t1 g1
      obtain ⟨i2, q2, _, z2⟩ := DataW.trod_int t2 g2
      simp only [List.cons.injEq, and_true] at q0 q1 q2
      subst q0; subst q1; subst q2
      obtain ⟨m0, rfl⟩ := str_of s0
      obtain ⟨m1, rfl⟩ := str_of s1
      exact ⟨⟨m0, m1, i2⟩, ⟨z0, z1, z2⟩, by simpa using e0, by simpa using e1, by simpa using e2⟩
  obtain ⟨q, hq⟩ := Deep.choose_lt each
  refine ⟨some a, len, cap, (List.range len).map q, rfl, ?_, ?_, fun h => (by cases h), _, _, .inr ⟨rfl, by simp⟩⟩
  · refine ⟨by rw [pcs_length]; simp, hl, hm, fun hp => ?_⟩
    rw [pcs_length] at hp
    simp at hp
    obtain ⟨b, off, spot⟩ := a
    have h0 := (hq 0 (by omega)).2.1
    have hspot : spot = none := by simpa [Addr.add] using World.cell?_spot h0
    subst hspot
    have spotE : ∀ j, (⟨b, off, none⟩ : Addr).add j = ⟨b, off + j, none⟩ := fun j => by unfold Addr.add; split <;> simp_all
    refine ⟨b, off, rfl, fun j v hv => ?_⟩
    have hj : j < (pcs ((List.range len).map q)).length := (List.getElem?_eq_some_iff.1 hv).1
    rw [pcs_length] at hj
    simp at hj
    obtain ⟨k, r, hr, rfl⟩ : ∃ k r, r < 3 ∧ j = k * 3 + r := ⟨j / 3, j % 3, by omega, by omega⟩
    have hk : k < len := by omega
    obtain ⟨p0, p1, p2⟩ := pcs_at ((List.range len).map q) k (by simpa using hk)
    obtain ⟨_, d0, d1, d2⟩ := hq k hk
    rw [spotE] at d0 d1 d2
    simp only [List.getElem_map, List.getElem_range] at p0 p1 p2
    match r, hr with
    | 0, _ => rw [Nat.add_zero, p0] at hv; rw [Nat.add_zero, d0]; exact hv
    | 1, _ => rw [p1] at hv; rw [d1]; exact hv
    | 2, _ => rw [p2] at hv; rw [d2]; exact hv
  · intro p hp
    obtain ⟨i, hi, rfl⟩ := List.mem_map.1 hp
    exact (hq i (by simpa using hi)).1
end
end Go.Proofs.YtdbdigcpibmgjaaGreatDoor
/- Parts and manifests: plain functions, and what holds of them. Nothing of the program. -/
namespace Go.Proofs.YtdbdigcpibmgjaaGreatDoor
open Go.RowKit
/-- may the byte stand in a name -/
def okN (c : UInt8) : Bool := decide (33 ≤ y8 c ∧ y8 c ≤ 126)
/-- the error of a name -/
def nmErr (m : List UInt8) : Int := if m.length = 0 ∨ 12 < m.length then 1 else if m.all okN then 0 else 3
theorem all_step {f : UInt8 → Bool} {l : List UInt8} {k : Nat} (hk : k < l.length) : (l.take (k + 1)).all f = ((l.take k).all f && f l[k]) := by
  rw [List.take_succ_eq_append_getElem hk, List.all_append]; simp
theorem nmErr_cases (m : List UInt8) : nmErr m = 1 ∨ nmErr m = 3 ∨ (nmErr m = 0 ∧ 1 ≤ m.length ∧ m.length ≤ 12) := by
  unfold nmErr
  split
  · exact .inl rfl
  · split
    · exact .inr (.inr ⟨rfl, by omega, by omega⟩)
    · exact .inr (.inl rfl)
/-- the error of parts behind the name 'last' -/
def pErr (last : List UInt8) : List Prt → Int
  | [] => 0
  | p :: r => if nmErr p.nm ≠ 0 then nmErr p.nm else if nle p.nm last = true then 6 else if cErr p.dg ≠ 0 then cErr p.dg else if p.sz < 0 ∨ 300 < p.sz then 4 else pErr p.nm r
def psErr (l : List Prt) : Int := if 8 < l.length then 1 else pErr [] l
@[go_sem] theorem str_app (a b : List UInt8) : str a ++ str b = str (a ++ b) := by
  apply ByteArray.ext
  simp [str, ByteArray.data_append]
theorem utf8_small (n : Nat) (h : n < 128) : Utf8.encode (n : Int) = str [UInt8.ofNat n] := by
  have : ∀ k : Fin 128, (Utf8.encode (k.val : Int)).data = (str [UInt8.ofNat k.val]).data := by decide +kernel
  exact ByteArray.ext (this ⟨n, h⟩)
/-- the bytes of one part, of parts, of a manifest -/
def mB (p : Prt) : List UInt8 := enc p.nm.length ++ p.nm ++ unh p.dg ++ enc p.sz.toNat
def mBs (l : List Prt) : List UInt8 := l.flatMap mB
def man (l : List Prt) : List UInt8 := [65, 77, 49] ++ enc l.length ++ mBs l
theorem mBs_step {l : List Prt} {k : Nat} (h : k < l.length) : mBs (l.take (k + 1)) = mBs (l.take k) ++ mB l[k] := by
  unfold mBs; rw [List.take_succ_eq_append_getElem h, List.flatMap_append]; simp
/-- what is known of a part that has passed -/
def Prt.fine (p : Prt) : Prop := nmErr p.nm = 0 ∧ 1 ≤ p.nm.length ∧ p.nm.length ≤ 12 ∧ p.dg.length = 64 ∧ p.dg.all isD = true ∧ 0 ≤ p.sz ∧ p.sz ≤ 300
theorem cErr_zero {m : List UInt8} (h : cErr m = 0) : m.length = 64 ∧ m.all isD = true := by
  unfold cErr at h
  split at h
  · omega
  · split at h
    · rename_i h1 h2; exact ⟨by omega, h2⟩
    · omega
theorem pErr_zero : ∀ (l : List Prt) (last : List UInt8), pErr last l = 0 → ∀ p ∈ l, p.fine
  | [], _, _, p, hp => by cases hp
  | q :: r, last, h, p, hp => by
    rw [pErr] at h
    split at h
    · rename_i h1; exact absurd h h1
    · rename_i h1
      split at h
      · omega
      · split at h
        · rename_i h2; exact absurd h h2
        · rename_i h2
          split at h
          · omega
          · rename_i h3
            have hq : q.fine := by
              have h1' : nmErr q.nm = 0 := by omega
              have h2' := cErr_zero (m := q.dg) (by omega)
              rcases nmErr_cases q.nm with h4 | h4 | ⟨_, h4, h5⟩
              · omega
              · omega
              · exact ⟨h1', h4, h5, h2'.1, h2'.2, by omega, by omega⟩
            rcases List.mem_cons.1 hp with rfl | hp
            · exact hq
            · exact pErr_zero r q.nm h p hp
theorem psErr_zero {l : List Prt} (h : psErr l = 0) : l.length ≤ 8 ∧ ∀ p ∈ l, p.fine := by
  unfold psErr at h
  split at h
  · omega
  · exact ⟨by omega, pErr_zero l [] h⟩
/-- the bytes and the error, whatever the parts -/
def mRes (l : List Prt) : List UInt8 := if psErr l = 0 then man l else []
theorem fine_good {p : Prt} (h : p.fine) : p.good := by
  obtain ⟨_, h1, h2, h3, h4, h5, h6⟩ := h
  refine ⟨by unfold maxLen; omega, by unfold maxLen; omega, ?_⟩
  simp [Lit.wf, IntKind.min, IntKind.max, IntKind.bits, IntKind.signed]
  omega
theorem mBs_cons (p : Prt) (l : List Prt) : mBs (p :: l) = mB p ++ mBs l := rfl
theorem mBs_append (l m : List Prt) : mBs (l ++ m) = mBs l ++ mBs m := by simp [mBs]
theorem mB_length {p : Prt} (h : p.fine) : (mB p).length ≤ 60 := by
  obtain ⟨_, h1, h2, h3, h4, h5, h6⟩ := h
  have hu : (unh p.dg).length = 32 := by rw [unh_length, h3]
  have e1 := enc_len5 (n := p.nm.length) (by omega)
  have e2 := enc_len5 (n := p.sz.toNat) (by omega)
  unfold mB
  simp only [List.length_append]
  omega
theorem mBs_length : ∀ l : List Prt, (∀ p ∈ l, p.fine) → (mBs l).length ≤ 60 * l.length
  | [], _ => by simp [mBs]
  | p :: l, h => by
    have h1 := mB_length (h p (by simp))
    have h2 := mBs_length l fun q hq => h q (by simp [hq])
    rw [mBs_cons, List.length_append, List.length_cons]; omega
theorem man_eq {l : List Prt} (h : l.length ≤ 8) : man l = [65, 77, 49, UInt8.ofNat l.length] ++ mBs l := by
  unfold man; rw [enc_small (by omega)]; rfl
theorem man_length {l : List Prt} (h : psErr l = 0) : 4 ≤ (man l).length ∧ (man l).length ≤ 500 := by
  obtain ⟨h1, h2⟩ := psErr_zero h
  have := mBs_length l h2
  rw [man_eq h1]
  simp only [List.length_append, List.length_cons, List.length_nil]
  omega
theorem pcs_one (l : List Prt) : ∀ y ∈ pcs l, y.oneCell' = true := by
  intro y hy
  obtain ⟨p, _, hp⟩ := List.mem_flatMap.1 hy
  simp only [Prt.cells, List.mem_cons, List.not_mem_nil, or_false] at hp
  rcases hp with rfl | rfl | rfl <;> rfl
end Go.Proofs.YtdbdigcpibmgjaaGreatDoor
/- Appending bytes that read as a list to a row of the call's own: what else is kept. Nothing of the program. -/
namespace Go.Proofs.YtdbdigcpibmgjaaGreatDoor
open Go.RowKit
theorem own_base {w : World} {base base' : Nat} {e : TypeId} {size : Nat} {v : Value} {n : Nat} {xs : List Value} (h : w.ownsRow base e size v n xs) (hb : base' ≤ base) : w.ownsRow base' e size v n xs :=
  ⟨h.1, h.2.imp id fun ⟨g, cap, cur, hv, hB, r⟩ => ⟨g, cap, cur, hv, Nat.le_trans hb hB, r⟩⟩
/-- what is known behind an append of m elements -/
def AppM (base : Nat) (e : TypeId) (size n m : Nat) (xs ys : List Value) (v : Value) (w0 : World) (v' : Value) (w' : World) : Prop :=
  w'.ownsRow base e size v' (n + m) (xs ++ ys) ∧ Below base w0 w' ∧ w0.heap.size ≤ w'.heap.size ∧ Hid (∀ k, k < w0.heap.size → v.ownBlock ≠ some k → v'.ownBlock ≠ some k ∧ w'.heap[k]? = w0.heap[k]?)
section
variable {P : Program}
theorem run_appendM {t ty e : TypeId} {base : Nat} {i : TypeInfo} {z : Value} {size bytes : Nat} (ht : P.underlying t = some (.slice e)) (hi : P.info? e = some i) (hz : i.zero = some z)
    (hsize : i.size = size) (hby : i.bytes = bytes) (hzs : z.cells.size = size) (hsz : 0 < size)
    (v : Value) (n : Nat) (xs : List Value) {w0 : World} (hown : w0.ownsRow base e size v n xs) {A : Option Addr} {m c : Nat} {ys : List Value} (hr : Rd w0 size A m c ys) (hA : A = none → c = 0) (hy : ∀ y ∈ ys, y.oneCell' = true)
    (hb : (n + m) * bytes ≤ 140737488355328) (hnm : n + m ≤ maxLen) (hbase : base ≤ w0.heap.size) :
    ∃ v' w', (Builtin.append_ #[t, t] ty #[v, .slice A m c]).run P w0 = .ok v' w' ∧ AppM base e size n m xs ys v w0 v' w' := by
  have spot : ∀ b off j, (⟨b, off, none⟩ : Addr).add j = ⟨b, off + j, none⟩ := fun b off j => by unfold Addr.add; split <;> simp_all
  rcases A with _ | ad
  · have hy0 : ys = [] := by
      rcases Nat.eq_zero_or_pos ys.length with h0 | h0
      · exact List.eq_nil_of_length_eq_zero h0
      · obtain ⟨_, _, h1, _⟩ := hr.2.2.2 h0; cases h1
    have hc0 := hA rfl
    subst hy0; subst hc0
    have hm0 : m = 0 := by have := hr.2.1; omega
    subst hm0
    have hrun := run_append_owned_none (P := P) (w := w0) base t ty e i size ht hi v n xs hown
    exact ⟨v, w0, hrun, by simpa using hown, Below.refl _ _, Nat.le_refl _, fun k _ hne => ⟨hne, rfl⟩⟩
  · have hc : ∀ j u, ys[j]? = some u → w0.cell? (ad.add j) = some u := fun j u hj => by
      obtain ⟨b, off, h1, hc⟩ := hr.at hj
      injection h1 with h1
      subst h1
      rw [spot]; exact hc
    obtain ⟨v', w', hrun, h2, h3, _, h5⟩ := run_append_own_at (P := P) w0 base t ty e i z size bytes ht hi hz hsize hby hzs hsz v n xs hown ad m c ys hr.1 hc hy hnm hb hbase
    refine ⟨v', w', hrun, h2, (Below.refl base w0).grown h3 hbase (fun k hk => (hown.lt k hk).1), h3.size, fun k hk hne => ⟨?_, h3.block k hk (fun e => hne e.symm)⟩⟩
    rcases h5 with e | e
    · rw [e]; exact hne
    · rw [e]; simp; omega
theorem wpList_appendM {ops : Array Oper} {rest : List Oper} {o : Oper} {a : Act} {Q : Exit → Act → World → Prop} (hgd : o.guard = none) (s x : Operand) (t : TypeId)
    (ho : o.op = .call { callee := .builtin .append, args := #[s, x], argTypes := #[t, t] })
    {base : Nat} {e : TypeId} {i : TypeInfo} {z : Value} {size bytes : Nat} (ht : P.underlying t = some (.slice e)) (hi : P.info? e = some i) (hz : i.zero = some z)
    (hsize : i.size = size) (hby : i.bytes = bytes) (hzs : z.cells.size = size) (hsz : 0 < size)
    (v : Value) (n : Nat) (xs : List Value) (hs : a.eval s = v) {w0 : World} (hown : w0.ownsRow base e size v n xs) {A : Option Addr} {m c : Nat} {ys : List Value} (hr : Rd w0 size A m c ys) (hA : A = none → c = 0) (hy : ∀ y ∈ ys, y.oneCell' = true)
    (hx : a.eval x = .slice A m c) (hb : (n + m) * bytes ≤ 140737488355328) (hnm : n + m ≤ maxLen) (hbase : base ≤ w0.heap.size)
    (h : ∀ v' w', AppM base e size n m xs ys v w0 v' w' → wpList P ops Q rest (a.put o.dst v') w') :
    wpList P ops Q (o :: rest) a w0 := by
  obtain ⟨v', w', hrun, h2⟩ := run_appendM (P := P) (ty := o.type) ht hi hz hsize hby hzs hsz v n xs hown hr hA hy hb hnm hbase
  refine wpList_plain hgd fun _ hK => ?_
  unfold Oper.wp execOp
  simp only [ho, resolve, invoke, builtin, Sem.run_bind, Sem.run_pure, Result.andThen_ok, List.map_toArray, List.map_cons, List.map_nil, hs, hx, hrun]
  exact hK _ _ (h v' w' h2)
/-- the same as a step of a region that draws its order -/
theorem step_appendM {ops : Array Oper} {o : Oper} {a : Act} {K : Act → World → Prop} {Q : Exit → Act → World → Prop} {E : Prop} (hgd : o.guard = none) (s x : Operand) (t : TypeId)
    (ho : o.op = .call { callee := .builtin .append, args := #[s, x], argTypes := #[t, t] })
    {base : Nat} {e : TypeId} {i : TypeInfo} {z : Value} {size bytes : Nat} (ht : P.underlying t = some (.slice e)) (hi : P.info? e = some i) (hz : i.zero = some z)
    (hsize : i.size = size) (hby : i.bytes = bytes) (hzs : z.cells.size = size) (hsz : 0 < size)
    (v : Value) (n : Nat) (xs : List Value) (hs : a.eval s = v) {w0 : World} (hown : w0.ownsRow base e size v n xs) {A : Option Addr} {m c : Nat} {ys : List Value} (hr : Rd w0 size A m c ys) (hA : A = none → c = 0) (hy : ∀ y ∈ ys, y.oneCell' = true)
    (hx : a.eval x = .slice A m c) (hb : (n + m) * bytes ≤ 140737488355328) (hnm : n + m ≤ maxLen) (hbase : base ≤ w0.heap.size)
    (h : ∀ v' w', AppM base e size n m xs ys v w0 v' w' → K (a.put o.dst v') w') :
    if Region.wanted o (yielded ops a.tmps) = true then o.wp P a w0 K Q else E := by
  have hw : Region.wanted o (yielded ops a.tmps) = true := by simp [Region.wanted, hgd]
  rw [if_pos hw]
  obtain ⟨v', w', hrun, h2⟩ := run_appendM (P := P) (ty := o.type) ht hi hz hsize hby hzs hsz v n xs hown hr hA hy hb hnm hbase
  unfold Oper.wp execOp
  simp only [ho, resolve, invoke, builtin, Sem.run_bind, Sem.run_pure, Result.andThen_ok, List.map_toArray, List.map_cons, List.map_nil, hs, hx, hrun]
  exact h v' w' h2
theorem strCells_list (m : List UInt8) : Lib.strCells (str m) = m.map bv8 := by unfold Lib.strCells str; simp; intro a _; rfl
/-- append of a string's bytes -/
theorem run_appendS {t u ty e : TypeId} {base : Nat} {i : TypeInfo} (ht : P.underlying t = some (.slice e)) (hu : P.underlying u = some .string) (hi : P.info? e = some i) (hz : i.zero = some (.int .u8 0))
    (hsize : i.size = 1) (hby : i.bytes = 1) (v : Value) (n : Nat) (xs : List Value) {w0 : World} (hown : w0.ownsRow base e 1 v n xs) (m : List UInt8)
    (hb : n + m.length ≤ 140737488355328) (hnm : n + m.length ≤ maxLen) (hbase : base ≤ w0.heap.size) :
    ∃ v' w', (Builtin.append_ #[t, u] ty #[v, .string (str m)]).run P w0 = .ok v' w' ∧ w'.ownsRow base e 1 v' (n + m.length) (xs ++ m.map bv8) ∧ Below base w0 w' ∧ w0.heap.size ≤ w'.heap.size ∧ Hid (∀ k, k < w0.heap.size → v.ownBlock ≠ some k → w'.heap[k]? = w0.heap[k]?) := by
  obtain ⟨v', w', hrun, h2, h3, _⟩ := Lib.run_append_own_string (P := P) w0 base t u ty e i ht hu hi hz hsize hby v n xs hown (str m) hnm hb hbase
  rw [strCells_list, str_size] at h2
  exact ⟨v', w', hrun, h2, (Below.refl base w0).grown h3 hbase (fun k hk => (hown.lt k hk).1), h3.size, fun k hk hne => h3.block k hk (fun e => hne e.symm)⟩
theorem step_appendS {ops : Array Oper} {o : Oper} {a : Act} {K : Act → World → Prop} {Q : Exit → Act → World → Prop} {E : Prop} (hgd : o.guard = none) (s x : Operand) (t u : TypeId)
    (ho : o.op = .call { callee := .builtin .append, args := #[s, x], argTypes := #[t, u] })
    {base : Nat} {e : TypeId} {i : TypeInfo} (ht : P.underlying t = some (.slice e)) (hu : P.underlying u = some .string) (hi : P.info? e = some i) (hz : i.zero = some (.int .u8 0))
    (hsize : i.size = 1) (hby : i.bytes = 1) (v : Value) (n : Nat) (xs : List Value) (hs : a.eval s = v) {w0 : World} (hown : w0.ownsRow base e 1 v n xs) (m : List UInt8)
    (hx : a.eval x = .string (str m)) (hb : n + m.length ≤ 140737488355328) (hnm : n + m.length ≤ maxLen) (hbase : base ≤ w0.heap.size)
    (h : ∀ v' w', w'.ownsRow base e 1 v' (n + m.length) (xs ++ m.map bv8) ∧ Below base w0 w' ∧ w0.heap.size ≤ w'.heap.size ∧ Hid (∀ k, k < w0.heap.size → v.ownBlock ≠ some k → w'.heap[k]? = w0.heap[k]?) → K (a.put o.dst v') w') :
    if Region.wanted o (yielded ops a.tmps) = true then o.wp P a w0 K Q else E := by
  have hw : Region.wanted o (yielded ops a.tmps) = true := by simp [Region.wanted, hgd]
  rw [if_pos hw]
  obtain ⟨v', w', hrun, h2⟩ := run_appendS (P := P) (ty := o.type) ht hu hi hz hsize hby v n xs hown m hb hnm hbase
  unfold Oper.wp execOp
  simp only [ho, resolve, invoke, builtin, Sem.run_bind, Sem.run_pure, Result.andThen_ok, List.map_toArray, List.map_cons, List.map_nil, hs, hx, hrun]
  exact h v' w' h2
/-- a slice of the heap that lies in no row appended to is kept -/
theorem Rd.appM {base : Nat} {e : TypeId} {size n m : Nat} {xs ys : List Value} {v v' : Value} {w0 w' : World} (h : AppM base e size n m xs ys v w0 v' w') {s2 n2 c2 : Nat} {A : Option Addr} {zs : List Value} (hr : Rd w0 s2 A n2 c2 zs) (hne : ∀ a : Addr, A = some a → v.ownBlock ≠ some a.block) : Rd w' s2 A n2 c2 zs := by
  obtain ⟨h1, h2, h3, h4⟩ := hr
  refine ⟨h1, h2, h3, fun hp => ?_⟩
  obtain ⟨b, off, rfl, hc⟩ := h4 hp
  refine ⟨b, off, rfl, fun j u hj => ?_⟩
  have hcj := hc j u hj
  have hb := (h.2.2.2.out b (cell_lt hcj) (hne _ rfl)).2
  unfold World.cell? at hcj ⊢
  simp only at hcj hb ⊢
  rw [hb]; exact hcj
end
theorem cell_heap {w w' : World} {b : Nat} (h : w'.heap[b]? = w.heap[b]?) (i : Nat) : w'.cell? ⟨b, i, none⟩ = w.cell? ⟨b, i, none⟩ := by
  unfold World.cell?; simp only; rw [h]
/-- a new row of bytes, marked as a string's or not, reads as the bytes -/
theorem new_rd (w : World) (e : TypeId) (l : List UInt8) (fz : Nat × Nat) (hl : l.length ≤ maxLen) : Rd (w.alloc (.cells (l.map bv8).toArray e fz)) 1 (some ⟨w.heap.size, 0, none⟩) l.length l.length (l.map bv8) := by
  refine ⟨by simp, Nat.le_refl _, hl, fun _ => ⟨w.heap.size, 0, rfl, fun j v hv => ?_⟩⟩
  rw [cell_of_row _ w.heap.size (0 + j) _ e fz (heap_alloc_new w _), Nat.zero_add, List.getElem?_toArray]
  exact hv
/-- append of bytes to bytes that leave no room: a new row -/
theorem wpList_appendG {P : Program} {w : World} {ops : Array Oper} {rest : List Oper} {o : Oper} {a : Act} {Q : Exit → Act → World → Prop}
    (hg : o.guard = none) (s x : Operand) (t : TypeId) (hop : o.op = Op.call { callee := Callee.builtin Builtin.append, args := #[s, x], argTypes := #[t, t] })
    {e : TypeId} {i : TypeInfo} {z : Value} {size bytes : Nat} (h1 : P.underlying t = some (.slice e)) (h2 : P.info? e = some i) (h3 : i.zero = some z) (h4 : i.size = size) (h5 : i.bytes = bytes) (h6 : z.cells.size = size) (h7 : 0 < size)
    {A : Option Addr} {n cap : Nat} {xs : List Value} (hs : a.eval s = .slice A n cap) (hr : Rd w size A n cap xs) (hA : A = none → cap = 0)
    {B : Option Addr} {m c : Nat} {ys : List Value} (hx : a.eval x = .slice B m c) (hy : Rd w size B m c ys) (h1c : ∀ u ∈ ys, u.oneCell' = true)
    (hfull : cap < n + m) (b1 : n + m ≤ maxLen) (b2 : (n + m) * bytes ≤ 140737488355328)
    (hK : ∀ v' w', w'.ownsRow w.heap.size e size v' (n + m) (xs ++ ys) ∧ Below w.heap.size w w' → wpList P ops Q rest (a.put o.dst v') w') :
    wpList P ops Q (o :: rest) a w := by
  have spot : ∀ b off j, (⟨b, off, none⟩ : Addr).add j = ⟨b, off + j, none⟩ := fun b off j => by unfold Addr.add; split <;> simp_all
  have hm : 0 < m := by have := hr.2.1; omega
  obtain ⟨b, off, rfl, hc⟩ := hy.2.2.2 (by rw [hy.1]; exact Nat.mul_pos hm h7)
  refine wpList_append_grows w hg s x t hop e i z size bytes h1 h2 h3 h4 h5 h6 h7 A n cap xs hs (fun q => ?_) hr.1 (fun b' q j u hj => ?_) ⟨b, off, none⟩ m c ys hx hy.1 (fun j u hj => by rw [spot]; exact hc j u hj) h1c hfull b1 b2 (fun v' w' r1 r2 => hK v' w' ⟨r1, (Below.refl _ w).grown r2 (Nat.le_refl _) (fun k hk => by cases hk)⟩)
  · have := hA q; have := hr.2.1; omega
  · obtain ⟨b2, o2, q2, hc2⟩ := hr.at hj
    rw [q] at q2
    injection q2 with q2
    subst q2
    rw [spot]; exact hc2
end Go.Proofs.YtdbdigcpibmgjaaGreatDoor

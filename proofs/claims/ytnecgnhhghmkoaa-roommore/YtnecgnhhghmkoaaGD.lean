/- Appending bytes that read as a list to a row of the call's own: what else is kept. Nothing of the program. -/
import Derived.Test.YtnecgnhhghmkoaaGA
import Derived.ArgAppend
import Derived.Lib.SlBytesConst
import Derived.Lib.AppendStr
import Derived.RegionTactic
namespace Go.Proofs.Ytnecgnhhghmkoaa
open Go.RowKit
theorem own_base {w : World} {base base' : Nat} {e : TypeId} {size : Nat} {v : Value} {n : Nat} {xs : List Value} (h : w.ownsRow base e size v n xs) (hb : base' ≤ base) : w.ownsRow base' e size v n xs :=
  ⟨h.1, h.2.imp id fun ⟨g, cap, cur, hv, hB, r⟩ => ⟨g, cap, cur, hv, Nat.le_trans hb hB, r⟩⟩
/-- what is known behind an append of m elements -/
def AppM (base : Nat) (e : TypeId) (size n m : Nat) (xs ys : List Value) (v : Value) (w0 : World) (v' : Value) (w' : World) : Prop :=
  w'.ownsRow base e size v' (n + m) (xs ++ ys) ∧ Below base w0 w' ∧ w0.heap.size ≤ w'.heap.size ∧ Hid (∀ k, k < w0.heap.size → v.ownBlock ≠ some k → v'.ownBlock ≠ some k ∧ w'.heap[k]? = w0.heap[k]?)
section
variable {P : Program}
theorem run_appendM {t ty e : TypeId} {base : Nat} {i : TypeInfo} {z : Value} {size bytes : Nat} (ht : P.underlying t = some (.slice e)) (hi : P.info? e = some i) (hz : i.zero = some z)
    (hsize : i.size = size) (hby : i.bytes = bytes) (hzs : z.cells.size = size) (hsz : 0 < size)
    (v : Value) (n : Nat) (xs : List Value) {w0 : World} (hown : w0.ownsRow base e size v n xs) {A : Option Addr} {m c : Nat} {ys : List Value} (hr : Rd w0 size A m c ys) (hA : A = none → c = 0) (hy : ∀ y ∈ ys, y.oneCell' = true)
    (hb : (n + m) * bytes ≤ 140737488355328) (hnm : n + m ≤ maxLen) (hbase : base ≤ w0.heap.size) :
    ∃ v' w', (Builtin.append_ #[t, t] ty #[v, .slice A m c]).run P w0 = .ok v' w' ∧ AppM base e size n m xs ys v w0 v' w' := by
  have spot : ∀ b off j, (⟨b, off, none⟩ : Addr).add j = ⟨b, off + j, none⟩ := fun b off j => by unfold Addr.add; split <;> simp_all
  rcases A with _ | ad
  · have hy0 : ys = [] := by
      rcases Nat.eq_zero_or_pos ys.length with h0 | h0
      · exact List.eq_nil_of_length_eq_zero h0
      · obtain ⟨_, _, h1, _⟩ := hr.2.2.2 h0; cases h1
    have hc0 := hA rfl
    subst hy0; subst hc0
    have hm0 : m = 0 := by have := hr.2.1; omega
    subst hm0
    have hrun := run_append_owned_none (P := P) (w := w0) base t ty e i size ht hi v n xs hown
    exact ⟨v, w0, hrun, by simpa using hown, Below.refl _ _, Nat.le_refl _, fun k _ hne => ⟨hne, rfl⟩⟩
  · have hc : ∀ j u, ys[j]? = some u → w0.cell? (ad.add j) = some u := fun j u hj => by
      obtain ⟨b, off, h1, hc⟩ := hr.at hj
      injection h1 with h1
      subst h1
      rw [spot]; exact hc
    obtain ⟨v', w', hrun, h2, h3, _, h5⟩ := run_append_own_at (P := P) w0 base t ty e i z size bytes ht hi hz hsize hby hzs hsz v n xs hown ad m c ys hr.1 hc hy hnm hb hbase
    refine ⟨v', w', hrun, h2, (Below.refl base w0).grown h3 hbase (fun k hk => (hown.lt k hk).1), h3.size, fun k hk hne => ⟨?_, h3.block k hk (fun e => hne e.symm)⟩⟩
    rcases h5 with e | e
    · rw [e]; exact hne
    · rw [e]; simp; omega
theorem wpList_appendM {ops : Array Oper} {rest : List Oper} {o : Oper} {a : Act} {Q : Exit → Act → World → Prop} (hgd : o.guard = none) (s x : Operand) (t : TypeId)
    (ho : o.op = .call { callee := .builtin .append, args := #[s, x], argTypes := #[t, t] })
    {base : Nat} {e : TypeId} {i : TypeInfo} {z : Value} {size bytes : Nat} (ht : P.underlying t = some (.slice e)) (hi : P.info? e = some i) (hz : i.zero = some z)
    (hsize : i.size = size) (hby : i.bytes = bytes) (hzs : z.cells.size = size) (hsz : 0 < size)
    (v : Value) (n : Nat) (xs : List Value) (hs : a.eval s = v) {w0 : World} (hown : w0.ownsRow base e size v n xs) {A : Option Addr} {m c : Nat} {ys : List Value} (hr : Rd w0 size A m c ys) (hA : A = none → c = 0) (hy : ∀ y ∈ ys, y.oneCell' = true)
    (hx : a.eval x = .slice A m c) (hb : (n + m) * bytes ≤ 140737488355328) (hnm : n + m ≤ maxLen) (hbase : base ≤ w0.heap.size)
    (h : ∀ v' w', AppM base e size n m xs ys v w0 v' w' → wpList P ops Q rest (a.put o.dst v') w') :
    wpList P ops Q (o :: rest) a w0 := by
  obtain ⟨v', w', hrun, h2⟩ := run_appendM (P := P) (ty := o.type) ht hi hz hsize hby hzs hsz v n xs hown hr hA hy hb hnm hbase
  refine wpList_plain hgd fun _ hK => ?_
  unfold Oper.wp execOp
  simp only [ho, resolve, invoke, builtin, Sem.run_bind, Sem.run_pure, Result.andThen_ok, List.map_toArray, List.map_cons, List.map_nil, hs, hx, hrun]
  exact hK _ _ (h v' w' h2)
/-- the same as a step of a region that draws its order -/
theorem step_appendM {ops : Array Oper} {o : Oper} {a : Act} {K : Act → World → Prop} {Q : Exit → Act → World → Prop} {E : Prop} (hgd : o.guard = none) (s x : Operand) (t : TypeId)
    (ho : o.op = .call { callee := .builtin .append, args := #[s, x], argTypes := #[t, t] })
    {base : Nat} {e : TypeId} {i : TypeInfo} {z : Value} {size bytes : Nat} (ht : P.underlying t = some (.slice e)) (hi : P.info? e = some i) (hz : i.zero = some z)
    (hsize : i.size = size) (hby : i.bytes = bytes) (hzs : z.cells.size = size) (hsz : 0 < size)
    (v : Value) (n : Nat) (xs : List Value) (hs : a.eval s = v) {w0 : World} (hown : w0.ownsRow base e size v n xs) {A : Option Addr} {m c : Nat} {ys : List Value} (hr : Rd w0 size A m c ys) (hA : A = none → c = 0) (hy : ∀ y ∈ ys, y.oneCell' = true)
    (hx : a.eval x = .slice A m c) (hb : (n + m) * bytes ≤ 140737488355328) (hnm : n + m ≤ maxLen) (hbase : base ≤ w0.heap.size)
    (h : ∀ v' w', AppM base e size n m xs ys v w0 v' w' → K (a.put o.dst v') w') :
    if Region.wanted o (yielded ops a.tmps) = true then o.wp P a w0 K Q else E := by
  have hw : Region.wanted o (yielded ops a.tmps) = true := by simp [Region.wanted, hgd]
  rw [if_pos hw]
  obtain ⟨v', w', hrun, h2⟩ := run_appendM (P := P) (ty := o.type) ht hi hz hsize hby hzs hsz v n xs hown hr hA hy hb hnm hbase
  unfold Oper.wp execOp
  simp only [ho, resolve, invoke, builtin, Sem.run_bind, Sem.run_pure, Result.andThen_ok, List.map_toArray, List.map_cons, List.map_nil, hs, hx, hrun]
  exact h v' w' h2
theorem strCells_list (m : List UInt8) : Lib.strCells (str m) = m.map bv8 := by unfold Lib.strCells str; simp; intro a _; rfl
/-- append of a string's bytes -/
theorem run_appendS {t u ty e : TypeId} {base : Nat} {i : TypeInfo} (ht : P.underlying t = some (.slice e)) (hu : P.underlying u = some .string) (hi : P.info? e = some i) (hz : i.zero = some (.int .u8 0))
    (hsize : i.size = 1) (hby : i.bytes = 1) (v : Value) (n : Nat) (xs : List Value) {w0 : World} (hown : w0.ownsRow base e 1 v n xs) (m : List UInt8)
    (hb : n + m.length ≤ 140737488355328) (hnm : n + m.length ≤ maxLen) (hbase : base ≤ w0.heap.size) :
    ∃ v' w', (Builtin.append_ #[t, u] ty #[v, .string (str m)]).run P w0 = .ok v' w' ∧ w'.ownsRow base e 1 v' (n + m.length) (xs ++ m.map bv8) ∧ Below base w0 w' ∧ w0.heap.size ≤ w'.heap.size ∧ Hid (∀ k, k < w0.heap.size → v.ownBlock ≠ some k → w'.heap[k]? = w0.heap[k]?) := by
  obtain ⟨v', w', hrun, h2, h3, _⟩ := Lib.run_append_own_string (P := P) w0 base t u ty e i ht hu hi hz hsize hby v n xs hown (str m) hnm hb hbase
  rw [strCells_list, str_size] at h2
  exact ⟨v', w', hrun, h2, (Below.refl base w0).grown h3 hbase (fun k hk => (hown.lt k hk).1), h3.size, fun k hk hne => h3.block k hk (fun e => hne e.symm)⟩
theorem step_appendS {ops : Array Oper} {o : Oper} {a : Act} {K : Act → World → Prop} {Q : Exit → Act → World → Prop} {E : Prop} (hgd : o.guard = none) (s x : Operand) (t u : TypeId)
    (ho : o.op = .call { callee := .builtin .append, args := #[s, x], argTypes := #[t, u] })
    {base : Nat} {e : TypeId} {i : TypeInfo} (ht : P.underlying t = some (.slice e)) (hu : P.underlying u = some .string) (hi : P.info? e = some i) (hz : i.zero = some (.int .u8 0))
    (hsize : i.size = 1) (hby : i.bytes = 1) (v : Value) (n : Nat) (xs : List Value) (hs : a.eval s = v) {w0 : World} (hown : w0.ownsRow base e 1 v n xs) (m : List UInt8)
    (hx : a.eval x = .string (str m)) (hb : n + m.length ≤ 140737488355328) (hnm : n + m.length ≤ maxLen) (hbase : base ≤ w0.heap.size)
    (h : ∀ v' w', w'.ownsRow base e 1 v' (n + m.length) (xs ++ m.map bv8) ∧ Below base w0 w' ∧ w0.heap.size ≤ w'.heap.size ∧ Hid (∀ k, k < w0.heap.size → v.ownBlock ≠ some k → w'.heap[k]? = w0.heap[k]?) → K (a.put o.dst v') w') :
    if Region.wanted o (yielded ops a.tmps) = true then o.wp P a w0 K Q else E := by
  have hw : Region.wanted o (yielded ops a.tmps) = true := by simp [Region.wanted, hgd]
  rw [if_pos hw]
  obtain ⟨v', w', hrun, h2⟩ := run_appendS (P := P) (ty := o.type) ht hu hi hz hsize hby v n xs hown m hb hnm hbase
  unfold Oper.wp execOp
  simp only [ho, resolve, invoke, builtin, Sem.run_bind, Sem.run_pure, Result.andThen_ok, List.map_toArray, List.map_cons, List.map_nil, hs, hx, hrun]
  exact h v' w' h2
/-- a slice of the heap that lies in no row appended to is kept -/
theorem Rd.appM {base : Nat} {e : TypeId} {size n m : Nat} {xs ys : List Value} {v v' : Value} {w0 w' : World} (h : AppM base e size n m xs ys v w0 v' w') {s2 n2 c2 : Nat} {A : Option Addr} {zs : List Value} (hr : Rd w0 s2 A n2 c2 zs) (hne : ∀ a : Addr, A = some a → v.ownBlock ≠ some a.block) : Rd w' s2 A n2 c2 zs := by
  obtain ⟨h1, h2, h3, h4⟩ := hr
  refine ⟨h1, h2, h3, fun hp => ?_⟩
  obtain ⟨b, off, rfl, hc⟩ := h4 hp
  refine ⟨b, off, rfl, fun j u hj => ?_⟩
  have hcj := hc j u hj
  have hb := (h.2.2.2.out b (cell_lt hcj) (hne _ rfl)).2
  unfold World.cell? at hcj ⊢
  simp only at hcj hb ⊢
  rw [hb]; exact hcj
end
theorem cell_heap {w w' : World} {b : Nat} (h : w'.heap[b]? = w.heap[b]?) (i : Nat) : w'.cell? ⟨b, i, none⟩ = w.cell? ⟨b, i, none⟩ := by
  unfold World.cell?; simp only; rw [h]
/-- a new row of bytes, marked as a string's or not, reads as the bytes -/
theorem new_rd (w : World) (e : TypeId) (l : List UInt8) (fz : Nat × Nat) (hl : l.length ≤ maxLen) : Rd (w.alloc (.cells (l.map bv8).toArray e fz)) 1 (some ⟨w.heap.size, 0, none⟩) l.length l.length (l.map bv8) := by
  refine ⟨by simp, Nat.le_refl _, hl, fun _ => ⟨w.heap.size, 0, rfl, fun j v hv => ?_⟩⟩
  rw [cell_of_row _ w.heap.size (0 + j) _ e fz (heap_alloc_new w _), Nat.zero_add, List.getElem?_toArray]
  exact hv
/-- append of bytes to bytes that leave no room: a new row -/
theorem wpList_appendG {P : Program} {w : World} {ops : Array Oper} {rest : List Oper} {o : Oper} {a : Act} {Q : Exit → Act → World → Prop}
    (hg : o.guard = none) (s x : Operand) (t : TypeId) (hop : o.op = Op.call { callee := Callee.builtin Builtin.append, args := #[s, x], argTypes := #[t, t] })
    {e : TypeId} {i : TypeInfo} {z : Value} {size bytes : Nat} (h1 : P.underlying t = some (.slice e)) (h2 : P.info? e = some i) (h3 : i.zero = some z) (h4 : i.size = size) (h5 : i.bytes = bytes) (h6 : z.cells.size = size) (h7 : 0 < size)
    {A : Option Addr} {n cap : Nat} {xs : List Value} (hs : a.eval s = .slice A n cap) (hr : Rd w size A n cap xs) (hA : A = none → cap = 0)
    {B : Option Addr} {m c : Nat} {ys : List Value} (hx : a.eval x = .slice B m c) (hy : Rd w size B m c ys) (h1c : ∀ u ∈ ys, u.oneCell' = true)
    (hfull : cap < n + m) (b1 : n + m ≤ maxLen) (b2 : (n + m) * bytes ≤ 140737488355328)
    (hK : ∀ v' w', w'.ownsRow w.heap.size e size v' (n + m) (xs ++ ys) ∧ Below w.heap.size w w' → wpList P ops Q rest (a.put o.dst v') w') :
    wpList P ops Q (o :: rest) a w := by
  have spot : ∀ b off j, (⟨b, off, none⟩ : Addr).add j = ⟨b, off + j, none⟩ := fun b off j => by unfold Addr.add; split <;> simp_all
  have hm : 0 < m := by have := hr.2.1; omega
  obtain ⟨b, off, rfl, hc⟩ := hy.2.2.2 (by rw [hy.1]; exact Nat.mul_pos hm h7)
  refine wpList_append_grows w hg s x t hop e i z size bytes h1 h2 h3 h4 h5 h6 h7 A n cap xs hs (fun q => ?_) hr.1 (fun b' q j u hj => ?_) ⟨b, off, none⟩ m c ys hx hy.1 (fun j u hj => by rw [spot]; exact hc j u hj) h1c hfull b1 b2 (fun v' w' r1 r2 => hK v' w' ⟨r1, (Below.refl _ w).grown r2 (Nat.le_refl _) (fun k hk => by cases hk)⟩)
  · have := hA q; have := hr.2.1; omega
  · obtain ⟨b2, o2, q2, hc2⟩ := hr.at hj
    rw [q] at q2
    injection q2 with q2
    subst q2
    rw [spot]; exact hc2
end Go.Proofs.Ytnecgnhhghmkoaa

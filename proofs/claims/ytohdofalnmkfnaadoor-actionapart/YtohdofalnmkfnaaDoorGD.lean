/- Texts that belong together: what the functions of the program and of the statements return. -/
import Derived.Test.YtohdofalnmkfnaaDoorGA
import Derived.ArgAppend
import Derived.Lib.SlBytesConst
import Derived.Lib.AppendStr
import Derived.RegionTactic
import Derived.Test.YtohdofalnmkfnaaDoorGC
import Derived.Test.YtohdofalnmkfnaaDoorGB
/- Appending bytes that read as a list to a row of the call's own: what else is kept. Nothing of the program. -/
namespace Go.Proofs.YtohdofalnmkfnaaDoor
open Go.RowKit
theorem own_base {w : World} {base base' : Nat} {e : TypeId} {size : Nat} {v : Value} {n : Nat} {xs : List Value} (h : w.ownsRow base e size v n xs) (hb : base' ≤ base) : w.ownsRow base' e size v n xs :=
  ⟨h.1, h.2.imp id fun ⟨g, cap, cur, hv, hB, r⟩ => ⟨g, cap, cur, hv, Nat.le_trans hb hB, r⟩⟩
/-- what is known behind an append of m elements -/
def AppM (base : Nat) (e : TypeId) (size n m : Nat) (xs ys : List Value) (v : Value) (w0 : World) (v' : Value) (w' : World) : Prop :=
  w'.ownsRow base e size v' (n + m) (xs ++ ys) ∧ Below base w0 w' ∧ w0.heap.size ≤ w'.heap.size ∧ Hid (∀ k, k < w0.heap.size → v.ownBlock ≠ some k → v'.ownBlock ≠ some k ∧ w'.heap[k]? = w0.heap[k]?)
section
variable {P : Program}
theorem run_appendM {t ty e : TypeId} {base : Nat} {i : TypeInfo} {z : Value} {size bytes : Nat} (ht : P.underlying t = some (.slice e)) (hi : P.info? e = some i) (hz : i.zero = some z)
    (hsize : i.size = size) (hby : i.bytes = bytes) (hzs : z.cells.size = size) (hsz : 0 < size)
    (v : Value) (n : Nat) (xs : List Value) {w0 : World} (hown : w0.ownsRow base e size v n xs) {A : Option Addr} {m c : Nat} {ys : List Value} (hr : Rd w0 size A m c ys) (hA : A = none → c = 0) (hy : ∀ y ∈ ys, y.oneCell' = true)
    (hb : (n + m) * bytes ≤ 140737488355328) (hnm : n + m ≤ maxLen) (hbase : base ≤ w0.heap.size) :
    ∃ v' w', (Builtin.append_ #[t, t] ty #[v, .slice A m c]).run P w0 = .ok v' w' ∧ AppM base e size n m xs ys v w0 v' w' := by
  have spot : ∀ b off j, (⟨b, off, none⟩ : Addr).add j = ⟨b, off + j, none⟩ := fun b off j => by unfold Addr.add; split <;> simp_all
  rcases A with _ | ad
  · have hy0 : ys = [] := by
      rcases Nat.eq_zero_or_pos ys.length with h0 | h0
      · exact List.eq_nil_of_length_eq_zero h0
      · obtain ⟨_, _, h1, _⟩ := hr.2.2.2 h0; cases h1
    have hc0 := hA rfl
    subst hy0; subst hc0
    have hm0 : m = 0 := by have := hr.2.1; omega
    subst hm0
    have hrun := run_append_owned_none (P := P) (w := w0) base t ty e i size ht hi v n xs hown
    exact ⟨v, w0, hrun, by simpa using hown, Below.refl _ _, Nat.le_refl _, fun k _ hne => ⟨hne, rfl⟩⟩
  · have hc : ∀ j u, ys[j]? = some u → w0.cell? (ad.add j) = some u := fun j u hj => by
      obtain ⟨b, off, h1, hc⟩ := hr.at hj
      injection h1 with h1
      subst h1
      rw [spot]; exact hc
    obtain ⟨v', w', hrun, h2, h3, _, h5⟩ := run_append_own_at (P := P) w0 base t ty e i z size bytes ht hi hz hsize hby hzs hsz v n xs hown ad m c ys hr.1 hc hy hnm hb hbase
    refine ⟨v', w', hrun, h2, (Below.refl base w0).grown h3 hbase (fun k hk => (hown.lt k hk).1), h3.size, fun k hk hne => ⟨?_, h3.block k hk (fun e => hne e.symm)⟩⟩
    rcases h5 with e | e
    · rw [e]; exact hne
    · rw [e]; simp; omega
theorem wpList_appendM {ops : Array Oper} {rest : List Oper} {o : Oper} {a : Act} {Q : Exit → Act → World → Prop} (hgd : o.guard = none) (s x : Operand) (t : TypeId)
    (ho : o.op = .call { callee := .builtin .append, args := #[s, x], argTypes := #[t, t] })
    {base : Nat} {e : TypeId} {i : TypeInfo} {z : Value} {size bytes : Nat} (ht : P.underlying t = some (.slice e)) (hi : P.info? e = some i) (hz : i.zero = some z)
    (hsize : i.size = size) (hby : i.bytes = bytes) (hzs : z.cells.size = size) (hsz : 0 < size)
    (v : Value) (n : Nat) (xs : List Value) (hs : a.eval s = v) {w0 : World} (hown : w0.ownsRow base e size v n xs) {A : Option Addr} {m c : Nat} {ys : List Value} (hr : Rd w0 size A m c ys) (hA : A = none → c = 0) (hy : ∀ y ∈ ys, y.oneCell' = true)
    (hx : a.eval x = .slice A m c) (hb : (n + m) * bytes ≤ 140737488355328) (hnm : n + m ≤ maxLen) (hbase : base ≤ w0.heap.size)
    (h : ∀ v' w', AppM base e size n m xs ys v w0 v' w' → wpList P ops Q rest (a.put o.dst v') w') :
    wpList P ops Q (o :: rest) a w0 := by
  obtain ⟨v', w', hrun, h2⟩ := run_appendM (P := P) (ty := o.type) ht hi hz hsize hby hzs hsz v n xs hown hr hA hy hb hnm hbase
  refine wpList_plain hgd fun _ hK => ?_
  unfold Oper.wp execOp
  simp only [ho, resolve, invoke, builtin, Sem.run_bind, Sem.run_pure, Result.andThen_ok, List.map_toArray, List.map_cons, List.map_nil, hs, hx, hrun]
  exact hK _ _ (h v' w' h2)
/-- the same as a step of a region that draws its order -/
theorem step_appendM {ops : Array Oper} {o : Oper} {a : Act} {K : Act → World → Prop} {Q : Exit → Act → World → Prop} {E : Prop} (hgd : o.guard = none) (s x : Operand) (t : TypeId)
    (ho : o.op = .call { callee := .builtin .append, args := #[s, x], argTypes := #[t, t] })
    {base : Nat} {e : TypeId} {i : TypeInfo} {z : Value} {size bytes : Nat} (ht : P.underlying t = some (.slice e)) (hi : P.info? e = some i) (hz : i.zero = some z)
    (hsize : i.size = size) (hby : i.bytes = bytes) (hzs : z.cells.size = size) (hsz : 0 < size)
    (v : Value) (n : Nat) (xs : List Value) (hs : a.eval s = v) {w0 : World} (hown : w0.ownsRow base e size v n xs) {A : Option Addr} {m c : Nat} {ys : List Value} (hr : Rd w0 size A m c ys) (hA : A = none → c = 0) (hy : ∀ y ∈ ys, y.oneCell' = true)
    (hx : a.eval x = .slice A m c) (hb : (n + m) * bytes ≤ 140737488355328) (hnm : n + m ≤ maxLen) (hbase : base ≤ w0.heap.size)
    (h : ∀ v' w', AppM base e size n m xs ys v w0 v' w' → K (a.put o.dst v') w') :
    if Region.wanted o (yielded ops a.tmps) = true then o.wp P a w0 K Q else E := by
  have hw : Region.wanted o (yielded ops a.tmps) = true := by simp [Region.wanted, hgd]
  rw [if_pos hw]
  obtain ⟨v', w', hrun, h2⟩ := run_appendM (P := P) (ty := o.type) ht hi hz hsize hby hzs hsz v n xs hown hr hA hy hb hnm hbase
  unfold Oper.wp execOp
  simp only [ho, resolve, invoke, builtin, Sem.run_bind, Sem.run_pure, Result.andThen_ok, List.map_toArray, List.map_cons, List.map_nil, hs, hx, hrun]
  exact h v' w' h2
theorem strCells_list (m : List UInt8) : Lib.strCells (str m) = m.map bv8 := by unfold Lib.strCells str; simp; intro a _; rfl
/-- append of a string's bytes -/
theorem run_appendS {t u ty e : TypeId} {base : Nat} {i : TypeInfo} (ht : P.underlying t = some (.slice e)) (hu : P.underlying u = some .string) (hi : P.info? e = some i) (hz : i.zero = some (.int .u8 0))
    (hsize : i.size = 1) (hby : i.bytes = 1) (v : Value) (n : Nat) (xs : List Value) {w0 : World} (hown : w0.ownsRow base e 1 v n xs) (m : List UInt8)
    (hb : n + m.length ≤ 140737488355328) (hnm : n + m.length ≤ maxLen) (hbase : base ≤ w0.heap.size) :
    ∃ v' w', (Builtin.append_ #[t, u] ty #[v, .string (str m)]).run P w0 = .ok v' w' ∧ w'.ownsRow base e 1 v' (n + m.length) (xs ++ m.map bv8) ∧ Below base w0 w' ∧ w0.heap.size ≤ w'.heap.size ∧ Hid (∀ k, k < w0.heap.size → v.ownBlock ≠ some k → w'.heap[k]? = w0.heap[k]?) := by
  obtain ⟨v', w', hrun, h2, h3, _⟩ := Lib.run_append_own_string (P := P) w0 base t u ty e i ht hu hi hz hsize hby v n xs hown (str m) hnm hb hbase
  rw [strCells_list, str_size] at h2
  exact ⟨v', w', hrun, h2, (Below.refl base w0).grown h3 hbase (fun k hk => (hown.lt k hk).1), h3.size, fun k hk hne => h3.block k hk (fun e => hne e.symm)⟩
theorem step_appendS {ops : Array Oper} {o : Oper} {a : Act} {K : Act → World → Prop} {Q : Exit → Act → World → Prop} {E : Prop} (hgd : o.guard = none) (s x : Operand) (t u : TypeId)
    (ho : o.op = .call { callee := .builtin .append, args := #[s, x], argTypes := #[t, u] })
    {base : Nat} {e : TypeId} {i : TypeInfo} (ht : P.underlying t = some (.slice e)) (hu : P.underlying u = some .string) (hi : P.info? e = some i) (hz : i.zero = some (.int .u8 0))
    (hsize : i.size = 1) (hby : i.bytes = 1) (v : Value) (n : Nat) (xs : List Value) (hs : a.eval s = v) {w0 : World} (hown : w0.ownsRow base e 1 v n xs) (m : List UInt8)
    (hx : a.eval x = .string (str m)) (hb : n + m.length ≤ 140737488355328) (hnm : n + m.length ≤ maxLen) (hbase : base ≤ w0.heap.size)
    (h : ∀ v' w', w'.ownsRow base e 1 v' (n + m.length) (xs ++ m.map bv8) ∧ Below base w0 w' ∧ w0.heap.size ≤ w'.heap.size ∧ Hid (∀ k, k < w0.heap.size → v.ownBlock ≠ some k → w'.heap[k]? = w0.heap[k]?) → K (a.put o.dst v') w') :
    if Region.wanted o (yielded ops a.tmps) = true then o.wp P a w0 K Q else E := by
  have hw : Region.wanted o (yielded ops a.tmps) = true := by simp [Region.wanted, hgd]
  rw [if_pos hw]
  obtain ⟨v', w', hrun, h2⟩ := run_appendS (P := P) (ty := o.type) ht hu hi hz hsize hby v n xs hown m hb hnm hbase
  unfold Oper.wp execOp
  simp only [ho, resolve, invoke, builtin, Sem.run_bind, Sem.run_pure, Result.andThen_ok, List.map_toArray, List.map_cons, List.map_nil, hs, hx, hrun]
  exact h v' w' h2
/-- a slice of the heap that lies in no row appended to is kept -/
theorem Rd.appM {base : Nat} {e : TypeId} {size n m : Nat} {xs ys : List Value} {v v' : Value} {w0 w' : World} (h : AppM base e size n m xs ys v w0 v' w') {s2 n2 c2 : Nat} {A : Option Addr} {zs : List Value} (hr : Rd w0 s2 A n2 c2 zs) (hne : ∀ a : Addr, A = some a → v.ownBlock ≠ some a.block) : Rd w' s2 A n2 c2 zs := by
  obtain ⟨h1, h2, h3, h4⟩ := hr
  refine ⟨h1, h2, h3, fun hp => ?_⟩
  obtain ⟨b, off, rfl, hc⟩ := h4 hp
  refine ⟨b, off, rfl, fun j u hj => ?_⟩
  have hcj := hc j u hj
  have hb := (h.2.2.2.out b (cell_lt hcj) (hne _ rfl)).2
  unfold World.cell? at hcj ⊢
  simp only at hcj hb ⊢
  rw [hb]; exact hcj
end
/-- a new row of bytes, marked as a string's or not, reads as the bytes -/
theorem new_rd (w : World) (e : TypeId) (l : List UInt8) (fz : Nat × Nat) (hl : l.length ≤ maxLen) : Rd (w.alloc (.cells (l.map bv8).toArray e fz)) 1 (some ⟨w.heap.size, 0, none⟩) l.length l.length (l.map bv8) := by
  refine ⟨by simp, Nat.le_refl _, hl, fun _ => ⟨w.heap.size, 0, rfl, fun j v hv => ?_⟩⟩
  rw [cell_of_row _ w.heap.size (0 + j) _ e fz (heap_alloc_new w _), Nat.zero_add, List.getElem?_toArray]
  exact hv
/-- append of bytes to bytes that leave no room: a new row -/
theorem wpList_appendG {P : Program} {w : World} {ops : Array Oper} {rest : List Oper} {o : Oper} {a : Act} {Q : Exit → Act → World → Prop}
    (hg : o.guard = none) (s x : Operand) (t : TypeId) (hop : o.op = Op.call { callee := Callee.builtin Builtin.append, args := #[s, x], argTypes := #[t, t] })
    {e : TypeId} {i : TypeInfo} {z : Value} {size bytes : Nat} (h1 : P.underlying t = some (.slice e)) (h2 : P.info? e = some i) (h3 : i.zero = some z) (h4 : i.size = size) (h5 : i.bytes = bytes) (h6 : z.cells.size = size) (h7 : 0 < size)
    {A : Option Addr} {n cap : Nat} {xs : List Value} (hs : a.eval s = .slice A n cap) (hr : Rd w size A n cap xs) (hA : A = none → cap = 0)
    {B : Option Addr} {m c : Nat} {ys : List Value} (hx : a.eval x = .slice B m c) (hy : Rd w size B m c ys) (h1c : ∀ u ∈ ys, u.oneCell' = true)
    (hfull : cap < n + m) (b1 : n + m ≤ maxLen) (b2 : (n + m) * bytes ≤ 140737488355328)
    (hK : ∀ v' w', w'.ownsRow w.heap.size e size v' (n + m) (xs ++ ys) ∧ Below w.heap.size w w' → wpList P ops Q rest (a.put o.dst v') w') :
    wpList P ops Q (o :: rest) a w := by
  have spot : ∀ b off j, (⟨b, off, none⟩ : Addr).add j = ⟨b, off + j, none⟩ := fun b off j => by unfold Addr.add; split <;> simp_all
  have hm : 0 < m := by have := hr.2.1; omega
  obtain ⟨b, off, rfl, hc⟩ := hy.2.2.2 (by rw [hy.1]; exact Nat.mul_pos hm h7)
  refine wpList_append_grows w hg s x t hop e i z size bytes h1 h2 h3 h4 h5 h6 h7 A n cap xs hs (fun q => ?_) hr.1 (fun b' q j u hj => ?_) ⟨b, off, none⟩ m c ys hx hy.1 (fun j u hj => by rw [spot]; exact hc j u hj) h1c hfull b1 b2 (fun v' w' r1 r2 => hK v' w' ⟨r1, (Below.refl _ w).grown r2 (Nat.le_refl _) (fun k hk => by cases hk)⟩)
  · have := hA q; have := hr.2.1; omega
  · obtain ⟨b2, o2, q2, hc2⟩ := hr.at hj
    rw [q] at q2
    injection q2 with q2
    subst q2
    rw [spot]; exact hc2
end Go.Proofs.YtohdofalnmkfnaaDoor
/- The program's Name, checkPart and Check. -/
namespace Go.Proofs.YtohdofalnmkfnaaDoor
open Go.RowKit
set_option maxRecDepth 100000 in
set_option maxHeartbeats 400000 in
theorem mname_size (m : List UInt8) (w : World) (h : m.length = 0 ∨ 12 < m.length) (hm : m.length ≤ maxLen) :
    Calls Tryd.prog 64 #[.string (str m)] w fun e w' => e = .returned (.int .i64 1) ∧ w = w' := by
  unfold maxLen at hm
  by_cases h0 : m.length = 0
  · obtain rfl : m = [] := List.eq_nil_of_length_eq_zero h0
    go_enter Tryd.func64, Tryd.ntmps64
    go_wp2
    go_ret
    exact ⟨rfl, rfl⟩
  · have hd0 : decide ((m.length : Int) < 1) = false := by simp; omega
    have hd : decide (12 < (m.length : Int)) = true := by simp; omega
    go_enter Tryd.func64, Tryd.ntmps64
    go_wp2
    go_ret
    exact ⟨rfl, rfl⟩
set_option maxRecDepth 100000 in
set_option maxHeartbeats 400000 in
theorem mname_in (m : List UInt8) (w : World) (h1 : 1 ≤ m.length) (h2 : m.length ≤ 12) :
    Calls Tryd.prog 64 #[.string (str m)] w fun e w' => e = .returned (.int .i64 (nmErr m)) ∧ w = w' := by
  have HQ : Hid (nmErr m = if m.all okN then 0 else 3) := if_neg (by omega)
  have hd0 : decide ((m.length : Int) < 1) = false := by simp; omega
  have hd : decide (12 < (m.length : Int)) = false := by simp; omega
  go_enter Tryd.func64, Tryd.ntmps64
  go_wp2
  go_loop [3, 14] (fun _ i => ∃ k : Nat, k ≤ m.length ∧ i = .int .i64 k ∧ Hid ((m.take k).all okN = true)) (fun _ i => m.length - (intOf i).toNat)
  case atStart => exact ⟨0, Nat.zero_le _, rfl, rfl⟩
  case round =>
    obtain ⟨k, hk, rfl, HA⟩ := hrel
    by_cases hlt : k < m.length
    · have hs := all_step (f := okN) hlt
      rw [HA.out, Bool.true_and] at hs
      have HS := Lib.hid hs
      have hfail : okN m[k] = false → Hid (m.all okN = false) := fun hf => by
        show _ = _
        rw [Bool.eq_false_iff]
        intro h
        rw [List.all_eq_true.1 h _ (List.getElem_mem hlt)] at hf
        cases hf
      have HF := Lib.hid hfail
      clear hs hfail
      by_cases hlo : y8 m[k] < 33
      · have d1 : decide (y8 m[k] < 33) = true := by simpa using hlo
        have HE := HF.out (by unfold okN; simp; omega)
        clear hlo HF
        go_wp2
        go_ret
        exact ⟨ret_int (by rw [HQ.out, HE.out]; rfl), rfl⟩
      · have d1 : decide (y8 m[k] < 33) = false := by simpa using hlo
        by_cases hhi : 126 < y8 m[k]
        · have d2 : decide (126 < y8 m[k]) = true := by simpa using hhi
          have HE := HF.out (by unfold okN; simp; omega)
          go_wp2
          go_ret
          exact ⟨ret_int (by rw [HQ.out, HE.out]; rfl), rfl⟩
        · have d2 : decide (126 < y8 m[k]) = false := by simpa using hhi
          have HO : Hid (okN m[k] = true) := by show _ = _; unfold okN; simp; omega
          go_wp2
          go_round
          case rel => exact ⟨k + 1, by omega, by go_num, HS.out.trans HO.out⟩
          case measure => simp [intOf] <;> omega
    · have hd2 : decide ((k : Int) < (m.length : Int)) = false := by simp; omega
      have HE : Hid (m.all okN = true) := by
        show _ = _
        have := HA.out
        rwa [List.take_of_length_le (by omega)] at this
      go_wp2
      go_ret
      exact ⟨ret_int (by rw [HQ.out, HE.out]; rfl), rfl⟩
theorem mname_eq (m : List UInt8) (w : World) (hm : m.length ≤ maxLen) :
    Calls Tryd.prog 64 #[.string (str m)] w fun e w' => e = .returned (.int .i64 (nmErr m)) ∧ w = w' := by
  by_cases h : m.length = 0 ∨ 12 < m.length
  · rw [show nmErr m = 1 from if_pos h]
    exact mname_size m w h hm
  · exact mname_in m w (by omega) (by omega)
theorem mname_any (m : List UInt8) (w : World) (hm : m.length ≤ maxLen) :
    Calls Tryd.prog 64 #[.string (str m)] w fun e w' => e = .returned (.int .i64 (nmErr m)) ∧ Below w.heap.size w w' := by
  refine (mname_eq m w hm).mono ?_
  rintro e w' ⟨rfl, rfl⟩
  exact ⟨rfl, Below.refl _ _⟩
/-- the error of one part behind the name 'm' -/
def kErr (m : List UInt8) (p : Prt) : Int :=
  if nmErr p.nm ≠ 0 then nmErr p.nm else if nle p.nm m = true then 6 else if cErr p.dg ≠ 0 then cErr p.dg else if p.sz < 0 ∨ 300 < p.sz then 4 else 0
theorem pErr_k (m : List UInt8) (p : Prt) (r : List Prt) : pErr m (p :: r) = if kErr m p ≠ 0 then kErr m p else pErr p.nm r := by
  rw [pErr, kErr]
  split
  · rfl
  · split
    · rw [if_pos (by omega)]
    · split
      · rfl
      · split
        · rw [if_pos (by omega)]
        · rw [if_neg (by omega)]
set_option maxRecDepth 100000 in
set_option maxHeartbeats 1000000 in
theorem checkPart_any (nm dg : List UInt8) (sz : Int) (m : List UInt8) (w : World) (g0 : nm.length ≤ maxLen) (g1 : dg.length ≤ maxLen) :
    Calls Tryd.prog 54 #[.agg #[.string (str nm), .string (str dg), .int .i64 sz], .string (str m)] w fun e w' => e = .returned (.int .i64 (kErr m ⟨nm, dg, sz⟩)) ∧ Below w.heap.size w w' := by
  obtain ⟨er, her⟩ : ∃ er, Hid (kErr m ⟨nm, dg, sz⟩ = er) := ⟨_, rfl⟩
  rw [her.out]
  have hal := (Below.refl w.heap.size w).alloc (Nat.le_refl _) (.cells #[.string (str nm), .string (str dg), .int .i64 sz] 38)
  have hbk := Blk.new w 38 [.string (str nm), .string (str dg), .int .i64 sz]
  have e0 := hbk.cell 0
  have e1 := hbk.cell 1
  have e2 := hbk.cell 2
  simp only [List.getElem?_cons_succ, List.getElem?_cons_zero] at e0 e1 e2
  go_enter Tryd.func54, Tryd.ntmps54
  go_wp2_with fail
  with_reducible refine (mname_eq _ _ g0).mono ?_
  rintro e w1 ⟨rfl, rfl⟩
  by_cases hn : nmErr nm = 0
  · have n1 : (nmErr nm != 0) = false := by rw [bne_eq_false_iff_eq]; exact hn
    have HN := Lib.hid hn
    clear hn hbk
    by_cases hle : Op.bytesLess nm m = true
    · have HF : Hid (er = 6) := by show _ = _; rw [← her.out, kErr, if_neg (by rw [HN.out]; omega), if_pos (by unfold nle; rw [hle]; rfl)]
      go_wp2
      go_ret
      exact ⟨ret_int HF.out.symm, hal⟩
    · have hle' : Op.bytesLess nm m = false := by simpa using hle
      clear hle
      by_cases heq : (nm == m) = true
      · have HF : Hid (er = 6) := by show _ = _; rw [← her.out, kErr, if_neg (by rw [HN.out]; omega), if_pos (by unfold nle; rw [hle', heq]; rfl)]
        go_wp2
        go_ret
        exact ⟨ret_int HF.out.symm, hal⟩
      · have heq' : (nm == m) = false := by simpa using heq
        have HL : Hid (¬ nle nm m = true) := by show ¬ _; unfold nle; rw [hle', heq']; decide
        clear heq
        go_wp2_with fail
        with_reducible refine (hcheck_all _ _ g1).mono ?_
        rintro e w2 ⟨rfl, rfl⟩
        by_cases hc : cErr dg = 0
        · have c1 : (cErr dg != 0) = false := by rw [bne_eq_false_iff_eq]; exact hc
          have HC := Lib.hid hc
          clear hc
          by_cases hlo : sz < 0
          · have s1 : decide (sz < 0) = true := by simpa using hlo
            have HF : Hid (er = 4) := by show _ = _; rw [← her.out, kErr, if_neg (by rw [HN.out]; omega), if_neg HL.out, if_neg (by rw [HC.out]; omega), if_pos (.inl hlo)]
            go_wp2
            go_ret
            exact ⟨ret_int HF.out.symm, hal⟩
          · have s1 : decide (sz < 0) = false := by simpa using hlo
            by_cases hhi : 300 < sz
            · have s2 : decide (300 < sz) = true := by simpa using hhi
              have HF : Hid (er = 4) := by show _ = _; rw [← her.out, kErr, if_neg (by rw [HN.out]; omega), if_neg HL.out, if_neg (by rw [HC.out]; omega), if_pos (.inr hhi)]
              go_wp2
              go_ret
              exact ⟨ret_int HF.out.symm, hal⟩
            · have s2 : decide (300 < sz) = false := by simpa using hhi
              have HF : Hid (er = 0) := by show _ = _; rw [← her.out, kErr, if_neg (by rw [HN.out]; omega), if_neg HL.out, if_neg (by rw [HC.out]; omega), if_neg (by simp only; omega)]
              go_wp2
              go_ret
              exact ⟨ret_int HF.out.symm, hal⟩
        · have c1 : (cErr dg != 0) = true := by rw [bne_iff_ne]; exact hc
          have HF : Hid (er = cErr dg) := by show _ = _; rw [← her.out, kErr, if_neg (by rw [HN.out]; omega), if_neg HL.out, if_pos hc]
          clear hc
          go_wp2
          go_ret
          exact ⟨ret_int HF.out.symm, hal⟩
  · have n1 : (nmErr nm != 0) = true := by rw [bne_iff_ne]; exact hn
    have HF : Hid (er = nmErr nm) := by show _ = _; rw [← her.out, kErr, if_pos hn]
    clear hn hbk
    go_wp2
    go_ret
    exact ⟨ret_int HF.out.symm, hal⟩
set_option maxRecDepth 100000 in
set_option maxHeartbeats 400000 in
theorem mcheck_big (A : Option Addr) (n c : Nat) (w : World) (h : 8 < n) (hn : n ≤ 9223372036854775807) :
    Calls Tryd.prog 31 #[.slice A n c] w fun e w' => e = .returned (.int .i64 1) ∧ w = w' := by
  go_enter Tryd.func31, Tryd.ntmps31
  go_wp2
  go_ret
  exact ⟨rfl, rfl⟩
set_option maxRecDepth 100000 in
set_option maxHeartbeats 2000000 in
theorem mcheck_in (A : Option Addr) (n c : Nat) (l : List Prt) (w : World) (hr : Rd w 3 A n c (pcs l)) (hg : ∀ p ∈ l, p.good) (h8 : n ≤ 8) :
    Calls Tryd.prog 31 #[.slice A n c] w fun e w' => e = .returned (.int .i64 (pErr [] l)) ∧ Below w.heap.size w w' := by
  obtain rfl := hr.plen
  have hd : decide (8 < (l.length : Int)) = false := by simp; omega
  have HG := Lib.hid hg
  obtain ⟨er, her⟩ : ∃ er, Hid (pErr [] l = er) := ⟨_, rfl⟩
  rw [her.out]
  clear hg
  go_enter Tryd.func31, Tryd.ntmps31
  go_wp2
  go_loopw [3, 5, 6, 12] (fun s _ _ i wr => ∃ (k : Nat) (m : List UInt8), k ≤ l.length ∧ i = .int .i64 k ∧ s = .string (str m) ∧ Hid (er = pErr m (l.drop k)) ∧ Below w.heap.size w wr) (fun _ _ _ i _ => l.length - (intOf i).toNat)
  case atStart => exact ⟨0, [], Nat.zero_le _, rfl, rfl, her.out.symm, Below.refl _ _⟩
  case round =>
    obtain ⟨k, m, hk, rfl, rfl, HE, hbel⟩ := hrel
    by_cases hlt : k < l.length
    · obtain ⟨b, off, rfl, hc0, hc1, hc2⟩ := (hr.below hbel).part hlt
      obtain ⟨g0, g1, g2⟩ := HG.out l[k] (List.getElem_mem hlt)
      have hdk : l.drop k = l[k] :: l.drop (k + 1) := List.drop_eq_getElem_cons hlt
      have HP : Hid (er = pErr m (l[k] :: l.drop (k + 1))) := by show _ = _; rw [← hdk]; exact HE.out
      have hki : (k : Int) < (l.length : Int) := by omega
      clear hdk HE
      generalize l[k] = p at *
      obtain ⟨nm, dg, sz⟩ := p
      simp only at g0 g1 g2 hc0 hc1 hc2
      have hal := (Below.refl wr.heap.size wr).alloc (Nat.le_refl _) (.cells #[.string (str nm), .string (str dg), .int .i64 sz] 38)
      have hbk := Blk.new wr 38 [.string (str nm), .string (str dg), .int .i64 sz]
      go_wp2_with fail
      with_reducible refine (checkPart_any _ _ _ _ _ g0 g1).mono ?_
      rintro e w1 ⟨rfl, hb1⟩
      have hbk1 := hbk.below hb1 hbk.lt
      have hbA := below_step hbel (hal.trans (hb1.mono (by simp)))
      have e0 : w1.cell? ⟨wr.heap.size, 0, none⟩ = some (.string (str nm)) := hbk1.cell 0
      clear hbk hal hc0 hc1 hc2
      by_cases hn : kErr m ⟨nm, dg, sz⟩ = 0
      · have n1 : (kErr m ⟨nm, dg, sz⟩ != 0) = false := by rw [bne_eq_false_iff_eq]; exact hn
        have HF : Hid (er = pErr nm (l.drop (k + 1))) := by show _ = _; rw [HP.out, pErr_k, if_neg (by rw [hn]; omega)]
        clear hn
        go_wp2
        go_roundw
        case rel => exact ⟨k + 1, nm, by omega, by go_num, rfl, HF.out, hbA⟩
        case measure => simp [intOf] <;> omega
      · have n1 : (kErr m ⟨nm, dg, sz⟩ != 0) = true := by rw [bne_iff_ne]; exact hn
        have HF : Hid (er = kErr m ⟨nm, dg, sz⟩) := by show _ = _; rw [HP.out, pErr_k, if_pos hn]
        clear hn
        go_wp2
        go_ret
        exact ⟨ret_int HF.out.symm, hbA⟩
    · have hd2 : decide ((k : Int) < (l.length : Int)) = false := by simp; omega
      have HF : Hid (er = 0) := by show _ = _; rw [HE.out, List.drop_of_length_le (by omega)]; rfl
      go_wp2
      go_ret
      exact ⟨ret_int HF.out.symm, hbel⟩
theorem mcheck_any (A : Option Addr) (n c : Nat) (l : List Prt) (w : World) (hr : Rd w 3 A n c (pcs l)) (hg : ∀ p ∈ l, p.good) :
    Calls Tryd.prog 31 #[.slice A n c] w fun e w' => e = .returned (.int .i64 (psErr l)) ∧ Below w.heap.size w w' := by
  have hn := hr.plen
  by_cases h : 8 < n
  · rw [show psErr l = 1 from if_pos (by omega)]
    have h1 := hr.2.1
    have h2 := hr.2.2.1
    unfold maxLen at h2
    refine (mcheck_big A n c w h (by omega)).mono ?_
    rintro e w' ⟨rfl, rfl⟩
    exact ⟨rfl, Below.refl _ _⟩
  · rw [show psErr l = pErr [] l from if_neg (by omega)]
    exact mcheck_in A n c l w hr hg (by omega)
end Go.Proofs.YtohdofalnmkfnaaDoor
/- The program's encodePart and Encode. -/
namespace Go.Proofs.YtohdofalnmkfnaaDoor
open Go.RowKit
set_option maxRecDepth 100000 in
set_option maxHeartbeats 1000000 in
theorem encodePart_ok (nm dg : List UInt8) (z : Nat) (w : World) (h1 : nm.length ≤ 12) (h2 : dg.length = 64) (h3 : dg.all isD = true) (h4 : z ≤ 300) :
    Calls Tryd.prog 47 #[.agg #[.string (str nm), .string (str dg), .int .i64 z]] w (GivesO 5 (mB ⟨nm, dg, z⟩) w) := by
  obtain ⟨i0, hi0, hz0, hz1, hz2⟩ := info_parts u8_info
  have HM : Hid (mB ⟨nm, dg, z⟩ = txt nm ++ unh dg ++ enc z) := by show _ = _; unfold mB txt; simp
  have hU : (unh dg).length = 32 := by rw [unh_length, h2]
  have h5 := enc_len5 (n := z) (by omega)
  have h6 : (txt nm).length ≤ 17 := by have := enc_len5 (n := nm.length) (by omega); unfold txt; rw [List.length_append]; omega
  have hal := (Below.refl w.heap.size w).alloc (Nat.le_refl _) (.cells #[.string (str nm), .string (str dg), .int .i64 z] 38)
  have hbk := Blk.new w 38 [.string (str nm), .string (str dg), .int .i64 z]
  have e0 := hbk.cell 0
  simp only [List.getElem?_cons_zero] at e0
  go_enter Tryd.func47, Tryd.ntmps47
  go_wp2_with fail
  with_reducible refine (text_ok _ _ (by omega)).mono ?_
  rintro e w1 ⟨v1, rfl, hown1, hb1⟩
  have hbk1 := hbk.below hb1 hbk.lt
  have hlt1 := Lib.hid hown1.lt
  have hsz0 : w.heap.size ≤ (w.alloc (.cells [Value.string (str nm), .string (str dg), .int .i64 z].toArray 38)).heap.size := by simp
  have hown1' := own_base hown1 hsz0
  have hbA := hal.trans (hb1.mono (by simp))
  have e1 := hbk1.cell 1
  simp only [List.getElem?_cons_succ, List.getElem?_cons_zero] at e1
  clear e0 hown1 hbk hal
  go_wp2_with fail
  with_reducible refine (hbytes_ok _ _ (by omega) (by omega) h3).mono ?_
  rintro e w2 ⟨g2, rfl, hblk2, hb2⟩
  rw [show dg.length / 2 = 32 by omega]
  have hbk2 := hbk1.below hb2 hbk1.lt
  have hown2 := own_below hown1' hb2
  have hbB := below_step hbA hb2
  have e2 := hbk2.cell 2
  simp only [List.getElem?_cons_succ, List.getElem?_cons_zero] at e2
  have hr2 := blk_rd hblk2 (n := 32) (by rw [List.length_map, hU]) (by omega)
  clear e1 hblk2 hbk1 hbA hown1' h2
  go_wp2_with fail
  with_reducible refine (number_ok z _ (by omega)).mono ?_
  rintro e w3 ⟨v3, rfl, hown3, hb3⟩
  obtain ⟨A3, c3, rfl, hr3, hA3, hF3⟩ := own_rdF hown3
  have hr2' := hr2.below hb3
  have hown2' := own_below hown2 hb3
  have hbC := below_step hbB hb3
  have HF3 : Hid (∀ a : Addr, A3 = some a → v1.ownBlock ≠ some a.block) := fun a q k => by
    have q1 := hF3 a q
    have q2 := (hlt1.out _ k).2
    have q3 := hb2.size
    omega
  clear e2 hown3 hbk2 hbB hown2 hr2 hF3 hb1 hb2 hb3
  have hsz3 := hbC.size
  have hN : (txt nm).length + 32 + (enc z).length = (mB ⟨nm, dg, z⟩).length := by rw [HM.out, List.length_append, List.length_append, hU]
  have HN := Lib.hid hN
  clear hN hU
  go_wp2_with (at_builtin; first
    | (refine wpList_appendM rfl (.tmp 35) (.tmp 36) _ rfl Tryd.underlying33 hi0 hz0 hz1 hz2 rfl (by omega) _ _ _ rfl hown2' hr2' (fun q => by cases q) (bytes_one _) rfl (by omega) (by unfold maxLen; omega) hsz3 ?_; rintro v4 w4 q4; have hr4 := hr3.appM q4 HF3.out; obtain ⟨hown4, hb4, hs4, -⟩ := q4; have hbD := hbC.trans hb4)
    | (refine wpList_appendM rfl (.tmp 37) (.tmp 38) _ rfl Tryd.underlying33 hi0 hz0 hz1 hz2 rfl (by omega) _ _ _ rfl hown4 hr4 hA3 (bytes_one _) rfl (by omega) (by unfold maxLen; omega) hbD.size ?_; rintro v5 w5 q5; obtain ⟨hown5, hb5, hs5, -⟩ := q5))
  go_ret2
  rw [← List.map_append, ← List.map_append, ← HM.out, HN.out] at hown5
  exact ⟨_, rfl, hown5, hbD.trans hb5⟩
set_option maxRecDepth 100000 in
set_option maxHeartbeats 400000 in
theorem mencode_no (A : Option Addr) (n c : Nat) (l : List Prt) (w : World) (hr : Rd w 3 A n c (pcs l)) (hg : ∀ p ∈ l, p.good) (hne : psErr l ≠ 0) :
    Calls Tryd.prog 20 #[.slice A n c] w fun e w' => e = .returned (.tuple #[.slice none 0 0, .int .i64 (psErr l)]) ∧ Below w.heap.size w w' := by
  have hd : (psErr l != 0) = true := by rw [bne_iff_ne]; exact hne
  go_enter Tryd.func20, Tryd.ntmps20
  go_wp2_with fail
  with_reducible refine (mcheck_any _ _ _ _ _ hr hg).mono ?_
  rintro e w1 ⟨rfl, hb1⟩
  go_wp2
  go_ret2
  exact ⟨rfl, hb1⟩
set_option maxRecDepth 100000 in
set_option maxHeartbeats 2000000 in
theorem mencode_yes (A : Option Addr) (n c : Nat) (l : List Prt) (w : World) (hr : Rd w 3 A n c (pcs l)) (hg : ∀ p ∈ l, p.good) (h0 : psErr l = 0) :
    Calls Tryd.prog 20 #[.slice A n c] w (GivesB (man l) 0 w) := by
  obtain rfl := hr.plen
  obtain ⟨i0, hi0, hz0, hz1, hz2⟩ := info_parts u8_info
  have hd : (psErr l != 0) = false := by rw [bne_eq_false_iff_eq]; exact h0
  obtain ⟨h8, hfine⟩ := psErr_zero h0
  have HF := Lib.hid hfine
  have h5 := enc_len5 (n := l.length) (by omega)
  clear h0 hfine
  go_enter Tryd.func20, Tryd.ntmps20
  go_wp2_with fail
  with_reducible refine (mcheck_any _ _ _ _ _ hr hg).mono ?_
  rintro e w1 ⟨rfl, hb1⟩
  clear hg
  go_wp2_with fail
  with_reducible refine (number_ok l.length _ (by omega)).mono ?_
  rintro e w2 ⟨v2, rfl, hown2, hb2⟩
  obtain ⟨A2, c2, rfl, hr2, hA2, hF2⟩ := own_rdF hown2
  have hbA := below_step hb1 hb2
  have hlt2 := Lib.hid hown2.lt
  have hrK := new_rd w2 5 [65, 77, 49] (3, 4) (by unfold maxLen; simp)
  have hK3 : ([65, 77, 49] : List UInt8).map bv8 = [.int .u8 65, .int .u8 77, .int .u8 49] := by simp [bv8, y8]
  have hK4 : ([65, 77, 49] : List UInt8).length = 3 := rfl
  rw [hK3, hK4] at hrK
  clear hK3 hK4
  have halH := (Below.refl w2.heap.size w2).alloc (Nat.le_refl _) (.cells #[.int .u8 65, .int .u8 77, .int .u8 49] 5 (3, 4))
  have hrH := hr2.below halH
  have hbH := below_step hbA halH
  have kc := fun (w : World) (C : Array Value) (n c : Nat) => Lib.run_convert_bytes_const (P := Tryd.prog) w 33 5 C n c Tryd.underlying33 Tryd.underlying5
  have hep := enc_pos l.length
  clear hown2 hr2 hb1 hb2 hF2
  go_wp2_with (at_builtin; refine wpList_appendG rfl (.tmp 27) (.tmp 28) _ rfl Tryd.underlying33 hi0 hz0 hz1 hz2 rfl (by omega) rfl hrK (fun q => by cases q) rfl hrH (bytes_one _) (by omega) (by unfold maxLen; omega) (by omega) ?_; rintro v3 w3 ⟨hown3, hb3⟩)
  have hown3 := own_base hown3 hbH.size
  have hbB := below_step hbH hb3
  have hx : [Value.int .u8 65, .int .u8 77, .int .u8 49] ++ (enc l.length).map bv8 = ([65, 77, 49] ++ enc l.length).map bv8 := by simp [bv8, y8]
  have hy : 3 + (enc l.length).length = ([65, 77, 49] ++ enc l.length).length := by simp; omega
  rw [hx, hy] at hown3
  have hz : ([65, 77, 49] ++ enc l.length).length ≤ 8 := by omega
  obtain ⟨hd0, hd0e⟩ : ∃ hd0 : List UInt8, [65, 77, 49] ++ enc l.length = hd0 := ⟨_, rfl⟩
  have Hd0 := Lib.hid hd0e
  clear hd0e
  rw [Hd0.out] at hown3 hz
  clear hx hy hrK hrH hbH hb3 halH hA2 h5 kc hep
  go_wp2
  go_loopw [7, 9, 10, 11, 32] (fun s _ _ _ i wr => ∃ (k : Nat) (m : List UInt8), k ≤ l.length ∧ i = .int .i64 k ∧ wr.ownsRow w.heap.size 5 1 s m.length (m.map bv8) ∧ Hid (m = hd0 ++ mBs (l.take k)) ∧ m.length ≤ 8 + 60 * k ∧ Below w.heap.size w wr) (fun _ _ _ _ i _ => l.length - (intOf i).toNat)
  case atStart => exact ⟨0, hd0, Nat.zero_le _, rfl, hown3, (by show _ = _; simp [mBs]), by omega, hbB⟩
  case round =>
    clear hown3 hbB hlt2 hbA
    obtain ⟨k, m, hk, rfl, hown, HE, hml, hbel⟩ := hrel
    by_cases hlt : k < l.length
    · obtain ⟨b, off, rfl, hc0, hc1, hc2⟩ := (hr.below hbel).part hlt
      have hfk := HF.out l[k] (List.getElem_mem hlt)
      have h60 := mB_length hfk
      obtain ⟨_, f1, f2, f3, f4, f5, f6⟩ := hfk
      have HS := Lib.hid (mBs_step hlt)
      have hki : (k : Int) < (l.length : Int) := by omega
      generalize l[k] = p at *
      obtain ⟨nm, dg, sz⟩ := p
      obtain ⟨z, rfl⟩ : ∃ z : Nat, sz = (z : Int) := ⟨sz.toNat, by simp at f5; omega⟩
      simp only at f1 f2 f3 f4 f5 f6 hc0 hc1 hc2
      have hal := (Below.refl wr.heap.size wr).alloc (Nat.le_refl _) (.cells #[.string (str nm), .string (str dg), .int .i64 (z : Int)] 38)
      have hbk := Blk.new wr 38 [.string (str nm), .string (str dg), .int .i64 (z : Int)]
      have hown' := own_below hown hal
      go_wp2_with fail
      with_reducible refine (encodePart_ok _ _ _ _ f2 f3 f4 (by omega)).mono ?_
      rintro e w4 ⟨v4, rfl, hown4, hb4⟩
      obtain ⟨A4, c4, rfl, hr4, hA4⟩ := own_rdN hown4
      have hownB := own_below hown' hb4
      have hbC := below_step hbel (hal.trans (hb4.mono (by simp)))
      clear hbk hal hc0 hc1 hc2 hown' hown4 hown
      generalize mB ⟨nm, dg, z⟩ = q at *
      go_wp2_with (at_builtin; refine wpList_appendM rfl (.tmp 44) (.tmp 45) _ rfl Tryd.underlying33 hi0 hz0 hz1 hz2 rfl (by omega) _ _ _ rfl hownB hr4 hA4 (bytes_one _) rfl (by omega) (by unfold maxLen; omega) hbC.size ?_; rintro v5 w5 ⟨hown5, hb5, hs5, -⟩)
      go_roundw
      case rel =>
        refine ⟨k + 1, m ++ q, by omega, by go_num, ?_, ?_, ?_, hbC.trans hb5⟩
        · rw [List.map_append, List.length_append]; exact hown5
        · show _ = _
          rw [HE.out, HS.out, List.append_assoc]
        · rw [List.length_append]; omega
      case measure => simp [intOf] <;> omega
    · have hd2 : decide ((k : Int) < (l.length : Int)) = false := by simp; omega
      have HX : Hid (m = man l) := by show _ = _; rw [HE.out, ← Hd0.out, List.take_of_length_le (by omega)]; rfl
      obtain ⟨A9, c9, rfl, hr9⟩ := own_rd hown
      go_wp2
      go_ret2
      rw [← HX.out]
      exact ⟨_, _, _, rfl, hr9, hbel⟩
theorem mencode_any (A : Option Addr) (n c : Nat) (l : List Prt) (w : World) (hr : Rd w 3 A n c (pcs l)) (hg : ∀ p ∈ l, p.good) :
    Calls Tryd.prog 20 #[.slice A n c] w (GivesB (mRes l) (psErr l) w) := by
  by_cases h : psErr l = 0
  · rw [show mRes l = man l from if_pos h, h]
    exact mencode_yes A n c l w hr hg h
  · rw [show mRes l = [] from if_neg h]
    refine (mencode_no A n c l w hr hg h).mono ?_
    rintro e w' ⟨rfl, hb⟩
    exact ⟨none, 0, 0, rfl, Rd.nil _ _, hb⟩
end Go.Proofs.YtohdofalnmkfnaaDoor

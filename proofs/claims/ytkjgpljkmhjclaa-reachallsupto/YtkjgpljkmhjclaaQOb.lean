/- A store that came in, with what its bulk bounds: the parts of its entries. -/
import Derived.Test.YtkjgpljkmhjclaaQOs
import Derived.Test.YtkjgpljkmhjclaaGRB
namespace Go.Proofs.Ytkjgpljkmhjclaa
open Go.RowKit
section
variable {H : Type}
theorem bulk_one (d : DataW H) : 1 ≤ Rows.uptoBulk d := by
  cases d with
  | lit l => cases l <;> simp [Rows.uptoBulk]
  | nil => simp [Rows.uptoBulk]
  | ptr d => simp [Rows.uptoBulk]
  | slice elems spare => simp [Rows.uptoBulk]
  | agg parts => simp [Rows.uptoBulk]
  | iface t d => simp [Rows.uptoBulk]
  | map entries => simp [Rows.uptoBulk]
  | held h => simp [Rows.uptoBulk]
theorem bulk_sum : ∀ l : List (DataW H), Rows.uptoBulkAll l = (l.map Rows.uptoBulk).sum
  | [] => by simp [Rows.uptoBulkAll]
  | d :: r => by rw [Rows.uptoBulkAll, bulk_sum r, List.map_cons, List.sum_cons]
theorem bulk_len (l : List (DataW H)) : l.length ≤ Rows.uptoBulkAll l := by
  induction l with
  | nil => simp [Rows.uptoBulkAll]
  | cons x r ih => have := bulk_one x; simp only [Rows.uptoBulkAll, List.length_cons]; omega
theorem range_sum {α : Type} (M : α → Nat) (B : DataW H → Nat) (q : Nat → α) (D : Nat → DataW H) : ∀ n, (∀ i, i < n → M (q i) ≤ B (D i)) → (((List.range n).map q).map M).sum ≤ (((List.range n).map D).map B).sum
  | 0, _ => by simp
  | n + 1, h => by
    have h1 := range_sum M B q D n fun i hi => h i (by omega)
    have h2 := h n (by omega)
    rw [List.range_succ, List.map_append, List.map_append, List.map_append, List.map_append, List.sum_append, List.sum_append]
    simp only [List.map_cons, List.map_nil, List.sum_cons, List.sum_nil]
    omega
theorem addr_addP (b off j : Nat) : (⟨b, off, none⟩ : Addr).add j = ⟨b, off + j, none⟩ := by unfold Addr.add; split <;> simp_all
set_option maxRecDepth 100000 in
/-- parts that came in, and their bulk -/
theorem bulk_pa {enc : TypeId × Value → H} {W : World} {fuel : Nat} {cs : List Value} {x : DataW H × List MemPlace} (h : DataW.trod enc Try.prog W 0 (fun _ => true) true fuel 40 cs = some x) :
    ∃ (A : Option Addr) (n c : Nat), cs = [.slice A n c] ∧ n ≤ Rows.uptoBulk x.1 := by
  obtain ⟨A, n, c, l, hcs, hr, hg, hA, el, sp, hx⟩ := open_parts Try.underlying40 Try.underlying44 (by kernel_rfl) rfl rfl rfl (by kernel_rfl) (by kernel_rfl) (by kernel_rfl) Try.underlying9 Try.underlying9 Try.underlying3 h
  refine ⟨A, n, c, hcs, ?_⟩
  have hl := hr.plen
  rcases hx with ⟨_, h0⟩ | ⟨hx, hel⟩
  · omega
  · rw [hx]
    have := bulk_len el
    simp only [Rows.uptoBulk]
    omega
set_option maxRecDepth 100000 in
theorem bulk_entry {enc : TypeId × Value → H} {W : World} {fuel : Nat} {cs : List Value} {y : DataW H × List MemPlace} (hl : cs.length = 4)
    (h : DataW.trod enc Try.prog W 0 (fun _ => true) true fuel 59 cs = some y) : ∃ v0 A n c v2 v3, cs = [v0, .slice A n c, v2, v3] ∧ n ≤ Rows.uptoBulk y.1 := by
  obtain ⟨xs, k, hk, hxy, _, hxl, hf⟩ := DataW.trod_struct Try.underlying59 h
  match xs, hxl, cs, hl with
  | [y0, y1, y2, y3], _, [v0, v1, v2, v3], _ =>
    have g1 := hf 1 _ rfl
    have c1 : Try.prog.cellsOf 40 = 1 := by kernel_rfl
    simp [c1] at g1
    have hD : y.1 = .agg [y0.1, y1.1, y2.1, y3.1] := by simpa using congrArg Prod.fst hxy
    obtain ⟨A, n, c, q1, hb⟩ := bulk_pa g1
    simp only [List.cons.injEq, and_true] at q1
    subst q1
    refine ⟨v0, A, n, c, v2, v3, rfl, ?_⟩
    rw [hD]
    simp only [Rows.uptoBulk, Rows.uptoBulkAll]
    omega
theorem eRoots_sum : ∀ l : List En, (eRoots l).length = (l.map fun e => e.ps.length).sum
  | [] => rfl
  | e :: r => by
    have : eRoots (e :: r) = e.ps.map Prt.dg ++ eRoots r := by unfold eRoots; rw [List.flatMap_cons]
    rw [this, List.length_append, List.length_map, eRoots_sum r, List.map_cons, List.sum_cons]
theorem range_getD (l : List En) : l = (List.range l.length).map fun i => l.getD i default := by
  apply List.ext_getElem
  · simp
  · intro i h1 h2
    rw [List.getElem_map, List.getElem_range, getD_lt h1]
set_option maxRecDepth 100000 in
theorem bulk_entries {enc : TypeId × Value → H} {W : World} {fuel : Nat} {A : Option Addr} {n c : Nat} {l : List En} {x : DataW H × List MemPlace} (h : DataW.trod enc Try.prog W 0 (fun _ => true) true fuel 32 [.slice A n c] = some x) (hr : KRd kEn W A n c l) :
    (eRoots l).length ≤ Rows.uptoBulk x.1 := by
  have hln := hr.len
  have ce : Try.prog.cellsOf 59 = 4 := by kernel_rfl
  rcases Deep.open_slice Try.underlying32 h with ⟨e1, rfl⟩ | ⟨a, len, cap, m, nn, D, Pl, e1, hb, hl, hm, hmm, rfl, hx⟩
  · simp only [List.cons.injEq, Value.slice.injEq, and_true] at e1
    have : l = [] := List.eq_nil_of_length_eq_zero (by omega)
    subst this
    simp [eRoots]
  · simp only [List.cons.injEq, Value.slice.injEq, and_true] at e1
    obtain ⟨rfl, rfl, rfl⟩ := e1
    have hlm : n ≤ m := by rw [hmm]; split <;> omega
    have key : ∀ i, i < l.length → (l.getD i default).ps.length ≤ Rows.uptoBulk (D i) := fun i hi => by
      rw [getD_lt hi]
      obtain ⟨b, off, g, e2, hc, hd⟩ := hr.at hi
      injection e2 with e2
      subst e2
      obtain ⟨cs', h1, h2⟩ := hx i (by omega)
      rw [ce] at h1
      obtain ⟨_, hlen, hcell⟩ := World.cells?_some h1
      obtain ⟨v0, A1, n1, c1, v2, v3, rfl, hbk⟩ := bulk_entry hlen h2
      have k1 := hcell 1 (by omega)
      have k2 := hc 1 _ rfl
      rw [Deep.add_add, addr_addP] at k1
      rw [show off + i * kEn.size + 1 = off + (i * 4 + 1) by show off + i * 4 + 1 = _; omega] at k2
      rw [k1] at k2
      simp only [Option.some.injEq, Value.slice.injEq, List.getElem?_cons_succ, List.getElem?_cons_zero] at k2
      have hp : g.n = l[i].ps.length := hd.1.plen
      have hbk' : n1 ≤ Rows.uptoBulk (D i) := hbk
      omega
    have h1 := range_sum (fun e : En => e.ps.length) (Rows.uptoBulk (H := H)) (fun i => l.getD i default) D l.length key
    rw [← range_getD l] at h1
    rw [eRoots_sum]
    simp only [Rows.uptoBulk]
    rw [bulk_sum]
    rw [← hln] at h1
    omega
set_option maxRecDepth 100000 in
/-- a store that came in: what its roots are at the most -/
theorem bulk_store {enc : TypeId × Value → H} {W : World} {r : Reach} {b0 : Nat} {A B : Option Addr} {n c m k : Nat} {rm ck : Int} {d : DataW H} {p : List MemPlace} {l : List Bl} {es : List En} (hv : Value.okWide Try.prog W r b0 34 (.agg #[.slice A n c, .slice B m k, .int .i64 rm, .int .i64 ck])) (h : DataW.Trod enc Try.prog W 0 (fun _ => true) true 34 (.agg #[.slice A n c, .slice B m k, .int .i64 rm, .int .i64 ck]) d p)
    (hr : KRd kBl W A n c l) (he : KRd kEn W B m k es) : (roots l es).length ≤ n + Rows.uptoBulk d := by
  obtain ⟨v0, v1, v2, v3, y0, y1, y2, y3, nn, hvv, hd, _, g0, g1, g2, g3⟩ := Go.Joins.open_agg4 Try.underlying34 (by kernel_rfl) (by kernel_rfl) hv h
  simp only [Value.agg.injEq, Array.mk.injEq, List.cons.injEq, and_true] at hvv
  obtain ⟨rfl, rfl, rfl, rfl⟩ := hvv
  have h1 := bulk_entries g1 he
  have hl := hr.len
  have h2 : (bRoots l).length ≤ l.length := by unfold bRoots; rw [List.length_map]; exact List.length_filter_le _ _
  rw [hd]
  unfold roots
  rw [List.length_append]
  simp only [Rows.uptoBulk, Rows.uptoBulkAll]
  omega
end
end Go.Proofs.Ytkjgpljkmhjclaa

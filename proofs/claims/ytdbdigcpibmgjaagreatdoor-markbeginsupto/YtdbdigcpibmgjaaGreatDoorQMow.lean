/- What the calls of marking hand back. Nothing of the program. -/
import Derived.Test.YtdbdigcpibmgjaaGreatDoorQZd
import Derived.Test.YtdbdigcpibmgjaaGreatDoorGRB
import Derived.Test.YtdbdigcpibmgjaaGreatDoorGMA
namespace Go.Proofs.YtdbdigcpibmgjaaGreatDoor
open Go.RowKit
/-- a store of the call's own, a collector and an error -/
def GivesSC (x : Int × Sto × Col) (w : World) (e : Ending) (w' : World) : Prop :=
  ∃ A c B d P f, e = .returned (.tuple #[.agg #[.slice A x.2.1.bs.length c, .slice B x.2.1.es.length d, .int .i64 x.2.1.rm, .int .i64 x.2.1.ck], .agg #[.int .i64 x.2.2.ph, .slice P x.2.2.gr.length f, .string (str x.2.2.at_)], .int .i64 x.1]) ∧ KNew kBl w' w.heap.size A x.2.1.bs.length c x.2.1.bs ∧
    KNew kEn w' w.heap.size B x.2.1.es.length d x.2.1.es ∧ Rd w' 1 P x.2.2.gr.length f (x.2.2.gr.map sv) ∧ (P = none → f = 0) ∧ (∀ a : Addr, P = some a → w.heap.size ≤ a.block) ∧ Below w.heap.size w w'
theorem givesSC_no {w w' : World} {er : Int} {e : Ending} (h : e = .returned (.tuple #[.agg #[.slice none 0 0, .slice none 0 0, .int .i64 0, .int .i64 0], .agg #[.int .i64 0, .slice none 0 0, .string (str [])], .int .i64 er])) (hb : Below w.heap.size w w') : GivesSC (er, sNil, cNil) w e w' :=
  ⟨none, 0, none, 0, none, 0, h, KNew.nil _ _, KNew.nil _ _, Rd.nil _ _, fun _ => rfl, (fun a e => by cases e), hb⟩
theorem givesSC_mk {w w' : World} {er rm ck ph : Int} {at_ : List UInt8} {e : Ending} {bs : List Bl} {es : List En} {gr : List (List UInt8)} {v u : Value} {P : Option Addr} {f : Nat} (he : e = .returned (.tuple #[.agg #[v, u, .int .i64 rm, .int .i64 ck], .agg #[.int .i64 ph, .slice P gr.length f, .string (str at_)], .int .i64 er])) {base M : Nat}
    (h1 : KOwn kBl w' base 45 v bs) (h2 : KOwn kEn w' M 74 u es) (h3 : Rd w' 1 P gr.length f (gr.map sv)) (h4 : P = none → f = 0) (h5 : ∀ a : Addr, P = some a → w.heap.size ≤ a.block) (hB : w.heap.size ≤ base) (hM : w.heap.size ≤ M) (hb : Below w.heap.size w w') : GivesSC (er, ⟨bs, es, rm, ck⟩, ⟨ph, gr, at_⟩) w e w' := by
  obtain ⟨A, c, rfl, n1⟩ := h1.new
  obtain ⟨B, d, rfl, n2⟩ := h2.new
  exact ⟨A, c, B, d, P, f, he, n1.rebase hB, n2.rebase hM, h3, h4, h5, hb⟩
theorem col_size : (Tryz.prog.info? 28).map (·.size) = some 3 := by kernel_rfl
theorem results_cells_row3 {P : Program} {fn : Func} {p q r : Tmp} {ty ty2 : TypeId} (h : fn.results = #[.cell p ty, .cell q ty2, .tmp r]) (tmps : Array Value) (w : World) (g g2 : Nat) (t t2 : TypeId) (cs cs2 : Array Value) (fr fr2 : Nat × Nat) (d d2 : TypeDesc)
    (hp : tmps.getD p undef = .pointer (some ⟨g, 0, none⟩)) (hg : w.heap[g]? = some (.cells cs t fr)) (hq : tmps.getD q undef = .pointer (some ⟨g2, 0, none⟩)) (hg2 : w.heap[g2]? = some (.cells cs2 t2 fr2))
    (hu : P.underlying ty = some d) (hd : (match d with | .struct _ | .array _ _ => true | _ => false) = true) (hi : (P.info? ty).map (·.size) = some cs.size)
    (hu2 : P.underlying ty2 = some d2) (hd2 : (match d2 with | .struct _ | .array _ _ => true | _ => false) = true) (hi2 : (P.info? ty2).map (·.size) = some cs2.size) :
    (results fn tmps).run P w = .ok (.tuple #[.agg cs, .agg cs2, tmps.getD r undef]) w := by
  have hp' : tmps[p]?.getD undef = .pointer (some ⟨g, 0, none⟩) := by simpa using hp
  have hq' : tmps[q]?.getD undef = .pointer (some ⟨g2, 0, none⟩) := by simpa using hq
  simp [results, h, hp', hq', asAddr, run_loadVar_row w g t ty cs fr d hg hu hd hi, run_loadVar_row w g2 t2 ty2 cs2 fr2 d2 hg2 hu2 hd2 hi2]
/-- three cells of a collector, written in place -/
theorem Blk.put3s {w : World} {g : Nat} {t : TypeId} {x0 x1 x2 : Value} (h : Blk w g t [x0, x1, x2]) (a b c : Value) : Blk (((w.setCell ⟨g, 0, none⟩ a).setCell ⟨g, 1, none⟩ b).setCell ⟨g, 2, none⟩ c) g t [a, b, c] := by
  simpa using ((h.put 0 a).put 1 b).put 2 c
theorem Blk.far3s {w : World} {g q : Nat} {t : TypeId} {xs : List Value} (h : Blk w g t xs) (hne : g ≠ q) (a b c : Value) : Blk (((w.setCell ⟨q, 0, none⟩ a).setCell ⟨q, 1, none⟩ b).setCell ⟨q, 2, none⟩ c) g t xs :=
  ((h.far (p := ⟨q, 0, none⟩) hne a).far (p := ⟨q, 1, none⟩) hne b).far (p := ⟨q, 2, none⟩) hne c
theorem below3s {a w : World} (h : Below a.heap.size a w) {q : Nat} (hq : a.heap.size ≤ q) (x y z : Value) : Below a.heap.size a (((w.setCell ⟨q, 0, none⟩ x).setCell ⟨q, 1, none⟩ y).setCell ⟨q, 2, none⟩ z) :=
  ((h.setCell (p := ⟨q, 0, none⟩) hq x).setCell (p := ⟨q, 1, none⟩) hq y).setCell (p := ⟨q, 2, none⟩) hq z
theorem blk3 {W : World} {g : Nat} {t : TypeId} {a b c : Value} (h : Blk W g t [a, b, c]) : W.cell? ⟨g, 0, none⟩ = some a ∧ W.cell? ⟨g, 1, none⟩ = some b ∧ W.cell? ⟨g, 2, none⟩ = some c := ⟨h.cell 0, h.cell 1, h.cell 2⟩
theorem blk3z {W : World} {g : Nat} {t : TypeId} {a b c : Value} (h : Blk W g t [a, b, c]) : W.frozen? ⟨g, 0, none⟩ = false ∧ W.frozen? ⟨g, 1, none⟩ = false ∧ W.frozen? ⟨g, 2, none⟩ = false := ⟨h.frozen 0, h.frozen 1, h.frozen 2⟩
theorem KOwn.set3s {α η : Type} {K : Kin α η} {w : World} {base : Nat} {e : TypeId} {v : Value} {l : List α} (h : KOwn K w base e v l) {q : Nat} (hq : q < base) (x y z : Value) : KOwn K (((w.setCell ⟨q, 0, none⟩ x).setCell ⟨q, 1, none⟩ y).setCell ⟨q, 2, none⟩ z) base e v l :=
  ((h.set1 hq x).set1 hq y).set1 hq z
theorem rd_set3s {w : World} {size n c : Nat} {A : Option Addr} {xs : List Value} (h : Rd w size A n c xs) {q : Nat} (hq : ∀ a : Addr, A = some a → a.block ≠ q) (x y z : Value) : Rd (((w.setCell ⟨q, 0, none⟩ x).setCell ⟨q, 1, none⟩ y).setCell ⟨q, 2, none⟩ z) size A n c xs :=
  h.keepLt fun a e _ => by
    rw [Below.heap_setCell _ ⟨q, 2, none⟩ _ _ (hq a e), Below.heap_setCell _ ⟨q, 1, none⟩ _ _ (hq a e), Below.heap_setCell _ ⟨q, 0, none⟩ _ _ (hq a e)]
theorem rd_set4s {w : World} {size n c : Nat} {A : Option Addr} {xs : List Value} (h : Rd w size A n c xs) {q : Nat} (hq : ∀ a : Addr, A = some a → a.block ≠ q) (x y z u : Value) : Rd ((((w.setCell ⟨q, 0, none⟩ x).setCell ⟨q, 1, none⟩ y).setCell ⟨q, 2, none⟩ z).setCell ⟨q, 3, none⟩ u) size A n c xs :=
  h.keepLt fun a e _ => by
    rw [Below.heap_setCell _ ⟨q, 3, none⟩ _ _ (hq a e), Below.heap_setCell _ ⟨q, 2, none⟩ _ _ (hq a e), Below.heap_setCell _ ⟨q, 1, none⟩ _ _ (hq a e), Below.heap_setCell _ ⟨q, 0, none⟩ _ _ (hq a e)]
theorem s7c {W : World} {g k : Nat} {t t' : TypeId} {a b c d x y z : Value} (h : Blk W g t [a, b, c, d]) (h' : Blk W k t' [x, y, z]) : W.cell? ⟨g, 0, none⟩ = some a ∧ W.cell? ⟨g, 1, none⟩ = some b ∧ W.cell? ⟨g, 2, none⟩ = some c ∧ W.cell? ⟨g, 3, none⟩ = some d ∧ W.cell? ⟨k, 0, none⟩ = some x ∧ W.cell? ⟨k, 1, none⟩ = some y ∧ W.cell? ⟨k, 2, none⟩ = some z :=
  ⟨h.cell 0, h.cell 1, h.cell 2, h.cell 3, h'.cell 0, h'.cell 1, h'.cell 2⟩
/-- a store's result cells and a collector's, written one behind the other -/
theorem two_cells {W : World} {q : Nat} {t t' : TypeId} {x0 x1 x2 x3 y0 y1 y2 : Value} (h : Blk W q t [x0, x1, x2, x3]) (k : Blk W (q + 1) t' [y0, y1, y2]) (a b c d x y z : Value) :
    Blk (((((((W.setCell ⟨q, 0, none⟩ a).setCell ⟨q, 1, none⟩ b).setCell ⟨q, 2, none⟩ c).setCell ⟨q, 3, none⟩ d).setCell ⟨q + 1, 0, none⟩ x).setCell ⟨q + 1, 1, none⟩ y).setCell ⟨q + 1, 2, none⟩ z) q t [a, b, c, d] ∧
    Blk (((((((W.setCell ⟨q, 0, none⟩ a).setCell ⟨q, 1, none⟩ b).setCell ⟨q, 2, none⟩ c).setCell ⟨q, 3, none⟩ d).setCell ⟨q + 1, 0, none⟩ x).setCell ⟨q + 1, 1, none⟩ y).setCell ⟨q + 1, 2, none⟩ z) (q + 1) t' [x, y, z] :=
  ⟨(h.put4s a b c d).far3s (by omega) x y z, (k.far4s (by omega) a b c d).put3s x y z⟩
theorem below7 {a W : World} (h : Below a.heap.size a W) {q : Nat} (hq : a.heap.size ≤ q) (x0 x1 x2 x3 y0 y1 y2 : Value) :
    Below a.heap.size a (((((((W.setCell ⟨q, 0, none⟩ x0).setCell ⟨q, 1, none⟩ x1).setCell ⟨q, 2, none⟩ x2).setCell ⟨q, 3, none⟩ x3).setCell ⟨q + 1, 0, none⟩ y0).setCell ⟨q + 1, 1, none⟩ y1).setCell ⟨q + 1, 2, none⟩ y2) :=
  below3s (below4s h hq _ _ _ _) (by omega) _ _ _
theorem KOwn.set7 {α η : Type} {K : Kin α η} {W : World} {base : Nat} {e : TypeId} {v : Value} {l : List α} (h : KOwn K W base e v l) {q : Nat} (hq : q + 1 < base) (x0 x1 x2 x3 y0 y1 y2 : Value) :
    KOwn K (((((((W.setCell ⟨q, 0, none⟩ x0).setCell ⟨q, 1, none⟩ x1).setCell ⟨q, 2, none⟩ x2).setCell ⟨q, 3, none⟩ x3).setCell ⟨q + 1, 0, none⟩ y0).setCell ⟨q + 1, 1, none⟩ y1).setCell ⟨q + 1, 2, none⟩ y2) base e v l :=
  (h.set4s (by omega) _ _ _ _).set3s (by omega) _ _ _
theorem rd_set7 {W : World} {size n c : Nat} {A : Option Addr} {xs : List Value} (h : Rd W size A n c xs) {q : Nat} (hq : ∀ a : Addr, A = some a → q + 1 < a.block) (x0 x1 x2 x3 y0 y1 y2 : Value) :
    Rd (((((((W.setCell ⟨q, 0, none⟩ x0).setCell ⟨q, 1, none⟩ x1).setCell ⟨q, 2, none⟩ x2).setCell ⟨q, 3, none⟩ x3).setCell ⟨q + 1, 0, none⟩ y0).setCell ⟨q + 1, 1, none⟩ y1).setCell ⟨q + 1, 2, none⟩ y2) size A n c xs :=
  rd_set3s (rd_set4s h (fun a e => by have := hq a e; omega) _ _ _ _) (fun a e => by have := hq a e; omega) _ _ _
end Go.Proofs.YtdbdigcpibmgjaaGreatDoor

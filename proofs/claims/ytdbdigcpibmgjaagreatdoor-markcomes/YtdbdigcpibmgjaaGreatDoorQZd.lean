/- What the store's calls hand back; the box of a store; errors in a row. Nothing of the reference. -/
import Derived.Test.YtdbdigcpibmgjaaGreatDoorGSA
import Derived.Test.YtdbdigcpibmgjaaGreatDoorGSA
import Derived.Test.YtdbdigcpibmgjaaGreatDoorQMr3
import Derived.Test.YtdbdigcpibmgjaaGreatDoorGO
namespace Go.Proofs.YtdbdigcpibmgjaaGreatDoor
open Go.RowKit
/-- a store of the call's own, handed back -/
def GivesSto (s : Sto) (w : World) (e : Ending) (w' : World) : Prop :=
  ∃ A c B d, e = .returned (.agg #[.slice A s.bs.length c, .slice B s.es.length d, .int .i64 s.rm, .int .i64 s.ck]) ∧ KNew kBl w' w.heap.size A s.bs.length c s.bs ∧ KNew kEn w' w.heap.size B s.es.length d s.es ∧ Below w.heap.size w w'
/-- .. and its rows are the call's own; no block of a blob is one of an entry -/
def GivesStoO (s : Sto) (w : World) (e : Ending) (w' : World) : Prop :=
  ∃ v u M, e = .returned (.agg #[v, u, .int .i64 s.rm, .int .i64 s.ck]) ∧ KOwn kBl w' (w.heap.size + 2) 45 v s.bs ∧ KOwn kEn w' M 74 u s.es ∧ w.heap.size + 2 ≤ M ∧ (∀ g, v.ownBlock = some g → g < M) ∧
    (∀ w2 : World, w'.heap.size ≤ w2.heap.size → (∀ k, w.heap.size + 2 ≤ k → k < M → w2.heap[k]? = w'.heap[k]?) → KOwn kBl w2 (w.heap.size + 2) 45 v s.bs) ∧ Below w.heap.size w w'
theorem GivesStoO.sto {s : Sto} {w w' : World} {e : Ending} (h : GivesStoO s w e w') : GivesSto s w e w' := by
  obtain ⟨v, u, M, rfl, h1, h2, hM, -, -, hb⟩ := h
  obtain ⟨A, c, rfl, n1⟩ := h1.new
  obtain ⟨B, d, rfl, n2⟩ := h2.new
  exact ⟨A, c, B, d, rfl, n1.rebase (by omega), n2.rebase (by omega), hb⟩
/-- a row, and what its things reach, lies below the heap's size: it is kept where those blocks are -/
theorem KOwn.upto {α η : Type} {K : Kin α η} {w : World} {base : Nat} {e : TypeId} {v : Value} {l : List α} (h : KOwn K w base e v l) :
    (∀ g, v.ownBlock = some g → g < w.heap.size) ∧ ∀ w2 : World, w.heap.size ≤ w2.heap.size → (∀ k, base ≤ k → k < w.heap.size → w2.heap[k]? = w.heap[k]?) → KOwn K w2 base e v l := by
  obtain ⟨hs, rfl, hk⟩ := h.kh
  exact ⟨fun g hg => (hk.ge (.inl hg)).2, fun w2 hz hw => (hk.keep hz fun k hr => hw k (hk.ge hr).1 (hk.ge hr).2).own⟩
theorem KOwn.set4s {α η : Type} {K : Kin α η} {w : World} {base : Nat} {e : TypeId} {v : Value} {l : List α} (h : KOwn K w base e v l) {q : Nat} (hq : q < base) (x y z u : Value) : KOwn K ((((w.setCell ⟨q, 0, none⟩ x).setCell ⟨q, 1, none⟩ y).setCell ⟨q, 2, none⟩ z).setCell ⟨q, 3, none⟩ u) base e v l := by
  obtain ⟨hs, rfl, hk⟩ := h.kh
  exact ((((hk.set hq x).set hq y).set hq z).set hq u).own
theorem store_size : (Tryz.prog.info? 25).map (·.size) = some 4 := by kernel_rfl
theorem Blk.put4s {w : World} {g : Nat} {t : TypeId} {x0 x1 x2 x3 : Value} (h : Blk w g t [x0, x1, x2, x3]) (a b c d : Value) : Blk ((((w.setCell ⟨g, 0, none⟩ a).setCell ⟨g, 1, none⟩ b).setCell ⟨g, 2, none⟩ c).setCell ⟨g, 3, none⟩ d) g t [a, b, c, d] := by
  simpa using (((h.put 0 a).put 1 b).put 2 c).put 3 d
theorem Blk.far4s {w : World} {g q : Nat} {t : TypeId} {xs : List Value} (h : Blk w g t xs) (hne : g ≠ q) (a b c d : Value) : Blk ((((w.setCell ⟨q, 0, none⟩ a).setCell ⟨q, 1, none⟩ b).setCell ⟨q, 2, none⟩ c).setCell ⟨q, 3, none⟩ d) g t xs :=
  (((h.far (p := ⟨q, 0, none⟩) hne a).far (p := ⟨q, 1, none⟩) hne b).far (p := ⟨q, 2, none⟩) hne c).far (p := ⟨q, 3, none⟩) hne d
theorem below4s {a w : World} (h : Below a.heap.size a w) {q : Nat} (hq : a.heap.size ≤ q) (x y z v : Value) : Below a.heap.size a ((((w.setCell ⟨q, 0, none⟩ x).setCell ⟨q, 1, none⟩ y).setCell ⟨q, 2, none⟩ z).setCell ⟨q, 3, none⟩ v) :=
  (((h.setCell (p := ⟨q, 0, none⟩) hq x).setCell (p := ⟨q, 1, none⟩) hq y).setCell (p := ⟨q, 2, none⟩) hq z).setCell (p := ⟨q, 3, none⟩) hq v
theorem KNew.set4s {α η : Type} {K : Kin α η} {w : World} {base n c : Nat} {A : Option Addr} {l : List α} (h : KNew K w base A n c l) {q : Nat} (hq : q < base) (x y z v : Value) : KNew K ((((w.setCell ⟨q, 0, none⟩ x).setCell ⟨q, 1, none⟩ y).setCell ⟨q, 2, none⟩ z).setCell ⟨q, 3, none⟩ v) base A n c l :=
  (((h.set hq x).set hq y).set hq z).set hq v
theorem blk4 {W : World} {g : Nat} {t : TypeId} {a b c d : Value} (h : Blk W g t [a, b, c, d]) : W.cell? ⟨g, 0, none⟩ = some a ∧ W.cell? ⟨g, 1, none⟩ = some b ∧ W.cell? ⟨g, 2, none⟩ = some c ∧ W.cell? ⟨g, 3, none⟩ = some d := ⟨h.cell 0, h.cell 1, h.cell 2, h.cell 3⟩
theorem blk4z {W : World} {g : Nat} {t : TypeId} {a b c d : Value} (h : Blk W g t [a, b, c, d]) : W.frozen? ⟨g, 0, none⟩ = false ∧ W.frozen? ⟨g, 1, none⟩ = false ∧ W.frozen? ⟨g, 2, none⟩ = false ∧ W.frozen? ⟨g, 3, none⟩ = false := ⟨h.frozen 0, h.frozen 1, h.frozen 2, h.frozen 3⟩
/-- a store of the call's own, a text and an error, handed back -/
def GivesPB (x : Int × Sto × List UInt8) (w : World) (e : Ending) (w' : World) : Prop :=
  ∃ A c B d, e = .returned (.tuple #[.agg #[.slice A x.2.1.bs.length c, .slice B x.2.1.es.length d, .int .i64 x.2.1.rm, .int .i64 x.2.1.ck], .string (str x.2.2), .int .i64 x.1]) ∧ KNew kBl w' w.heap.size A x.2.1.bs.length c x.2.1.bs ∧ KNew kEn w' w.heap.size B x.2.1.es.length d x.2.1.es ∧ Below w.heap.size w w'
theorem givesPB_no {w w' : World} {er : Int} {e : Ending} (h : e = .returned (.tuple #[.agg #[.slice none 0 0, .slice none 0 0, .int .i64 0, .int .i64 0], .string (str []), .int .i64 er])) (hb : Below w.heap.size w w') : GivesPB (er, sNil, []) w e w' :=
  ⟨none, 0, none, 0, h, KNew.nil _ _, KNew.nil _ _, hb⟩
theorem KNew.keepSto {α η : Type} {K : Kin α η} {w : World} {base n c : Nat} {A : Option Addr} {l : List α} (h : KNew K w base A n c l) {o : Obj} {q : Nat} (hq : q < base) (v x y z u : Value) :
    KNew K (((((((w.alloc o).setCell ⟨w.heap.size, 0, none⟩ v).setCell ⟨q, 0, none⟩ x).setCell ⟨q, 1, none⟩ y).setCell ⟨q, 2, none⟩ z).setCell ⟨q, 3, none⟩ u)) base A n c l :=
  h.keep (by simp) fun k h1 h2 => by
    have e1 : k ≠ q := by omega
    have e2 : k ≠ w.heap.size := by omega
    rw [Below.heap_setCell _ ⟨q, 3, none⟩ _ _ e1, Below.heap_setCell _ ⟨q, 2, none⟩ _ _ e1, Below.heap_setCell _ ⟨q, 1, none⟩ _ _ e1, Below.heap_setCell _ ⟨q, 0, none⟩ _ _ e1, Below.heap_setCell _ ⟨w.heap.size, 0, none⟩ _ _ e2, Below.heap_alloc _ _ _ h2]
/-- bytes and an error, handed back -/
def GivesGB (x : Int × List UInt8) (w : World) (e : Ending) (w' : World) : Prop :=
  ∃ A n c, e = .returned (.tuple #[.slice A n c, .int .i64 x.1]) ∧ Rd w' 1 A n c (x.2.map bv8) ∧ (A = none → c = 0) ∧ Below w.heap.size w w'
theorem givesGB_no {w w' : World} {er : Int} {e : Ending} (h : e = .returned (.tuple #[.slice none 0 0, .int .i64 er])) (hb : Below w.heap.size w w') : GivesGB (er, []) w e w' :=
  ⟨none, 0, 0, h, Rd.nil _ _, fun _ => rfl, hb⟩
/-- a store of the call's own, and an error, handed back -/
def GivesS2 (x : Int × Sto) (w : World) (e : Ending) (w' : World) : Prop :=
  ∃ A c B d, e = .returned (.tuple #[.agg #[.slice A x.2.bs.length c, .slice B x.2.es.length d, .int .i64 x.2.rm, .int .i64 x.2.ck], .int .i64 x.1]) ∧ KNew kBl w' w.heap.size A x.2.bs.length c x.2.bs ∧ KNew kEn w' w.heap.size B x.2.es.length d x.2.es ∧ Below w.heap.size w w'
theorem givesS2_no {w w' : World} {er : Int} {e : Ending} (h : e = .returned (.tuple #[.agg #[.slice none 0 0, .slice none 0 0, .int .i64 0, .int .i64 0], .int .i64 er])) (hb : Below w.heap.size w w') : GivesS2 (er, sNil) w e w' :=
  ⟨none, 0, none, 0, h, KNew.nil _ _, KNew.nil _ _, hb⟩
theorem givesS2_mk {w w' : World} {er rm ck : Int} {e : Ending} {bs : List Bl} {es : List En} {v u : Value} (he : e = .returned (.tuple #[.agg #[v, u, .int .i64 rm, .int .i64 ck], .int .i64 er])) {base M : Nat} (h1 : KOwn kBl w' base 45 v bs) (h2 : KOwn kEn w' M 74 u es) (hB : w.heap.size ≤ base) (hM : w.heap.size ≤ M) (hb : Below w.heap.size w w') : GivesS2 (er, ⟨bs, es, rm, ck⟩) w e w' := by
  obtain ⟨A, c, rfl, n1⟩ := h1.new
  obtain ⟨B, d, rfl, n2⟩ := h2.new
  exact ⟨A, c, B, d, he, n1.rebase hB, n2.rebase hM, hb⟩
/-- a blob's count, turned -/
def pinB (n : Int) (x : Bl) : Bl := { x with pn := n }
theorem KOwn.pinB {w : World} {base : Nat} {e : TypeId} {v : Value} {l : List Bl} (h : KOwn kBl w base e v l) {i : Nat} (hi : i < l.length) (n : Int) :
    ∃ g c, v = .slice (some ⟨g, 0, none⟩) l.length c ∧ base ≤ g ∧ g < w.heap.size ∧ w.cell? ⟨g, i * 4 + 2, none⟩ = some (.int .i64 l[i].pn) ∧ w.frozen? ⟨g, i * 4 + 2, none⟩ = false ∧
      KOwn kBl (w.setCell ⟨g, i * 4 + 2, none⟩ (.int .i64 n)) base e v (bHold l i n) :=
  h.mod hi (Go.Proofs.YtdbdigcpibmgjaaGreatDoor.pinB n) (.int .i64 n) 2 (by decide) (fun _ _ => rfl) (fun _ _ _ h => h) (fun x => .int .i64 x.pn) (fun _ _ => rfl)
theorem KOwn.set1 {α η : Type} {K : Kin α η} {w : World} {base : Nat} {e : TypeId} {v : Value} {l : List α} (h : KOwn K w base e v l) {g i : Nat} (hg : g < base) (x : Value) : KOwn K (w.setCell ⟨g, i, none⟩ x) base e v l := by
  obtain ⟨hs, rfl, hk⟩ := h.kh
  exact (hk.set hg x).own
/-- an entry's count, turned -/
def pinE (n : Int) (x : En) : En := { x with pn := n }
theorem KOwn.pinE {w : World} {base : Nat} {e : TypeId} {v : Value} {l : List En} (h : KOwn kEn w base e v l) {i : Nat} (hi : i < l.length) (n : Int) :
    ∃ g c, v = .slice (some ⟨g, 0, none⟩) l.length c ∧ base ≤ g ∧ g < w.heap.size ∧ w.cell? ⟨g, i * 4 + 2, none⟩ = some (.int .i64 l[i].pn) ∧ w.frozen? ⟨g, i * 4 + 2, none⟩ = false ∧
      KOwn kEn (w.setCell ⟨g, i * 4 + 2, none⟩ (.int .i64 n)) base e v (xHold l i n) :=
  h.mod hi (Go.Proofs.YtdbdigcpibmgjaaGreatDoor.pinE n) (.int .i64 n) 2 (by decide) (fun _ _ => rfl) (fun _ _ _ h => h) (fun x => .int .i64 x.pn) (fun _ _ => rfl)
/-- blocks below the entries', and above the result's, are kept -/
theorem keep5 {w w6 : World} {B M g i q : Nat} (hb : Below w.heap.size w w6) (hg : M ≤ g) (hq : q < B) (hM : M ≤ w.heap.size) (v x y z u : Value) :
    ∀ k, B ≤ k → k < M → ((((((w6.setCell ⟨g, i, none⟩ v).setCell ⟨q, 0, none⟩ x).setCell ⟨q, 1, none⟩ y).setCell ⟨q, 2, none⟩ z).setCell ⟨q, 3, none⟩ u)).heap[k]? = w.heap[k]? := fun k k1 k2 => by
  have e1 : k ≠ q := by omega
  have e2 : k ≠ g := by omega
  rw [Below.heap_setCell _ ⟨q, 3, none⟩ _ _ e1, Below.heap_setCell _ ⟨q, 2, none⟩ _ _ e1, Below.heap_setCell _ ⟨q, 1, none⟩ _ _ e1, Below.heap_setCell _ ⟨q, 0, none⟩ _ _ e1, Below.heap_setCell _ ⟨g, i, none⟩ _ _ e2]
  exact hb.block k (by omega)
/-- an entry's stamp, set -/
def stE (n : Int) (x : En) : En := { x with st := n }
theorem KOwn.stampE {w : World} {base : Nat} {e : TypeId} {v : Value} {l : List En} (h : KOwn kEn w base e v l) {i : Nat} (hi : i < l.length) (n : Int) :
    ∃ g c, v = .slice (some ⟨g, 0, none⟩) l.length c ∧ base ≤ g ∧ g < w.heap.size ∧ w.cell? ⟨g, i * 4 + 3, none⟩ = some (.int .i64 l[i].st) ∧ w.frozen? ⟨g, i * 4 + 3, none⟩ = false ∧
      KOwn kEn (w.setCell ⟨g, i * 4 + 3, none⟩ (.int .i64 n)) base e v (xStamp l i n) :=
  h.mod hi (Go.Proofs.YtdbdigcpibmgjaaGreatDoor.stE n) (.int .i64 n) 3 (by decide) (fun _ _ => rfl) (fun _ _ _ h => h) (fun x => .int .i64 x.st) (fun _ _ => rfl)
/-- a store of the call's own, parts, and an error, handed back -/
def GivesSG (x : Int × Sto × List Prt) (w : World) (e : Ending) (w' : World) : Prop :=
  ∃ A c B d P n f, e = .returned (.tuple #[.agg #[.slice A x.2.1.bs.length c, .slice B x.2.1.es.length d, .int .i64 x.2.1.rm, .int .i64 x.2.1.ck], .slice P n f, .int .i64 x.1]) ∧ KNew kBl w' w.heap.size A x.2.1.bs.length c x.2.1.bs ∧ KNew kEn w' w.heap.size B x.2.1.es.length d x.2.1.es ∧
    Rd w' 3 P n f (pcs x.2.2) ∧ (P = none → f = 0) ∧ Below w.heap.size w w'
theorem givesSG_no {w w' : World} {er : Int} {e : Ending} (h : e = .returned (.tuple #[.agg #[.slice none 0 0, .slice none 0 0, .int .i64 0, .int .i64 0], .slice none 0 0, .int .i64 er])) (hb : Below w.heap.size w w') : GivesSG (er, sNil, []) w e w' :=
  ⟨none, 0, none, 0, none, 0, 0, h, KNew.nil _ _, KNew.nil _ _, Rd.nil _ _, fun _ => rfl, hb⟩
theorem givesSG_mk {w w' : World} {er rm ck : Int} {e : Ending} {bs : List Bl} {es : List En} {ps : List Prt} {v u : Value} {P : Option Addr} {n f : Nat} (he : e = .returned (.tuple #[.agg #[v, u, .int .i64 rm, .int .i64 ck], .slice P n f, .int .i64 er])) {base M : Nat} (h1 : KOwn kBl w' base 45 v bs) (h2 : KOwn kEn w' M 74 u es) (hp : Rd w' 3 P n f (pcs ps)) (hn : P = none → f = 0) (hB : w.heap.size ≤ base) (hM : w.heap.size ≤ M) (hb : Below w.heap.size w w') : GivesSG (er, ⟨bs, es, rm, ck⟩, ps) w e w' := by
  obtain ⟨A, c, rfl, n1⟩ := h1.new
  obtain ⟨B, d, rfl, n2⟩ := h2.new
  exact ⟨A, c, B, d, P, n, f, he, n1.rebase hB, n2.rebase hM, hp, hn, hb⟩
/-- what the last statement reads -/
theorem sg6 {W : World} {g q : Nat} {t t' : TypeId} {a b c d a' b' c' d' : Value} {p : Addr} {x : Value} (h : Blk W g t [a, b, c, d]) (k : Blk W q t' [a', b', c', d']) (hp : W.cell? p = some x) :
    W.cell? ⟨g, 0, none⟩ = some a ∧ W.cell? ⟨g, 1, none⟩ = some b ∧ W.cell? ⟨g, 2, none⟩ = some c ∧ W.cell? ⟨g, 3, none⟩ = some d ∧ W.cell? ⟨q, 1, none⟩ = some b' ∧ W.cell? p = some x :=
  ⟨h.cell 0, h.cell 1, h.cell 2, h.cell 3, k.cell 1, hp⟩
/-- a cell of the world at the call is kept by four written into a later block -/
theorem cell4s {w w1 : World} (hb : Below w.heap.size w w1) {p : Addr} (hp : p.block < w.heap.size) {q : Nat} (hq : w.heap.size ≤ q) (x y z v : Value) :
    ((((w1.setCell ⟨q, 0, none⟩ x).setCell ⟨q, 1, none⟩ y).setCell ⟨q, 2, none⟩ z).setCell ⟨q, 3, none⟩ v).cell? p = w.cell? p := (below4s hb hq x y z v).cell hp
/-- the first of two errors -/
def e1 (a b : Int) : Int := if a = 0 then b else a
theorem e1_ok {a : Int} (h : a = 0) (b : Int) : e1 a b = b := if_pos h
theorem e1_no {a : Int} (h : ¬ a = 0) (b : Int) : e1 a b = a := if_neg h
theorem e1_zero {a b : Int} (h : e1 a b = 0) : a = 0 ∧ b = 0 := by
  unfold e1 at h
  split at h
  · exact ⟨by assumption, h⟩
  · exact absurd h (by assumption)
theorem sPutErr_e1 (s : Sto) (k : List UInt8) (ps : List Prt) :
    sPutErr s k ps = e1 (e1 (e1 (e1 (e1 (sErr s) (cErr k)) (psErr ps)) (pThere s.bs ps)) (if s.ck = 1099511627776 then 4 else 0)) (xPut s.es ⟨k, ps, 0, s.ck + 1⟩).1 := by
  unfold sPutErr e1
  by_cases h1 : sErr s = 0
  · by_cases h2 : cErr k = 0
    · by_cases h3 : psErr ps = 0
      · by_cases h4 : pThere s.bs ps = 0
        · by_cases h5 : s.ck = 1099511627776 <;> simp [h1, h2, h3, h4, h5]
        · simp [h1, h2, h3, h4]
      · simp [h1, h2, h3]
    · simp [h1, h2]
  · simp [h1]
theorem wf_ck {ck : Int} (h1 : 0 ≤ ck) (h2 : ck ≤ 1099511627776) : (Lit.int .i64 (ck + 1)).wf = true := by
  simp [Lit.wf, IntKind.min, IntKind.max, IntKind.bits, IntKind.signed]; omega
theorem pThere_at {bs : List Bl} {ps : List Prt} {k : Nat} (hk : k < ps.length) : pThere bs (ps.drop k) = if h : bAt bs ps[k].dg < bs.length then (if (bs[bAt bs ps[k].dg].dt.length : Int) ≠ ps[k].sz then 4 else pThere bs (ps.drop (k + 1))) else 5 := by
  rw [List.drop_eq_getElem_cons hk, pThere]
end Go.Proofs.YtdbdigcpibmgjaaGreatDoor

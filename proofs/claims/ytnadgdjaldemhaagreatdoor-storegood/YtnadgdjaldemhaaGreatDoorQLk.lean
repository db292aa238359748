/- Cells written into one block: what is kept. Nothing of the program. -/
import Derived.Test.YtnadgdjaldemhaaGreatDoorQZd
namespace Go.Proofs.YtnadgdjaldemhaaGreatDoor
open Go.RowKit
/-- four cells written into one block: the others are kept -/
theorem keep4 {w : World} {q : Nat} (x y z u : Value) : ∀ k, k ≠ q → ((((w.setCell ⟨q, 0, none⟩ x).setCell ⟨q, 1, none⟩ y).setCell ⟨q, 2, none⟩ z).setCell ⟨q, 3, none⟩ u).heap[k]? = w.heap[k]? := fun k e1 => by
  rw [Below.heap_setCell _ ⟨q, 3, none⟩ _ _ e1, Below.heap_setCell _ ⟨q, 2, none⟩ _ _ e1, Below.heap_setCell _ ⟨q, 1, none⟩ _ _ e1, Below.heap_setCell _ ⟨q, 0, none⟩ _ _ e1]
/-- blocks below the entries', and above the result's, are kept -/
theorem keep9 {w w6 : World} {B M g i q : Nat} (hb : ∀ k, B ≤ k → w6.heap[k]? = w.heap[k]?) (hg : M ≤ g) (hq : q < B) (v x y z u : Value) :
    ∀ k, B ≤ k → k < M → ((((((w6.setCell ⟨g, i, none⟩ v).setCell ⟨q, 0, none⟩ x).setCell ⟨q, 1, none⟩ y).setCell ⟨q, 2, none⟩ z).setCell ⟨q, 3, none⟩ u)).heap[k]? = w.heap[k]? := fun k k1 k2 => by
  rw [keep4 x y z u k (by omega), Below.heap_setCell _ ⟨g, i, none⟩ _ _ (show k ≠ g by omega)]
  exact hb k k1
/-- what the last statement reads -/
theorem sg5 {W : World} {g : Nat} {t : TypeId} {a b c d : Value} {p : Addr} {x : Value} (h : Blk W g t [a, b, c, d]) (hp : W.cell? p = some x) :
    W.cell? ⟨g, 0, none⟩ = some a ∧ W.cell? ⟨g, 1, none⟩ = some b ∧ W.cell? ⟨g, 2, none⟩ = some c ∧ W.cell? ⟨g, 3, none⟩ = some d ∧ W.cell? p = some x :=
  ⟨h.cell 0, h.cell 1, h.cell 2, h.cell 3, hp⟩
theorem rd_far4 {w : World} {size n c : Nat} {A : Option Addr} {xs : List Value} (h : Rd w size A n c xs) {q : Nat} (hq : ∀ a : Addr, A = some a → a.block ≠ q) (x y z u : Value) : Rd ((((w.setCell ⟨q, 0, none⟩ x).setCell ⟨q, 1, none⟩ y).setCell ⟨q, 2, none⟩ z).setCell ⟨q, 3, none⟩ u) size A n c xs :=
  h.keepLt fun a e _ => keep4 x y z u _ (hq a e)
theorem KOwn.rdOf {α η : Type} {K : Kin α η} {w : World} {base n c : Nat} {e : TypeId} {A : Option Addr} {l : List α} (h : KOwn K w base e (.slice A n c) l) : KRd K w A n c l := by
  obtain ⟨A', c', q, hN⟩ := h.new
  injection q with q1 q2 q3
  subst q1; subst q2; subst q3
  exact hN.rd
/-- three fields of a store, written in place -/
theorem Blk.put3 {w : World} {g : Nat} {t : TypeId} {x0 x1 x2 x3 : Value} (h : Blk w g t [x0, x1, x2, x3]) (a b d : Value) : Blk (((w.setCell ⟨g, 0, none⟩ a).setCell ⟨g, 1, none⟩ b).setCell ⟨g, 3, none⟩ d) g t [a, b, x2, d] := by
  simpa using ((h.put 0 a).put 1 b).put 3 d
theorem Blk.far3 {w : World} {g q : Nat} {t : TypeId} {xs : List Value} (h : Blk w g t xs) (hne : g ≠ q) (a b d : Value) : Blk (((w.setCell ⟨q, 0, none⟩ a).setCell ⟨q, 1, none⟩ b).setCell ⟨q, 3, none⟩ d) g t xs :=
  ((h.far (p := ⟨q, 0, none⟩) hne a).far (p := ⟨q, 1, none⟩) hne b).far (p := ⟨q, 3, none⟩) hne d
theorem below3 {a w : World} (h : Below a.heap.size a w) {q : Nat} (hq : a.heap.size ≤ q) (x y v : Value) : Below a.heap.size a (((w.setCell ⟨q, 0, none⟩ x).setCell ⟨q, 1, none⟩ y).setCell ⟨q, 3, none⟩ v) :=
  ((h.setCell (p := ⟨q, 0, none⟩) hq x).setCell (p := ⟨q, 1, none⟩) hq y).setCell (p := ⟨q, 3, none⟩) hq v
theorem KNew.set3 {α η : Type} {K : Kin α η} {w : World} {base n c : Nat} {A : Option Addr} {l : List α} (h : KNew K w base A n c l) {q : Nat} (hq : q < base) (x y v : Value) : KNew K (((w.setCell ⟨q, 0, none⟩ x).setCell ⟨q, 1, none⟩ y).setCell ⟨q, 3, none⟩ v) base A n c l :=
  ((h.set hq x).set hq y).set hq v
end Go.Proofs.YtnadgdjaldemhaaGreatDoor

/- Rows that may be written: blobs and entries whose cells are not marked. Nothing of the program. -/
import Derived.Test.YtdohiioiollfhaaGreatDoorGN
import Derived.Test.YtdohiioiollfhaaGreatDoorGO
namespace Go.Proofs.YtdohiioiollfhaaGreatDoor
open Go.RowKit
/-- cells that may be written -/
def Unf (w : World) (A : Option Addr) (n : Nat) : Prop := ∀ a : Addr, A = some a → ∀ j, j < n → w.frozen? ⟨a.block, a.off + j, none⟩ = false
theorem Unf.none (w : World) (n : Nat) : Unf w none n := fun _ h => by cases h
theorem Unf.zero (w : World) (A : Option Addr) : Unf w A 0 := fun _ _ j hj => absurd hj (Nat.not_lt_zero j)
theorem frozen_block {w w' : World} {a : Addr} (h : w'.heap[a.block]? = w.heap[a.block]?) : w'.frozen? a = w.frozen? a := by
  unfold World.frozen?
  rw [h]
theorem Unf.keep {w w' : World} {A : Option Addr} {n : Nat} (h : Unf w A n) (hk : ∀ a : Addr, A = some a → 0 < n → w'.heap[a.block]? = w.heap[a.block]?) : Unf w' A n := fun a e j hj => by
  rw [frozen_block (w := w) (a := ⟨a.block, a.off + j, Option.none⟩) (hk a e (by omega))]
  exact h a e j hj
theorem Unf.keepR {w w' : World} {size n c : Nat} {A : Option Addr} {xs : List Value} (h : Unf w A (n * size)) (hr : Rd w size A n c xs) (hk : ∀ k ∈ blk1 A, k < w.heap.size → w'.heap[k]? = w.heap[k]?) : Unf w' A (n * size) :=
  h.keep fun a e hp => by
    obtain ⟨b, off, e2, hc⟩ := hr.2.2.2 (by rw [hr.1]; exact hp)
    rw [e] at e2
    injection e2 with e2
    subst e2
    have h0 : 0 < xs.length := by rw [hr.1]; exact hp
    exact hk b (mem_blk1.2 ⟨_, e, rfl⟩) (cell_lt (hc 0 xs[0] (List.getElem?_eq_getElem h0)))
theorem own_unf {w : World} {base : Nat} {e : TypeId} {size n c : Nat} {A : Option Addr} {xs : List Value} (h : w.ownsRow base e size (.slice A n c) n xs) : Unf w A (n * size) := by
  obtain ⟨hl, hcase⟩ := h
  rcases hcase with ⟨_, h0⟩ | ⟨g, cap, cur, q, hB, hb, r1, r2, r3, r4⟩
  · rw [h0, Nat.zero_mul]; exact Unf.zero _ _
  · injection q with q1 q2 q3
    subst q1
    intro a e j hj
    injection e with e
    subst e
    simp [World.frozen?, hb]
theorem own_unf1 {w : World} {base : Nat} {e : TypeId} {n c : Nat} {A : Option Addr} {xs : List Value} (h : w.ownsRow base e 1 (.slice A n c) n xs) : Unf w A n := by
  have := own_unf h
  rwa [Nat.mul_one] at this
def kBlW : Kin Bl Hd where
  size := 4
  cells := kBl.cells
  deep w b h := kBl.deep w b h ∧ Unf w h.A h.n
  blocks := kBl.blocks
  pos := kBl.pos
  len := kBl.len
  one := kBl.one
  keep := fun {w w' a h} hd hk => ⟨kBl.keep hd.1 hk, by
    have h1 := hd.1.1
    have h2 := hd.2
    rw [← Nat.mul_one h.n] at h2 ⊢
    exact h2.keepR h1 hk⟩
def kEnW : Kin En Hd where
  size := 4
  cells := kEn.cells
  deep w b h := kEn.deep w b h ∧ Unf w h.A (h.n * 3)
  blocks := kEn.blocks
  pos := kEn.pos
  len := kEn.len
  one := kEn.one
  keep := fun hd hk => ⟨kEn.keep hd.1 hk, hd.2.keepR hd.1.1 hk⟩
theorem KRd.plB {w : World} {A : Option Addr} {n c : Nat} {l : List Bl} (h : KRd kBlW w A n c l) : KRd kBl w A n c l := by
  obtain ⟨hs, e, hr, hd⟩ := h
  exact ⟨hs, e, hr, fun x hx => (hd x hx).1⟩
theorem KRd.plE {w : World} {A : Option Addr} {n c : Nat} {l : List En} (h : KRd kEnW w A n c l) : KRd kEn w A n c l := by
  obtain ⟨hs, e, hr, hd⟩ := h
  exact ⟨hs, e, hr, fun x hx => (hd x hx).1⟩
/-- new things that may be written, and their row too -/
def Nw {α η : Type} (K : Kin α η) (w : World) (base : Nat) (A : Option Addr) (n c : Nat) (l : List α) : Prop := KNew K w base A n c l ∧ Unf w A (n * K.size)
section
variable {α η : Type} {K : Kin α η} {w w' : World} {base n c : Nat} {A : Option Addr} {l : List α}
theorem Nw.nil (w : World) (base : Nat) : Nw K w base none 0 0 ([] : List α) := ⟨KNew.nil _ _, Unf.none _ _⟩
theorem Nw.nilCap (h : Nw K w base A n c l) : A = none → c = 0 := h.1.nilCap
theorem Nw.rdw (h : Nw K w base A n c l) : KRd K w A n c l := h.1.rd
theorem Nw.at (h : Nw K w base A n c l) : ∀ a : Addr, A = some a → base ≤ a.block ∧ a.block < w.heap.size := by obtain ⟨⟨_, _, _, _, hF, _⟩, _⟩ := h; exact hF
theorem Nw.keep (h : Nw K w base A n c l) (hz : w.heap.size ≤ w'.heap.size) (hk : ∀ k, base ≤ k → k < w.heap.size → w'.heap[k]? = w.heap[k]?) : Nw K w' base A n c l :=
  ⟨h.1.keep hz hk, h.2.keep fun a e _ => hk _ (h.at a e).1 (h.at a e).2⟩
theorem Nw.below (h : Nw K w base A n c l) (hb : Below w.heap.size w w') : Nw K w' base A n c l := h.keep hb.size fun k _ hk => hb.block k hk
theorem Nw.set (h : Nw K w base A n c l) {g i : Nat} (hg : g < base) (u : Value) : Nw K (w.setCell ⟨g, i, none⟩ u) base A n c l :=
  h.keep (by simp) fun k h1 _ => Below.heap_setCell w ⟨g, i, none⟩ u k (by show k ≠ g; omega)
theorem Nw.rebase (h : Nw K w base A n c l) {base' : Nat} (hb : base' ≤ base) : Nw K w base' A n c l := ⟨h.1.rebase hb, h.2⟩
theorem Nw.set4s (h : Nw K w base A n c l) {q : Nat} (hq : q < base) (x y z v : Value) : Nw K ((((w.setCell ⟨q, 0, none⟩ x).setCell ⟨q, 1, none⟩ y).setCell ⟨q, 2, none⟩ z).setCell ⟨q, 3, none⟩ v) base A n c l :=
  (((h.set hq x).set hq y).set hq z).set hq v
theorem Nw.set3 (h : Nw K w base A n c l) {q : Nat} (hq : q < base) (x y v : Value) : Nw K (((w.setCell ⟨q, 0, none⟩ x).setCell ⟨q, 1, none⟩ y).setCell ⟨q, 3, none⟩ v) base A n c l :=
  ((h.set hq x).set hq y).set hq v
theorem KOwn.nw {e : TypeId} {v : Value} (h : KOwn K w base e v l) : ∃ A c, v = .slice A l.length c ∧ Nw K w base A l.length c l := by
  obtain ⟨A, c, rfl, hN⟩ := h.new
  obtain ⟨hs, hm, hrow, -⟩ := h
  exact ⟨A, c, rfl, hN, own_unf hrow⟩
end
theorem Nw.rd {w : World} {base n c : Nat} {A : Option Addr} {l : List Bl} (h : Nw kBlW w base A n c l) : KRd kBl w A n c l := h.1.rd.plB
theorem Nw.rdE {w : World} {base n c : Nat} {A : Option Addr} {l : List En} (h : Nw kEnW w base A n c l) : KRd kEn w A n c l := h.1.rd.plE
end Go.Proofs.YtdohiioiollfhaaGreatDoor

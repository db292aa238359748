/- What putting and dropping blobs hand back. Nothing of the program. -/
import Derived.Test.YtdohiioiollfhaaGreatDoorGO
import Derived.Lib.Hide
namespace Go.Proofs.YtdohiioiollfhaaGreatDoor
open Go.RowKit
/-- blobs that are new, a digest and an error -/
def GivesPut (l : List Bl) (d : List UInt8) (err : Int) (w : World) (e : Ending) (w' : World) : Prop :=
  ∃ A n c, e = .returned (.tuple #[.slice A n c, .string (str d), .int .i64 err]) ∧ KNew kBl w' w.heap.size A n c l ∧ Below w.heap.size w w'
theorem givesPut_nil {w w' : World} {err : Int} {e : Ending} (h : e = .returned (.tuple #[.slice none 0 0, .string (str []), .int .i64 err])) (hb : Below w.heap.size w w') : GivesPut [] [] err w e w' :=
  ⟨none, 0, 0, h, KNew.nil _ _, hb⟩
theorem bTo_eq {l : List Bl} {d : List UInt8} {k : Nat} (hk : k ≤ l.length) (h1 : ∀ j (h : j < l.length), j < k → Op.bytesLess l[j].dg d = true) (h2 : ∀ h : k < l.length, Op.bytesLess l[k].dg d = false) : bTo l d = k := by
  rcases Nat.lt_trichotomy (bTo l d) k with q | q | q
  · have hlt := Nat.lt_of_lt_of_le q hk
    have h0 : (!Op.bytesLess l[bTo l d].dg d) = true := List.findIdx_getElem (xs := l) (p := fun b : Bl => !Op.bytesLess b.dg d) (w := hlt)
    rw [h1 _ hlt q] at h0
    cases h0
  · exact q
  · have hkl : k < l.length := Nat.lt_of_lt_of_le q (bTo_le l d)
    have := bTo_front q
    rw [h2 hkl] at this
    cases this
/-- blobs that are new and an error -/
def GivesBs (l : List Bl) (err : Int) (w : World) (e : Ending) (w' : World) : Prop :=
  ∃ A n c, e = .returned (.tuple #[.slice A n c, .int .i64 err]) ∧ KNew kBl w' w.heap.size A n c l ∧ Below w.heap.size w w'
theorem givesBs_nil {w w' : World} {err : Int} {e : Ending} (h : e = .returned (.tuple #[.slice none 0 0, .int .i64 err])) (hb : Below w.heap.size w w') : GivesBs [] err w e w' :=
  ⟨none, 0, 0, h, KNew.nil _ _, hb⟩
theorem bAt_eq {l : List Bl} {d : List UInt8} {k : Nat} (hk : k ≤ l.length) (h1 : ∀ j (h : j < l.length), j < k → l[j].dg ≠ d) (h2 : ∀ h : k < l.length, l[k].dg = d) : bAt l d = k := by
  rcases Nat.lt_trichotomy (bAt l d) k with q | q | q
  · exact absurd (bAt_there (Nat.lt_of_lt_of_le q hk)) (h1 _ _ q)
  · exact q
  · have hkl : k < l.length := Nat.lt_of_lt_of_le q (bAt_le l d)
    have := List.not_of_lt_findIdx (xs := l) (p := fun b : Bl => b.dg == d) q
    rw [h2 hkl] at this
    simp at this
/-- a row of blobs of the call's own, whatever the slice value -/
theorem KOwn.row {α η : Type} {K : Kin α η} {w : World} {base : Nat} {e : TypeId} {v : Value} {l : List α} (h : KOwn K w base e v l) : ∃ hs : List (α × η), hs.map Prod.fst = l ∧ w.ownsRow base e K.size v l.length (K.all hs) ∧ ∀ x ∈ hs, K.deep w x.1 x.2 ∧ ∀ k ∈ K.blocks x.2, base ≤ k ∧ k < w.heap.size ∧ v.ownBlock ≠ some k := h
end Go.Proofs.YtdohiioiollfhaaGreatDoor

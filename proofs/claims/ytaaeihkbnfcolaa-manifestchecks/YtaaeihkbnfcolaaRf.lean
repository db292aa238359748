/- Slices cut off at the front and at the end. Nothing of the program. -/
import Derived.Test.YtaaeihkbnfcolaaApp
namespace Go.Proofs.Ytaaeihkbnfcolaa
open Go.RowKit
theorem Rd.drop {w : World} {b off n c : Nat} {xs : List Value} (h : Rd w 1 (some ⟨b, off, none⟩) n c xs) (k : Nat) (hk : k ≤ n) : Rd w 1 (some ⟨b, off + k, none⟩) (n - k) (c - k) (xs.drop k) := by
  obtain ⟨h1, h2, h3, h4⟩ := h
  refine ⟨by rw [List.length_drop]; omega, by omega, by omega, fun hp => ⟨b, off + k, rfl, fun j v hv => ?_⟩⟩
  obtain ⟨b', off', e, hc⟩ := h4 (by rw [List.length_drop] at hp; omega)
  injection e with e
  injection e with e1 e2
  subst e1; subst e2
  rw [List.getElem?_drop] at hv
  have := hc _ _ hv
  rwa [← Nat.add_assoc] at this
theorem Rd.none0 (w : World) (A : Option Addr) (c : Nat) (hc : c ≤ maxLen) : Rd w 1 A 0 c [] := ⟨by simp, by omega, hc, fun h => absurd h (by simp)⟩
theorem own_rdN {w : World} {base : Nat} {e : TypeId} {v : Value} {n : Nat} {xs : List Value} (h : w.ownsRow base e 1 v n xs) : ∃ A c, v = .slice A n c ∧ Rd w 1 A n c xs ∧ (A = none → c = 0) := by
  rcases h.2 with ⟨rfl, rfl⟩ | ⟨g, cap, cur, rfl, _, _, h1, h2, _⟩
  · have : xs = [] := List.eq_nil_of_length_eq_zero (by simpa using h.1)
    subst this
    exact ⟨none, 0, rfl, Rd.nil _ _, fun _ => rfl⟩
  · exact ⟨_, _, rfl, Rd.of_own h h2 h1, fun q => by cases q⟩
theorem own_rdF {w : World} {base : Nat} {e : TypeId} {v : Value} {n : Nat} {xs : List Value} (h : w.ownsRow base e 1 v n xs) : ∃ A c, v = .slice A n c ∧ Rd w 1 A n c xs ∧ (A = none → c = 0) ∧ ∀ a : Addr, A = some a → base ≤ a.block := by
  obtain ⟨A, c, rfl, hr, hA⟩ := own_rdN h
  exact ⟨A, c, rfl, hr, hA, fun a q => (h.lt a.block (by rw [q]; rfl)).1⟩
/-- the call hands back a value, bytes of its own (if any) and an error -/
def GivesN (x : Value) (l : List UInt8) (err : Int) (w : World) (e : Ending) (w' : World) : Prop :=
  ∃ A n c, e = .returned (.tuple #[x, .slice A n c, .int .i64 err]) ∧ Rd w' 1 A n c (l.map bv8) ∧ (A = none → c = 0) ∧ n ≤ 140737488355328 ∧ Hid (∀ a : Addr, A = some a → w.heap.size ≤ a.block) ∧ Below w.heap.size w w'
theorem givesN_nil {w : World} {x : Value} {err : Int} {e : Ending} {w' : World} (h : e = .returned (.tuple #[x, .slice none 0 0, .int .i64 err]) ∧ w = w') : GivesN x [] err w e w' := by
  obtain ⟨rfl, rfl⟩ := h
  exact ⟨none, 0, 0, rfl, Rd.nil _ _, fun _ => rfl, by omega, fun _ q => (by cases q), Below.refl _ _⟩
end Go.Proofs.Ytaaeihkbnfcolaa

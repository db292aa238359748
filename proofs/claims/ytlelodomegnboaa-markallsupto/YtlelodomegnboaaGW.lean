/- The bytes of blobs, and what lacks: plain functions, and what holds of them. Nothing of the program. -/
import Derived.Test.YtlelodomegnboaaGN
import Derived.IntWalk
namespace Go.Proofs.Ytlelodomegnboaa
open Go.RowKit
/-- the bytes of blobs, all in all -/
def uS (l : List Bl) : Int := ((l.map fun b => b.dt.length).sum : Nat)
theorem wrap64_add (a b : Int) : wrap64 (wrap64 a + b) = wrap64 (a + b) := by unfold wrap64; omega
theorem wrap64_zero : wrap64 0 = 0 := by unfold wrap64; omega
theorem wrap64_range (a : Int) : -9223372036854775808 ≤ wrap64 a ∧ wrap64 a ≤ 9223372036854775807 := by unfold wrap64; omega
theorem uS_step {l : List Bl} {k : Nat} (h : k < l.length) : uS (l.take (k + 1)) = uS (l.take k) + (l[k].dt.length : Int) := by
  unfold uS; rw [List.take_succ_eq_append_getElem h, List.map_append, List.sum_append]; simp
/-- what lacks: the number, the error -/
def rL (l : List Bl) (room more : Int) : Int × Int :=
  if room < 0 ∨ 4000 < room ∨ more < 0 ∨ 4000 < more then (0, 4) else if wrap64 (wrap64 (wrap64 (uS l) + more) - room) < 0 then (0, 0) else (wrap64 (wrap64 (wrap64 (uS l) + more) - room), 0)
theorem uS_le : ∀ (l : List Bl) (m : Nat), (∀ b ∈ l, b.dt.length ≤ m) → 0 ≤ uS l ∧ uS l ≤ ((m * l.length : Nat) : Int) := by
  intro l m h
  have : (l.map fun b => b.dt.length).sum ≤ m * l.length := by
    induction l with
    | nil => simp
    | cons b r ih =>
      have := ih fun x hx => h x (List.mem_cons_of_mem _ hx)
      have := h b (List.mem_cons_self ..)
      rw [List.map_cons, List.sum_cons, List.length_cons, Nat.mul_succ]; omega
  unfold uS
  omega
/-- few bytes, numbers that may be: no sum goes round -/
theorem rL_small {l : List Bl} {a b : Int} (h0 : 0 ≤ uS l) (h1 : uS l ≤ 100000) (ha : 0 ≤ a) (ha' : a ≤ 4000) (hb : 0 ≤ b) (hb' : b ≤ 4000) :
    rL l a b = (if 0 < uS l + b - a then uS l + b - a else 0, 0) := by
  unfold rL
  rw [if_neg (by omega)]
  have e : wrap64 (wrap64 (wrap64 (uS l) + b) - a) = uS l + b - a := by unfold wrap64; omega
  rw [e]
  generalize uS l + b - a = x
  split <;> split <;> simp <;> omega
theorem uS_small {l : List Bl} (h0 : 0 ≤ uS l) (h1 : uS l ≤ 100000) : wrap64 (uS l) = uS l := by unfold wrap64; omega
end Go.Proofs.Ytlelodomegnboaa

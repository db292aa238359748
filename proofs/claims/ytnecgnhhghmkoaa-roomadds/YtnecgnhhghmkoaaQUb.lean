/- Room, where the bytes are few: what lacks, and what fits. One blob of three bytes. -/
import Derived.Test.YtnecgnhhghmkoaaGW
import Derived.Test.YtnecgnhhghmkoaaGO
namespace Go.Proofs.Ytnecgnhhghmkoaa
open Go.RowKit
theorem uS_le : ∀ (l : List Bl) (m : Nat), (∀ b ∈ l, b.dt.length ≤ m) → 0 ≤ uS l ∧ uS l ≤ ((m * l.length : Nat) : Int) := by
  intro l m h
  have : (l.map fun b => b.dt.length).sum ≤ m * l.length := by
    induction l with
    | nil => simp
    | cons b r ih =>
      have := ih fun x hx => h x (List.mem_cons_of_mem _ hx)
      have := h b (List.mem_cons_self ..)
      rw [List.map_cons, List.sum_cons, List.length_cons, Nat.mul_succ]; omega
  unfold uS
  omega
/-- few bytes, numbers that may be: no sum goes round -/
theorem rL_small {l : List Bl} {a b : Int} (h0 : 0 ≤ uS l) (h1 : uS l ≤ 100000) (ha : 0 ≤ a) (ha' : a ≤ 4000) (hb : 0 ≤ b) (hb' : b ≤ 4000) :
    rL l a b = (if 0 < uS l + b - a then uS l + b - a else 0, 0) := by
  unfold rL
  rw [if_neg (by omega)]
  have e : wrap64 (wrap64 (wrap64 (uS l) + b) - a) = uS l + b - a := by unfold wrap64; omega
  rw [e]
  generalize uS l + b - a = x
  split <;> split <;> simp <;> omega
theorem uS_small {l : List Bl} (h0 : 0 ≤ uS l) (h1 : uS l ≤ 100000) : wrap64 (uS l) = uS l := by unfold wrap64; omega
theorem one_rd (w : World) (t : TypeId) {g : Nat} {fz : Nat × Nat} {u : TypeId} (h : w.heap[g]? = some (.cells (([97, 98, 99] : List UInt8).map bv8).toArray u fz)) :
    KRd kBl (w.alloc (.cells #[.string (str []), .slice (some ⟨g, 0, none⟩) 3 3, .int .i64 0, .bool false] t)) (some ⟨w.heap.size, 0, none⟩) 1 1 [⟨[], [97, 98, 99], 0, false⟩] := by
  have hg : g < w.heap.size := (Array.getElem?_eq_some_iff.1 h).1
  refine ⟨[(⟨[], [97, 98, 99], 0, false⟩, ⟨some ⟨g, 0, none⟩, 3, 3⟩)], rfl, ?_, ?_⟩
  · have := (Blk.new w t [.string (str []), .slice (some ⟨g, 0, none⟩) 3 3, .int .i64 0, .bool false]).rd (size := 4) (n := 1) (c := 1) (Nat.le_refl _) (by unfold maxLen; omega) (by simp)
    exact this
  · intro x hx
    rw [List.mem_singleton] at hx
    subst hx
    have hb : (w.alloc (.cells #[.string (str []), .slice (some ⟨g, 0, none⟩) 3 3, .int .i64 0, .bool false] t)).heap[g]? = some (.cells (([97, 98, 99] : List UInt8).map bv8).toArray u fz) := (Below.heap_alloc w _ g hg).trans h
    refine ⟨⟨by simp, Nat.le_refl _, by unfold maxLen; simp, fun _ => ⟨g, 0, rfl, fun j v hv => ?_⟩⟩, fun q => by cases q⟩
    simp [World.cell?, hb] at hv ⊢
    exact hv
end Go.Proofs.Ytnecgnhhghmkoaa

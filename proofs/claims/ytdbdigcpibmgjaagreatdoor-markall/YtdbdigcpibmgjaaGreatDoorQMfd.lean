/- 'delete(m, s)' of a map that a call makes, as a function of its keys. -/
import Derived.Test.YtdbdigcpibmgjaaGreatDoorGRD
namespace Go.Proofs.YtdbdigcpibmgjaaGreatDoor
open Go.RowKit Go.Maps
section
variable {w : World} {b n : Nat} {f : List UInt8 → Option Value}
theorem MapF.del_has {w' : World} {D : DataW Value} {s : List UInt8} (ho' : w'.ownsMap Tryz.prog 9 hv b n (D.del (.string s))) (hf : ∀ s, Maps.has D (.string s) = (f s).isSome ∧ ∀ v, f s = some v → ∀ z, D.atKey (.string s) z = .held v) :
    MapF w' b n (fun x => if x = s then none else f x) := by
  refine ⟨_, ho', fun x => ?_⟩
  by_cases hx : x = s
  · subst hx
    show _ = (if x = x then none else f x).isSome ∧ ∀ v', (if x = x then none else f x) = some v' → _
    rw [if_pos rfl]
    exact ⟨has_del_same, fun v' h => by cases h⟩
  · show _ = (if x = s then none else f x).isSome ∧ ∀ v', (if x = s then none else f x) = some v' → _
    rw [if_neg hx]
    have hne : Lit.string x ≠ .string s := fun q => hx (by injection q)
    exact ⟨by rw [has_del_other hne]; exact (hf x).1, fun v' h z => by rw [atKey_del_other hne]; exact (hf x).2 v' h z⟩
theorem wpList_delete_mapF (w : World) {ops : Array Oper} {rest : List Oper} {o : Oper} {a : Act} {Q : Exit → Act → World → Prop} (hg : o.guard = none) (m x : Operand) (t : TypeId) (hop : o.op = Op.call { callee := Callee.builtin Builtin.delete, args := #[m, x], argTypes := #[t, 9] })
    (e : TypeId) (ht : Tryz.prog.underlying t = some (.map 9 e)) (b n : Nat) (f : List UInt8 → Option Value) (hm : a.eval m = .map (some b)) (h : MapF w b n f) (s : List UInt8) (hx : a.eval x = .string (str s)) (hs : s.length ≤ maxLen)
    (hK : ∀ w', MapF w' b n (fun x => if x = s then none else f x) → w.grownBy w' (some b) → wpList Tryz.prog ops Q rest (a.put o.dst (.tuple #[])) w') :
    wpList Tryz.prog ops Q (o :: rest) a w := by
  obtain ⟨D, ho, hf⟩ := h
  exact wpList_delete_own w hg m x t 9 hop e strK ht hv b n D hm ho _ _ hx (strKey hs) fun w' h1 h2 => hK w' (MapF.del_has h1 hf) h2.grown
end
end Go.Proofs.YtdbdigcpibmgjaaGreatDoor

/- The store's calls in letters: Get. -/
import Derived.Test.YtdohiioiollfhaaGreatDoorQWb
import Derived.Test.YtdohiioiollfhaaGreatDoorQKxw
import Derived.Test.YtdohiioiollfhaaGreatDoorQL10w
namespace Go.Proofs.YtdohiioiollfhaaGreatDoor
open Go.RowKit
def SGF (E : Int) (L : List Bl) (M : List En) (r t : Int) (ps : List Prt) (w : World) (e : Ending) (w' : World) : Prop :=
  ∃ A c B d P n f, e = .returned (.tuple #[.agg #[.slice A L.length c, .slice B M.length d, .int .i64 r, .int .i64 t], .slice P n f, .int .i64 E]) ∧ Nw kBlW w' w.heap.size A L.length c L ∧ Nw kEnW w' w.heap.size B M.length d M ∧ Rd w' 3 P n f (pcs ps) ∧ (P = none → f = 0) ∧ (∀ a : Addr, P = some a → w.heap.size ≤ a.block ∧ a.block < w'.heap.size) ∧ Unf w' P (n * 3) ∧ Below w.heap.size w w'
/-- a slice of new parts, handed back -/
def PVar (w0 : World) (ps : List Prt) (v : Value) (wx : World) : Prop :=
  ∃ P n f, v = .slice P n f ∧ Rd wx 3 P n f (pcs ps) ∧ (P = none → f = 0) ∧ (∀ a : Addr, P = some a → w0.heap.size ≤ a.block ∧ a.block < wx.heap.size) ∧ Unf wx P (n * 3)
theorem pv_new {w0 w3 : World} {base n f : Nat} {P : Option Addr} {ps : List Prt} (h : Rd w3 3 P n f (pcs ps)) (hn : P = none → f = 0) (hF : ∀ a : Addr, P = some a → base ≤ a.block ∧ a.block < w3.heap.size) (hU : Unf w3 P (n * 3)) (hb : w0.heap.size ≤ base) (o : Obj) : PVar w0 ps (.slice P n f) (w3.alloc o) :=
  ⟨_, _, _, rfl, h.below ((Below.refl _ _).alloc (Nat.le_refl _) _), hn, fun a e => ⟨Nat.le_trans hb (hF a e).1, by have := (hF a e).2; simp; omega⟩, hU.keep fun a e _ => ((Below.refl w3.heap.size w3).alloc (Nat.le_refl _) o).block _ (hF a e).2⟩
theorem pv_put {w0 w3 : World} {base n f g : Nat} {P : Option Addr} {ps : List Prt} (h : Rd w3 3 P n f (pcs ps)) (hn : P = none → f = 0) (hF : ∀ a : Addr, P = some a → base ≤ a.block ∧ a.block < w3.heap.size) (hU : Unf w3 P (n * 3)) (hb : w0.heap.size ≤ base) (hg : g < base) (x y z u : Value) : PVar w0 ps (.slice P n f) ((((w3.setCell ⟨g, 0, none⟩ x).setCell ⟨g, 1, none⟩ y).setCell ⟨g, 2, none⟩ z).setCell ⟨g, 3, none⟩ u) :=
  ⟨_, _, _, rfl, rd_far4 h (fun a e => by have := (hF a e).1; omega) _ _ _ _, hn, fun a e => ⟨Nat.le_trans hb (hF a e).1, by have := (hF a e).2; simpa using this⟩, hU.keep fun a e _ => keep4 _ _ _ _ _ (by have := (hF a e).1; omega)⟩
theorem get_at {W : World} {A B : Option Addr} {n c m k : Nat} {L L2 : List Bl} {M M2 : List En} {r t r2 t2 E : Int} {d : List UInt8} {ps : List Prt} (h : StA W A B n c m k ⟨L, M, r, t⟩) (hd : d.length ≤ maxLen) (hX : sGet ⟨L, M, r, t⟩ d = (E, ⟨L2, M2, r2, t2⟩, ps)) :
    Calls Tryz.prog 11 #[.agg #[.slice A n c, .slice B m k, .int .i64 r, .int .i64 t], .string (str d)] W (SGF E L2 M2 r2 t2 ps W) := by
  have := lGetF h hd
  rw [hX] at this
  exact this
end Go.Proofs.YtdohiioiollfhaaGreatDoor

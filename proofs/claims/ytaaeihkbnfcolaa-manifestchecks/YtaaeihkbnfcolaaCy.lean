/- copy into a block that is known whole. Nothing of the program. -/
import Derived.Test.YtaaeihkbnfcolaaApp
import Derived.Laws.CopyOwn
namespace Go.Proofs.Ytaaeihkbnfcolaa
open Go.RowKit
theorem addr_addR (b off j : Nat) : (⟨b, off, none⟩ : Addr).add j = ⟨b, off + j, none⟩ := by unfold Addr.add; split <;> simp_all
/-- a guard for the walk: the next operation is a copy -/
theorem at_copy {P : Program} {w : World} {ops : Array Oper} {rest : List Oper} {dst : Option Tmp} {cl : Array Operand} {ty : TypeId} {ts : Array TypeId} {pos : String} {af : Array Edge} {gd : Option (Nat × Bool)} {a : Act} {Q : Exit → Act → World → Prop}
    (h : wpList P ops Q ({ dst := dst, op := .call { callee := .builtin .copy, args := cl, argTypes := ts }, type := ty, pos := pos, after := af, guard := gd } :: rest) a w) :
    wpList P ops Q ({ dst := dst, op := .call { callee := .builtin .copy, args := cl, argTypes := ts }, type := ty, pos := pos, after := af, guard := gd } :: rest) a w := h
/-- copy(dst, src), dst a block of the call's own from its start on, src not longer than dst -/
theorem wpList_copyR {P : Program} {w : World} {ops : Array Oper} {rest : List Oper} {o : Oper} {a : Act} {Q : Exit → Act → World → Prop} (hgd : o.guard = none) (d s : Operand) (dT sT : TypeId)
    (ho : o.op = .call { callee := .builtin .copy, args := #[d, s], argTypes := #[dT, sT] }) {e : TypeId} {i : TypeInfo} (hu : P.underlying dT = some (.slice e)) (hi : P.info? e = some i) (hsz : i.size = 1)
    (g dLen dCap : Nat) {A : Option Addr} {n c : Nat} {ys : List Value} (hd : a.eval d = .slice (some ⟨g, 0, none⟩) dLen dCap) (hs : a.eval s = .slice A n c)
    (cur : List Value) (t : TypeId) (hg : Blk w g t cur) (hr : Rd w 1 A n c ys) (hn : n ≤ dLen) (hfit : n ≤ cur.length) (h1 : ∀ v ∈ ys, v.oneCell' = true) (B : Nat) (w0 : World) (hb : Below B w0 w) (hBg : B ≤ g)
    (h : ∀ w', Hid (Blk w' g t (ys ++ cur.drop n)) → Below B w0 w' → wpList P ops Q rest (a.put o.dst (goInt n)) w') :
    wpList P ops Q (o :: rest) a w := by
  have hl : ys.length = n := by simpa using hr.1
  refine wpList_copy_splice hgd d s dT sT ho e hu (by rw [hi]; simp [hsz]) (some ⟨g, 0, none⟩) A dLen dCap n c hd hs g 0 cur t hg ys (by rw [hl]; exact (Nat.min_eq_left hn).symm) (fun hp => ⟨rfl, ?_⟩) (by omega) h1 B w0 hb hBg ?_
  · obtain ⟨b, off, rfl, hc⟩ := hr.2.2.2 hp
    exact ⟨_, rfl, fun j v hv => by rw [addr_addR]; exact hc j v hv⟩
  · intro w' HG hB
    rw [hl]
    refine h w' ?_ hB
    have := HG.out
    unfold splice at this
    rw [List.take_zero, List.nil_append, Nat.zero_add, hl] at this
    exact this
end Go.Proofs.Ytaaeihkbnfcolaa

/- copy into a block that is known whole; padded bytes as a loop fills them. Nothing of the program. -/
import Derived.Test.YtbadpiennobdmaaDoorApp
import Derived.Test.YtbadpiennobdmaaDoorShx
import Derived.Laws.CopyOwn
namespace Go.Proofs.YtbadpiennobdmaaDoor
open Go.RowKit
theorem addr_addR (b off j : Nat) : (⟨b, off, none⟩ : Addr).add j = ⟨b, off + j, none⟩ := by unfold Addr.add; split <;> simp_all
/-- a guard for the walk: the next operation is a copy -/
theorem at_copy {P : Program} {w : World} {ops : Array Oper} {rest : List Oper} {dst : Option Tmp} {cl : Array Operand} {ty : TypeId} {ts : Array TypeId} {pos : String} {af : Array Edge} {gd : Option (Nat × Bool)} {a : Act} {Q : Exit → Act → World → Prop}
    (h : wpList P ops Q ({ dst := dst, op := .call { callee := .builtin .copy, args := cl, argTypes := ts }, type := ty, pos := pos, after := af, guard := gd } :: rest) a w) :
    wpList P ops Q ({ dst := dst, op := .call { callee := .builtin .copy, args := cl, argTypes := ts }, type := ty, pos := pos, after := af, guard := gd } :: rest) a w := h
/-- copy(dst, src), dst a block of the call's own from its start on, src not longer than dst -/
theorem wpList_copyR {P : Program} {w : World} {ops : Array Oper} {rest : List Oper} {o : Oper} {a : Act} {Q : Exit → Act → World → Prop} (hgd : o.guard = none) (d s : Operand) (dT sT : TypeId)
    (ho : o.op = .call { callee := .builtin .copy, args := #[d, s], argTypes := #[dT, sT] }) {e : TypeId} {i : TypeInfo} (hu : P.underlying dT = some (.slice e)) (hi : P.info? e = some i) (hsz : i.size = 1)
    (g dLen dCap : Nat) {A : Option Addr} {n c : Nat} {ys : List Value} (hd : a.eval d = .slice (some ⟨g, 0, none⟩) dLen dCap) (hs : a.eval s = .slice A n c)
    (cur : List Value) (t : TypeId) (hg : Blk w g t cur) (hr : Rd w 1 A n c ys) (hn : n ≤ dLen) (hfit : n ≤ cur.length) (h1 : ∀ v ∈ ys, v.oneCell' = true) (B : Nat) (w0 : World) (hb : Below B w0 w) (hBg : B ≤ g)
    (h : ∀ w', Hid (Blk w' g t (ys ++ cur.drop n)) → Below B w0 w' → wpList P ops Q rest (a.put o.dst (goInt n)) w') :
    wpList P ops Q (o :: rest) a w := by
  have hl : ys.length = n := by simpa using hr.1
  refine wpList_copy_splice hgd d s dT sT ho e hu (by rw [hi]; simp [hsz]) (some ⟨g, 0, none⟩) A dLen dCap n c hd hs g 0 cur t hg ys (by rw [hl]; exact (Nat.min_eq_left hn).symm) (fun hp => ⟨rfl, ?_⟩) (by omega) h1 B w0 hb hBg ?_
  · obtain ⟨b, off, rfl, hc⟩ := hr.2.2.2 hp
    exact ⟨_, rfl, fun j v hv => by rw [addr_addR]; exact hc j v hv⟩
  · intro w' HG hB
    rw [hl]
    refine h w' ?_ hB
    have := HG.out
    unfold splice at this
    rw [List.take_zero, List.nil_append, Nat.zero_add, hl] at this
    exact this
/-- the padded bytes with i bytes of the length -/
def padW (l : List UInt8) (i : Nat) : List UInt8 := (l ++ [128] ++ List.replicate (zeros l.length + (8 - i)) 0) ++ (len8 l.length).drop (8 - i)
theorem padW_end (l : List UInt8) : padW l 8 = pad l := rfl
theorem padW_length (l : List UInt8) (i : Nat) (h : i ≤ 8) : (padW l i).length = l.length + 9 + zeros l.length := by
  unfold padW; simp [len8_length]; omega
theorem len8_get (n k : Nat) (h : k < 8) : (len8 n)[k]? = some (UInt8.ofNat ((n * 8) >>> (56 - 8 * k))) := by
  unfold len8; rw [List.getElem?_map, List.getElem?_range h]; rfl
theorem padW_split (l : List UInt8) (i : Nat) (h : i < 8) : padW l i = (l ++ [128] ++ List.replicate (zeros l.length + (8 - (i + 1))) 0) ++ (0 :: (len8 l.length).drop (8 - i)) := by
  unfold padW
  rw [show zeros l.length + (8 - i) = (zeros l.length + (8 - (i + 1))) + 1 from by omega, List.replicate_succ', ← List.append_assoc, List.append_assoc (l ++ [128] ++ _) [0]]
  rfl
theorem padW_len1 (l : List UInt8) (i : Nat) : (l ++ [128] ++ List.replicate (zeros l.length + (8 - (i + 1))) (0 : UInt8)).length = l.length + 1 + zeros l.length + (8 - (i + 1)) := by
  simp; omega
theorem padW_step (l : List UInt8) (i : Nat) (h : i < 8) : ((padW l i).map bv8).set (l.length + 9 + zeros l.length - 1 - i) (.int .u8 (y8 (UInt8.ofNat ((l.length * 8) >>> (8 * i))))) = (padW l (i + 1)).map bv8 := by
  have e : (.int .u8 (y8 (UInt8.ofNat ((l.length * 8) >>> (8 * i)))) : Value) = bv8 (UInt8.ofNat ((l.length * 8) >>> (8 * i))) := rfl
  rw [e, ← List.map_set, padW_split l i h, List.set_append_right _ _ (by rw [padW_len1]; omega), padW_len1, show l.length + 9 + zeros l.length - 1 - i - (l.length + 1 + zeros l.length + (8 - (i + 1))) = 0 from by omega, List.set_cons_zero]
  congr 1
  have h8 : 8 - (i + 1) < (len8 l.length).length := by rw [len8_length]; omega
  have h9 := len8_get l.length (8 - (i + 1)) (by omega)
  rw [List.getElem?_eq_getElem h8] at h9
  unfold padW
  rw [List.drop_eq_getElem_cons h8, Option.some.inj h9, show 8 - (i + 1) + 1 = 8 - i from by omega, show 56 - 8 * (8 - (i + 1)) = 8 * i from by omega]
theorem padW_at (l : List UInt8) (i : Nat) (h : i < 8) : ((padW l i).map bv8)[l.length + 9 + zeros l.length - 1 - i]? = some (.int .u8 0) := by
  rw [padW_split l i h, List.getElem?_map, List.getElem?_append_right (by rw [padW_len1]; omega), padW_len1, show l.length + 9 + zeros l.length - 1 - i - (l.length + 1 + zeros l.length + (8 - (i + 1))) = 0 from by omega]
  rfl
/-- the bytes copied, then the byte 128 -/
theorem padW_zero (l : List UInt8) (L : Nat) (h : L = l.length + 9 + zeros l.length) : (l.map bv8 ++ (reps L (.int .u8 0)).drop l.length).set l.length (.int .u8 128) = (padW l 0).map bv8 := by
  subst h
  unfold reps padW
  rw [List.drop_replicate, List.set_append_right _ _ (by simp), List.length_map, Nat.sub_self, show l.length + 9 + zeros l.length - l.length = (zeros l.length + (8 - 0)) + 1 from by omega, List.replicate_succ, List.set_cons_zero]
  simp [List.map_append, List.map_replicate]
  refine ⟨rfl, ?_⟩
  have : List.drop 8 (List.map bv8 (len8 l.length)) = [] := List.drop_eq_nil_of_le (by rw [List.length_map, len8_length]; omega)
  rw [this, List.append_nil]; rfl
theorem padW_mid (l : List UInt8) (L : Nat) (h : L = l.length + 9 + zeros l.length) : (l.map bv8 ++ (reps L (.int .u8 0)).drop l.length)[l.length]? = some (.int .u8 0) := by
  subst h
  unfold reps
  rw [List.getElem?_append_right (by simp), List.length_map, Nat.sub_self, List.drop_replicate, List.getElem?_replicate, if_pos (by omega)]
theorem shr_y8 (n k : Nat) : (n : Int) * 8 / 2 ^ (8 * k) % 256 = y8 (UInt8.ofNat ((n * 8) >>> (8 * k))) := by
  unfold y8
  rw [UInt8.toNat_ofNat', Nat.shiftRight_eq_div_pow]
  simp
theorem pad_room (n : Nat) : (n + 9 + 64 - 1) / 64 * 64 = n + 9 + zeros n := by unfold zeros; omega
end Go.Proofs.YtbadpiennobdmaaDoor

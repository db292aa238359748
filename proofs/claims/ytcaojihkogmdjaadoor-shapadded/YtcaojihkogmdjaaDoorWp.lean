/- Words and bytes: plain facts, and how the walk's numbers are told in their terms. Nothing of the program. -/
import Derived.Test.YtcaojihkogmdjaaDoorMd1
import Derived.Test.YtcaojihkogmdjaaDoorMem
namespace Go.Proofs.YtcaojihkogmdjaaDoor
open Go.RowKit
def w8 (x : UInt8) : BitVec 32 := BitVec.ofNat 32 x.toNat
@[go_sem] theorem wrap_y8 (x : UInt8) : IntKind.u32.wrap (y8 x) = u (w8 x) := by
  have := x.toNat_lt
  rw [IntKind.wrap_u32]; unfold y8 u w8; rw [BitVec.toNat_ofNat]; omega
def word4 (a b c d : UInt8) : BitVec 32 := w8 a <<< 24 ||| w8 b <<< 16 ||| w8 c <<< 8 ||| w8 d
def words : List UInt8 → List (BitVec 32)
  | a :: b :: c :: d :: r => word4 a b c d :: words r
  | _ => []
theorem words_length : ∀ l : List UInt8, (words l).length = l.length / 4
  | [] => rfl
  | [_] => by simp [words]
  | [_, _] => by simp [words]
  | [_, _, _] => by simp [words]
  | _ :: _ :: _ :: _ :: r => by simp [words, words_length r]; omega
theorem words_at : ∀ (l : List UInt8) (k : Nat) (h : 4 * k + 3 < l.length), (words l)[k]? = some (word4 l[4 * k] l[4 * k + 1] l[4 * k + 2] l[4 * k + 3])
  | [], _, h => absurd h (by simp)
  | [_], _, h => absurd h (by simp)
  | [_, _], _, h => absurd h (by simp)
  | [_, _, _], _, h => absurd h (by simp)
  | a :: b :: c :: d :: r, 0, _ => rfl
  | a :: b :: c :: d :: r, k + 1, h => by
    have h' : 4 * k + 3 < r.length := by simp at h; omega
    have := words_at r k h'
    rw [words, List.getElem?_cons_succ, this]
    congr 1
def by8 (x : BitVec 32) : UInt8 := UInt8.ofNat x.toNat
@[go_sem] theorem wrap8_u (x : BitVec 32) : IntKind.u8.wrap (u x) = y8 (by8 x) := by
  rw [IntKind.wrap_u8]; unfold y8 u by8; simp
@[go_sem] theorem mod256_u (x : BitVec 32) : u x % (256 : Int) = y8 (by8 x) := by
  unfold y8 u by8; simp
@[go_sem] theorem bv_div24 (x : BitVec 32) : u x / (16777216 : Int) = u (x >>> 24) := bv_shr x 24
@[go_sem] theorem bv_div16 (x : BitVec 32) : u x / (65536 : Int) = u (x >>> 16) := bv_shr x 16
@[go_sem] theorem bv_div256 (x : BitVec 32) : u x / (256 : Int) = u (x >>> 8) := bv_shr x 8
def four (x : BitVec 32) : List UInt8 := [by8 (x >>> 24), by8 (x >>> 16), by8 (x >>> 8), by8 x]
def bytesW (l : List (BitVec 32)) : List UInt8 := l.flatMap four
theorem bytesW_length (l : List (BitVec 32)) : (bytesW l).length = 4 * l.length := by
  induction l with
  | nil => rfl
  | cons a r ih =>
    have e : bytesW (a :: r) = four a ++ bytesW r := rfl
    rw [e, List.length_append, ih, List.length_cons]
    have : (four a).length = 4 := rfl
    omega
theorem bytesW_at : ∀ (l : List (BitVec 32)) (k : Nat) (h : k < l.length) (j : Nat), j < 4 → (bytesW l)[4 * k + j]? = (four l[k])[j]?
  | [], _, h, _, _ => absurd h (by simp)
  | a :: r, 0, _, j, hj => by
    simp only [bytesW, List.flatMap_cons, Nat.mul_zero, Nat.zero_add, List.getElem_cons_zero]
    rw [List.getElem?_append_left (by simp [four]; omega)]
  | a :: r, k + 1, h, j, hj => by
    have := bytesW_at r k (by simpa using h) j hj
    simp only [bytesW, List.flatMap_cons, List.getElem_cons_succ] at this ⊢
    rw [List.getElem?_append_right (by simp [four]; omega), ← this]
    congr 1
    simp [four]; omega
/-- the words so far, behind k bytes: the reference's loop -/
def wst (l : List UInt8) : Nat → List (BitVec 32)
  | 0 => []
  | k + 1 =>
    let s := if k % 4 = 0 then wst l k ++ [0#32] else wst l k
    s.set (k / 4) ((s.getD (k / 4) 0#32) <<< 8 + w8 (l.getD k 0))
theorem wst_length (l : List UInt8) : ∀ k, (wst l k).length = (k + 3) / 4
  | 0 => rfl
  | k + 1 => by
    rw [wst]
    simp only [List.length_set]
    split
    · rw [List.length_append, wst_length l k]; simp; omega
    · rw [wst_length l k]; omega
theorem shl8_or (x : BitVec 32) (d : UInt8) : x <<< 8 + w8 d = x <<< 8 ||| w8 d := by
  apply BitVec.add_eq_or_of_and_eq_zero
  apply BitVec.eq_of_getLsbD_eq
  intro i hi
  simp only [BitVec.getLsbD_and, BitVec.getLsbD_shiftLeft, BitVec.getLsbD_zero]
  by_cases h : i < 8
  · simp [h]
  · have : (w8 d).getLsbD i = false := by
      unfold w8
      rw [BitVec.getLsbD_ofNat]
      have hd := d.toNat_lt
      have : d.toNat.testBit i = false := Nat.testBit_lt_two_pow (Nat.lt_of_lt_of_le hd (Nat.pow_le_pow_right (by omega) (by omega) : 2 ^ 8 ≤ 2 ^ i))
      simp [this]
    simp [this]
theorem word4_add (a b c d : UInt8) : (((0#32 <<< 8 + w8 a) <<< 8 + w8 b) <<< 8 + w8 c) <<< 8 + w8 d = word4 a b c d := by
  rw [shl8_or, shl8_or, shl8_or, shl8_or]
  apply BitVec.eq_of_getLsbD_eq
  intro i hi
  simp only [word4, BitVec.getLsbD_or, BitVec.getLsbD_shiftLeft, BitVec.getLsbD_zero, hi, decide_true, Bool.true_and, Bool.and_false, Bool.false_or]
  have e1 : i - 8 < 32 := by omega
  have e2 : i - 8 - 8 < 32 := by omega
  have e4 : i - 8 - 8 = i - 16 := by omega
  have e3 : i - 16 - 8 = i - 24 := by omega
  simp only [e1, decide_true, Bool.true_and, e4] at e2 ⊢
  simp only [e2, decide_true, Bool.true_and, e3]
  by_cases h1 : i < 8
  · have a1 : i < 16 := by omega
    have a2 : i < 24 := by omega
    simp [h1, a1, a2]
  · by_cases h2 : i < 16
    · have a2 : i < 24 := by omega
      have a3 : i - 8 < 8 := by omega
      simp [h1, h2, a2, a3]
    · by_cases h3 : i < 24
      · have a3 : ¬ i - 8 < 8 := by omega
        have a4 : i - 16 < 8 := by omega
        simp [h1, h2, h3, a3, a4]
      · have a3 : ¬ i - 8 < 8 := by omega
        have a4 : ¬ i - 16 < 8 := by omega
        simp [h1, h2, h3, a3, a4]
theorem wst_first {l : List UInt8} {k : Nat} {W : List (BitVec 32)} (hm : k % 4 = 0) (h : wst l k = W) (hW : W.length = k / 4) : wst l (k + 1) = W ++ [0#32 <<< 8 + w8 (l.getD k 0)] := by
  rw [wst, if_pos hm, h]
  show (W ++ [0#32]).set (k / 4) ((W ++ [0#32]).getD (k / 4) 0#32 <<< 8 + w8 (l.getD k 0)) = _
  rw [set_last _ _ _ _ hW, getD_last _ _ _ _ hW]
theorem wst_next {l : List UInt8} {k : Nat} {W : List (BitVec 32)} {x : BitVec 32} (hm : ¬ k % 4 = 0) (h : wst l k = W ++ [x]) (hW : W.length = k / 4) : wst l (k + 1) = W ++ [x <<< 8 + w8 (l.getD k 0)] := by
  rw [wst, if_neg hm, h]
  show (W ++ [x]).set (k / 4) ((W ++ [x]).getD (k / 4) 0#32 <<< 8 + w8 (l.getD k 0)) = _
  rw [set_last _ _ _ _ hW, getD_last _ _ _ _ hW]
theorem words_take : ∀ (j : Nat) (l : List UInt8), 4 * j + 3 < l.length → words (l.take (4 * (j + 1))) = words (l.take (4 * j)) ++ [word4 (l.getD (4 * j) 0) (l.getD (4 * j + 1) 0) (l.getD (4 * j + 2) 0) (l.getD (4 * j + 3) 0)]
  | _, [], h => absurd h (by simp)
  | _, [_], h => absurd h (by simp)
  | _, [_, _], h => absurd h (by simp)
  | _, [_, _, _], h => absurd h (by simp)
  | 0, a :: b :: c :: d :: r, _ => by simp [words]
  | j + 1, a :: b :: c :: d :: r, h => by
    have := words_take j r (by simp at h; omega)
    rw [show 4 * (j + 1 + 1) = 4 * (j + 1) + 4 from by omega, show 4 * (j + 1) + 1 = 4 * j + 1 + 4 from by omega, show 4 * (j + 1) + 2 = 4 * j + 2 + 4 from by omega, show 4 * (j + 1) + 3 = 4 * j + 3 + 4 from by omega]
    simp only [List.take_succ_cons, words, this]
    rw [show 4 * (j + 1) = 4 * j + 4 from by omega]
    simp only [List.take_succ_cons, words, List.cons_append, List.getD_cons_succ]
theorem wst_four (l : List UInt8) (j : Nat) (h : wst l (4 * j) = words (l.take (4 * j))) (hl : 4 * j + 3 < l.length) : wst l (4 * (j + 1)) = words (l.take (4 * (j + 1))) := by
  have hW : (words (l.take (4 * j))).length = j := by rw [words_length, List.length_take]; omega
  have s0 := wst_first (l := l) (k := 4 * j) (by omega) h (by omega)
  have s1 := wst_next (l := l) (k := 4 * j + 1) (by omega) s0 (by omega)
  have s2 := wst_next (l := l) (k := 4 * j + 1 + 1) (by omega) s1 (by omega)
  have s3 := wst_next (l := l) (k := 4 * j + 1 + 1 + 1) (by omega) s2 (by omega)
  rw [word4_add] at s3
  rw [words_take j l hl]
  exact s3
theorem wst_all (l : List UInt8) : ∀ j, 4 * j ≤ l.length → wst l (4 * j) = words (l.take (4 * j))
  | 0, _ => rfl
  | j + 1, h => wst_four l j (wst_all l j (by omega)) (by omega)
theorem wst_end (l : List UInt8) (h : l.length % 4 = 0) : wst l l.length = words l := by
  have := wst_all l (l.length / 4) (by omega)
  rwa [show 4 * (l.length / 4) = l.length from by omega, List.take_length] at this
end Go.Proofs.YtcaojihkogmdjaaDoor

/- Texts that belong together: what the functions of the program and of the statements return. -/
import Derived.Test.YtlelodomegnboaaGA
/- The functions of chapter 1 on bit vectors, and plain facts on them. Nothing of the program. -/
namespace Go.Proofs.Ytlelodomegnboaa

def rotl (x : BitVec 32) (k : Int) : BitVec 32 := x <<< (k % 32).toNat ||| x >>> (32 - k % 32).toNat
def rotr (x : BitVec 32) (n : Int) : BitVec 32 := rotl x (-n)
def chs (x y z : BitVec 32) : BitVec 32 := x &&& y ||| ~~~x &&& z
def mst (x y z : BitVec 32) : BitVec 32 := x &&& y ||| x &&& z ||| y &&& z
def mix0 (x : BitVec 32) : BitVec 32 := rotr x 2 ^^^ rotr x 13 ^^^ rotr x 22
def mix1 (x : BitVec 32) : BitVec 32 := rotr x 6 ^^^ rotr x 11 ^^^ rotr x 25
def mix2 (x : BitVec 32) : BitVec 32 := rotr x 7 ^^^ rotr x 18 ^^^ x >>> 3
def mix3 (x : BitVec 32) : BitVec 32 := rotr x 17 ^^^ rotr x 19 ^^^ x >>> 10

@[go_sem] theorem bv_div8 (x : BitVec 32) : u x / (8 : Int) = u (x >>> 3) := bv_shr x 3
@[go_sem] theorem bv_div1024 (x : BitVec 32) : u x / (1024 : Int) = u (x >>> 10) := bv_shr x 10

theorem u_tdiv (x : BitVec 32) (n : Int) (h : 0 < n) : (u x).tdiv n % (4294967296 : Int) = u x / n := by
  have h0 := u_nonneg x
  have h1 := u_lt x
  rw [Int.tdiv_eq_ediv_of_nonneg h0]
  have h2 : u x / n ≤ u x := Int.ediv_le_self _ h0
  have h3 : 0 ≤ u x / n := Int.ediv_nonneg h0 (by omega)
  exact Int.emod_eq_of_lt h3 (by omega)
@[go_sem] theorem bv_tdiv8 (x : BitVec 32) : (u x).tdiv (8 : Int) % (4294967296 : Int) = u (x >>> 3) := (u_tdiv x 8 (by decide)).trans (bv_div8 x)
@[go_sem] theorem bv_tdiv1024 (x : BitVec 32) : (u x).tdiv (1024 : Int) % (4294967296 : Int) = u (x >>> 10) := (u_tdiv x 1024 (by decide)).trans (bv_div1024 x)
theorem rotl_bit (x : BitVec 32) (k : Int) (i : Nat) (hi : i < 32) : (rotl x k).getLsbD i = x.getLsbD ((i + (32 - (k % 32).toNat)) % 32) := by
  have h0 : 0 ≤ k % 32 := by omega
  have h1 : k % 32 < 32 := by omega
  unfold rotl
  generalize hs : (k % 32).toNat = s
  have h2 : s < 32 := by omega
  have h3 : (32 - k % 32).toNat = 32 - s := by omega
  rw [h3]
  simp only [BitVec.getLsbD_or, BitVec.getLsbD_shiftLeft, BitVec.getLsbD_ushiftRight]
  by_cases hc : i < s
  · have e : (i + (32 - s)) % 32 = 32 - s + i := by omega
    rw [e]; simp [hi, hc]
  · have e : (i + (32 - s)) % 32 = i - s := by omega
    have e2 : x.getLsbD (32 - s + i) = false := BitVec.getLsbD_of_ge _ _ (by omega)
    rw [e, e2]; simp [hi, hc]
theorem rotr_bit (x : BitVec 32) (n : Int) (h0 : 0 ≤ n) (h1 : n ≤ 31) (i : Nat) (hi : i < 32) : (rotr x n).getLsbD i = x.getLsbD ((i + n.toNat) % 32) := by
  unfold rotr
  rw [rotl_bit x _ i hi]
  congr 1
  by_cases e : n = 0
  · subst e; simp
  · have : (-n) % 32 = 32 - n := by omega
    rw [this]; omega
theorem rotr_zero (x : BitVec 32) : rotr x 0 = x := by
  apply BitVec.eq_of_getLsbD_eq
  intro i hi
  rw [rotr_bit x 0 (by omega) (by omega) i hi]
  congr 1; simp; omega
theorem rotr_rotr (x : BitVec 32) (n m : Int) (h0 : 0 ≤ n) (h1 : n ≤ 31) (g0 : 0 ≤ m) (g1 : m ≤ 31) : rotr (rotr x n) m = rotr x ((n + m) % 32) := by
  apply BitVec.eq_of_getLsbD_eq
  intro i hi
  rw [rotr_bit _ m g0 g1 i hi, rotr_bit x n h0 h1 _ (by omega), rotr_bit x _ (by omega) (by omega) i hi]
  congr 1; omega
theorem rotr_back (x : BitVec 32) (n : Int) (h0 : 0 ≤ n) (h1 : n ≤ 31) : rotr (rotr x n) ((32 - n) % 32) = x := by
  rw [rotr_rotr x n _ h0 h1 (by omega) (by omega)]
  have : (n + (32 - n) % 32) % 32 = 0 := by omega
  rw [this, rotr_zero]
theorem rotl_xor (x y : BitVec 32) (k : Int) : rotl (x ^^^ y) k = rotl x k ^^^ rotl y k := by
  apply BitVec.eq_of_getLsbD_eq
  intro i hi
  simp only [BitVec.getLsbD_xor, rotl_bit _ _ _ hi]
theorem rotr_xor (x y : BitVec 32) (n : Int) : rotr (x ^^^ y) n = rotr x n ^^^ rotr y n := rotl_xor x y _
theorem shr_xor (x y : BitVec 32) (n : Nat) : (x ^^^ y) >>> n = x >>> n ^^^ y >>> n := by
  apply BitVec.eq_of_getLsbD_eq
  intro i hi
  simp only [BitVec.getLsbD_xor, BitVec.getLsbD_ushiftRight]
theorem xor6 (a b c d e f : BitVec 32) : (a ^^^ b ^^^ c) ^^^ (d ^^^ e ^^^ f) = (a ^^^ d) ^^^ (b ^^^ e) ^^^ (c ^^^ f) := by
  apply BitVec.eq_of_getLsbD_eq
  intro i hi
  simp only [BitVec.getLsbD_xor]
  cases a.getLsbD i <;> cases b.getLsbD i <;> cases c.getLsbD i <;> cases d.getLsbD i <;> cases e.getLsbD i <;> cases f.getLsbD i <;> rfl
theorem mix0_xor (x y : BitVec 32) : mix0 x ^^^ mix0 y = mix0 (x ^^^ y) := by unfold mix0; rw [rotr_xor, rotr_xor, rotr_xor, xor6]
theorem mix1_xor (x y : BitVec 32) : mix1 x ^^^ mix1 y = mix1 (x ^^^ y) := by unfold mix1; rw [rotr_xor, rotr_xor, rotr_xor, xor6]
theorem mix2_xor (x y : BitVec 32) : mix2 x ^^^ mix2 y = mix2 (x ^^^ y) := by unfold mix2; rw [rotr_xor, rotr_xor, shr_xor, xor6]
theorem mix3_xor (x y : BitVec 32) : mix3 x ^^^ mix3 y = mix3 (x ^^^ y) := by unfold mix3; rw [rotr_xor, rotr_xor, shr_xor, xor6]
theorem chs_same (x y : BitVec 32) : chs x y y = y := by
  apply BitVec.eq_of_getLsbD_eq
  intro i hi
  simp only [chs, BitVec.getLsbD_and, BitVec.getLsbD_or, BitVec.getLsbD_not, hi, decide_true, Bool.true_and]
  cases x.getLsbD i <;> cases y.getLsbD i <;> rfl
theorem chs_zero (y z : BitVec 32) : chs 0#32 y z = z := by
  apply BitVec.eq_of_getLsbD_eq
  intro i hi
  simp only [chs, BitVec.getLsbD_and, BitVec.getLsbD_or, BitVec.getLsbD_not, hi, decide_true, Bool.true_and, BitVec.getLsbD_zero]
  cases y.getLsbD i <;> cases z.getLsbD i <;> rfl
theorem mst_same (x y : BitVec 32) : mst x y y = y := by
  apply BitVec.eq_of_getLsbD_eq
  intro i hi
  simp only [mst, BitVec.getLsbD_and, BitVec.getLsbD_or]
  cases x.getLsbD i <;> cases y.getLsbD i <;> rfl
theorem mst_turn (x y z : BitVec 32) : mst x y z = mst z x y := by
  apply BitVec.eq_of_getLsbD_eq
  intro i hi
  simp only [mst, BitVec.getLsbD_and, BitVec.getLsbD_or]
  cases x.getLsbD i <;> cases y.getLsbD i <;> cases z.getLsbD i <;> rfl
theorem mst_swap (x y z : BitVec 32) : mst x y z = mst y x z := by
  apply BitVec.eq_of_getLsbD_eq
  intro i hi
  simp only [mst, BitVec.getLsbD_and, BitVec.getLsbD_or]
  cases x.getLsbD i <;> cases y.getLsbD i <;> cases z.getLsbD i <;> rfl

/-- the lowest k bits -/
def low (v : BitVec 32) (k : Nat) : BitVec 32 := BitVec.ofNat 32 (v.toNat % 2 ^ k)
def bitAt (v : BitVec 32) (k : Nat) : BitVec 32 := v >>> k &&& 1#32
theorem low_zero (v : BitVec 32) : low v 0 = 0#32 := by simp [low, Nat.mod_one]
theorem low_full (v : BitVec 32) : low v 32 = v := by
  apply BitVec.eq_of_toNat_eq
  have := v.isLt
  rw [low, BitVec.toNat_ofNat, Nat.mod_eq_of_lt this, Nat.mod_eq_of_lt this]
theorem bitAt_toNat (v : BitVec 32) (k : Nat) : (bitAt v k).toNat = v.toNat / 2 ^ k % 2 := by
  unfold bitAt
  rw [BitVec.toNat_and, BitVec.toNat_ushiftRight, Nat.shiftRight_eq_div_pow]
  exact Nat.and_two_pow_sub_one_eq_mod _ 1
theorem bitAt_eq (v : BitVec 32) (k : Nat) (_hk : k < 32) : bitAt v k = if v.getLsbD k then 1#32 else 0#32 := by
  apply BitVec.eq_of_toNat_eq
  rw [bitAt_toNat, BitVec.getLsbD, Nat.testBit_eq_decide_div_mod_eq]
  by_cases h : v.toNat / 2 ^ k % 2 = 1
  · simp [h]
  · have : v.toNat / 2 ^ k % 2 = 0 := by omega
    simp [this]
theorem low_succ (v : BitVec 32) (k : Nat) (hk : k < 32) : low v k + bitAt v k <<< k = low v (k + 1) := by
  apply BitVec.eq_of_toNat_eq
  have hp : 2 ^ (k + 1) ≤ 2 ^ 32 := Nat.pow_le_pow_right (by omega) (by omega)
  have e := @Nat.mod_pow_succ v.toNat 2 k
  have hb : v.toNat % 2 ^ (k + 1) < 2 ^ (k + 1) := Nat.mod_lt _ (Nat.two_pow_pos _)
  have ha : v.toNat % 2 ^ k < 2 ^ k := Nat.mod_lt _ (Nat.two_pow_pos _)
  have hs : 2 ^ (k + 1) = 2 * 2 ^ k := by rw [Nat.pow_succ]; omega
  have h1 : (low v k).toNat = v.toNat % 2 ^ k := by rw [low, BitVec.toNat_ofNat]; exact Nat.mod_eq_of_lt (by omega)
  have h2 : (bitAt v k <<< k).toNat = 2 ^ k * (v.toNat / 2 ^ k % 2) := by
    rw [BitVec.toNat_shiftLeft, Nat.shiftLeft_eq, bitAt_toNat, Nat.mul_comm]
    exact Nat.mod_eq_of_lt (by omega)
  have h3 : (low v (k + 1)).toNat = v.toNat % 2 ^ (k + 1) := by rw [low, BitVec.toNat_ofNat]; exact Nat.mod_eq_of_lt (by omega)
  rw [BitVec.toNat_add, h1, h2, h3, ← e]
  exact Nat.mod_eq_of_lt (by omega)
theorem chs_bit (x y z : BitVec 32) (k : Nat) (hk : k < 32) : bitAt (chs x y z) k = if bitAt x k = 1#32 then bitAt y k else bitAt z k := by
  rw [bitAt_eq _ k hk, bitAt_eq x k hk, bitAt_eq y k hk, bitAt_eq z k hk]
  simp only [chs, BitVec.getLsbD_and, BitVec.getLsbD_or, BitVec.getLsbD_not, hk, decide_true, Bool.true_and]
  cases x.getLsbD k <;> cases y.getLsbD k <;> cases z.getLsbD k <;> rfl
theorem mst_bit (x y z : BitVec 32) (k : Nat) (hk : k < 32) : bitAt (mst x y z) k = if 1 < u (bitAt x k + bitAt y k + bitAt z k) then 1#32 else 0#32 := by
  rw [bitAt_eq _ k hk, bitAt_eq x k hk, bitAt_eq y k hk, bitAt_eq z k hk]
  simp only [mst, BitVec.getLsbD_and, BitVec.getLsbD_or]
  cases x.getLsbD k <;> cases y.getLsbD k <;> cases z.getLsbD k <;> decide
@[go_sem] theorem bv_pow (n : Nat) : ((2 : Int) ^ n) % (4294967296 : Int) = u (1#32 <<< n) := by
  have := bv_shl 1#32 n
  rw [← this]
  show _ = ((1 : Int) * 2 ^ n) % 4294967296
  rw [Int.one_mul]
@[go_sem] theorem u_beq_one (x : BitVec 32) : (u x == (1 : Int)) = (x == 1#32) := u_beq x 1#32
end Go.Proofs.Ytlelodomegnboaa
/- Words and bytes: plain facts, and how the walk's numbers are told in their terms. Nothing of the program. -/
namespace Go.Proofs.Ytlelodomegnboaa
open Go.RowKit
def w8 (x : UInt8) : BitVec 32 := BitVec.ofNat 32 x.toNat
@[go_sem] theorem wrap_y8 (x : UInt8) : IntKind.u32.wrap (y8 x) = u (w8 x) := by
  have := x.toNat_lt
  rw [IntKind.wrap_u32]; unfold y8 u w8; rw [BitVec.toNat_ofNat]; omega
def word4 (a b c d : UInt8) : BitVec 32 := w8 a <<< 24 ||| w8 b <<< 16 ||| w8 c <<< 8 ||| w8 d
def words : List UInt8 → List (BitVec 32)
  | a :: b :: c :: d :: r => word4 a b c d :: words r
  | _ => []
theorem words_length : ∀ l : List UInt8, (words l).length = l.length / 4
  | [] => rfl
  | [_] => by simp [words]
  | [_, _] => by simp [words]
  | [_, _, _] => by simp [words]
  | _ :: _ :: _ :: _ :: r => by simp [words, words_length r]; omega
theorem words_at : ∀ (l : List UInt8) (k : Nat) (h : 4 * k + 3 < l.length), (words l)[k]? = some (word4 l[4 * k] l[4 * k + 1] l[4 * k + 2] l[4 * k + 3])
  | [], _, h => absurd h (by simp)
  | [_], _, h => absurd h (by simp)
  | [_, _], _, h => absurd h (by simp)
  | [_, _, _], _, h => absurd h (by simp)
  | a :: b :: c :: d :: r, 0, _ => rfl
  | a :: b :: c :: d :: r, k + 1, h => by
    have h' : 4 * k + 3 < r.length := by simp at h; omega
    have := words_at r k h'
    rw [words, List.getElem?_cons_succ, this]
    congr 1
def by8 (x : BitVec 32) : UInt8 := UInt8.ofNat x.toNat
@[go_sem] theorem wrap8_u (x : BitVec 32) : IntKind.u8.wrap (u x) = y8 (by8 x) := by
  rw [IntKind.wrap_u8]; unfold y8 u by8; simp
@[go_sem] theorem mod256_u (x : BitVec 32) : u x % (256 : Int) = y8 (by8 x) := by
  unfold y8 u by8; simp
@[go_sem] theorem bv_div24 (x : BitVec 32) : u x / (16777216 : Int) = u (x >>> 24) := bv_shr x 24
@[go_sem] theorem bv_div16 (x : BitVec 32) : u x / (65536 : Int) = u (x >>> 16) := bv_shr x 16
@[go_sem] theorem bv_div256 (x : BitVec 32) : u x / (256 : Int) = u (x >>> 8) := bv_shr x 8
def four (x : BitVec 32) : List UInt8 := [by8 (x >>> 24), by8 (x >>> 16), by8 (x >>> 8), by8 x]
def bytesW (l : List (BitVec 32)) : List UInt8 := l.flatMap four
theorem bytesW_length (l : List (BitVec 32)) : (bytesW l).length = 4 * l.length := by
  induction l with
  | nil => rfl
  | cons a r ih =>
    have e : bytesW (a :: r) = four a ++ bytesW r := rfl
    rw [e, List.length_append, ih, List.length_cons]
    have : (four a).length = 4 := rfl
    omega
theorem bytesW_at : ∀ (l : List (BitVec 32)) (k : Nat) (h : k < l.length) (j : Nat), j < 4 → (bytesW l)[4 * k + j]? = (four l[k])[j]?
  | [], _, h, _, _ => absurd h (by simp)
  | a :: r, 0, _, j, hj => by
    simp only [bytesW, List.flatMap_cons, Nat.mul_zero, Nat.zero_add, List.getElem_cons_zero]
    rw [List.getElem?_append_left (by simp [four]; omega)]
  | a :: r, k + 1, h, j, hj => by
    have := bytesW_at r k (by simpa using h) j hj
    simp only [bytesW, List.flatMap_cons, List.getElem_cons_succ] at this ⊢
    rw [List.getElem?_append_right (by simp [four]; omega), ← this]
    congr 1
    simp [four]; omega
/-- the words so far, behind k bytes: the reference's loop -/
def wst (l : List UInt8) : Nat → List (BitVec 32)
  | 0 => []
  | k + 1 =>
    let s := if k % 4 = 0 then wst l k ++ [0#32] else wst l k
    s.set (k / 4) ((s.getD (k / 4) 0#32) <<< 8 + w8 (l.getD k 0))
theorem wst_length (l : List UInt8) : ∀ k, (wst l k).length = (k + 3) / 4
  | 0 => rfl
  | k + 1 => by
    rw [wst]
    simp only [List.length_set]
    split
    · rw [List.length_append, wst_length l k]; simp; omega
    · rw [wst_length l k]; omega
theorem shl8_or (x : BitVec 32) (d : UInt8) : x <<< 8 + w8 d = x <<< 8 ||| w8 d := by
  apply BitVec.add_eq_or_of_and_eq_zero
  apply BitVec.eq_of_getLsbD_eq
  intro i hi
  simp only [BitVec.getLsbD_and, BitVec.getLsbD_shiftLeft, BitVec.getLsbD_zero]
  by_cases h : i < 8
  · simp [h]
  · have : (w8 d).getLsbD i = false := by
      unfold w8
      rw [BitVec.getLsbD_ofNat]
      have hd := d.toNat_lt
      have : d.toNat.testBit i = false := Nat.testBit_lt_two_pow (Nat.lt_of_lt_of_le hd (Nat.pow_le_pow_right (by omega) (by omega) : 2 ^ 8 ≤ 2 ^ i))
      simp [this]
    simp [this]
theorem word4_add (a b c d : UInt8) : (((0#32 <<< 8 + w8 a) <<< 8 + w8 b) <<< 8 + w8 c) <<< 8 + w8 d = word4 a b c d := by
  rw [shl8_or, shl8_or, shl8_or, shl8_or]
  apply BitVec.eq_of_getLsbD_eq
  intro i hi
  simp only [word4, BitVec.getLsbD_or, BitVec.getLsbD_shiftLeft, BitVec.getLsbD_zero, hi, decide_true, Bool.true_and, Bool.and_false, Bool.false_or]
  have e1 : i - 8 < 32 := by omega
  have e2 : i - 8 - 8 < 32 := by omega
  have e4 : i - 8 - 8 = i - 16 := by omega
  have e3 : i - 16 - 8 = i - 24 := by omega
  simp only [e1, decide_true, Bool.true_and, e4] at e2 ⊢
  simp only [e2, decide_true, Bool.true_and, e3]
  by_cases h1 : i < 8
  · have a1 : i < 16 := by omega
    have a2 : i < 24 := by omega
    simp [h1, a1, a2]
  · by_cases h2 : i < 16
    · have a2 : i < 24 := by omega
      have a3 : i - 8 < 8 := by omega
      simp [h1, h2, a2, a3]
    · by_cases h3 : i < 24
      · have a3 : ¬ i - 8 < 8 := by omega
        have a4 : i - 16 < 8 := by omega
        simp [h1, h2, h3, a3, a4]
      · have a3 : ¬ i - 8 < 8 := by omega
        have a4 : ¬ i - 16 < 8 := by omega
        simp [h1, h2, h3, a3, a4]
theorem wst_first {l : List UInt8} {k : Nat} {W : List (BitVec 32)} (hm : k % 4 = 0) (h : wst l k = W) (hW : W.length = k / 4) : wst l (k + 1) = W ++ [0#32 <<< 8 + w8 (l.getD k 0)] := by
  rw [wst, if_pos hm, h]
  show (W ++ [0#32]).set (k / 4) ((W ++ [0#32]).getD (k / 4) 0#32 <<< 8 + w8 (l.getD k 0)) = _
  rw [set_last _ _ _ _ hW, getD_last _ _ _ _ hW]
theorem wst_next {l : List UInt8} {k : Nat} {W : List (BitVec 32)} {x : BitVec 32} (hm : ¬ k % 4 = 0) (h : wst l k = W ++ [x]) (hW : W.length = k / 4) : wst l (k + 1) = W ++ [x <<< 8 + w8 (l.getD k 0)] := by
  rw [wst, if_neg hm, h]
  show (W ++ [x]).set (k / 4) ((W ++ [x]).getD (k / 4) 0#32 <<< 8 + w8 (l.getD k 0)) = _
  rw [set_last _ _ _ _ hW, getD_last _ _ _ _ hW]
theorem words_take : ∀ (j : Nat) (l : List UInt8), 4 * j + 3 < l.length → words (l.take (4 * (j + 1))) = words (l.take (4 * j)) ++ [word4 (l.getD (4 * j) 0) (l.getD (4 * j + 1) 0) (l.getD (4 * j + 2) 0) (l.getD (4 * j + 3) 0)]
  | _, [], h => absurd h (by simp)
  | _, [_], h => absurd h (by simp)
  | _, [_, _], h => absurd h (by simp)
  | _, [_, _, _], h => absurd h (by simp)
  | 0, a :: b :: c :: d :: r, _ => by simp [words]
  | j + 1, a :: b :: c :: d :: r, h => by
    have := words_take j r (by simp at h; omega)
    rw [show 4 * (j + 1 + 1) = 4 * (j + 1) + 4 from by omega, show 4 * (j + 1) + 1 = 4 * j + 1 + 4 from by omega, show 4 * (j + 1) + 2 = 4 * j + 2 + 4 from by omega, show 4 * (j + 1) + 3 = 4 * j + 3 + 4 from by omega]
    simp only [List.take_succ_cons, words, this]
    rw [show 4 * (j + 1) = 4 * j + 4 from by omega]
    simp only [List.take_succ_cons, words, List.cons_append, List.getD_cons_succ]
theorem wst_four (l : List UInt8) (j : Nat) (h : wst l (4 * j) = words (l.take (4 * j))) (hl : 4 * j + 3 < l.length) : wst l (4 * (j + 1)) = words (l.take (4 * (j + 1))) := by
  have hW : (words (l.take (4 * j))).length = j := by rw [words_length, List.length_take]; omega
  have s0 := wst_first (l := l) (k := 4 * j) (by omega) h (by omega)
  have s1 := wst_next (l := l) (k := 4 * j + 1) (by omega) s0 (by omega)
  have s2 := wst_next (l := l) (k := 4 * j + 1 + 1) (by omega) s1 (by omega)
  have s3 := wst_next (l := l) (k := 4 * j + 1 + 1 + 1) (by omega) s2 (by omega)
  rw [word4_add] at s3
  rw [words_take j l hl]
  exact s3
theorem wst_all (l : List UInt8) : ∀ j, 4 * j ≤ l.length → wst l (4 * j) = words (l.take (4 * j))
  | 0, _ => rfl
  | j + 1, h => wst_four l j (wst_all l j (by omega)) (by omega)
theorem wst_end (l : List UInt8) (h : l.length % 4 = 0) : wst l l.length = words l := by
  have := wst_all l (l.length / 4) (by omega)
  rwa [show 4 * (l.length / 4) = l.length from by omega, List.take_length] at this
end Go.Proofs.Ytlelodomegnboaa
/- SHA-256 on bit vectors and lists. Nothing of the program. -/
namespace Go.Proofs.Ytlelodomegnboaa
open Go.RowKit
/-- the 64 round constants; the eight words at the start -/
def kon : List (BitVec 32) := [1116352408, 1899447441, 3049323471, 3921009573, 961987163, 1508970993, 2453635748, 2870763221, 3624381080, 310598401, 607225278, 1426881987, 1925078388, 2162078206, 2614888103, 3248222580, 3835390401, 4022224774, 264347078, 604807628, 770255983, 1249150122, 1555081692, 1996064986, 2554220882, 2821834349, 2952996808, 3210313671, 3336571891, 3584528711, 113926993, 338241895, 666307205, 773529912, 1294757372, 1396182291, 1695183700, 1986661051, 2177026350, 2456956037, 2730485921, 2820302411, 3259730800, 3345764771, 3516065817, 3600352804, 4094571909, 275423344, 430227734, 506948616, 659060556, 883997877, 958139571, 1322822218, 1537002063, 1747873779, 1955562222, 2024104815, 2227730452, 2361852424, 2428436474, 2756734187, 3204031479, 3329325298]
def ini : List (BitVec 32) := [1779033703, 3144134277, 1013904242, 2773480762, 1359893119, 2600822924, 528734635, 1541459225]
theorem kon_length : kon.length = 64 := by decide +kernel
/-- eight state words -/
structure St where
  (a b c d e f g h : BitVec 32)
def St.list (s : St) : List (BitVec 32) := [s.a, s.b, s.c, s.d, s.e, s.f, s.g, s.h]
def t1 (s : St) (k w : BitVec 32) : BitVec 32 := s.h + mix1 s.e + chs s.e s.f s.g + k + w
def t2 (s : St) : BitVec 32 := mix0 s.a + mst s.a s.b s.c
def rnd (s : St) (k w : BitVec 32) : St := ⟨t1 s k w + t2 s, s.a, s.b, s.c, s.d + t1 s k w, s.e, s.f, s.g⟩
/-- the schedule: one word more -/
def nxt (s : List (BitVec 32)) (t : Nat) : BitVec 32 := s.getD (t - 16) 0 + s.getD (t - 7) 0 + mix2 (s.getD (t - 15) 0) + mix3 (s.getD (t - 2) 0)
def sch (b : List (BitVec 32)) : Nat → List (BitVec 32)
  | 0 => b
  | n + 1 => sch b n ++ [nxt (sch b n) (16 + n)]
theorem sch_length (b : List (BitVec 32)) (hb : b.length = 16) : ∀ n, (sch b n).length = 16 + n
  | 0 => hb
  | n + 1 => by rw [sch, List.length_append, sch_length b hb n]; rfl
/-- n rounds -/
def rnds (s : St) (w : List (BitVec 32)) : Nat → St
  | 0 => s
  | n + 1 => rnd (rnds s w n) (kon.getD n 0) (w.getD n 0)
def St.add (s v : St) : St := ⟨s.a + v.a, s.b + v.b, s.c + v.c, s.d + v.d, s.e + v.e, s.f + v.f, s.g + v.g, s.h + v.h⟩
/-- one block of sixteen words -/
@[irreducible] def stp (s : St) (b : List (BitVec 32)) : St := s.add (rnds s (sch b 48) 64)
/-- all blocks of bytes, 64 each -/
def each64 {σ : Type} (f : σ → List UInt8 → σ) : Nat → List UInt8 → σ → σ
  | 0, _, s => s
  | n + 1, l, s => each64 f n (l.drop 64) (f s (l.take 64))
theorem each64_snoc {σ : Type} (f : σ → List UInt8 → σ) (n : Nat) : ∀ (l : List UInt8) (s : σ), each64 f (n + 1) l s = f (each64 f n l s) ((l.drop (64 * n)).take 64) := by
  induction n with
  | zero => intro l s; rfl
  | succ n ih =>
    intro l s
    rw [each64, ih, each64, List.drop_drop]
    rw [show 64 + 64 * n = 64 * (n + 1) from by omega]
def stpB (s : St) (b : List UInt8) : St := stp s (words b)
def blocks (n : Nat) (l : List UInt8) (s : St) : St := each64 stpB n l s
def iniS : St := ⟨1779033703, 3144134277, 1013904242, 2773480762, 1359893119, 2600822924, 528734635, 1541459225⟩
/-- how many zero bytes are padded -/
def zeros (n : Nat) : Nat := (119 - n % 64) % 64
def len8 (n : Nat) : List UInt8 := (List.range 8).map fun i => UInt8.ofNat ((n * 8) >>> (56 - 8 * i))
def pad (l : List UInt8) : List UInt8 := l ++ [128] ++ List.replicate (zeros l.length) 0 ++ len8 l.length
theorem len8_length (n : Nat) : (len8 n).length = 8 := by simp [len8]
theorem pad_length (l : List UInt8) : (pad l).length = l.length + 9 + zeros l.length := by
  simp [pad, len8_length]; omega
theorem zeros_spec (n : Nat) : (n + 9 + zeros n) % 64 = 0 := by unfold zeros; omega
theorem zeros_lt (n : Nat) : zeros n < 64 := by unfold zeros; omega
def sumS (l : List UInt8) : St := blocks ((pad l).length / 64) (pad l) iniS
theorem chs_xor (x y z : BitVec 32) : (x &&& y) ^^^ (~~~x &&& z) = chs x y z := by
  unfold chs
  apply BitVec.eq_of_getLsbD_eq
  intro i hi
  simp only [BitVec.getLsbD_xor, BitVec.getLsbD_or, BitVec.getLsbD_and, BitVec.getLsbD_not, hi, decide_true, Bool.true_and]
  cases x.getLsbD i <;> cases y.getLsbD i <;> cases z.getLsbD i <;> rfl
theorem mst_xor (x y z : BitVec 32) : (x &&& y) ^^^ (x &&& z) ^^^ (y &&& z) = mst x y z := by
  unfold mst
  apply BitVec.eq_of_getLsbD_eq
  intro i hi
  simp only [BitVec.getLsbD_xor, BitVec.getLsbD_or, BitVec.getLsbD_and]
  cases x.getLsbD i <;> cases y.getLsbD i <;> cases z.getLsbD i <;> rfl
theorem rotl_rotr (x : BitVec 32) (k n : Int) (h : k % 32 = (-n) % 32) : rotl x k = rotr x n := by
  unfold rotr rotl; rw [h]
theorem mix0_rotl (x : BitVec 32) : rotl x 30 ^^^ rotl x 19 ^^^ rotl x 10 = mix0 x := by
  rw [rotl_rotr x 30 2 (by decide), rotl_rotr x 19 13 (by decide), rotl_rotr x 10 22 (by decide)]; rfl
theorem mix1_rotl (x : BitVec 32) : rotl x 26 ^^^ rotl x 21 ^^^ rotl x 7 = mix1 x := by
  rw [rotl_rotr x 26 6 (by decide), rotl_rotr x 21 11 (by decide), rotl_rotr x 7 25 (by decide)]; rfl
theorem mix2_rotl (x : BitVec 32) : rotl x 25 ^^^ rotl x 14 ^^^ x >>> 3 = mix2 x := by
  rw [rotl_rotr x 25 7 (by decide), rotl_rotr x 14 18 (by decide)]; rfl
theorem mix3_rotl (x : BitVec 32) : rotl x 15 ^^^ rotl x 13 ^^^ x >>> 10 = mix3 x := by
  rw [rotl_rotr x 15 17 (by decide), rotl_rotr x 13 19 (by decide)]; rfl
theorem blocks_zero (l : List UInt8) (s : St) : blocks 0 l s = s := rfl
theorem blocks_snoc (n : Nat) (l : List UInt8) (s : St) : blocks (n + 1) l s = stpB (blocks n l s) ((l.drop (64 * n)).take 64) := each64_snoc stpB n l s
end Go.Proofs.Ytlelodomegnboaa
/- SHA-256: what the walks' loops hold. Nothing of the program. -/
namespace Go.Proofs.Ytlelodomegnboaa
open Go.RowKit
/-- the 64 words behind k bytes -/
def fillW (l : List UInt8) (k : Nat) : List Value := (wst l k).map wv ++ reps (64 - (k + 3) / 4) (.int .u32 0)
theorem fillW_zero (l : List UInt8) : fillW l 0 = reps 64 (.int .u32 0) := rfl
theorem fillW_step (l : List UInt8) (k : Nat) (hk : k < 64) (hl : k < l.length) :
    ∃ z : BitVec 32, (fillW l k)[k / 4]? = some (.int .u32 (u z)) ∧ (fillW l k).set (k / 4) (.int .u32 (u (z <<< 8 ||| w8 l[k]))) = fillW l (k + 1) := by
  have hL := wst_length l k
  by_cases hm : k % 4 = 0
  · refine ⟨0#32, ?_, ?_⟩
    · unfold fillW
      rw [List.getElem?_append_right (by rw [List.length_map]; omega), List.length_map, hL, show k / 4 - (k + 3) / 4 = 0 from by omega]
      unfold reps
      rw [List.getElem?_replicate, if_pos (by omega)]; rfl
    · have h1 := wst_first (l := l) (k := k) hm rfl (by omega)
      rw [getD_lt hl, shl8_or] at h1
      unfold fillW
      rw [h1, List.set_append_right _ _ (by rw [List.length_map]; omega), List.length_map, hL, show k / 4 - (k + 3) / 4 = 0 from by omega]
      have h2 : reps (64 - (k + 3) / 4) (.int .u32 0) = .int .u32 0 :: reps (64 - (k + 1 + 3) / 4) (.int .u32 0) := by
        unfold reps
        rw [show 64 - (k + 3) / 4 = (64 - (k + 1 + 3) / 4) + 1 from by omega, List.replicate_succ]
      rw [h2, List.set_cons_zero, List.map_append, List.append_assoc]; rfl
  · have hlt : k / 4 < (wst l k).length := by omega
    refine ⟨(wst l k)[k / 4], ?_, ?_⟩
    · unfold fillW
      rw [List.getElem?_append_left (by rw [List.length_map]; omega), List.getElem?_map, List.getElem?_eq_getElem hlt]; rfl
    · unfold fillW
      rw [List.set_append_left _ _ (by rw [List.length_map]; omega), wst, if_neg hm, getD_lt hl, getD_lt hlt, shl8_or, show 64 - (k + 1 + 3) / 4 = 64 - (k + 3) / 4 from by omega]
      show _ = List.map wv ((wst l k).set (k / 4) _) ++ _
      rw [List.map_set]; rfl
theorem fillW_end (l : List UInt8) (h : 64 ≤ l.length) : fillW l 64 = (words (l.take 64)).map wv ++ reps 48 (.int .u32 0) := by
  unfold fillW
  rw [show wst l 64 = words (l.take 64) from wst_all l 16 (by omega)]
theorem words64_length (l : List UInt8) (h : 64 ≤ l.length) : (words (l.take 64)).length = 16 := by
  rw [words_length, List.length_take]; omega
/-- the 64 words of the schedule, t of them made -/
def fillS (b : List (BitVec 32)) (t : Nat) : List Value := (sch b (t - 16)).map wv ++ reps (64 - t) (.int .u32 0)
theorem fillS_at (b : List (BitVec 32)) (hb : b.length = 16) (t i : Nat) (h16 : 16 ≤ t) (hi : i < t) : (fillS b t)[i]? = some (.int .u32 (u ((sch b (t - 16)).getD i 0))) := by
  have hL := sch_length b hb (t - 16)
  unfold fillS
  rw [List.getElem?_append_left (by rw [List.length_map]; omega), List.getElem?_map, List.getElem?_eq_getElem (by omega), getD_lt (by omega)]; rfl
theorem fillS_free (b : List (BitVec 32)) (hb : b.length = 16) (t : Nat) (h16 : 16 ≤ t) (h : t < 64) : (fillS b t)[t]? = some (.int .u32 0) := by
  have hL := sch_length b hb (t - 16)
  unfold fillS
  rw [List.getElem?_append_right (by rw [List.length_map]; omega), List.length_map, hL, show t - (16 + (t - 16)) = 0 from by omega]
  unfold reps
  rw [List.getElem?_replicate, if_pos (by omega)]
theorem fillS_step (b : List (BitVec 32)) (hb : b.length = 16) (t : Nat) (h16 : 16 ≤ t) (h : t < 64) :
    (fillS b t).set t (.int .u32 (u (nxt (sch b (t - 16)) t))) = fillS b (t + 1) := by
  have hL := sch_length b hb (t - 16)
  unfold fillS
  rw [List.set_append_right _ _ (by rw [List.length_map]; omega), List.length_map, hL, show t - (16 + (t - 16)) = 0 from by omega, show t + 1 - 16 = (t - 16) + 1 from by omega, sch, show 16 + (t - 16) = t from by omega]
  have h2 : reps (64 - t) (.int .u32 0) = .int .u32 0 :: reps (64 - (t + 1)) (.int .u32 0) := by
    unfold reps
    rw [show 64 - t = (64 - (t + 1)) + 1 from by omega, List.replicate_succ]
  rw [h2, List.set_cons_zero, List.map_append, List.append_assoc]; rfl
theorem fillS_start (b : List (BitVec 32)) : fillS b 16 = b.map wv ++ reps 48 (.int .u32 0) := rfl
theorem fillS_end (b : List (BitVec 32)) : fillS b 64 = (sch b 48).map wv := by
  unfold fillS; simp [reps]
/-- the eight words, k of them added -/
def fillA (s v : St) (k : Nat) : List Value := ((s.add v).list.map wv).take k ++ (s.list.map wv).drop k
theorem fillA_step (s v : St) (k : Nat) (hk : k < 8) : ∃ x y : BitVec 32, (fillA s v k)[k]? = some (.int .u32 (u x)) ∧ (v.list.map wv)[k]? = some (.int .u32 (u y)) ∧ (fillA s v k).set k (.int .u32 (u (x + y))) = fillA s v (k + 1) := by
  rcases (by omega : k = 0 ∨ k = 1 ∨ k = 2 ∨ k = 3 ∨ k = 4 ∨ k = 5 ∨ k = 6 ∨ k = 7) with rfl | rfl | rfl | rfl | rfl | rfl | rfl | rfl
  · exact ⟨s.a, v.a, rfl, rfl, rfl⟩
  · exact ⟨s.b, v.b, rfl, rfl, rfl⟩
  · exact ⟨s.c, v.c, rfl, rfl, rfl⟩
  · exact ⟨s.d, v.d, rfl, rfl, rfl⟩
  · exact ⟨s.e, v.e, rfl, rfl, rfl⟩
  · exact ⟨s.f, v.f, rfl, rfl, rfl⟩
  · exact ⟨s.g, v.g, rfl, rfl, rfl⟩
  · exact ⟨s.h, v.h, rfl, rfl, rfl⟩
theorem fillA_zero (s v : St) : fillA s v 0 = s.list.map wv := rfl
theorem fillA_end (s v : St) : fillA s v 8 = (s.add v).list.map wv := rfl
/-- the walk's sums -/
theorem t1_walk (s : St) (k w : BitVec 32) : s.h + (rotl s.e 26 ^^^ rotl s.e 21 ^^^ rotl s.e 7) + ((s.e &&& s.f) ^^^ (~~~s.e &&& s.g)) + k + w = t1 s k w := by
  rw [mix1_rotl, chs_xor]; rfl
theorem t2_walk (s : St) : (rotl s.a 30 ^^^ rotl s.a 19 ^^^ rotl s.a 10) + ((s.a &&& s.b) ^^^ (s.a &&& s.c) ^^^ (s.b &&& s.c)) = t2 s := by
  rw [mix0_rotl, mst_xor]; rfl
theorem nxt_walk (l : List (BitVec 32)) (t : Nat) (x y : BitVec 32) (hx : l.getD (t - 15) 0 = x) (hy : l.getD (t - 2) 0 = y) :
    l.getD (t - 16) 0 + l.getD (t - 7) 0 + (rotl x 25 ^^^ rotl x 14 ^^^ x >>> 3) + (rotl y 15 ^^^ rotl y 13 ^^^ y >>> 10) = nxt l t := by
  rw [mix2_rotl, mix3_rotl]; subst hx; subst hy; rfl
theorem rnds_succ (s : St) (w : List (BitVec 32)) (n : Nat) : rnds s w (n + 1) = rnd (rnds s w n) (kon.getD n 0) (w.getD n 0) := rfl
theorem rnds_zero (s : St) (w : List (BitVec 32)) : rnds s w 0 = s := rfl
theorem stp_eq (s : St) (b : List (BitVec 32)) : stp s b = s.add (rnds s (sch b 48) 64) := by unfold stp; rfl
end Go.Proofs.Ytlelodomegnboaa
/- The digits of words. Nothing of the program. -/
namespace Go.Proofs.Ytlelodomegnboaa
open Go.RowKit
@[go_sem] theorem bv_and15 (x : BitVec 32) : bits .and .u32 (u x) 15 = u (x &&& 15#32) := bv_and x 15#32
theorem and15_lt (x : BitVec 32) : (by8 (x &&& 15#32)).toNat < 16 := by
  unfold by8
  have h : x.toNat &&& 15 = x.toNat % 16 := Nat.and_two_pow_sub_one_eq_mod _ 4
  rw [UInt8.toNat_ofNat', BitVec.toNat_and]
  show (x.toNat &&& 15) % 256 < 16
  rw [h]; omega
theorem u_and15 (x : BitVec 32) : u (x &&& 15#32) = y8 (by8 (x &&& 15#32)) := by
  unfold by8 u y8
  have h : x.toNat &&& 15 = x.toNat % 16 := Nat.and_two_pow_sub_one_eq_mod _ 4
  rw [UInt8.toNat_ofNat', BitVec.toNat_and]
  show ((x.toNat &&& 15 : Nat) : Int) = ((x.toNat &&& 15) % 256 : Nat)
  rw [h]; omega
@[go_sem high] theorem run_digs_w {P : Program} (w : World) (t : TypeId) (k : IntKind) (x : BitVec 32) (h : P.underlying t = some .string) :
    (Instr.index t (.string digs) (.int k (u (x &&& 15#32)))).run P w = .ok (.int .u8 (y8 (dg (by8 (x &&& 15#32))))) w := run_digs w t k _ _ h (u_and15 x) (and15_lt x)
theorem by8_hi (y : BitVec 32) : by8 y >>> 4 = by8 ((y >>> 4) &&& 15#32) := by
  apply UInt8.toNat_inj.1
  have h1 := y8_hi' (by8 y)
  have h : (y >>> 4).toNat &&& 15 = (y >>> 4).toNat % 16 := Nat.and_two_pow_sub_one_eq_mod _ 4
  have h2 : (by8 ((y >>> 4) &&& 15#32)).toNat = ((y >>> 4).toNat &&& 15) % 256 := by unfold by8; rw [UInt8.toNat_ofNat', BitVec.toNat_and]; rfl
  have h3 : (by8 y).toNat = y.toNat % 256 := by unfold by8; rw [UInt8.toNat_ofNat']
  have h4 : (y >>> 4).toNat = y.toNat / 16 := by rw [BitVec.toNat_ushiftRight, Nat.shiftRight_eq_div_pow]
  rw [h2, h, h4, h1, h3]; omega
theorem by8_lo (y : BitVec 32) : by8 y &&& 15 = by8 (y &&& 15#32) := by
  apply UInt8.toNat_inj.1
  have h : y.toNat &&& 15 = y.toNat % 16 := Nat.and_two_pow_sub_one_eq_mod _ 4
  have h2 : (by8 (y &&& 15#32)).toNat = (y.toNat &&& 15) % 256 := by unfold by8; rw [UInt8.toNat_ofNat', BitVec.toNat_and]; rfl
  have h3 : (by8 y).toNat = y.toNat % 256 := by unfold by8; rw [UInt8.toNat_ofNat']
  have h5 : (by8 y &&& 15).toNat = (by8 y).toNat % 16 := by
    rw [UInt8.toNat_and]; exact Nat.and_two_pow_sub_one_eq_mod _ 4
  rw [h2, h, h5, h3]; omega
theorem four_at (x : BitVec 32) (m : Nat) (h : m < 4) : (four x)[m]? = some (by8 (x >>> (24 - 8 * m))) := by
  rcases (by omega : m = 0 ∨ m = 1 ∨ m = 2 ∨ m = 3) with rfl | rfl | rfl | rfl
  · rfl
  · rfl
  · rfl
  · show some (by8 x) = some (by8 (x >>> 0)); rw [BitVec.ushiftRight_zero]
theorem shr_shr (x : BitVec 32) (a b : Nat) : x >>> a >>> b = x >>> (a + b) := (BitVec.shiftRight_add x a b).symm
theorem hexW_at (L : List (BitVec 32)) (q i : Nat) (hq : q < L.length) (hi : i < 8) : (hexT (bytesW L))[8 * q + i]? = some (dg (by8 ((L[q] >>> (28 - 4 * i)) &&& 15#32))) := by
  have hb := bytesW_at L q hq (i / 2) (by omega)
  rw [four_at _ _ (by omega)] at hb
  have hlt : 4 * q + i / 2 < (bytesW L).length := (List.getElem?_eq_some_iff.1 hb).1
  have hbe : (bytesW L)[4 * q + i / 2] = by8 (L[q] >>> (24 - 8 * (i / 2))) := by
    rw [List.getElem?_eq_getElem hlt] at hb; exact Option.some.inj hb
  have ha := hexT_at (bytesW L) (4 * q + i / 2) hlt
  rw [hbe, by8_hi, by8_lo, shr_shr] at ha
  by_cases hm : i % 2 = 0
  · have h := ha.1
    rwa [show 2 * (4 * q + i / 2) = 8 * q + i from by omega, show 24 - 8 * (i / 2) + 4 = 28 - 4 * i from by omega] at h
  · have h := ha.2
    rwa [show 2 * (4 * q + i / 2) + 1 = 8 * q + i from by omega, show 24 - 8 * (i / 2) = 28 - 4 * i from by omega] at h
theorem hexW_length (s : St) : (hexT (bytesW s.list)).length = 64 := by rw [hexT_length, bytesW_length]; rfl
theorem Rd.drop64 {w : World} {b off n c : Nat} {l : List UInt8} (h : Rd w 1 (some ⟨b, off, none⟩) n c (l.map bv8)) (hn : 64 ≤ n) : Rd w 1 (some ⟨b, off + 64, none⟩) (n - 64) (c - 64) ((l.drop 64).map bv8) := by
  obtain ⟨h1, h2, h3, h4⟩ := h
  refine ⟨by simp at h1 ⊢; omega, by omega, by omega, fun hp => ⟨b, off + 64, rfl, fun j v hv => ?_⟩⟩
  obtain ⟨b', off', e, hc⟩ := h4 (by simp at h1 ⊢; omega)
  injection e with e
  injection e with e1 e2
  subst e1; subst e2
  rw [List.map_drop, List.getElem?_drop] at hv
  have := hc (64 + j) v hv
  rwa [← Nat.add_assoc] at this
theorem Rd.empty {w : World} (A : Option Addr) (c : Nat) (hc : c ≤ maxLen) : Rd w 1 A 0 c [] := ⟨by simp, Nat.zero_le _, hc, fun h => absurd h (by simp)⟩
/-- the digest of bytes, as digits -/
def dig (l : List UInt8) : List UInt8 := hexT (bytesW (sumS l).list)
theorem dig_length (l : List UInt8) : (dig l).length = 64 := hexW_length _
end Go.Proofs.Ytlelodomegnboaa

/- Texts that belong together: what the functions of the program and of the statements return. -/
import Derived.Test.YtdbdigcpibmgjaaGreatDoorGA
import Derived.Test.YtdbdigcpibmgjaaGreatDoorRows
import Derived.OwnWalk
import Derived.Lib.Hide
import Derived.IntWalk
import Derived.StillTailTactics
import Derived.Deep.QuietTactic
import Derived.BigQuiet
import Derived.RegionTactic
/- The functions of chapter 1 on bit vectors, and plain facts on them. Nothing of the program. -/
namespace Go.Proofs.YtdbdigcpibmgjaaGreatDoor

def rotl (x : BitVec 32) (k : Int) : BitVec 32 := x <<< (k % 32).toNat ||| x >>> (32 - k % 32).toNat
def rotr (x : BitVec 32) (n : Int) : BitVec 32 := rotl x (-n)
def chs (x y z : BitVec 32) : BitVec 32 := x &&& y ||| ~~~x &&& z
def mst (x y z : BitVec 32) : BitVec 32 := x &&& y ||| x &&& z ||| y &&& z
def mix0 (x : BitVec 32) : BitVec 32 := rotr x 2 ^^^ rotr x 13 ^^^ rotr x 22
def mix1 (x : BitVec 32) : BitVec 32 := rotr x 6 ^^^ rotr x 11 ^^^ rotr x 25
def mix2 (x : BitVec 32) : BitVec 32 := rotr x 7 ^^^ rotr x 18 ^^^ x >>> 3
def mix3 (x : BitVec 32) : BitVec 32 := rotr x 17 ^^^ rotr x 19 ^^^ x >>> 10

@[go_sem] theorem bv_div8 (x : BitVec 32) : u x / (8 : Int) = u (x >>> 3) := bv_shr x 3
@[go_sem] theorem bv_div1024 (x : BitVec 32) : u x / (1024 : Int) = u (x >>> 10) := bv_shr x 10

theorem u_tdiv (x : BitVec 32) (n : Int) (h : 0 < n) : (u x).tdiv n % (4294967296 : Int) = u x / n := by
  have h0 := u_nonneg x
  have h1 := u_lt x
  rw [Int.tdiv_eq_ediv_of_nonneg h0]
  have h2 : u x / n ≤ u x := Int.ediv_le_self _ h0
  have h3 : 0 ≤ u x / n := Int.ediv_nonneg h0 (by omega)
  exact Int.emod_eq_of_lt h3 (by omega)
@[go_sem] theorem bv_tdiv8 (x : BitVec 32) : (u x).tdiv (8 : Int) % (4294967296 : Int) = u (x >>> 3) := (u_tdiv x 8 (by decide)).trans (bv_div8 x)
@[go_sem] theorem bv_tdiv1024 (x : BitVec 32) : (u x).tdiv (1024 : Int) % (4294967296 : Int) = u (x >>> 10) := (u_tdiv x 1024 (by decide)).trans (bv_div1024 x)
theorem rotl_bit (x : BitVec 32) (k : Int) (i : Nat) (hi : i < 32) : (rotl x k).getLsbD i = x.getLsbD ((i + (32 - (k % 32).toNat)) % 32) := by
  have h0 : 0 ≤ k % 32 := by omega
  have h1 : k % 32 < 32 := by omega
  unfold rotl
  generalize hs : (k % 32).toNat = s
  have h2 : s < 32 := by omega
  have h3 : (32 - k % 32).toNat = 32 - s := by omega
  rw [h3]
  simp only [BitVec.getLsbD_or, BitVec.getLsbD_shiftLeft, BitVec.getLsbD_ushiftRight]
  by_cases hc : i < s
  · have e : (i + (32 - s)) % 32 = 32 - s + i := by omega
    rw [e]; simp [hi, hc]
  · have e : (i + (32 - s)) % 32 = i - s := by omega
    have e2 : x.getLsbD (32 - s + i) = false := BitVec.getLsbD_of_ge _ _ (by omega)
    rw [e, e2]; simp [hi, hc]
theorem rotr_bit (x : BitVec 32) (n : Int) (h0 : 0 ≤ n) (h1 : n ≤ 31) (i : Nat) (hi : i < 32) : (rotr x n).getLsbD i = x.getLsbD ((i + n.toNat) % 32) := by
  unfold rotr
  rw [rotl_bit x _ i hi]
  congr 1
  by_cases e : n = 0
  · subst e; simp
  · have : (-n) % 32 = 32 - n := by omega
    rw [this]; omega
theorem rotr_zero (x : BitVec 32) : rotr x 0 = x := by
  apply BitVec.eq_of_getLsbD_eq
  intro i hi
  rw [rotr_bit x 0 (by omega) (by omega) i hi]
  congr 1; simp; omega
theorem rotr_rotr (x : BitVec 32) (n m : Int) (h0 : 0 ≤ n) (h1 : n ≤ 31) (g0 : 0 ≤ m) (g1 : m ≤ 31) : rotr (rotr x n) m = rotr x ((n + m) % 32) := by
  apply BitVec.eq_of_getLsbD_eq
  intro i hi
  rw [rotr_bit _ m g0 g1 i hi, rotr_bit x n h0 h1 _ (by omega), rotr_bit x _ (by omega) (by omega) i hi]
  congr 1; omega
theorem rotr_back (x : BitVec 32) (n : Int) (h0 : 0 ≤ n) (h1 : n ≤ 31) : rotr (rotr x n) ((32 - n) % 32) = x := by
  rw [rotr_rotr x n _ h0 h1 (by omega) (by omega)]
  have : (n + (32 - n) % 32) % 32 = 0 := by omega
  rw [this, rotr_zero]
theorem rotl_xor (x y : BitVec 32) (k : Int) : rotl (x ^^^ y) k = rotl x k ^^^ rotl y k := by
  apply BitVec.eq_of_getLsbD_eq
  intro i hi
  simp only [BitVec.getLsbD_xor, rotl_bit _ _ _ hi]
theorem rotr_xor (x y : BitVec 32) (n : Int) : rotr (x ^^^ y) n = rotr x n ^^^ rotr y n := rotl_xor x y _
theorem shr_xor (x y : BitVec 32) (n : Nat) : (x ^^^ y) >>> n = x >>> n ^^^ y >>> n := by
  apply BitVec.eq_of_getLsbD_eq
  intro i hi
  simp only [BitVec.getLsbD_xor, BitVec.getLsbD_ushiftRight]
theorem xor6 (a b c d e f : BitVec 32) : (a ^^^ b ^^^ c) ^^^ (d ^^^ e ^^^ f) = (a ^^^ d) ^^^ (b ^^^ e) ^^^ (c ^^^ f) := by
  apply BitVec.eq_of_getLsbD_eq
  intro i hi
  simp only [BitVec.getLsbD_xor]
  cases a.getLsbD i <;> cases b.getLsbD i <;> cases c.getLsbD i <;> cases d.getLsbD i <;> cases e.getLsbD i <;> cases f.getLsbD i <;> rfl
theorem mix0_xor (x y : BitVec 32) : mix0 x ^^^ mix0 y = mix0 (x ^^^ y) := by unfold mix0; rw [rotr_xor, rotr_xor, rotr_xor, xor6]
theorem mix1_xor (x y : BitVec 32) : mix1 x ^^^ mix1 y = mix1 (x ^^^ y) := by unfold mix1; rw [rotr_xor, rotr_xor, rotr_xor, xor6]
theorem mix2_xor (x y : BitVec 32) : mix2 x ^^^ mix2 y = mix2 (x ^^^ y) := by unfold mix2; rw [rotr_xor, rotr_xor, shr_xor, xor6]
theorem mix3_xor (x y : BitVec 32) : mix3 x ^^^ mix3 y = mix3 (x ^^^ y) := by unfold mix3; rw [rotr_xor, rotr_xor, shr_xor, xor6]
theorem chs_same (x y : BitVec 32) : chs x y y = y := by
  apply BitVec.eq_of_getLsbD_eq
  intro i hi
  simp only [chs, BitVec.getLsbD_and, BitVec.getLsbD_or, BitVec.getLsbD_not, hi, decide_true, Bool.true_and]
  cases x.getLsbD i <;> cases y.getLsbD i <;> rfl
theorem chs_zero (y z : BitVec 32) : chs 0#32 y z = z := by
  apply BitVec.eq_of_getLsbD_eq
  intro i hi
  simp only [chs, BitVec.getLsbD_and, BitVec.getLsbD_or, BitVec.getLsbD_not, hi, decide_true, Bool.true_and, BitVec.getLsbD_zero]
  cases y.getLsbD i <;> cases z.getLsbD i <;> rfl
theorem mst_same (x y : BitVec 32) : mst x y y = y := by
  apply BitVec.eq_of_getLsbD_eq
  intro i hi
  simp only [mst, BitVec.getLsbD_and, BitVec.getLsbD_or]
  cases x.getLsbD i <;> cases y.getLsbD i <;> rfl
theorem mst_turn (x y z : BitVec 32) : mst x y z = mst z x y := by
  apply BitVec.eq_of_getLsbD_eq
  intro i hi
  simp only [mst, BitVec.getLsbD_and, BitVec.getLsbD_or]
  cases x.getLsbD i <;> cases y.getLsbD i <;> cases z.getLsbD i <;> rfl
theorem mst_swap (x y z : BitVec 32) : mst x y z = mst y x z := by
  apply BitVec.eq_of_getLsbD_eq
  intro i hi
  simp only [mst, BitVec.getLsbD_and, BitVec.getLsbD_or]
  cases x.getLsbD i <;> cases y.getLsbD i <;> cases z.getLsbD i <;> rfl

/-- the lowest k bits -/
def low (v : BitVec 32) (k : Nat) : BitVec 32 := BitVec.ofNat 32 (v.toNat % 2 ^ k)
def bitAt (v : BitVec 32) (k : Nat) : BitVec 32 := v >>> k &&& 1#32
theorem low_zero (v : BitVec 32) : low v 0 = 0#32 := by simp [low, Nat.mod_one]
theorem low_full (v : BitVec 32) : low v 32 = v := by
  apply BitVec.eq_of_toNat_eq
  have := v.isLt
  rw [low, BitVec.toNat_ofNat, Nat.mod_eq_of_lt this, Nat.mod_eq_of_lt this]
theorem bitAt_toNat (v : BitVec 32) (k : Nat) : (bitAt v k).toNat = v.toNat / 2 ^ k % 2 := by
  unfold bitAt
  rw [BitVec.toNat_and, BitVec.toNat_ushiftRight, Nat.shiftRight_eq_div_pow]
  exact Nat.and_two_pow_sub_one_eq_mod _ 1
theorem bitAt_eq (v : BitVec 32) (k : Nat) (_hk : k < 32) : bitAt v k = if v.getLsbD k then 1#32 else 0#32 := by
  apply BitVec.eq_of_toNat_eq
  rw [bitAt_toNat, BitVec.getLsbD, Nat.testBit_eq_decide_div_mod_eq]
  by_cases h : v.toNat / 2 ^ k % 2 = 1
  · simp [h]
  · have : v.toNat / 2 ^ k % 2 = 0 := by omega
    simp [this]
theorem low_succ (v : BitVec 32) (k : Nat) (hk : k < 32) : low v k + bitAt v k <<< k = low v (k + 1) := by
  apply BitVec.eq_of_toNat_eq
  have hp : 2 ^ (k + 1) ≤ 2 ^ 32 := Nat.pow_le_pow_right (by omega) (by omega)
  have e := @Nat.mod_pow_succ v.toNat 2 k
  have hb : v.toNat % 2 ^ (k + 1) < 2 ^ (k + 1) := Nat.mod_lt _ (Nat.two_pow_pos _)
  have ha : v.toNat % 2 ^ k < 2 ^ k := Nat.mod_lt _ (Nat.two_pow_pos _)
  have hs : 2 ^ (k + 1) = 2 * 2 ^ k := by rw [Nat.pow_succ]; omega
  have h1 : (low v k).toNat = v.toNat % 2 ^ k := by rw [low, BitVec.toNat_ofNat]; exact Nat.mod_eq_of_lt (by omega)
  have h2 : (bitAt v k <<< k).toNat = 2 ^ k * (v.toNat / 2 ^ k % 2) := by
    rw [BitVec.toNat_shiftLeft, Nat.shiftLeft_eq, bitAt_toNat, Nat.mul_comm]
    exact Nat.mod_eq_of_lt (by omega)
  have h3 : (low v (k + 1)).toNat = v.toNat % 2 ^ (k + 1) := by rw [low, BitVec.toNat_ofNat]; exact Nat.mod_eq_of_lt (by omega)
  rw [BitVec.toNat_add, h1, h2, h3, ← e]
  exact Nat.mod_eq_of_lt (by omega)
theorem chs_bit (x y z : BitVec 32) (k : Nat) (hk : k < 32) : bitAt (chs x y z) k = if bitAt x k = 1#32 then bitAt y k else bitAt z k := by
  rw [bitAt_eq _ k hk, bitAt_eq x k hk, bitAt_eq y k hk, bitAt_eq z k hk]
  simp only [chs, BitVec.getLsbD_and, BitVec.getLsbD_or, BitVec.getLsbD_not, hk, decide_true, Bool.true_and]
  cases x.getLsbD k <;> cases y.getLsbD k <;> cases z.getLsbD k <;> rfl
theorem mst_bit (x y z : BitVec 32) (k : Nat) (hk : k < 32) : bitAt (mst x y z) k = if 1 < u (bitAt x k + bitAt y k + bitAt z k) then 1#32 else 0#32 := by
  rw [bitAt_eq _ k hk, bitAt_eq x k hk, bitAt_eq y k hk, bitAt_eq z k hk]
  simp only [mst, BitVec.getLsbD_and, BitVec.getLsbD_or]
  cases x.getLsbD k <;> cases y.getLsbD k <;> cases z.getLsbD k <;> decide
@[go_sem] theorem bv_pow (n : Nat) : ((2 : Int) ^ n) % (4294967296 : Int) = u (1#32 <<< n) := by
  have := bv_shl 1#32 n
  rw [← this]
  show _ = ((1 : Int) * 2 ^ n) % 4294967296
  rw [Int.one_mul]
@[go_sem] theorem u_beq_one (x : BitVec 32) : (u x == (1 : Int)) = (x == 1#32) := u_beq x 1#32
end Go.Proofs.YtdbdigcpibmgjaaGreatDoor
/- The row of words in the program's table. -/
namespace Go.Proofs.YtdbdigcpibmgjaaGreatDoor

theorem u32_info : (Tryz.prog.info? 115).map (fun i => (i.zero, i.size, i.bytes)) = some (some (.int .u32 0), 1, 4) := by kernel_rfl
end Go.Proofs.YtdbdigcpibmgjaaGreatDoor
/- Words and bytes: plain facts, and how the walk's numbers are told in their terms. Nothing of the program. -/
namespace Go.Proofs.YtdbdigcpibmgjaaGreatDoor
open Go.RowKit
def w8 (x : UInt8) : BitVec 32 := BitVec.ofNat 32 x.toNat
@[go_sem] theorem wrap_y8 (x : UInt8) : IntKind.u32.wrap (y8 x) = u (w8 x) := by
  have := x.toNat_lt
  rw [IntKind.wrap_u32]; unfold y8 u w8; rw [BitVec.toNat_ofNat]; omega
def word4 (a b c d : UInt8) : BitVec 32 := w8 a <<< 24 ||| w8 b <<< 16 ||| w8 c <<< 8 ||| w8 d
def words : List UInt8 → List (BitVec 32)
  | a :: b :: c :: d :: r => word4 a b c d :: words r
  | _ => []
theorem words_length : ∀ l : List UInt8, (words l).length = l.length / 4
  | [] => rfl
  | [_] => by simp [words]
  | [_, _] => by simp [words]
  | [_, _, _] => by simp [words]
  | _ :: _ :: _ :: _ :: r => by simp [words, words_length r]; omega
theorem words_at : ∀ (l : List UInt8) (k : Nat) (h : 4 * k + 3 < l.length), (words l)[k]? = some (word4 l[4 * k] l[4 * k + 1] l[4 * k + 2] l[4 * k + 3])
  | [], _, h => absurd h (by simp)
  | [_], _, h => absurd h (by simp)
  | [_, _], _, h => absurd h (by simp)
  | [_, _, _], _, h => absurd h (by simp)
  | a :: b :: c :: d :: r, 0, _ => rfl
  | a :: b :: c :: d :: r, k + 1, h => by
    have h' : 4 * k + 3 < r.length := by simp at h; omega
    have := words_at r k h'
    rw [words, List.getElem?_cons_succ, this]
    congr 1
def by8 (x : BitVec 32) : UInt8 := UInt8.ofNat x.toNat
@[go_sem] theorem wrap8_u (x : BitVec 32) : IntKind.u8.wrap (u x) = y8 (by8 x) := by
  rw [IntKind.wrap_u8]; unfold y8 u by8; simp
@[go_sem] theorem mod256_u (x : BitVec 32) : u x % (256 : Int) = y8 (by8 x) := by
  unfold y8 u by8; simp
@[go_sem] theorem bv_div24 (x : BitVec 32) : u x / (16777216 : Int) = u (x >>> 24) := bv_shr x 24
@[go_sem] theorem bv_div16 (x : BitVec 32) : u x / (65536 : Int) = u (x >>> 16) := bv_shr x 16
@[go_sem] theorem bv_div256 (x : BitVec 32) : u x / (256 : Int) = u (x >>> 8) := bv_shr x 8
def four (x : BitVec 32) : List UInt8 := [by8 (x >>> 24), by8 (x >>> 16), by8 (x >>> 8), by8 x]
def bytesW (l : List (BitVec 32)) : List UInt8 := l.flatMap four
theorem bytesW_length (l : List (BitVec 32)) : (bytesW l).length = 4 * l.length := by
  induction l with
  | nil => rfl
  | cons a r ih =>
    have e : bytesW (a :: r) = four a ++ bytesW r := rfl
    rw [e, List.length_append, ih, List.length_cons]
    have : (four a).length = 4 := rfl
    omega
theorem bytesW_at : ∀ (l : List (BitVec 32)) (k : Nat) (h : k < l.length) (j : Nat), j < 4 → (bytesW l)[4 * k + j]? = (four l[k])[j]?
  | [], _, h, _, _ => absurd h (by simp)
  | a :: r, 0, _, j, hj => by
    simp only [bytesW, List.flatMap_cons, Nat.mul_zero, Nat.zero_add, List.getElem_cons_zero]
    rw [List.getElem?_append_left (by simp [four]; omega)]
  | a :: r, k + 1, h, j, hj => by
    have := bytesW_at r k (by simpa using h) j hj
    simp only [bytesW, List.flatMap_cons, List.getElem_cons_succ] at this ⊢
    rw [List.getElem?_append_right (by simp [four]; omega), ← this]
    congr 1
    simp [four]; omega
/-- the words so far, behind k bytes: the reference's loop -/
def wst (l : List UInt8) : Nat → List (BitVec 32)
  | 0 => []
  | k + 1 =>
    let s := if k % 4 = 0 then wst l k ++ [0#32] else wst l k
    s.set (k / 4) ((s.getD (k / 4) 0#32) <<< 8 + w8 (l.getD k 0))
theorem wst_length (l : List UInt8) : ∀ k, (wst l k).length = (k + 3) / 4
  | 0 => rfl
  | k + 1 => by
    rw [wst]
    simp only [List.length_set]
    split
    · rw [List.length_append, wst_length l k]; simp; omega
    · rw [wst_length l k]; omega
theorem shl8_or (x : BitVec 32) (d : UInt8) : x <<< 8 + w8 d = x <<< 8 ||| w8 d := by
  apply BitVec.add_eq_or_of_and_eq_zero
  apply BitVec.eq_of_getLsbD_eq
  intro i hi
  simp only [BitVec.getLsbD_and, BitVec.getLsbD_shiftLeft, BitVec.getLsbD_zero]
  by_cases h : i < 8
  · simp [h]
  · have : (w8 d).getLsbD i = false := by
      unfold w8
      rw [BitVec.getLsbD_ofNat]
      have hd := d.toNat_lt
      have : d.toNat.testBit i = false := Nat.testBit_lt_two_pow (Nat.lt_of_lt_of_le hd (Nat.pow_le_pow_right (by omega) (by omega) : 2 ^ 8 ≤ 2 ^ i))
      simp [this]
    simp [this]
theorem word4_add (a b c d : UInt8) : (((0#32 <<< 8 + w8 a) <<< 8 + w8 b) <<< 8 + w8 c) <<< 8 + w8 d = word4 a b c d := by
  rw [shl8_or, shl8_or, shl8_or, shl8_or]
  apply BitVec.eq_of_getLsbD_eq
  intro i hi
  simp only [word4, BitVec.getLsbD_or, BitVec.getLsbD_shiftLeft, BitVec.getLsbD_zero, hi, decide_true, Bool.true_and, Bool.and_false, Bool.false_or]
  have e1 : i - 8 < 32 := by omega
  have e2 : i - 8 - 8 < 32 := by omega
  have e4 : i - 8 - 8 = i - 16 := by omega
  have e3 : i - 16 - 8 = i - 24 := by omega
  simp only [e1, decide_true, Bool.true_and, e4] at e2 ⊢
  simp only [e2, decide_true, Bool.true_and, e3]
  by_cases h1 : i < 8
  · have a1 : i < 16 := by omega
    have a2 : i < 24 := by omega
    simp [h1, a1, a2]
  · by_cases h2 : i < 16
    · have a2 : i < 24 := by omega
      have a3 : i - 8 < 8 := by omega
      simp [h1, h2, a2, a3]
    · by_cases h3 : i < 24
      · have a3 : ¬ i - 8 < 8 := by omega
        have a4 : i - 16 < 8 := by omega
        simp [h1, h2, h3, a3, a4]
      · have a3 : ¬ i - 8 < 8 := by omega
        have a4 : ¬ i - 16 < 8 := by omega
        simp [h1, h2, h3, a3, a4]
theorem wst_first {l : List UInt8} {k : Nat} {W : List (BitVec 32)} (hm : k % 4 = 0) (h : wst l k = W) (hW : W.length = k / 4) : wst l (k + 1) = W ++ [0#32 <<< 8 + w8 (l.getD k 0)] := by
  rw [wst, if_pos hm, h]
  show (W ++ [0#32]).set (k / 4) ((W ++ [0#32]).getD (k / 4) 0#32 <<< 8 + w8 (l.getD k 0)) = _
  rw [set_last _ _ _ _ hW, getD_last _ _ _ _ hW]
theorem wst_next {l : List UInt8} {k : Nat} {W : List (BitVec 32)} {x : BitVec 32} (hm : ¬ k % 4 = 0) (h : wst l k = W ++ [x]) (hW : W.length = k / 4) : wst l (k + 1) = W ++ [x <<< 8 + w8 (l.getD k 0)] := by
  rw [wst, if_neg hm, h]
  show (W ++ [x]).set (k / 4) ((W ++ [x]).getD (k / 4) 0#32 <<< 8 + w8 (l.getD k 0)) = _
  rw [set_last _ _ _ _ hW, getD_last _ _ _ _ hW]
theorem words_take : ∀ (j : Nat) (l : List UInt8), 4 * j + 3 < l.length → words (l.take (4 * (j + 1))) = words (l.take (4 * j)) ++ [word4 (l.getD (4 * j) 0) (l.getD (4 * j + 1) 0) (l.getD (4 * j + 2) 0) (l.getD (4 * j + 3) 0)]
  | _, [], h => absurd h (by simp)
  | _, [_], h => absurd h (by simp)
  | _, [_, _], h => absurd h (by simp)
  | _, [_, _, _], h => absurd h (by simp)
  | 0, a :: b :: c :: d :: r, _ => by simp [words]
  | j + 1, a :: b :: c :: d :: r, h => by
    have := words_take j r (by simp at h; omega)
    rw [show 4 * (j + 1 + 1) = 4 * (j + 1) + 4 from by omega, show 4 * (j + 1) + 1 = 4 * j + 1 + 4 from by omega, show 4 * (j + 1) + 2 = 4 * j + 2 + 4 from by omega, show 4 * (j + 1) + 3 = 4 * j + 3 + 4 from by omega]
    simp only [List.take_succ_cons, words, this]
    rw [show 4 * (j + 1) = 4 * j + 4 from by omega]
    simp only [List.take_succ_cons, words, List.cons_append, List.getD_cons_succ]
theorem wst_four (l : List UInt8) (j : Nat) (h : wst l (4 * j) = words (l.take (4 * j))) (hl : 4 * j + 3 < l.length) : wst l (4 * (j + 1)) = words (l.take (4 * (j + 1))) := by
  have hW : (words (l.take (4 * j))).length = j := by rw [words_length, List.length_take]; omega
  have s0 := wst_first (l := l) (k := 4 * j) (by omega) h (by omega)
  have s1 := wst_next (l := l) (k := 4 * j + 1) (by omega) s0 (by omega)
  have s2 := wst_next (l := l) (k := 4 * j + 1 + 1) (by omega) s1 (by omega)
  have s3 := wst_next (l := l) (k := 4 * j + 1 + 1 + 1) (by omega) s2 (by omega)
  rw [word4_add] at s3
  rw [words_take j l hl]
  exact s3
theorem wst_all (l : List UInt8) : ∀ j, 4 * j ≤ l.length → wst l (4 * j) = words (l.take (4 * j))
  | 0, _ => rfl
  | j + 1, h => wst_four l j (wst_all l j (by omega)) (by omega)
theorem wst_end (l : List UInt8) (h : l.length % 4 = 0) : wst l l.length = words l := by
  have := wst_all l (l.length / 4) (by omega)
  rwa [show 4 * (l.length / 4) = l.length from by omega, List.take_length] at this
end Go.Proofs.YtdbdigcpibmgjaaGreatDoor
/- SHA-256 on bit vectors and lists. Nothing of the program. -/
namespace Go.Proofs.YtdbdigcpibmgjaaGreatDoor
open Go.RowKit
/-- the 64 round constants; the eight words at the start -/
def kon : List (BitVec 32) := [1116352408, 1899447441, 3049323471, 3921009573, 961987163, 1508970993, 2453635748, 2870763221, 3624381080, 310598401, 607225278, 1426881987, 1925078388, 2162078206, 2614888103, 3248222580, 3835390401, 4022224774, 264347078, 604807628, 770255983, 1249150122, 1555081692, 1996064986, 2554220882, 2821834349, 2952996808, 3210313671, 3336571891, 3584528711, 113926993, 338241895, 666307205, 773529912, 1294757372, 1396182291, 1695183700, 1986661051, 2177026350, 2456956037, 2730485921, 2820302411, 3259730800, 3345764771, 3516065817, 3600352804, 4094571909, 275423344, 430227734, 506948616, 659060556, 883997877, 958139571, 1322822218, 1537002063, 1747873779, 1955562222, 2024104815, 2227730452, 2361852424, 2428436474, 2756734187, 3204031479, 3329325298]
def ini : List (BitVec 32) := [1779033703, 3144134277, 1013904242, 2773480762, 1359893119, 2600822924, 528734635, 1541459225]
theorem kon_length : kon.length = 64 := by decide +kernel
/-- eight state words -/
structure St where
  (a b c d e f g h : BitVec 32)
def St.list (s : St) : List (BitVec 32) := [s.a, s.b, s.c, s.d, s.e, s.f, s.g, s.h]
def t1 (s : St) (k w : BitVec 32) : BitVec 32 := s.h + mix1 s.e + chs s.e s.f s.g + k + w
def t2 (s : St) : BitVec 32 := mix0 s.a + mst s.a s.b s.c
def rnd (s : St) (k w : BitVec 32) : St := ⟨t1 s k w + t2 s, s.a, s.b, s.c, s.d + t1 s k w, s.e, s.f, s.g⟩
/-- the schedule: one word more -/
def nxt (s : List (BitVec 32)) (t : Nat) : BitVec 32 := s.getD (t - 16) 0 + s.getD (t - 7) 0 + mix2 (s.getD (t - 15) 0) + mix3 (s.getD (t - 2) 0)
def sch (b : List (BitVec 32)) : Nat → List (BitVec 32)
  | 0 => b
  | n + 1 => sch b n ++ [nxt (sch b n) (16 + n)]
theorem sch_length (b : List (BitVec 32)) (hb : b.length = 16) : ∀ n, (sch b n).length = 16 + n
  | 0 => hb
  | n + 1 => by rw [sch, List.length_append, sch_length b hb n]; rfl
/-- n rounds -/
def rnds (s : St) (w : List (BitVec 32)) : Nat → St
  | 0 => s
  | n + 1 => rnd (rnds s w n) (kon.getD n 0) (w.getD n 0)
def St.add (s v : St) : St := ⟨s.a + v.a, s.b + v.b, s.c + v.c, s.d + v.d, s.e + v.e, s.f + v.f, s.g + v.g, s.h + v.h⟩
/-- one block of sixteen words -/
@[irreducible] def stp (s : St) (b : List (BitVec 32)) : St := s.add (rnds s (sch b 48) 64)
/-- all blocks of bytes, 64 each -/
def each64 {σ : Type} (f : σ → List UInt8 → σ) : Nat → List UInt8 → σ → σ
  | 0, _, s => s
  | n + 1, l, s => each64 f n (l.drop 64) (f s (l.take 64))
theorem each64_snoc {σ : Type} (f : σ → List UInt8 → σ) (n : Nat) : ∀ (l : List UInt8) (s : σ), each64 f (n + 1) l s = f (each64 f n l s) ((l.drop (64 * n)).take 64) := by
  induction n with
  | zero => intro l s; rfl
  | succ n ih =>
    intro l s
    rw [each64, ih, each64, List.drop_drop]
    rw [show 64 + 64 * n = 64 * (n + 1) from by omega]
def stpB (s : St) (b : List UInt8) : St := stp s (words b)
def blocks (n : Nat) (l : List UInt8) (s : St) : St := each64 stpB n l s
def iniS : St := ⟨1779033703, 3144134277, 1013904242, 2773480762, 1359893119, 2600822924, 528734635, 1541459225⟩
/-- how many zero bytes are padded -/
def zeros (n : Nat) : Nat := (119 - n % 64) % 64
def len8 (n : Nat) : List UInt8 := (List.range 8).map fun i => UInt8.ofNat ((n * 8) >>> (56 - 8 * i))
def pad (l : List UInt8) : List UInt8 := l ++ [128] ++ List.replicate (zeros l.length) 0 ++ len8 l.length
theorem len8_length (n : Nat) : (len8 n).length = 8 := by simp [len8]
theorem pad_length (l : List UInt8) : (pad l).length = l.length + 9 + zeros l.length := by
  simp [pad, len8_length]; omega
theorem zeros_spec (n : Nat) : (n + 9 + zeros n) % 64 = 0 := by unfold zeros; omega
theorem zeros_lt (n : Nat) : zeros n < 64 := by unfold zeros; omega
def sumS (l : List UInt8) : St := blocks ((pad l).length / 64) (pad l) iniS
theorem chs_xor (x y z : BitVec 32) : (x &&& y) ^^^ (~~~x &&& z) = chs x y z := by
  unfold chs
  apply BitVec.eq_of_getLsbD_eq
  intro i hi
  simp only [BitVec.getLsbD_xor, BitVec.getLsbD_or, BitVec.getLsbD_and, BitVec.getLsbD_not, hi, decide_true, Bool.true_and]
  cases x.getLsbD i <;> cases y.getLsbD i <;> cases z.getLsbD i <;> rfl
theorem mst_xor (x y z : BitVec 32) : (x &&& y) ^^^ (x &&& z) ^^^ (y &&& z) = mst x y z := by
  unfold mst
  apply BitVec.eq_of_getLsbD_eq
  intro i hi
  simp only [BitVec.getLsbD_xor, BitVec.getLsbD_or, BitVec.getLsbD_and]
  cases x.getLsbD i <;> cases y.getLsbD i <;> cases z.getLsbD i <;> rfl
theorem rotl_rotr (x : BitVec 32) (k n : Int) (h : k % 32 = (-n) % 32) : rotl x k = rotr x n := by
  unfold rotr rotl; rw [h]
theorem mix0_rotl (x : BitVec 32) : rotl x 30 ^^^ rotl x 19 ^^^ rotl x 10 = mix0 x := by
  rw [rotl_rotr x 30 2 (by decide), rotl_rotr x 19 13 (by decide), rotl_rotr x 10 22 (by decide)]; rfl
theorem mix1_rotl (x : BitVec 32) : rotl x 26 ^^^ rotl x 21 ^^^ rotl x 7 = mix1 x := by
  rw [rotl_rotr x 26 6 (by decide), rotl_rotr x 21 11 (by decide), rotl_rotr x 7 25 (by decide)]; rfl
theorem mix2_rotl (x : BitVec 32) : rotl x 25 ^^^ rotl x 14 ^^^ x >>> 3 = mix2 x := by
  rw [rotl_rotr x 25 7 (by decide), rotl_rotr x 14 18 (by decide)]; rfl
theorem mix3_rotl (x : BitVec 32) : rotl x 15 ^^^ rotl x 13 ^^^ x >>> 10 = mix3 x := by
  rw [rotl_rotr x 15 17 (by decide), rotl_rotr x 13 19 (by decide)]; rfl
theorem blocks_zero (l : List UInt8) (s : St) : blocks 0 l s = s := rfl
theorem blocks_snoc (n : Nat) (l : List UInt8) (s : St) : blocks (n + 1) l s = stpB (blocks n l s) ((l.drop (64 * n)).take 64) := each64_snoc stpB n l s
end Go.Proofs.YtdbdigcpibmgjaaGreatDoor
/- SHA-256: what the walks' loops hold. Nothing of the program. -/
namespace Go.Proofs.YtdbdigcpibmgjaaGreatDoor
open Go.RowKit
/-- the 64 words behind k bytes -/
def fillW (l : List UInt8) (k : Nat) : List Value := (wst l k).map wv ++ reps (64 - (k + 3) / 4) (.int .u32 0)
theorem fillW_zero (l : List UInt8) : fillW l 0 = reps 64 (.int .u32 0) := rfl
theorem fillW_step (l : List UInt8) (k : Nat) (hk : k < 64) (hl : k < l.length) :
    ∃ z : BitVec 32, (fillW l k)[k / 4]? = some (.int .u32 (u z)) ∧ (fillW l k).set (k / 4) (.int .u32 (u (z <<< 8 ||| w8 l[k]))) = fillW l (k + 1) := by
  have hL := wst_length l k
  by_cases hm : k % 4 = 0
  · refine ⟨0#32, ?_, ?_⟩
    · unfold fillW
      rw [List.getElem?_append_right (by rw [List.length_map]; omega), List.length_map, hL, show k / 4 - (k + 3) / 4 = 0 from by omega]
      unfold reps
      rw [List.getElem?_replicate, if_pos (by omega)]; rfl
    · have h1 := wst_first (l := l) (k := k) hm rfl (by omega)
      rw [getD_lt hl, shl8_or] at h1
      unfold fillW
      rw [h1, List.set_append_right _ _ (by rw [List.length_map]; omega), List.length_map, hL, show k / 4 - (k + 3) / 4 = 0 from by omega]
      have h2 : reps (64 - (k + 3) / 4) (.int .u32 0) = .int .u32 0 :: reps (64 - (k + 1 + 3) / 4) (.int .u32 0) := by
        unfold reps
        rw [show 64 - (k + 3) / 4 = (64 - (k + 1 + 3) / 4) + 1 from by omega, List.replicate_succ]
      rw [h2, List.set_cons_zero, List.map_append, List.append_assoc]; rfl
  · have hlt : k / 4 < (wst l k).length := by omega
    refine ⟨(wst l k)[k / 4], ?_, ?_⟩
    · unfold fillW
      rw [List.getElem?_append_left (by rw [List.length_map]; omega), List.getElem?_map, List.getElem?_eq_getElem hlt]; rfl
    · unfold fillW
      rw [List.set_append_left _ _ (by rw [List.length_map]; omega), wst, if_neg hm, getD_lt hl, getD_lt hlt, shl8_or, show 64 - (k + 1 + 3) / 4 = 64 - (k + 3) / 4 from by omega]
      show _ = List.map wv ((wst l k).set (k / 4) _) ++ _
      rw [List.map_set]; rfl
theorem fillW_end (l : List UInt8) (h : 64 ≤ l.length) : fillW l 64 = (words (l.take 64)).map wv ++ reps 48 (.int .u32 0) := by
  unfold fillW
  rw [show wst l 64 = words (l.take 64) from wst_all l 16 (by omega)]
theorem words64_length (l : List UInt8) (h : 64 ≤ l.length) : (words (l.take 64)).length = 16 := by
  rw [words_length, List.length_take]; omega
/-- the 64 words of the schedule, t of them made -/
def fillS (b : List (BitVec 32)) (t : Nat) : List Value := (sch b (t - 16)).map wv ++ reps (64 - t) (.int .u32 0)
theorem fillS_at (b : List (BitVec 32)) (hb : b.length = 16) (t i : Nat) (h16 : 16 ≤ t) (hi : i < t) : (fillS b t)[i]? = some (.int .u32 (u ((sch b (t - 16)).getD i 0))) := by
  have hL := sch_length b hb (t - 16)
  unfold fillS
  rw [List.getElem?_append_left (by rw [List.length_map]; omega), List.getElem?_map, List.getElem?_eq_getElem (by omega), getD_lt (by omega)]; rfl
theorem fillS_free (b : List (BitVec 32)) (hb : b.length = 16) (t : Nat) (h16 : 16 ≤ t) (h : t < 64) : (fillS b t)[t]? = some (.int .u32 0) := by
  have hL := sch_length b hb (t - 16)
  unfold fillS
  rw [List.getElem?_append_right (by rw [List.length_map]; omega), List.length_map, hL, show t - (16 + (t - 16)) = 0 from by omega]
  unfold reps
  rw [List.getElem?_replicate, if_pos (by omega)]
theorem fillS_step (b : List (BitVec 32)) (hb : b.length = 16) (t : Nat) (h16 : 16 ≤ t) (h : t < 64) :
    (fillS b t).set t (.int .u32 (u (nxt (sch b (t - 16)) t))) = fillS b (t + 1) := by
  have hL := sch_length b hb (t - 16)
  unfold fillS
  rw [List.set_append_right _ _ (by rw [List.length_map]; omega), List.length_map, hL, show t - (16 + (t - 16)) = 0 from by omega, show t + 1 - 16 = (t - 16) + 1 from by omega, sch, show 16 + (t - 16) = t from by omega]
  have h2 : reps (64 - t) (.int .u32 0) = .int .u32 0 :: reps (64 - (t + 1)) (.int .u32 0) := by
    unfold reps
    rw [show 64 - t = (64 - (t + 1)) + 1 from by omega, List.replicate_succ]
  rw [h2, List.set_cons_zero, List.map_append, List.append_assoc]; rfl
theorem fillS_start (b : List (BitVec 32)) : fillS b 16 = b.map wv ++ reps 48 (.int .u32 0) := rfl
theorem fillS_end (b : List (BitVec 32)) : fillS b 64 = (sch b 48).map wv := by
  unfold fillS; simp [reps]
/-- the eight words, k of them added -/
def fillA (s v : St) (k : Nat) : List Value := ((s.add v).list.map wv).take k ++ (s.list.map wv).drop k
theorem fillA_step (s v : St) (k : Nat) (hk : k < 8) : ∃ x y : BitVec 32, (fillA s v k)[k]? = some (.int .u32 (u x)) ∧ (v.list.map wv)[k]? = some (.int .u32 (u y)) ∧ (fillA s v k).set k (.int .u32 (u (x + y))) = fillA s v (k + 1) := by
  rcases (by omega : k = 0 ∨ k = 1 ∨ k = 2 ∨ k = 3 ∨ k = 4 ∨ k = 5 ∨ k = 6 ∨ k = 7) with rfl | rfl | rfl | rfl | rfl | rfl | rfl | rfl
  · exact ⟨s.a, v.a, rfl, rfl, rfl⟩
  · exact ⟨s.b, v.b, rfl, rfl, rfl⟩
  · exact ⟨s.c, v.c, rfl, rfl, rfl⟩
  · exact ⟨s.d, v.d, rfl, rfl, rfl⟩
  · exact ⟨s.e, v.e, rfl, rfl, rfl⟩
  · exact ⟨s.f, v.f, rfl, rfl, rfl⟩
  · exact ⟨s.g, v.g, rfl, rfl, rfl⟩
  · exact ⟨s.h, v.h, rfl, rfl, rfl⟩
theorem fillA_zero (s v : St) : fillA s v 0 = s.list.map wv := rfl
theorem fillA_end (s v : St) : fillA s v 8 = (s.add v).list.map wv := rfl
/-- the walk's sums -/
theorem t1_walk (s : St) (k w : BitVec 32) : s.h + (rotl s.e 26 ^^^ rotl s.e 21 ^^^ rotl s.e 7) + ((s.e &&& s.f) ^^^ (~~~s.e &&& s.g)) + k + w = t1 s k w := by
  rw [mix1_rotl, chs_xor]; rfl
theorem t2_walk (s : St) : (rotl s.a 30 ^^^ rotl s.a 19 ^^^ rotl s.a 10) + ((s.a &&& s.b) ^^^ (s.a &&& s.c) ^^^ (s.b &&& s.c)) = t2 s := by
  rw [mix0_rotl, mst_xor]; rfl
theorem nxt_walk (l : List (BitVec 32)) (t : Nat) (x y : BitVec 32) (hx : l.getD (t - 15) 0 = x) (hy : l.getD (t - 2) 0 = y) :
    l.getD (t - 16) 0 + l.getD (t - 7) 0 + (rotl x 25 ^^^ rotl x 14 ^^^ x >>> 3) + (rotl y 15 ^^^ rotl y 13 ^^^ y >>> 10) = nxt l t := by
  rw [mix2_rotl, mix3_rotl]; subst hx; subst hy; rfl
theorem rnds_succ (s : St) (w : List (BitVec 32)) (n : Nat) : rnds s w (n + 1) = rnd (rnds s w n) (kon.getD n 0) (w.getD n 0) := rfl
theorem rnds_zero (s : St) (w : List (BitVec 32)) : rnds s w 0 = s := rfl
theorem stp_eq (s : St) (b : List (BitVec 32)) : stp s b = s.add (rnds s (sch b 48) 64) := by unfold stp; rfl
end Go.Proofs.YtdbdigcpibmgjaaGreatDoor
/- The digits of words. Nothing of the program. -/
namespace Go.Proofs.YtdbdigcpibmgjaaGreatDoor
open Go.RowKit
@[go_sem] theorem bv_and15 (x : BitVec 32) : bits .and .u32 (u x) 15 = u (x &&& 15#32) := bv_and x 15#32
theorem and15_lt (x : BitVec 32) : (by8 (x &&& 15#32)).toNat < 16 := by
  unfold by8
  have h : x.toNat &&& 15 = x.toNat % 16 := Nat.and_two_pow_sub_one_eq_mod _ 4
  rw [UInt8.toNat_ofNat', BitVec.toNat_and]
  show (x.toNat &&& 15) % 256 < 16
  rw [h]; omega
theorem u_and15 (x : BitVec 32) : u (x &&& 15#32) = y8 (by8 (x &&& 15#32)) := by
  unfold by8 u y8
  have h : x.toNat &&& 15 = x.toNat % 16 := Nat.and_two_pow_sub_one_eq_mod _ 4
  rw [UInt8.toNat_ofNat', BitVec.toNat_and]
  show ((x.toNat &&& 15 : Nat) : Int) = ((x.toNat &&& 15) % 256 : Nat)
  rw [h]; omega
@[go_sem high] theorem run_digs_w {P : Program} (w : World) (t : TypeId) (k : IntKind) (x : BitVec 32) (h : P.underlying t = some .string) :
    (Instr.index t (.string digs) (.int k (u (x &&& 15#32)))).run P w = .ok (.int .u8 (y8 (dg (by8 (x &&& 15#32))))) w := run_digs w t k _ _ h (u_and15 x) (and15_lt x)
theorem by8_hi (y : BitVec 32) : by8 y >>> 4 = by8 ((y >>> 4) &&& 15#32) := by
  apply UInt8.toNat_inj.1
  have h1 := y8_hi' (by8 y)
  have h : (y >>> 4).toNat &&& 15 = (y >>> 4).toNat % 16 := Nat.and_two_pow_sub_one_eq_mod _ 4
  have h2 : (by8 ((y >>> 4) &&& 15#32)).toNat = ((y >>> 4).toNat &&& 15) % 256 := by unfold by8; rw [UInt8.toNat_ofNat', BitVec.toNat_and]; rfl
  have h3 : (by8 y).toNat = y.toNat % 256 := by unfold by8; rw [UInt8.toNat_ofNat']
  have h4 : (y >>> 4).toNat = y.toNat / 16 := by rw [BitVec.toNat_ushiftRight, Nat.shiftRight_eq_div_pow]
  rw [h2, h, h4, h1, h3]; omega
theorem by8_lo (y : BitVec 32) : by8 y &&& 15 = by8 (y &&& 15#32) := by
  apply UInt8.toNat_inj.1
  have h : y.toNat &&& 15 = y.toNat % 16 := Nat.and_two_pow_sub_one_eq_mod _ 4
  have h2 : (by8 (y &&& 15#32)).toNat = (y.toNat &&& 15) % 256 := by unfold by8; rw [UInt8.toNat_ofNat', BitVec.toNat_and]; rfl
  have h3 : (by8 y).toNat = y.toNat % 256 := by unfold by8; rw [UInt8.toNat_ofNat']
  have h5 : (by8 y &&& 15).toNat = (by8 y).toNat % 16 := by
    rw [UInt8.toNat_and]; exact Nat.and_two_pow_sub_one_eq_mod _ 4
  rw [h2, h, h5, h3]; omega
theorem four_at (x : BitVec 32) (m : Nat) (h : m < 4) : (four x)[m]? = some (by8 (x >>> (24 - 8 * m))) := by
  rcases (by omega : m = 0 ∨ m = 1 ∨ m = 2 ∨ m = 3) with rfl | rfl | rfl | rfl
  · rfl
  · rfl
  · rfl
  · show some (by8 x) = some (by8 (x >>> 0)); rw [BitVec.ushiftRight_zero]
theorem shr_shr (x : BitVec 32) (a b : Nat) : x >>> a >>> b = x >>> (a + b) := (BitVec.shiftRight_add x a b).symm
theorem hexW_at (L : List (BitVec 32)) (q i : Nat) (hq : q < L.length) (hi : i < 8) : (hexT (bytesW L))[8 * q + i]? = some (dg (by8 ((L[q] >>> (28 - 4 * i)) &&& 15#32))) := by
  have hb := bytesW_at L q hq (i / 2) (by omega)
  rw [four_at _ _ (by omega)] at hb
  have hlt : 4 * q + i / 2 < (bytesW L).length := (List.getElem?_eq_some_iff.1 hb).1
  have hbe : (bytesW L)[4 * q + i / 2] = by8 (L[q] >>> (24 - 8 * (i / 2))) := by
    rw [List.getElem?_eq_getElem hlt] at hb; exact Option.some.inj hb
  have ha := hexT_at (bytesW L) (4 * q + i / 2) hlt
  rw [hbe, by8_hi, by8_lo, shr_shr] at ha
  by_cases hm : i % 2 = 0
  · have h := ha.1
    rwa [show 2 * (4 * q + i / 2) = 8 * q + i from by omega, show 24 - 8 * (i / 2) + 4 = 28 - 4 * i from by omega] at h
  · have h := ha.2
    rwa [show 2 * (4 * q + i / 2) + 1 = 8 * q + i from by omega, show 24 - 8 * (i / 2) = 28 - 4 * i from by omega] at h
theorem hexW_length (s : St) : (hexT (bytesW s.list)).length = 64 := by rw [hexT_length, bytesW_length]; rfl
theorem Rd.drop64 {w : World} {b off n c : Nat} {l : List UInt8} (h : Rd w 1 (some ⟨b, off, none⟩) n c (l.map bv8)) (hn : 64 ≤ n) : Rd w 1 (some ⟨b, off + 64, none⟩) (n - 64) (c - 64) ((l.drop 64).map bv8) := by
  obtain ⟨h1, h2, h3, h4⟩ := h
  refine ⟨by simp at h1 ⊢; omega, by omega, by omega, fun hp => ⟨b, off + 64, rfl, fun j v hv => ?_⟩⟩
  obtain ⟨b', off', e, hc⟩ := h4 (by simp at h1 ⊢; omega)
  injection e with e
  injection e with e1 e2
  subst e1; subst e2
  rw [List.map_drop, List.getElem?_drop] at hv
  have := hc (64 + j) v hv
  rwa [← Nat.add_assoc] at this
theorem Rd.empty {w : World} (A : Option Addr) (c : Nat) (hc : c ≤ maxLen) : Rd w 1 A 0 c [] := ⟨by simp, Nat.zero_le _, hc, fun h => absurd h (by simp)⟩
/-- the digest of bytes, as digits -/
def dig (l : List UInt8) : List UInt8 := hexT (bytesW (sumS l).list)
theorem dig_length (l : List UInt8) : (dig l).length = 64 := hexW_length _
end Go.Proofs.YtdbdigcpibmgjaaGreatDoor
/- math/bits.RotateLeft32. -/
namespace Go.Proofs.YtdbdigcpibmgjaaGreatDoor
open Go.RowKit
set_option maxRecDepth 100000 in
set_option maxHeartbeats 400000 in
theorem rotl_any (x : BitVec 32) (k : Int) (w : World) :
    Calls Tryz.prog 125 #[.int .u32 (u x), .int .i64 k] w fun e w' => e = .returned (.int .u32 (u (rotl x k))) ∧ w = w' := by
  have h0 : 0 ≤ k % 32 := by omega
  have h1 : k % 32 ≤ 31 := by omega
  have h2 := and31 k
  go_enter Tryz.func125, Tryz.ntmps125
  go_wp2
  go_ret
  exact ⟨rfl, rfl⟩
theorem rotl_st (x : BitVec 32) (k : Int) (w : World) :
    Calls Tryz.prog 125 #[.int .u32 (u x), .int .i64 k] w fun e w' => e = .returned (.int .u32 (u (rotl x k))) ∧ w' = w := (rotl_any x k w).mono fun _ _ ⟨a, b⟩ => ⟨a, b.symm⟩
end Go.Proofs.YtdbdigcpibmgjaaGreatDoor
/- SHA-256, one block: what the statements' own function returns. -/
namespace Go.Proofs.YtdbdigcpibmgjaaGreatDoor
open Go.RowKit
attribute [local irreducible] sch rnds kon nxt t1 t2 rotl rotr
theorem Blk.newAt {w : World} {t : TypeId} {g : Nat} (xs : List Value) (h : g = w.heap.size) : Blk (w.alloc (.cells xs.toArray t)) g t xs := by subst h; exact Blk.new w t xs
/-- the eight cells of a state -/
theorem Blk.eight {wr : World} {g : Nat} {t : TypeId} {v : St} (h : Blk wr g t (v.list.map wv)) :
    (wr.cell? ⟨g, 0, none⟩ = some (.int .u32 (u v.a)) ∧ wr.cell? ⟨g, 1, none⟩ = some (.int .u32 (u v.b)) ∧ wr.cell? ⟨g, 2, none⟩ = some (.int .u32 (u v.c)) ∧ wr.cell? ⟨g, 3, none⟩ = some (.int .u32 (u v.d)) ∧
    wr.cell? ⟨g, 4, none⟩ = some (.int .u32 (u v.e)) ∧ wr.cell? ⟨g, 5, none⟩ = some (.int .u32 (u v.f)) ∧ wr.cell? ⟨g, 6, none⟩ = some (.int .u32 (u v.g)) ∧ wr.cell? ⟨g, 7, none⟩ = some (.int .u32 (u v.h))) ∧
    (∀ i, wr.frozen? ⟨g, i, none⟩ = false) :=
  ⟨⟨h.cell 0, h.cell 1, h.cell 2, h.cell 3, h.cell 4, h.cell 5, h.cell 6, h.cell 7⟩, h.frozen⟩
/-- the three blocks that the function makes at its start -/
def Three (w wr : World) (L0 L2 : List Value) : Prop :=
  Blk wr w.heap.size 116 L0 ∧ Blk wr (w.heap.size + 1) 116 (reps 8 (.int .u32 0)) ∧ Blk wr (w.heap.size + 1 + 1) 151 L2 ∧ Below w.heap.size w wr
theorem Three.drew {w wr : World} {L0 L2 : List Value} (h : Three w wr L0 L2) : Three w wr.drew L0 L2 := ⟨h.1, h.2.1, h.2.2.1, h.2.2.2.drew⟩
theorem Three.drewN {w wr : World} {L0 L2 : List Value} (h : Three w wr L0 L2) (n : Nat) : Three w (wr.drewN n) L0 L2 := ⟨h.1, h.2.1, h.2.2.1, below_drewN h.2.2.2 n⟩
theorem Three.put2 {w wr : World} {L0 L2 : List Value} (h : Three w wr L0 L2) (i : Nat) (v : Value) : Three w (wr.setCell ⟨w.heap.size + 1 + 1, i, none⟩ v) L0 (L2.set i v) :=
  ⟨h.1.far (by simp; omega) _, h.2.1.far (by simp) _, h.2.2.1.put i v, h.2.2.2.setCell (p := ⟨w.heap.size + 1 + 1, i, none⟩) (by simp; omega) _⟩
theorem Three.put0 {w wr : World} {L0 L2 : List Value} (h : Three w wr L0 L2) (i : Nat) (v : Value) : Three w (wr.setCell ⟨w.heap.size, i, none⟩ v) (L0.set i v) L2 :=
  ⟨h.1.put i v, h.2.1.far (by simp) _, h.2.2.1.far (by simp; omega) _, h.2.2.2.setCell (p := ⟨w.heap.size, i, none⟩) (by simp) _⟩
theorem Three.far {w wr : World} {L0 L2 : List Value} (h : Three w wr L0 L2) (g i : Nat) (v : Value) (hg : w.heap.size + 1 + 1 < g) : Three w (wr.setCell ⟨g, i, none⟩ v) L0 L2 :=
  ⟨h.1.far (by simp; omega) _, h.2.1.far (by simp; omega) _, h.2.2.1.far (by simp; omega) _, h.2.2.2.setCell (p := ⟨g, i, none⟩) (by simp; omega) _⟩
theorem Three.alloc {w wr : World} {L0 L2 : List Value} (h : Three w wr L0 L2) (o : Obj) : Three w (wr.alloc o) L0 L2 :=
  ⟨h.1.alloc o, h.2.1.alloc o, h.2.2.1.alloc o, h.2.2.2.alloc h.2.2.2.size o⟩
set_option maxRecDepth 100000 in
set_option maxHeartbeats 4000000 in
theorem hashed_any (s : St) (A B : Option Addr) (n c d : Nat) (l : List UInt8) (w : World) (hr : Rd w 1 A n c (l.map bv8)) (hn : 64 ≤ n) (hk : Rd w 1 B 64 d (kon.map wv)) :
    Calls Tryz.prog 89 #[.agg #[.int .u32 (u s.a), .int .u32 (u s.b), .int .u32 (u s.c), .int .u32 (u s.d), .int .u32 (u s.e), .int .u32 (u s.f), .int .u32 (u s.g), .int .u32 (u s.h)], .slice A n c, .slice B 64 d] w fun e w' => e = .returned (.agg ((stpB s (l.take 64)).list.map wv).toArray) ∧ Below w.heap.size w w' := by
  obtain rfl := hr.len
  have hlm := hr.2.2.1
  have hlc := hr.2.1
  unfold maxLen at hlm
  obtain ⟨b, off, rfl, hbl, hcell⟩ := hr.addr (by simp; omega)
  obtain ⟨kb, ko, rfl, hkl, hkc⟩ := hk.addr (by simp [kon_length])
  have HC := Lib.hid hcell
  have HK := Lib.hid hkc
  clear hcell hkc
  go_enter Tryz.func89, Tryz.ntmps89
  go_wp2
  go_loopw [8, 19] (fun _ i wr => ∃ k : Nat, k ≤ 64 ∧ i = .int .i64 k ∧ Three w wr (s.list.map wv) (fillW l k)) (fun _ i _ => 64 - (intOf i).toNat)
  case atStart => exact ⟨0, by omega, rfl, ((Blk.new w _ (s.list.map wv)).alloc _).alloc _, (Blk.newAt (reps 8 (.int .u32 0)) (by simp)).alloc _, (by rw [fillW_zero]; exact Blk.newAt (reps 64 (.int .u32 0)) (by simp)), (((Below.refl w.heap.size w).alloc (Nat.le_refl _) _).alloc (by simp) _).alloc (by simp; omega) _⟩
  case round =>
    obtain ⟨k, hk64, rfl, h3⟩ := hrel
    by_cases hlt : k < 64
    · obtain ⟨z, hz0, hz1⟩ := fillW_step l k hlt (by omega)
      have h0 : wr.cell? ⟨b, off + k, none⟩ = some (.int .u8 (y8 (l[k]'(by omega)))) := (h3.2.2.2.cell (p := ⟨b, off + k, none⟩) hbl).trans (HC.out k _ (by rw [List.getElem?_map, List.getElem?_eq_getElem (by omega)]; rfl))
      have h1 : wr.cell? ⟨w.heap.size + 1 + 1, k / 4, none⟩ = some (.int .u32 (u z)) := (h3.2.2.1.cell _).trans hz0
      have hfr := h3.2.2.1.frozen (k / 4)
      have qt : (k : Int).tdiv 4 = (k : Int) / 4 := Int.tdiv_eq_ediv_of_nonneg (by omega)
      have qw : IntKind.i64.wrap ((k : Int) / 4) = (k : Int) / 4 := IntWalk.i64_in _ (by omega)
      have q0 : ((k : Int) / 4).toNat = k / 4 := by omega
      have q1 : 0 ≤ (k : Int) / 4 := by omega
      have q2 : (k : Int) / 4 < 64 := by omega
      have q3 : (k : Int) < l.length := by omega
      have h3' := h3.drew.put2 (k / 4) (.int .u32 (u (z <<< 8 ||| w8 (l[k]'(by omega)))))
      rw [hz1] at h3'
      have H3 := Lib.hid h3'
      clear h3' hz0 hz1 h3
      go_wp2
      go_still_tail 14, (by kernel_rfl)
      change wpList _ _ _ _ _ wr.drew
      go_wp2
      go_roundw
      case rel => exact ⟨k + 1, by omega, by go_num, H3.out⟩
      case measure => simp [intOf]; omega
    · have hk : k = 64 := by omega
      rw [hk, fillW_end l hn] at h3
      have hdk : decide ((k : Int) < 64) = false := by simp; omega
      clear hk
      go_wp2
      have hb16 := words64_length l hn
      generalize hbb : words (l.take 64) = bw at *
      have Hb := Lib.hid hb16
      have HBB := Lib.hid hbb
      clear hb16 hbb
      go_loopw [9, 10, 11] (fun t _ _ wr => ∃ k : Nat, 16 ≤ k ∧ k ≤ 64 ∧ t = .int .i64 k ∧ Three w wr (s.list.map wv) (fillS bw k)) (fun t _ _ _ => 64 - (intOf t).toNat)
      case atStart => exact ⟨16, by omega, by omega, rfl, by rw [fillS_start]; exact h3⟩
      case round =>
        obtain ⟨t, ht0, ht1, rfl, h3⟩ := hrel
        by_cases hlt : t < 64
        · have v0 := fillS_at bw Hb.out t (t - 16) ht0 (by omega)
          have v1 := fillS_at bw Hb.out t (t - 7) ht0 (by omega)
          have v2 := fillS_at bw Hb.out t (t - 15) ht0 (by omega)
          have v3 := fillS_at bw Hb.out t (t - 2) ht0 (by omega)
          have v4 := fillS_free bw Hb.out t ht0 hlt
          have h5 := nxt_walk (sch bw (t - 16)) t _ _ rfl rfl
          have h6 := fillS_step bw Hb.out t ht0 hlt
          rw [← h5] at h6
          generalize (sch bw (t - 16)).getD (t - 16) 0 = x0 at *
          generalize (sch bw (t - 16)).getD (t - 7) 0 = x1 at *
          generalize (sch bw (t - 16)).getD (t - 15) 0 = x2 at *
          generalize (sch bw (t - 16)).getD (t - 2) 0 = x3 at *
          clear h5
          have c0 := (h3.2.2.1.cell (t - 16)).trans v0
          have c1 := (h3.2.2.1.cell (t - 7)).trans v1
          have c2 := (h3.2.2.1.cell (t - 15)).trans v2
          have c3 := (h3.2.2.1.cell (t - 2)).trans v3
          have c4 := (h3.2.2.1.cell t).trans v4
          have f4 := h3.2.2.1.frozen t
          have p0 := h3.put2 t (.int .u32 (u (x0 + x1 + (rotl x2 25 ^^^ rotl x2 14 ^^^ x2 >>> 3) + (rotl x3 15 ^^^ rotl x3 13 ^^^ x3 >>> 10))))
          rw [h6] at p0
          have P := Lib.hid p0
          clear v0 v1 v2 v3 v4 h6 p0 h3
          have a0 : IntKind.i64.wrap ((t : Int) - 16) = (t : Int) - 16 := IntWalk.i64_in _ (by omega)
          have a1 : IntKind.i64.wrap ((t : Int) - 7) = (t : Int) - 7 := IntWalk.i64_in _ (by omega)
          have a2 : IntKind.i64.wrap ((t : Int) - 15) = (t : Int) - 15 := IntWalk.i64_in _ (by omega)
          have a3 : IntKind.i64.wrap ((t : Int) - 2) = (t : Int) - 2 := IntWalk.i64_in _ (by omega)
          have n0 : ((t : Int) - 16).toNat = t - 16 := by omega
          have n1 : ((t : Int) - 7).toNat = t - 7 := by omega
          have n2 : ((t : Int) - 15).toNat = t - 15 := by omega
          have n3 : ((t : Int) - 2).toNat = t - 2 := by omega
          have b0 : (0 : Int) ≤ (t : Int) - 16 ∧ (0 : Int) ≤ (t : Int) - 7 ∧ (0 : Int) ≤ (t : Int) - 15 ∧ (0 : Int) ≤ (t : Int) - 2 := by omega
          obtain ⟨b0, b1, b2, b3⟩ := b0
          have e0 : (16 : Int) ≤ t ∧ (7 : Int) ≤ t ∧ (15 : Int) ≤ t ∧ (2 : Int) ≤ t := by omega
          obtain ⟨e0, e1, e2, e3⟩ := e0
          have d0 : (t : Int) - 16 < 64 ∧ (t : Int) - 7 < 64 ∧ (t : Int) - 15 < 64 ∧ (t : Int) - 2 < 64 ∧ (t : Int) < 64 := by omega
          obtain ⟨d0, d1, d2, d3, d4⟩ := d0
          go_wp2
          go_quiet (fail)
          go_wp2
          have c0' : (wr.drewN nq).cell? ⟨w.heap.size + 1 + 1, t - 16, none⟩ = some (.int .u32 (u x0)) := c0
          have c1' : (wr.drewN nq).cell? ⟨w.heap.size + 1 + 1, t - 7, none⟩ = some (.int .u32 (u x1)) := c1
          have c4' : (wr.drewN nq).cell? ⟨w.heap.size + 1 + 1, t, none⟩ = some (.int .u32 0) := c4
          have f4' : (wr.drewN nq).frozen? ⟨w.heap.size + 1 + 1, t, none⟩ = false := f4
          have P0 : Three w ((wr.drewN nq).setCell _ _) _ _ := P.out.drewN nq
          clear c0 c1 c2 c3 c4 f4 P
          generalize wr.drewN nq = w2 at *
          have P' := Lib.hid P0
          clear P0
          refine wp_region_still_tail 29 (by kernel_rfl) (by kernel_rfl) ?_
          simp only [List.take_succ_cons, List.take_zero, List.drop_succ_cons, List.drop_zero]
          repeat still_step
          still_call (rotl_st _ _ _)
          repeat still_step
          still_call (rotl_st _ _ _)
          repeat still_step
          still_call (rotl_st _ _ _)
          repeat still_step
          still_call (rotl_st _ _ _)
          repeat still_step
          refine wpStill_nil ?_
          change wpList _ _ _ _ _ w2.drew
          have P2 := Lib.hid P'.out.drew
          clear a0 a1 a2 a3 n0 n1 n2 n3 P' c0' c1'
          go_wp2
          go_roundw
          case rel => exact ⟨t + 1, by omega, by omega, by go_num, P2.out⟩
          case measure => simp [intOf]; omega
        · have hk : t = 64 := by omega
          rw [hk, fillS_end] at h3
          have hdt : decide ((t : Int) < 64) = false := by simp; omega
          clear hk
          have hWl := sch_length bw Hb.out 48
          generalize hW : sch bw 48 = W at *
          have HW := Lib.hid hW
          have HWl := Lib.hid hWl
          clear hW hWl
          rename World => wa
          obtain ⟨⟨y0, y1, y2, y3, y4, y5, y6, y7⟩, yf⟩ := h3.1.eight
          clear yf
          have hga : w.heap.size + 1 + 1 < wa.heap.size := h3.2.2.1.lt
          go_wp2
          go_loopw [13, 14, 15, 16, 17, 79] (fun _ _ _ _ _ i wr => ∃ k : Nat, k ≤ 64 ∧ i = .int .i64 k ∧ Three w wr (s.list.map wv) (W.map wv) ∧ Blk wr wa.heap.size 116 ((rnds s W k).list.map wv)) (fun _ _ _ _ _ i _ => 64 - (intOf i).toNat)
          case atStart => exact ⟨0, by omega, rfl, h3.alloc _, by rw [rnds_zero]; exact Blk.new wa _ (s.list.map wv)⟩
          case round =>
            clear y0 y1 y2 y3 y4 y5 y6 y7 h3
            obtain ⟨k, hk64, rfl, h3, hv⟩ := hrel
            by_cases hlt : k < 64
            · have hwk : wr.cell? ⟨w.heap.size + 1 + 1, k, none⟩ = some (.int .u32 (u (W.getD k 0))) := (h3.2.2.1.cell k).trans (by rw [List.getElem?_map, List.getElem?_eq_getElem (by have := HWl.out; omega), getD_lt (by have := HWl.out; omega)]; rfl)
              have hkk : wr.cell? ⟨kb, ko + k, none⟩ = some (.int .u32 (u (kon.getD k 0))) := (h3.2.2.2.cell (p := ⟨kb, ko + k, none⟩) hkl).trans (HK.out k _ (by rw [List.getElem?_map, List.getElem?_eq_getElem (by rw [kon_length]; omega), getD_lt (by rw [kon_length]; omega)]; rfl))
              have hrn := Lib.hid (rnds_succ s W k)
              generalize rnds s W k = v at *
              generalize W.getD k 0 = xw at *
              generalize kon.getD k 0 = xk at *
              have g1 := Lib.hid (t1_walk v xk xw)
              have g2 := Lib.hid (t2_walk v)
              have q3 : (k : Int) < 64 := by omega
              obtain ⟨⟨y0, y1, y2, y3, y4, y5, y6, y7⟩, yf⟩ := hv.eight
              clear yf
              go_wp2
              refine wp_region_still_lit (by kernel_rfl) (by kernel_rfl) ?_
              repeat still_step
              refine wpStill_nil ?_
              change Exit.then _ _ Exit.normal _ wr.drew
              clear y0 y1 y2 y3 y4 y5 y6 y7
              replace hv := hv.drew
              replace h3 := h3.drew
              replace hwk : wr.drew.cell? ⟨w.heap.size + 1 + 1, k, none⟩ = some (.int .u32 (u xw)) := hwk
              replace hkk : wr.drew.cell? ⟨kb, ko + k, none⟩ = some (.int .u32 (u xk)) := hkk
              generalize wr.drew = w2 at *
              obtain ⟨⟨y0, y1, y2, y3, y4, y5, y6, y7⟩, yf⟩ := hv.eight
              clear yf
              go_wp2
              refine wp_region_still_lit (by kernel_rfl) (by kernel_rfl) ?_
              repeat still_step
              still_call (rotl_st _ _ _)
              repeat still_step
              still_call (rotl_st _ _ _)
              repeat still_step
              still_call (rotl_st _ _ _)
              repeat still_step
              refine wpStill_nil ?_
              change Exit.then _ _ Exit.normal _ w2.drew
              clear y0 y1 y2 y3 y4 y5 y6 y7
              replace hv := hv.drew
              replace h3 := h3.drew
              replace hwk : w2.drew.cell? ⟨w.heap.size + 1 + 1, k, none⟩ = some (.int .u32 (u xw)) := hwk
              replace hkk : w2.drew.cell? ⟨kb, ko + k, none⟩ = some (.int .u32 (u xk)) := hkk
              generalize w2.drew = w3 at *
              obtain ⟨⟨y0, y1, y2, y3, y4, y5, y6, y7⟩, yf⟩ := hv.eight
              clear yf
              go_wp2
              refine wp_region_still_lit (by kernel_rfl) (by kernel_rfl) ?_
              repeat still_step
              still_call (rotl_st _ _ _)
              repeat still_step
              still_call (rotl_st _ _ _)
              repeat still_step
              still_call (rotl_st _ _ _)
              repeat still_step
              refine wpStill_nil ?_
              change Exit.then _ _ Exit.normal _ w3.drew
              clear y0 y1 y2 y3 y4 y5 y6 y7
              replace hv := hv.drew
              replace h3 := h3.drew
              replace hwk : w3.drew.cell? ⟨w.heap.size + 1 + 1, k, none⟩ = some (.int .u32 (u xw)) := hwk
              replace hkk : w3.drew.cell? ⟨kb, ko + k, none⟩ = some (.int .u32 (u xk)) := hkk
              generalize w3.drew = w4 at *
              obtain ⟨⟨y0, y1, y2, y3, y4, y5, y6, y7⟩, yf⟩ := hv.eight
              rw [g1.out, g2.out]
              have f0 := yf 0
              have f1 := yf 1
              have f2 := yf 2
              have f3 := yf 3
              have f4 := yf 4
              have f5 := yf 5
              have f6 := yf 6
              have f7 := yf 7
              clear yf hwk hkk
              go_wp2
              go_roundw
              case rel => exact ⟨k + 1, by omega, by go_num, ((((((((h3.far _ 0 _ hga).far _ 1 _ hga).far _ 2 _ hga).far _ 3 _ hga).far _ 4 _ hga).far _ 5 _ hga).far _ 6 _ hga).far _ 7 _ hga), by rw [hrn.out]; exact (((((((hv.put 0 _).put 1 _).put 2 _).put 3 _).put 4 _).put 5 _).put 6 _).put 7 _⟩
              case measure => simp [intOf]; omega
            · have hk : k = 64 := by omega
              rw [hk] at hv
              have hdv : decide ((k : Int) < 64) = false := by simp; omega
              clear hk
              generalize hV : rnds s W 64 = V at *
              have HV := Lib.hid hV
              have hfin : Hid (stpB s (l.take 64) = s.add V) := by
                show _ = _
                unfold stpB
                rw [HBB.out, stp_eq, HW.out, HV.out]
              clear hV
              go_wp2
              go_loopw [18, 160] (fun _ i wr => ∃ j : Nat, j ≤ 8 ∧ i = .int .i64 j ∧ Three w wr (fillA s V j) (W.map wv) ∧ Blk wr wa.heap.size 116 (V.list.map wv)) (fun _ i _ => 8 - (intOf i).toNat)
              case atStart => exact ⟨0, by omega, rfl, by rw [fillA_zero]; exact h3, hv⟩
              case round =>
                clear h3 hv
                obtain ⟨j, hj8, rfl, h3, hv⟩ := hrel
                by_cases hlt : j < 8
                · obtain ⟨x, y, e0, e1, e2⟩ := fillA_step s V j hlt
                  have c0 := (h3.1.cell j).trans e0
                  have c1 := (hv.cell j).trans e1
                  have f0 := h3.1.frozen j
                  have q3 : (j : Int) < 8 := by omega
                  have p0 := h3.drew.put0 j (.int .u32 (u (x + y)))
                  rw [e2] at p0
                  have P := Lib.hid p0
                  have V2 := Lib.hid (hv.drew.far (p := ⟨w.heap.size, j, none⟩) (by simp; omega) (.int .u32 (u (x + y))))
                  clear p0 e0 e1 e2 h3 hv
                  go_wp2
                  go_still_tail 8, (by kernel_rfl)
                  change wpList _ _ _ _ _ wr.drew
                  go_wp2
                  go_roundw
                  case rel => exact ⟨j + 1, by omega, by go_num, P.out, V2.out⟩
                  case measure => simp [intOf]; omega
                · have hk : j = 8 := by omega
                  rw [hk, fillA_end] at h3
                  have hdj : decide ((j : Int) < 8) = false := by simp; omega
                  clear hk hv
                  generalize hR : s.add V = R at *
                  have HR := Lib.hid hR
                  clear hR
                  obtain ⟨⟨y0, y1, y2, y3, y4, y5, y6, y7⟩, yf⟩ := h3.1.eight
                  have z0 : wr.cell? ⟨w.heap.size + 1, 0, none⟩ = some (.int .u32 0) := h3.2.1.cell 0
                  have z1 : wr.cell? ⟨w.heap.size + 1, 1, none⟩ = some (.int .u32 0) := h3.2.1.cell 1
                  have z2 : wr.cell? ⟨w.heap.size + 1, 2, none⟩ = some (.int .u32 0) := h3.2.1.cell 2
                  have z3 : wr.cell? ⟨w.heap.size + 1, 3, none⟩ = some (.int .u32 0) := h3.2.1.cell 3
                  have z4 : wr.cell? ⟨w.heap.size + 1, 4, none⟩ = some (.int .u32 0) := h3.2.1.cell 4
                  have z5 : wr.cell? ⟨w.heap.size + 1, 5, none⟩ = some (.int .u32 0) := h3.2.1.cell 5
                  have z6 : wr.cell? ⟨w.heap.size + 1, 6, none⟩ = some (.int .u32 0) := h3.2.1.cell 6
                  have z7 : wr.cell? ⟨w.heap.size + 1, 7, none⟩ = some (.int .u32 0) := h3.2.1.cell 7
                  have zf := h3.2.1.frozen
                  have f0 := zf 0
                  have f1 := zf 1
                  have f2 := zf 2
                  have f3 := zf 3
                  have f4 := zf 4
                  have f5 := zf 5
                  have f6 := zf 6
                  have f7 := zf 7
                  have hbel := h3.2.2.2
                  clear yf zf h3
                  go_wp2
                  refine bodyPost_ret (v := .agg #[.int .u32 (u R.a), .int .u32 (u R.b), .int .u32 (u R.c), .int .u32 (u R.d), .int .u32 (u R.e), .int .u32 (u R.f), .int .u32 (u R.g), .int .u32 (u R.h)]) (by simp [results, Tryz.results89, go_sem, z0, z1, z2, z3, z4, z5, z6, z7]) rfl ⟨by rw [hfin.out]; rfl, ?_⟩
                  exact (((((((hbel.setCell (p := ⟨w.heap.size + 1, 0, none⟩) (by simp) _).setCell (p := ⟨w.heap.size + 1, 1, none⟩) (by simp) _).setCell (p := ⟨w.heap.size + 1, 2, none⟩) (by simp) _).setCell (p := ⟨w.heap.size + 1, 3, none⟩) (by simp) _).setCell (p := ⟨w.heap.size + 1, 4, none⟩) (by simp) _).setCell (p := ⟨w.heap.size + 1, 5, none⟩) (by simp) _).setCell (p := ⟨w.heap.size + 1, 6, none⟩) (by simp) _).setCell (p := ⟨w.heap.size + 1, 7, none⟩) (by simp) _
end Go.Proofs.YtdbdigcpibmgjaaGreatDoor
/- slices.Clone of bytes; the statements' own constants. -/
namespace Go.Proofs.YtdbdigcpibmgjaaGreatDoor
open Go.RowKit
theorem addr_add (b off j : Nat) : (⟨b, off, none⟩ : Addr).add j = ⟨b, off + j, none⟩ := by unfold Addr.add; split <;> simp_all
theorem bytes_oneCell (l : List UInt8) : ∀ y ∈ l.map bv8, y.oneCell' = true := by
  intro y hy
  obtain ⟨x, _, rfl⟩ := List.mem_map.1 hy
  rfl
set_option maxRecDepth 100000 in
set_option maxHeartbeats 400000 in
theorem clone_any (A : Option Addr) (n c : Nat) (l : List UInt8) (w : World) (hr : Rd w 1 A n c (l.map bv8)) (hz : n ≤ 140737488351232) :
    Calls Tryz.prog 87 #[.slice A n c] w fun e w' => ∃ v, e = .returned v ∧ w'.ownsRow w.heap.size 5 1 v n (l.map bv8) ∧ Below w.heap.size w w' := by
  obtain rfl := hr.len
  obtain ⟨i0, hi0, hz0, hz1, hz2⟩ := info_parts u8_info
  rcases A with _ | a
  · have hl : l = [] := by
      rcases Nat.eq_zero_or_pos (l.map bv8).length with h0 | h0
      · simpa using h0
      · obtain ⟨b, off, h1, _⟩ := hr.2.2.2 h0; cases h1
    subst hl
    have he : ∀ w : World, (binOp .eql 43 (.slice none 0 c) (.slice none 0 0)).run Tryz.prog w = .ok (.bool true) w := fun _ => rfl
    go_enter Tryz.func87, Tryz.ntmps87
    go_wp2
    go_ret
    exact ⟨_, rfl, World.ownsRow_nil _ _ _ _, Below.refl _ _⟩
  · have hown : (w.alloc (.cells #[] 5)).ownsRow w.heap.size 5 1 (.slice (some ⟨w.heap.size, 0, none⟩) 0 0) 0 [] :=
      ⟨rfl, .inr ⟨w.heap.size, 0, #[], rfl, Nat.le_refl _, heap_alloc_new w _, Nat.le_refl _, by simp [maxLen], rfl, rfl⟩⟩
    have hb0 := (Below.refl w.heap.size w).alloc (Nat.le_refl _) (.cells #[] 5)
    have hr1 := hr.below hb0
    have hcells : ∀ j u, (l.map bv8)[j]? = some u → (w.alloc (.cells #[] 5)).cell? (a.add j) = some u := fun j u hj => by
      obtain ⟨b, off, h1, hc⟩ := hr1.at hj
      injection h1 with h1
      subst h1
      rw [addr_add]; exact hc
    have HC := Lib.hid hcells
    clear hcells
    have he : ∀ w : World, (binOp .eql 43 (.slice (some a) l.length c) (.slice none 0 0)).run Tryz.prog w = .ok (.bool false) w := fun _ => rfl
    go_enter Tryz.func87, Tryz.ntmps87
    go_wp2_with (at_builtin; refine wpList_append2 rfl (.tmp 5) (.tmp 6) _ rfl Tryz.underlying43 hi0 hz0 hz1 hz2 rfl (by omega) _ 0 [] rfl hown a l.length c (l.map bv8) (by simp) HC.out (bytes_oneCell l) rfl (by omega) (by unfold maxLen; omega) hb0.size ?_; rintro v1 w1 ⟨hown1, hb1⟩; rw [Nat.zero_add, List.nil_append] at hown1)
    go_ret
    exact ⟨_, rfl, hown1, hb0.trans hb1⟩
set_option maxRecDepth 100000 in
set_option maxHeartbeats 1000000 in
theorem constants_any (w : World) :
    Calls Tryz.prog 88 #[] w fun e w' => ∃ g, e = .returned (.slice (some ⟨g, 0, none⟩) 64 64) ∧ w.heap.size ≤ g ∧ Blk w' g 115 (kon.map wv) ∧ Below w.heap.size w w' := by
  go_enter Tryz.func88, Tryz.ntmps88
  go_wp2
  go_ret
  exact ⟨_, rfl, Nat.le_refl _, Blk.new w _ (kon.map wv), (Below.refl _ _).alloc (Nat.le_refl _) _⟩
end Go.Proofs.YtdbdigcpibmgjaaGreatDoor
/- SHA-256 of bytes: what the statements' own Digest returns. -/
namespace Go.Proofs.YtdbdigcpibmgjaaGreatDoor
open Go.RowKit
attribute [local irreducible] sch rnds kon nxt t1 t2 rotl rotr stpB blocks
theorem hashed_ex (s : St) (A B : Option Addr) (n c d : Nat) (l : List UInt8) (w : World) (hr : Rd w 1 A n c (l.map bv8)) (hn : 64 ≤ n) (hk : Rd w 1 B 64 d (kon.map wv)) :
    Calls Tryz.prog 89 #[.agg #[.int .u32 (u s.a), .int .u32 (u s.b), .int .u32 (u s.c), .int .u32 (u s.d), .int .u32 (u s.e), .int .u32 (u s.f), .int .u32 (u s.g), .int .u32 (u s.h)], .slice A n c, .slice B 64 d] w fun e w' => ∃ R : St, Hid (R = stpB s (l.take 64)) ∧ e = .returned (.agg #[.int .u32 (u R.a), .int .u32 (u R.b), .int .u32 (u R.c), .int .u32 (u R.d), .int .u32 (u R.e), .int .u32 (u R.f), .int .u32 (u R.g), .int .u32 (u R.h)]) ∧ Below w.heap.size w w' :=
  (hashed_any s A B n c d l w hr hn hk).mono fun _ _ ⟨h1, h2⟩ => ⟨_, rfl, h1, h2⟩
/-- the padded bytes, j zeros and i bytes of the length so far -/
def padJ (l : List UInt8) (j : Nat) : List UInt8 := l ++ [128] ++ List.replicate j 0
theorem padJ_length (l : List UInt8) (j : Nat) : (padJ l j).length = l.length + 1 + j := by simp [padJ]; omega
theorem padJ_succ (l : List UInt8) (j : Nat) : padJ l j ++ [0] = padJ l (j + 1) := by
  unfold padJ; rw [List.append_assoc, ← List.replicate_succ']
theorem pad_eq (l : List UInt8) : pad l = padJ l (zeros l.length) ++ (len8 l.length).take 8 := by
  rw [List.take_of_length_le (by rw [len8_length]; omega)]; rfl
theorem len8_at (n i : Nat) (h : i < 8) : (len8 n)[i]? = some (UInt8.ofNat ((n * 8) >>> (56 - 8 * i))) := by
  unfold len8; rw [List.getElem?_map, List.getElem?_range h]; rfl
theorem len_byte (n k : Nat) : (n : Int) * 8 / 2 ^ k % 256 = y8 (UInt8.ofNat ((n * 8) >>> k)) := by
  unfold y8
  rw [Nat.shiftRight_eq_div_pow]
  simp
/-- eight stores -/
def set8 (w : World) (g : Nat) (R : St) : World := (((((((w.setCell ⟨g, 0, none⟩ (.int .u32 (u R.a))).setCell ⟨g, 1, none⟩ (.int .u32 (u R.b))).setCell ⟨g, 2, none⟩ (.int .u32 (u R.c))).setCell ⟨g, 3, none⟩ (.int .u32 (u R.d))).setCell ⟨g, 4, none⟩ (.int .u32 (u R.e))).setCell ⟨g, 5, none⟩ (.int .u32 (u R.f))).setCell ⟨g, 6, none⟩ (.int .u32 (u R.g))).setCell ⟨g, 7, none⟩ (.int .u32 (u R.h))
theorem Blk.set8 {w : World} {g : Nat} {t : TypeId} {v : St} (h : Blk w g t (v.list.map wv)) (R : St) : Blk (set8 w g R) g t (R.list.map wv) := (((((((h.put 0 _).put 1 _).put 2 _).put 3 _).put 4 _).put 5 _).put 6 _).put 7 _
theorem Rd.far {w : World} {n c b off : Nat} {xs : List Value} (h : Rd w 1 (some ⟨b, off, none⟩) n c xs) (g i : Nat) (v0 : Value) (hg : b ≠ g) : Rd (w.setCell ⟨g, i, none⟩ v0) 1 (some ⟨b, off, none⟩) n c xs := by
  obtain ⟨h1, h2, h3, h4⟩ := h
  refine ⟨h1, h2, h3, fun hp => ?_⟩
  obtain ⟨b', off', e, hc⟩ := h4 hp
  injection e with e
  injection e with e1 e2
  subst e1; subst e2
  refine ⟨b, off, rfl, fun j v hv => ?_⟩
  have hh : (w.setCell ⟨g, i, none⟩ v0).heap[b]? = w.heap[b]? := Below.heap_setCell w ⟨g, i, none⟩ v0 b hg
  have := hc j v hv
  simp only [World.cell?] at this ⊢
  rw [hh]; exact this
theorem Rd.set8 {w : World} {n c b off g : Nat} {xs : List Value} (h : Rd w 1 (some ⟨b, off, none⟩) n c xs) (hg : b ≠ g) (R : St) : Rd (set8 w g R) 1 (some ⟨b, off, none⟩) n c xs :=
  (((((((h.far g 0 _ hg).far g 1 _ hg).far g 2 _ hg).far g 3 _ hg).far g 4 _ hg).far g 5 _ hg).far g 6 _ hg).far g 7 _ hg
theorem below_set8 {B : Nat} {a w : World} {g : Nat} (h : Below B a w) (hg : B ≤ g) (R : St) : Below B a (set8 w g R) :=
  (((((((h.setCell (p := ⟨g, 0, none⟩) hg _).setCell (p := ⟨g, 1, none⟩) hg _).setCell (p := ⟨g, 2, none⟩) hg _).setCell (p := ⟨g, 3, none⟩) hg _).setCell (p := ⟨g, 4, none⟩) hg _).setCell (p := ⟨g, 5, none⟩) hg _).setCell (p := ⟨g, 6, none⟩) hg _).setCell (p := ⟨g, 7, none⟩) hg _
set_option maxRecDepth 100000 in
set_option maxHeartbeats 4000000 in
theorem digest_any (A : Option Addr) (n c : Nat) (l : List UInt8) (w : World) (hr : Rd w 1 A n c (l.map bv8)) (hz : n ≤ 140737488351232) :
    Calls Tryz.prog 45 #[.slice A n c] w fun e w' => e = .returned (.string (str (hexT (bytesW (sumS l).list)))) ∧ Below w.heap.size w w' := by
  obtain rfl := hr.len
  obtain ⟨i0, hi0, hz0, hz1, hz2⟩ := info_parts u8_info
  go_enter Tryz.func45, Tryz.ntmps45
  go_wp2_with fail
  with_reducible refine (clone_any _ _ _ _ _ hr hz).mono ?_
  rintro e w1 ⟨v1, rfl, hown1, hb1⟩
  go_wp2_with (at_builtin; refine wpList_append1' rfl (.tmp 13) (.tmp 14) _ rfl Tryz.underlying43 hi0 hz0 hz1 hz2 rfl (by omega) _ _ _ rfl hown1 [.int .u8 128] rfl (by simp [Value.oneCell']) rfl (by omega) (by unfold maxLen; omega) hb1.size ?_; rintro v2 w2 ⟨hown2, hb2, hsz2, hfar2⟩)
  have hp0 : (l.map bv8) ++ [.int .u8 128] = (padJ l 0).map bv8 := by simp [padJ]; rfl
  rw [hp0] at hown2
  have hbel := hb1.trans hb2
  clear hp0 hb1 hb2 hsz2 hfar2 hown1
  go_loopw [3] (fun v wr => ∃ j : Nat, j ≤ zeros l.length ∧ wr.ownsRow w.heap.size 5 1 v (l.length + 1 + j) ((padJ l j).map bv8) ∧ Below w.heap.size w wr) (fun v _ => zeros l.length + l.length + 1 - (match v with | .slice _ n _ => n | _ => 0))
  case atStart => exact ⟨0, Nat.zero_le _, hown2, hbel⟩
  case round =>
    clear hown2 hbel
    obtain ⟨j, hj, hown, hbel⟩ := hrel
    have hzl := zeros_lt l.length
    obtain ⟨A2, c2, rfl, hrd⟩ := own_rd hown
    clear hrd
    by_cases hlt : j < zeros l.length
    · have hne : (((l.length : Int) + 1 + (j : Int)) % 64 != 56) = true := by rw [bne_iff_ne]; unfold zeros at hlt; omega
      have hap : (padJ l j).map bv8 ++ [.int .u8 0] = (padJ l (j + 1)).map bv8 := by rw [← padJ_succ, List.map_append]; rfl
      have Ha := Lib.hid hap
      clear hap
      go_wp2_with (at_builtin; refine wpList_append1' rfl (.tmp 20) (.tmp 21) _ rfl Tryz.underlying43 hi0 hz0 hz1 hz2 rfl (by omega) _ _ _ rfl hown [.int .u8 0] rfl (by simp [Value.oneCell']) rfl (by omega) (by unfold maxLen; omega) hbel.size ?_; rintro v3 w3 ⟨hown3, hb3, hsz3, hfar3⟩)
      obtain ⟨A3, c3, rfl, hrd3⟩ := own_rd hown3
      rw [Ha.out] at hown3
      go_roundw
      case rel => exact ⟨j + 1, by omega, hown3, hbel.trans hb3⟩
      case measure => simp; omega
    · have hne : (((l.length : Int) + 1 + (j : Int)) % 64 != 56) = false := by
        have : j = zeros l.length := by omega
        subst this
        rw [bne_eq_false_iff_eq]; unfold zeros; omega
      have HZ : Hid (j = zeros l.length) := by show _ = _; omega
      go_wp2
      go_loopw [3, 5, 27] (fun v _ q wr => ∃ i : Nat, i ≤ 8 ∧ q = .int .i64 i ∧ wr.ownsRow w.heap.size 5 1 v (l.length + 1 + j + i) ((padJ l j ++ (len8 l.length).take i).map bv8) ∧ Below w.heap.size w wr) (fun _ _ q _ => 8 - (intOf q).toNat)
      case atStart => exact ⟨0, by omega, rfl, by rw [List.take_zero, List.append_nil]; exact hown, hbel⟩
      case round =>
        clear hown hbel
        obtain ⟨i, hi, rfl, hown, hbel⟩ := hrel
        by_cases hi8 : i < 8
        · have s0 : (0 : Int) ≤ 56 - 8 * (i : Int) := by omega
          have s1 : (56 - 8 * (i : Int)).toNat = 56 - 8 * i := by omega
          have s2 : (8 : Int) * (i : Int) ≤ 56 := by omega
          have s3 : 56 - 8 * i < 64 := by omega
          have hap : (padJ l j ++ (len8 l.length).take i).map bv8 ++ [bv8 (UInt8.ofNat ((l.length * 8) >>> (56 - 8 * i)))] = (padJ l j ++ (len8 l.length).take (i + 1)).map bv8 := by
            rw [List.take_add_one, len8_at _ _ hi8]; simp
          have Ha := Lib.hid hap
          have HL := Lib.hid (len_byte l.length (56 - 8 * i))
          clear hap
          go_wp2_with (at_builtin; refine wpList_append1' rfl (.tmp 30) (.tmp 37) _ rfl Tryz.underlying43 hi0 hz0 hz1 hz2 rfl (by omega) _ _ _ rfl hown [_] rfl (by intro y hy; rw [List.mem_singleton] at hy; subst hy; rfl) rfl (by omega) (by unfold maxLen; omega) hbel.size ?_; rintro v4 w4 ⟨hown4, hb4, hsz4, hfar4⟩)
          rw [HL.out] at hown4
          have h9 := Ha.out
          go_roundw
          case rel => exact ⟨i + 1, by omega, by go_num, by rw [← h9]; exact hown4, hbel.trans hb4⟩
          case measure => simp [intOf]; omega
        · have hdi : decide ((i : Int) < 8) = false := by simp; omega
          have hi8' : i = 8 := by omega
          have hpl := pad_length l
          have hzs := zeros_spec l.length
          rw [hi8', HZ.out, ← pad_eq] at hown
          have hpn : (pad l).length = l.length + 1 + j + 8 := by rw [hpl, ← HZ.out]; omega
          rw [← HZ.out] at hown
          have hp64 : (pad l).length % 64 = 0 := by rw [hpl]; exact hzs
          obtain ⟨A5, c5, rfl, hrd⟩ := own_rd hown
          have hrd' : Rd wr 1 A5 (pad l).length c5 ((pad l).map bv8) := by rw [hpn]; exact hrd
          have hpb : (pad l).length ≤ 140737488351232 + 72 := by rw [hpl]; have := zeros_lt l.length; omega
          have Hpn := Lib.hid hpn
          clear hpl hzs hi8' hrd hown hpn
          generalize hP : pad l = pd at *
          have HP := Lib.hid hP
          have Hp64 := Lib.hid hp64
          clear hP hp64
          rename World => wb
          go_wp2_with (go_at_call 88; (with_reducible refine (constants_any _).mono ?_); rintro e w5 ⟨kg, rfl, hkg, hkb, hb5⟩)
          have hbw := (hbel.alloc hbel.size (.cells (iniS.list.map wv).toArray 116))
          have hv0 : Blk w5 wb.heap.size 116 (iniS.list.map wv) := (Blk.new wb 116 (iniS.list.map wv)).below hb5 (by simp)
          have hk0 := blk_rd hkb (n := 64) (by rw [List.length_map, kon_length]) (by omega)
          have hb0 : Below w.heap.size w w5 := hbw.trans (hb5.mono (by simp; have := hbel.size; omega))
          have hr0 : Rd w5 1 A5 pd.length c5 (pd.map bv8) := (hrd'.below ((Below.refl wb.heap.size wb).alloc (Nat.le_refl _) _)).below hb5
          have hszb : wb.heap.size < w5.heap.size := hv0.lt
          have hszw : w.heap.size ≤ wb.heap.size := hbel.size
          obtain ⟨b5, o5, rfl, hb5l, _⟩ := hrd'.addr (by rw [hrd'.1]; have := Hpn.out; omega)
          have hkw : wb.heap.size < kg := by simp at hkg; omega
          clear hbw hkb hb5 hrd' hbel hkg
          go_loopw [3] (fun v wr => ∃ (j n' c' b' o' : Nat), v = .slice (some ⟨b', o', none⟩) n' c' ∧ n' + 64 * j ≤ pd.length ∧ pd.length ≤ n' + 64 * j ∧ b' < wb.heap.size ∧ Rd wr 1 (some ⟨b', o', none⟩) n' c' ((pd.drop (64 * j)).map bv8) ∧ Blk wr wb.heap.size 116 ((blocks j pd iniS).list.map wv) ∧ Rd wr 1 (some ⟨kg, 0, none⟩) 64 64 (kon.map wv) ∧ Below w.heap.size w wr) (fun v _ => match v with | .slice _ n _ => n | _ => 0)
          case atStart => exact ⟨0, _, _, _, _, rfl, by have := Hpn.out; omega, by have := Hpn.out; omega, hb5l, by rw [Nat.mul_zero, List.drop_zero, ← Hpn.out]; exact hr0, by rw [blocks_zero]; exact hv0, hk0, hb0⟩
          case round =>
            clear hr0 hv0 hk0 hb0
            obtain ⟨m, n', c', bb, oo, rfl, hn1, hn2, hbw, hrd, hv, hk, hbel⟩ := hrel
            by_cases hlt : 0 < n'
            · have hge : 64 ≤ n' := by have := Hp64.out; omega
              have hsn := Lib.hid (blocks_snoc m pd iniS)
              generalize blocks m pd iniS = v at *
              have hc1 := hrd.2.1
              have hc2 := hrd.2.2.1
              unfold maxLen at hc2
              have hlt' : (0 : Int) < (n' : Int) := by omega
              have hge' : (64 : Int) ≤ (n' : Int) := by omega
              obtain ⟨⟨y0, y1, y2, y3, y4, y5, y6, y7⟩, yf⟩ := hv.eight
              clear yf
              go_wp2_with fail
              with_reducible refine (hashed_ex v _ _ _ _ _ _ _ hrd hge hk).mono ?_
              rintro e w6 ⟨R, HR, rfl, hb6⟩
              clear y0 y1 y2 y3 y4 y5 y6 y7
              have hv6 := hv.below hb6 hv.lt
              have hk6 := hk.below hb6
              have hr6 := hrd.below hb6
              have hbe6 := hbel.trans (hb6.mono hbel.size)
              clear hv hk hrd hbel hb6
              obtain ⟨⟨y0, y1, y2, y3, y4, y5, y6, y7⟩, yf⟩ := hv6.eight
              have f0 := yf 0
              have f1 := yf 1
              have f2 := yf 2
              have f3 := yf 3
              have f4 := yf 4
              have f5 := yf 5
              have f6 := yf 6
              have f7 := yf 7
              have hvR := hv6.set8 R
              have hkR := hk6.set8 (g := wb.heap.size) (by omega) R
              have hrR := hr6.set8 (g := wb.heap.size) (by omega) R
              have hbR := below_set8 hbe6 hszw R
              clear hk6 hr6 hbe6 yf
              by_cases hc64 : c' = 64
              · subst hc64
                go_wp2
                go_roundw
                case rel => exact ⟨m + 1, _, _, _, _, rfl, by omega, by omega, hbw, (by rw [List.drop_of_length_le (by omega)]; exact Rd.empty _ _ (by simp [maxLen])), (by rw [hsn.out, ← HR.out]; exact hvR), hkR, hbR⟩
                case measure => simp; omega
              · have hrD := hrR.drop64 hge
                rw [List.drop_drop, show 64 * m + 64 = 64 * (m + 1) from by omega] at hrD
                go_wp2
                go_roundw
                case rel => exact ⟨m + 1, _, _, _, _, rfl, by omega, by omega, hbw, hrD, (by rw [hsn.out, ← HR.out]; exact hvR), hkR, hbR⟩
                case measure => simp; omega
            · have hm : m = pd.length / 64 := by omega
              have hR : sumS l = blocks m pd iniS := by unfold sumS; rw [HP.out, ← hm]
              rw [← hR] at hv
              have hdn : decide ((0 : Int) < (n' : Int)) = false := by simp; omega
              clear hm hR
              generalize hRR : sumS l = R at *
              have HRR := Lib.hid hRR
              clear hRR
              obtain ⟨⟨y0, y1, y2, y3, y4, y5, y6, y7⟩, yf⟩ := hv.eight
              clear yf
              go_wp2
              have HD := Lib.hid (hexW_length R)
              have hlist : R.list.length = 8 := rfl
              clear y0 y1 y2 y3 y4 y5 y6 y7 hv hk hrd
              go_loopw [8, 10, 11, 52] (fun v _ _ q wr => ∃ k : Nat, k ≤ 8 ∧ q = .int .i64 k ∧ wr.ownsRow w.heap.size 5 1 v (8 * k) (((hexT (bytesW R.list)).take (8 * k)).map bv8) ∧ Below w.heap.size w wr) (fun _ _ _ q _ => 8 - (intOf q).toNat)
              case atStart => exact ⟨0, by omega, rfl, World.ownsRow_nil _ _ _ _, hbel⟩
              case round =>
                clear hbel
                obtain ⟨k, hk8, rfl, hown, hbel⟩ := hrel
                by_cases hlt : k < 8
                · have hidx : ∀ W : World, (Instr.index 116 (.agg #[.int .u32 (u R.a), .int .u32 (u R.b), .int .u32 (u R.c), .int .u32 (u R.d), .int .u32 (u R.e), .int .u32 (u R.f), .int .u32 (u R.g), .int .u32 (u R.h)]) (.int .i64 (k : Int))).run Tryz.prog W = .ok (.int .u32 (u (R.list[k]'(by rw [hlist]; exact hlt)))) W := by
                    intro W
                    rcases (by omega : k = 0 ∨ k = 1 ∨ k = 2 ∨ k = 3 ∨ k = 4 ∨ k = 5 ∨ k = 6 ∨ k = 7) with rfl | rfl | rfl | rfl | rfl | rfl | rfl | rfl <;> rfl
                  have hat := Lib.hid (fun i hi => hexW_at R.list k i (by rw [hlist]; exact hlt) hi)
                  generalize R.list[k]'(by rw [hlist]; exact hlt) = x at *
                  rename World => wo
                  have hdk : decide ((k : Int) < 8) = true := by simp; omega
                  go_wp2
                  go_loopw [8, 11, 55] (fun v _ q wr => ∃ i : Nat, i ≤ 8 ∧ q = .int .i64 i ∧ wr.ownsRow w.heap.size 5 1 v (8 * k + i) (((hexT (bytesW R.list)).take (8 * k + i)).map bv8) ∧ Below w.heap.size w wr) (fun _ _ q _ => 8 - (intOf q).toNat)
                  case atStart => exact ⟨0, by omega, rfl, hown, hbel⟩
                  case round =>
                    clear hown hbel
                    obtain ⟨i, hi8, rfl, hown, hbel⟩ := hrel
                    by_cases hil : i < 8
                    · have hd := hat.out i hil
                      have hap : ((hexT (bytesW R.list)).take (8 * k + i)).map bv8 ++ [.int .u8 (y8 (dg (by8 ((x >>> (28 - 4 * i)) &&& 15#32))))] = ((hexT (bytesW R.list)).take (8 * k + (i + 1))).map bv8 := by
                        rw [← Nat.add_assoc, List.take_add_one, hd]; simp; rfl
                      have Ha := Lib.hid hap
                      have s0 : (0 : Int) ≤ 28 - 4 * (i : Int) := by omega
                      have s1 : (28 - 4 * (i : Int)).toNat = 28 - 4 * i := by omega
                      have s2 : (4 : Int) * (i : Int) ≤ 28 := by omega
                      have s3 : 28 - 4 * i < 32 := by omega
                      clear hap hd
                      go_wp2_with (at_builtin; refine wpList_append1 rfl (.tmp 58) (.tmp 66) _ rfl Tryz.underlying43 hi0 hz0 hz1 hz2 rfl (by omega) _ _ _ rfl hown [_] rfl (by intro y hy; rw [List.mem_singleton] at hy; subst hy; rfl) rfl (by omega) (by omega) hbel.size ?_; rintro v9 w9 ⟨hown9, hb9, hsz9, hfar9⟩)
                      rw [Ha.out] at hown9
                      go_roundw
                      case rel => exact ⟨i + 1, by omega, by go_num, hown9, hbel.trans hb9⟩
                      case measure => simp [intOf]; omega
                    · have hi : i = 8 := by omega
                      rw [hi, show 8 * k + 8 = 8 * (k + 1) from by omega] at hown
                      clear hi
                      go_wp2
                      go_roundw
                      case rel => exact ⟨k + 1, by omega, by go_num, hown, hbel⟩
                      case measure => simp [intOf]; omega
                · have hk : k = 8 := by omega
                  rw [hk, List.take_of_length_le (by rw [HD.out]; omega)] at hown
                  obtain ⟨A9, c9, rfl, hrd⟩ := own_rd hown
                  have k1 := run_bytes_str (P := Tryz.prog) Tryz.underlying43 Tryz.underlying5 Tryz.underlying9 hrd.as
                  rw [HD.out] at k1
                  clear hk hown hrd
                  go_wp2
                  go_ret
                  exact ⟨congrArg (fun s : St => Ending.returned (Value.string (str (hexT (bytesW s.list))))) HRR.out.symm, hbel⟩
theorem digest_ok (A : Option Addr) (n c : Nat) (l : List UInt8) (w : World) (hr : Rd w 1 A n c (l.map bv8)) (hz : n ≤ 140737488351232) :
    Calls Tryz.prog 45 #[.slice A n c] w fun e w' => e = .returned (.string (str (dig l))) ∧ Below w.heap.size w w' := digest_any A n c l w hr hz
end Go.Proofs.YtdbdigcpibmgjaaGreatDoor

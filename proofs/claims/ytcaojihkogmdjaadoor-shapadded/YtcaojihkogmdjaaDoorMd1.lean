/- The functions of chapter 1 on bit vectors, and plain facts on them. Nothing of the program. -/
import Derived.Test.YtcaojihkogmdjaaDoorBv
namespace Go.Proofs.YtcaojihkogmdjaaDoor

def rotl (x : BitVec 32) (k : Int) : BitVec 32 := x <<< (k % 32).toNat ||| x >>> (32 - k % 32).toNat
def rotr (x : BitVec 32) (n : Int) : BitVec 32 := rotl x (-n)
def chs (x y z : BitVec 32) : BitVec 32 := x &&& y ||| ~~~x &&& z
def mst (x y z : BitVec 32) : BitVec 32 := x &&& y ||| x &&& z ||| y &&& z
def mix0 (x : BitVec 32) : BitVec 32 := rotr x 2 ^^^ rotr x 13 ^^^ rotr x 22
def mix1 (x : BitVec 32) : BitVec 32 := rotr x 6 ^^^ rotr x 11 ^^^ rotr x 25
def mix2 (x : BitVec 32) : BitVec 32 := rotr x 7 ^^^ rotr x 18 ^^^ x >>> 3
def mix3 (x : BitVec 32) : BitVec 32 := rotr x 17 ^^^ rotr x 19 ^^^ x >>> 10

@[go_sem] theorem bv_div8 (x : BitVec 32) : u x / (8 : Int) = u (x >>> 3) := bv_shr x 3
@[go_sem] theorem bv_div1024 (x : BitVec 32) : u x / (1024 : Int) = u (x >>> 10) := bv_shr x 10

theorem u_tdiv (x : BitVec 32) (n : Int) (h : 0 < n) : (u x).tdiv n % (4294967296 : Int) = u x / n := by
  have h0 := u_nonneg x
  have h1 := u_lt x
  rw [Int.tdiv_eq_ediv_of_nonneg h0]
  have h2 : u x / n ≤ u x := Int.ediv_le_self _ h0
  have h3 : 0 ≤ u x / n := Int.ediv_nonneg h0 (by omega)
  exact Int.emod_eq_of_lt h3 (by omega)
@[go_sem] theorem bv_tdiv8 (x : BitVec 32) : (u x).tdiv (8 : Int) % (4294967296 : Int) = u (x >>> 3) := (u_tdiv x 8 (by decide)).trans (bv_div8 x)
@[go_sem] theorem bv_tdiv1024 (x : BitVec 32) : (u x).tdiv (1024 : Int) % (4294967296 : Int) = u (x >>> 10) := (u_tdiv x 1024 (by decide)).trans (bv_div1024 x)
theorem rotl_bit (x : BitVec 32) (k : Int) (i : Nat) (hi : i < 32) : (rotl x k).getLsbD i = x.getLsbD ((i + (32 - (k % 32).toNat)) % 32) := by
  have h0 : 0 ≤ k % 32 := by omega
  have h1 : k % 32 < 32 := by omega
  unfold rotl
  generalize hs : (k % 32).toNat = s
  have h2 : s < 32 := by omega
  have h3 : (32 - k % 32).toNat = 32 - s := by omega
  rw [h3]
  simp only [BitVec.getLsbD_or, BitVec.getLsbD_shiftLeft, BitVec.getLsbD_ushiftRight]
  by_cases hc : i < s
  · have e : (i + (32 - s)) % 32 = 32 - s + i := by omega
    rw [e]; simp [hi, hc]
  · have e : (i + (32 - s)) % 32 = i - s := by omega
    have e2 : x.getLsbD (32 - s + i) = false := BitVec.getLsbD_of_ge _ _ (by omega)
    rw [e, e2]; simp [hi, hc]
theorem rotr_bit (x : BitVec 32) (n : Int) (h0 : 0 ≤ n) (h1 : n ≤ 31) (i : Nat) (hi : i < 32) : (rotr x n).getLsbD i = x.getLsbD ((i + n.toNat) % 32) := by
  unfold rotr
  rw [rotl_bit x _ i hi]
  congr 1
  by_cases e : n = 0
  · subst e; simp
  · have : (-n) % 32 = 32 - n := by omega
    rw [this]; omega
theorem rotr_zero (x : BitVec 32) : rotr x 0 = x := by
  apply BitVec.eq_of_getLsbD_eq
  intro i hi
  rw [rotr_bit x 0 (by omega) (by omega) i hi]
  congr 1; simp; omega
theorem rotr_rotr (x : BitVec 32) (n m : Int) (h0 : 0 ≤ n) (h1 : n ≤ 31) (g0 : 0 ≤ m) (g1 : m ≤ 31) : rotr (rotr x n) m = rotr x ((n + m) % 32) := by
  apply BitVec.eq_of_getLsbD_eq
  intro i hi
  rw [rotr_bit _ m g0 g1 i hi, rotr_bit x n h0 h1 _ (by omega), rotr_bit x _ (by omega) (by omega) i hi]
  congr 1; omega
theorem rotr_back (x : BitVec 32) (n : Int) (h0 : 0 ≤ n) (h1 : n ≤ 31) : rotr (rotr x n) ((32 - n) % 32) = x := by
  rw [rotr_rotr x n _ h0 h1 (by omega) (by omega)]
  have : (n + (32 - n) % 32) % 32 = 0 := by omega
  rw [this, rotr_zero]
theorem rotl_xor (x y : BitVec 32) (k : Int) : rotl (x ^^^ y) k = rotl x k ^^^ rotl y k := by
  apply BitVec.eq_of_getLsbD_eq
  intro i hi
  simp only [BitVec.getLsbD_xor, rotl_bit _ _ _ hi]
theorem rotr_xor (x y : BitVec 32) (n : Int) : rotr (x ^^^ y) n = rotr x n ^^^ rotr y n := rotl_xor x y _
theorem shr_xor (x y : BitVec 32) (n : Nat) : (x ^^^ y) >>> n = x >>> n ^^^ y >>> n := by
  apply BitVec.eq_of_getLsbD_eq
  intro i hi
  simp only [BitVec.getLsbD_xor, BitVec.getLsbD_ushiftRight]
theorem xor6 (a b c d e f : BitVec 32) : (a ^^^ b ^^^ c) ^^^ (d ^^^ e ^^^ f) = (a ^^^ d) ^^^ (b ^^^ e) ^^^ (c ^^^ f) := by
  apply BitVec.eq_of_getLsbD_eq
  intro i hi
  simp only [BitVec.getLsbD_xor]
  cases a.getLsbD i <;> cases b.getLsbD i <;> cases c.getLsbD i <;> cases d.getLsbD i <;> cases e.getLsbD i <;> cases f.getLsbD i <;> rfl
theorem mix0_xor (x y : BitVec 32) : mix0 x ^^^ mix0 y = mix0 (x ^^^ y) := by unfold mix0; rw [rotr_xor, rotr_xor, rotr_xor, xor6]
theorem mix1_xor (x y : BitVec 32) : mix1 x ^^^ mix1 y = mix1 (x ^^^ y) := by unfold mix1; rw [rotr_xor, rotr_xor, rotr_xor, xor6]
theorem mix2_xor (x y : BitVec 32) : mix2 x ^^^ mix2 y = mix2 (x ^^^ y) := by unfold mix2; rw [rotr_xor, rotr_xor, shr_xor, xor6]
theorem mix3_xor (x y : BitVec 32) : mix3 x ^^^ mix3 y = mix3 (x ^^^ y) := by unfold mix3; rw [rotr_xor, rotr_xor, shr_xor, xor6]
theorem chs_same (x y : BitVec 32) : chs x y y = y := by
  apply BitVec.eq_of_getLsbD_eq
  intro i hi
  simp only [chs, BitVec.getLsbD_and, BitVec.getLsbD_or, BitVec.getLsbD_not, hi, decide_true, Bool.true_and]
  cases x.getLsbD i <;> cases y.getLsbD i <;> rfl
theorem chs_zero (y z : BitVec 32) : chs 0#32 y z = z := by
  apply BitVec.eq_of_getLsbD_eq
  intro i hi
  simp only [chs, BitVec.getLsbD_and, BitVec.getLsbD_or, BitVec.getLsbD_not, hi, decide_true, Bool.true_and, BitVec.getLsbD_zero]
  cases y.getLsbD i <;> cases z.getLsbD i <;> rfl
theorem mst_same (x y : BitVec 32) : mst x y y = y := by
  apply BitVec.eq_of_getLsbD_eq
  intro i hi
  simp only [mst, BitVec.getLsbD_and, BitVec.getLsbD_or]
  cases x.getLsbD i <;> cases y.getLsbD i <;> rfl
theorem mst_turn (x y z : BitVec 32) : mst x y z = mst z x y := by
  apply BitVec.eq_of_getLsbD_eq
  intro i hi
  simp only [mst, BitVec.getLsbD_and, BitVec.getLsbD_or]
  cases x.getLsbD i <;> cases y.getLsbD i <;> cases z.getLsbD i <;> rfl
theorem mst_swap (x y z : BitVec 32) : mst x y z = mst y x z := by
  apply BitVec.eq_of_getLsbD_eq
  intro i hi
  simp only [mst, BitVec.getLsbD_and, BitVec.getLsbD_or]
  cases x.getLsbD i <;> cases y.getLsbD i <;> cases z.getLsbD i <;> rfl

/-- the lowest k bits -/
def low (v : BitVec 32) (k : Nat) : BitVec 32 := BitVec.ofNat 32 (v.toNat % 2 ^ k)
def bitAt (v : BitVec 32) (k : Nat) : BitVec 32 := v >>> k &&& 1#32
theorem low_zero (v : BitVec 32) : low v 0 = 0#32 := by simp [low, Nat.mod_one]
theorem low_full (v : BitVec 32) : low v 32 = v := by
  apply BitVec.eq_of_toNat_eq
  have := v.isLt
  rw [low, BitVec.toNat_ofNat, Nat.mod_eq_of_lt this, Nat.mod_eq_of_lt this]
theorem bitAt_toNat (v : BitVec 32) (k : Nat) : (bitAt v k).toNat = v.toNat / 2 ^ k % 2 := by
  unfold bitAt
  rw [BitVec.toNat_and, BitVec.toNat_ushiftRight, Nat.shiftRight_eq_div_pow]
  exact Nat.and_two_pow_sub_one_eq_mod _ 1
theorem bitAt_eq (v : BitVec 32) (k : Nat) (_hk : k < 32) : bitAt v k = if v.getLsbD k then 1#32 else 0#32 := by
  apply BitVec.eq_of_toNat_eq
  rw [bitAt_toNat, BitVec.getLsbD, Nat.testBit_eq_decide_div_mod_eq]
  by_cases h : v.toNat / 2 ^ k % 2 = 1
  · simp [h]
  · have : v.toNat / 2 ^ k % 2 = 0 := by omega
    simp [this]
theorem low_succ (v : BitVec 32) (k : Nat) (hk : k < 32) : low v k + bitAt v k <<< k = low v (k + 1) := by
  apply BitVec.eq_of_toNat_eq
  have hp : 2 ^ (k + 1) ≤ 2 ^ 32 := Nat.pow_le_pow_right (by omega) (by omega)
  have e := @Nat.mod_pow_succ v.toNat 2 k
  have hb : v.toNat % 2 ^ (k + 1) < 2 ^ (k + 1) := Nat.mod_lt _ (Nat.two_pow_pos _)
  have ha : v.toNat % 2 ^ k < 2 ^ k := Nat.mod_lt _ (Nat.two_pow_pos _)
  have hs : 2 ^ (k + 1) = 2 * 2 ^ k := by rw [Nat.pow_succ]; omega
  have h1 : (low v k).toNat = v.toNat % 2 ^ k := by rw [low, BitVec.toNat_ofNat]; exact Nat.mod_eq_of_lt (by omega)
  have h2 : (bitAt v k <<< k).toNat = 2 ^ k * (v.toNat / 2 ^ k % 2) := by
    rw [BitVec.toNat_shiftLeft, Nat.shiftLeft_eq, bitAt_toNat, Nat.mul_comm]
    exact Nat.mod_eq_of_lt (by omega)
  have h3 : (low v (k + 1)).toNat = v.toNat % 2 ^ (k + 1) := by rw [low, BitVec.toNat_ofNat]; exact Nat.mod_eq_of_lt (by omega)
  rw [BitVec.toNat_add, h1, h2, h3, ← e]
  exact Nat.mod_eq_of_lt (by omega)
theorem chs_bit (x y z : BitVec 32) (k : Nat) (hk : k < 32) : bitAt (chs x y z) k = if bitAt x k = 1#32 then bitAt y k else bitAt z k := by
  rw [bitAt_eq _ k hk, bitAt_eq x k hk, bitAt_eq y k hk, bitAt_eq z k hk]
  simp only [chs, BitVec.getLsbD_and, BitVec.getLsbD_or, BitVec.getLsbD_not, hk, decide_true, Bool.true_and]
  cases x.getLsbD k <;> cases y.getLsbD k <;> cases z.getLsbD k <;> rfl
theorem mst_bit (x y z : BitVec 32) (k : Nat) (hk : k < 32) : bitAt (mst x y z) k = if 1 < u (bitAt x k + bitAt y k + bitAt z k) then 1#32 else 0#32 := by
  rw [bitAt_eq _ k hk, bitAt_eq x k hk, bitAt_eq y k hk, bitAt_eq z k hk]
  simp only [mst, BitVec.getLsbD_and, BitVec.getLsbD_or]
  cases x.getLsbD k <;> cases y.getLsbD k <;> cases z.getLsbD k <;> decide
@[go_sem] theorem bv_pow (n : Nat) : ((2 : Int) ^ n) % (4294967296 : Int) = u (1#32 <<< n) := by
  have := bv_shl 1#32 n
  rw [← this]
  show _ = ((1 : Int) * 2 ^ n) % 4294967296
  rw [Int.one_mul]
@[go_sem] theorem u_beq_one (x : BitVec 32) : (u x == (1 : Int)) = (x == 1#32) := u_beq x 1#32
end Go.Proofs.YtcaojihkogmdjaaDoor

/- Words of 32 bits as bit vectors: how the walk's numbers are told in their terms. Nothing of the program. -/
import Derived.WalkKit
import Derived.WalkSpells
import Derived.WalkLawsBesides
import Derived.Laws.BitsLemmas
namespace Go.Proofs.Ytaaeihkbnfcolaa
open Go.RowKit

/-- a word as a number -/
def u (x : BitVec 32) : Int := (x.toNat : Int)
theorem u_def (x : BitVec 32) : u x = (x.toNat : Int) := rfl
theorem u_nonneg (x : BitVec 32) : 0 ≤ u x := Int.natCast_nonneg _
theorem u_lt (x : BitVec 32) : u x < 4294967296 := by have := x.isLt; unfold u; omega
theorem u_wf (x : BitVec 32) : (Lit.int .u32 (u x)).wf = true := by
  have := u_nonneg x; have := u_lt x
  simp [Lit.wf, IntKind.min, IntKind.max, IntKind.bits, IntKind.signed]; omega
theorem of_wf {n : Int} (h : (Lit.int .u32 n).wf = true) : ∃ x : BitVec 32, n = u x := by
  simp [Lit.wf, IntKind.min, IntKind.max, IntKind.bits, IntKind.signed] at h
  refine ⟨BitVec.ofNat 32 n.toNat, ?_⟩
  rw [u_def, BitVec.toNat_ofNat]; omega
theorem ofInt_u32 (x : BitVec 32) : BitVec.ofInt 32 (u x) = x := by
  rw [u_def, BitVec.ofInt_natCast, BitVec.ofNat_toNat, BitVec.setWidth_eq]
theorem wrap_bv32 (x : BitVec 32) : IntKind.u32.wrap (x.toNat : Int) = u x := by
  have := x.isLt
  rw [IntKind.wrap_u32, u_def]; omega
@[go_sem] theorem wrap_u (x : BitVec 32) : IntKind.u32.wrap (u x) = u x := wrap_bv32 x
@[go_sem] theorem bv_and (x y : BitVec 32) : bits .and .u32 (u x) (u y) = u (x &&& y) := by
  show IntKind.u32.wrap ((BitVec.ofInt 32 (u x) &&& BitVec.ofInt 32 (u y)).toNat : Int) = _
  rw [ofInt_u32, ofInt_u32, wrap_bv32]
@[go_sem] theorem bv_or (x y : BitVec 32) : bits .or .u32 (u x) (u y) = u (x ||| y) := by
  show IntKind.u32.wrap ((BitVec.ofInt 32 (u x) ||| BitVec.ofInt 32 (u y)).toNat : Int) = _
  rw [ofInt_u32, ofInt_u32, wrap_bv32]
@[go_sem] theorem bv_xor (x y : BitVec 32) : bits .xor .u32 (u x) (u y) = u (x ^^^ y) := by
  show IntKind.u32.wrap ((BitVec.ofInt 32 (u x) ^^^ BitVec.ofInt 32 (u y)).toNat : Int) = _
  rw [ofInt_u32, ofInt_u32, wrap_bv32]
@[go_sem] theorem bv_zero_xor (y : BitVec 32) : bits .xor .u32 0 (u y) = u y := by
  have := bv_xor 0#32 y
  rw [BitVec.zero_xor] at this
  exact this
@[go_sem] theorem bv_not (x : BitVec 32) : bits .xor .u32 IntKind.u32.max (u x) = u (~~~ x) := by
  show IntKind.u32.wrap ((BitVec.ofInt 32 IntKind.u32.max ^^^ BitVec.ofInt 32 (u x)).toNat : Int) = _
  rw [ofInt_u32, wrap_bv32]
  have : BitVec.ofInt 32 IntKind.u32.max = BitVec.allOnes 32 := by decide
  rw [this, BitVec.allOnes_xor]
@[go_sem] theorem bv_and_one (x : BitVec 32) : bits .and .u32 (u x) 1 = u (x &&& 1#32) := bv_and x 1#32
@[go_sem] theorem bv_add (x y : BitVec 32) : (u x + u y) % (4294967296 : Int) = u (x + y) := by
  unfold u; rw [BitVec.toNat_add]; omega
@[go_sem] theorem bv_wadd (x y : BitVec 32) : IntKind.u32.wrap (u x + u y) = u (x + y) := by rw [IntKind.wrap_u32]; exact bv_add x y
@[go_sem] theorem bv_shl (x : BitVec 32) (n : Nat) : (u x * 2 ^ n) % (4294967296 : Int) = u (x <<< n) := by
  unfold u; rw [BitVec.toNat_shiftLeft, Nat.shiftLeft_eq]; simp
@[go_sem] theorem bv_shr (x : BitVec 32) (n : Nat) : u x / 2 ^ n = u (x >>> n) := by
  unfold u; rw [BitVec.toNat_ushiftRight, Nat.shiftRight_eq_div_pow]; simp
@[go_sem] theorem bv_shl24 (x : BitVec 32) : IntKind.u32.wrap (u x * (16777216 : Int)) = u (x <<< 24) := by rw [IntKind.wrap_u32]; exact bv_shl x 24
@[go_sem] theorem bv_shl16 (x : BitVec 32) : IntKind.u32.wrap (u x * (65536 : Int)) = u (x <<< 16) := by rw [IntKind.wrap_u32]; exact bv_shl x 16
@[go_sem] theorem bv_shl8 (x : BitVec 32) : IntKind.u32.wrap (u x * (256 : Int)) = u (x <<< 8) := by rw [IntKind.wrap_u32]; exact bv_shl x 8
theorem u_inj {x y : BitVec 32} : (u x = u y) ↔ x = y := by
  rw [u_def, u_def, Int.natCast_inj, BitVec.toNat_inj]
@[go_sem] theorem u_beq (x y : BitVec 32) : (u x == u y) = (x == y) := by
  rw [Bool.eq_iff_iff]; simp only [beq_iff_eq, u_inj]
theorem ret_u {a b : BitVec 32} (h : a = b) : Ending.returned (.int .u32 (u a)) = .returned (.int .u32 (u b)) := by rw [h]
theorem and31 (k : Int) : bits .and .u64 (IntKind.u64.wrap k) 31 = k % 32 := by
  have h0 : 0 ≤ IntKind.u64.wrap k := by rw [IntKind.wrap_u64]; omega
  have h1 : IntKind.u64.wrap k < 18446744073709551616 := by rw [IntKind.wrap_u64]; omega
  obtain ⟨n, hn⟩ := Int.eq_ofNat_of_zero_le h0
  have hk : k % 32 = ((n % 32 : Nat) : Int) := by rw [IntKind.wrap_u64] at hn; omega
  rw [hn, hk]
  have h2 := Go.bits_and_u64_nat n 31 (by omega) (by omega)
  have h3 : n &&& 31 = n % 32 := Nat.and_two_pow_sub_one_eq_mod n 5
  rw [h3] at h2
  exact h2
theorem and1 (n : Nat) (h : n < 9223372036854775808) : bits .and .i64 (n : Int) 1 = ((n % 2 : Nat) : Int) := by
  have h2 : n &&& 1 = n % 2 := Nat.and_two_pow_sub_one_eq_mod n 1
  have ho : ∀ a : Nat, a < 9223372036854775808 → (BitVec.ofInt 64 (a : Int)).toNat = a := fun a ha => by
    rw [BitVec.ofInt_natCast, BitVec.toNat_ofNat]; exact Nat.mod_eq_of_lt (by omega)
  show IntKind.i64.wrap ((BitVec.ofInt 64 (n : Int) &&& BitVec.ofInt 64 ((1 : Nat) : Int)).toNat : Int) = _
  rw [BitVec.toNat_and, ho n h, ho 1 (by omega), h2, IntKind.wrap_i64]; omega
theorem and3 (n : Nat) (h : n < 4294967296) : bits .and .i64 (n : Int) 3 = ((n % 4 : Nat) : Int) := by
  have h2 : n &&& 3 = n % 4 := Nat.and_two_pow_sub_one_eq_mod n 2
  have ho : ∀ a : Nat, a < 9223372036854775808 → (BitVec.ofInt 64 (a : Int)).toNat = a := fun a ha => by
    rw [BitVec.ofInt_natCast, BitVec.toNat_ofNat]; exact Nat.mod_eq_of_lt (by omega)
  show IntKind.i64.wrap ((BitVec.ofInt 64 (n : Int) &&& BitVec.ofInt 64 ((3 : Nat) : Int)).toNat : Int) = _
  rw [BitVec.toNat_and, ho n (by omega), ho 3 (by omega), h2, IntKind.wrap_i64]; omega
end Go.Proofs.Ytaaeihkbnfcolaa

/- The roots' trials: what a walk of the reference's firstRoots meets. Nothing of the program. -/
import Derived.Test.YtbadpiennobdmaaDoorFr
import Derived.Laws.Bits64b
namespace Go.Proofs.YtbadpiennobdmaaDoor
open Go.RowKit
theorem rts_yes (cube : Bool) (i : Nat) (h : isPr (i + 2) = true) : rts cube (i + 1) = rts cube i ++ [BitVec.ofNat 32 (rootB (fitC cube (i + 2)) 36 0)] := by rw [rts, h]; rfl
theorem rts_no (cube : Bool) (i : Nat) (h : isPr (i + 2) = false) : rts cube (i + 1) = rts cube i := by rw [rts, h]; rfl
theorem trial_go (p f q : Nat) (b : Bool) (h : q * q ≤ p) : trial p (f + 1) q b = trial p f (q + 1) (b && p % q != 0) := by rw [trial, if_pos h]
theorem trial_end (p f q : Nat) (b : Bool) (h : ¬ q * q ≤ p) : trial p (f + 1) q b = b := by rw [trial, if_neg h]
theorem rootB_yes (f : Nat → Bool) (b r t : Nat) (ht : t = r ||| 2 ^ b) (h : f t = true) : rootB f (b + 1) r = rootB f b t := by subst ht; rw [rootB, h]; rfl
theorem rootB_no (f : Nat → Bool) (b r t : Nat) (ht : t = r ||| 2 ^ b) (h : f t = false) : rootB f (b + 1) r = rootB f b r := by subst ht; rw [rootB, h]; rfl
theorem rootB_zero (f : Nat → Bool) (r : Nat) : rootB f 0 r = r := rfl
theorem sq_small {q p : Nat} (hp : p ≤ 400) (h : q * q ≤ p) : q ≤ 20 := by
  rcases Nat.lt_or_ge 20 q with h1 | h1
  · have : 21 * 21 ≤ q * q := Nat.mul_le_mul h1 h1
    omega
  · exact h1
theorem sq_wrap (k s : Nat) (h : k * k = s) (hs : s ≤ 900) : IntKind.u64.wrap ((k : Int) * (k : Int)) = (s : Int) := by
  rw [IntKind.wrap_u64, ← Int.natCast_mul, h]; omega
theorem u64_u32' (r : Nat) : (r : Int) % 4294967296 = u (BitVec.ofNat 32 r) := by
  rw [u_def, BitVec.toNat_ofNat]; simp
theorem u64_u32 (r : Nat) : IntKind.u32.wrap (r : Int) = u (BitVec.ofNat 32 r) := by
  rw [IntKind.wrap_u32, u64_u32']
theorem or_pow (r b : Nat) (hr : r < 68719476736) (hb : b < 36) : bits .or .u64 (r : Int) (IntKind.u64.wrap (2 ^ b)) = ((r ||| 2 ^ b : Nat) : Int) := by
  have h1 : 2 ^ b < 68719476736 := Nat.lt_of_lt_of_le (Nat.pow_lt_pow_right (by omega) hb) (by decide)
  have h2 : IntKind.u64.wrap (2 ^ b) = ((2 ^ b : Nat) : Int) := by
    have e : ((2 : Int) ^ b) = ((2 ^ b : Nat) : Int) := by simp
    rw [e, IntKind.wrap_u64]
    generalize 2 ^ b = z at *
    omega
  rw [h2]
  exact bits_or_u64_nat r (2 ^ b) (by omega) (by omega)
theorem or_lt36 (r b : Nat) (hr : r < 68719476736) (hb : b < 36) : r ||| 2 ^ b < 68719476736 :=
  Nat.or_lt_two_pow (n := 36) hr (Nat.pow_lt_pow_right (by omega) hb)
/-- the three tests of a trial, as the reference asks them -/
def fitB (x y z : Nat) : Bool := decide (x < y) || (x == y && z == 0)
theorem fit_ways (x y z : Nat) (Y : Int) (hY : (y : Int) = Y) :
    (fitB x y z = true ∧ decide ((x : Int) < Y) = true) ∨
    (fitB x y z = true ∧ decide ((x : Int) < Y) = false ∧ ((x : Int) == Y) = true ∧ ((z : Int) == 0) = true) ∨
    (fitB x y z = false ∧ decide ((x : Int) < Y) = false ∧ ((x : Int) == Y) = true ∧ ((z : Int) == 0) = false) ∨
    (fitB x y z = false ∧ decide ((x : Int) < Y) = false ∧ ((x : Int) == Y) = false) := by
  subst hY
  unfold fitB
  by_cases h1 : x < y
  · left; simp [h1]
  · right
    by_cases h2 : x = y
    · subst h2
      by_cases h3 : z = 0
      · left; simp [h3]
      · right; left; simp [h3]
    · right; right; refine ⟨by simp [h1, h2], by simp; omega, ?_⟩
      rw [beq_eq_false_iff_ne]; omega
theorem fit2_eq (p t hi lo : Nat) (h1 : t * t / 18446744073709551616 = hi) (h2 : t * t % 18446744073709551616 = lo) : fitC false p t = fitB hi p lo := by
  subst h1 h2; show fit2 p t = _; unfold fit2 two64 fitB; rfl
theorem fit3_small (t hi lo a c : Nat) (ht : t < 68719476736) (h1 : t * t / 18446744073709551616 = hi) (h2 : t * t % 18446744073709551616 = lo) (h3 : lo * t / 18446744073709551616 = a) (h4 : hi * t % 18446744073709551616 = c) : a + c < 18446744073709551616 := by
  have b1 : t * t < 68719476736 * 68719476736 := Nat.mul_lt_mul'' ht ht
  have b2 : hi ≤ 256 := by omega
  have b3 : hi * t ≤ 256 * 68719476736 := Nat.mul_le_mul b2 (by omega)
  have b4 : lo * t ≤ 18446744073709551616 * 68719476736 := Nat.mul_le_mul (by omega) (by omega)
  omega
theorem fit3_eq (p t hi lo a b c : Nat) (ht : t < 68719476736) (h1 : t * t / 18446744073709551616 = hi) (h2 : t * t % 18446744073709551616 = lo) (h3 : lo * t / 18446744073709551616 = a) (h5 : lo * t % 18446744073709551616 = b) (h4 : hi * t % 18446744073709551616 = c) : fitC true p t = fitB (a + c) (p * 4294967296) b := by
  have h := fit3_small t hi lo a c ht h1 h2 h3 h4
  show fit3 p t = _
  unfold fit3 top3 two64
  rw [h1, h2, h3, h4, h5, Nat.mod_eq_of_lt h, Nat.div_eq_of_lt h]
  unfold fitB
  rw [show ((0 : Nat) == 0) = true from rfl, Bool.true_and]
end Go.Proofs.YtbadpiennobdmaaDoor

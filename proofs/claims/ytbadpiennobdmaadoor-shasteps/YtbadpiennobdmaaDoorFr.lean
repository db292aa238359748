/- The first bits of roots of primes: what the reference computes, and that these are SHA-256's constants. Nothing of the program. -/
import Derived.Test.YtbadpiennobdmaaDoorSh
namespace Go.Proofs.YtbadpiennobdmaaDoor
open Go.RowKit
def two64 : Nat := 18446744073709551616
/-- does t fit: its square, or its cube, as the reference asks -/
def fit2 (p t : Nat) : Bool := decide (t * t / two64 < p) || (t * t / two64 == p && t * t % two64 == 0)
def top3 (t : Nat) : Nat := t * t % two64 * t / two64 + t * t / two64 * t % two64
def fit3 (p t : Nat) : Bool := (top3 t / two64 == 0) && (decide (top3 t % two64 < p * 4294967296) || (top3 t % two64 == p * 4294967296 && t * t % two64 * t % two64 == 0))
def fitC (cube : Bool) (p t : Nat) : Bool := bif cube then fit3 p t else fit2 p t
/-- the greatest r that fits, bit by bit, from bit b - 1 down -/
def rootB (f : Nat → Bool) : Nat → Nat → Nat
  | 0, r => r
  | b + 1, r => rootB f b (bif f (r ||| 2 ^ b) then r ||| 2 ^ b else r)
/-- trial division from q on -/
def trial (p : Nat) : Nat → Nat → Bool → Bool
  | 0, _, b => b
  | f + 1, q, b => if q * q ≤ p then trial p f (q + 1) (b && p % q != 0) else b
def isPr (p : Nat) : Bool := trial p 40 2 true
def rts (cube : Bool) : Nat → List (BitVec 32)
  | 0 => []
  | i + 1 => bif isPr (i + 2) then rts cube i ++ [BitVec.ofNat 32 (rootB (fitC cube (i + 2)) 36 0)] else rts cube i
theorem rts_mono (cube : Bool) (i : Nat) : ∀ k, (rts cube i).length ≤ (rts cube (i + k)).length
  | 0 => Nat.le_refl _
  | k + 1 => by
    refine Nat.le_trans (rts_mono cube i k) ?_
    show _ ≤ (rts cube ((i + k) + 1)).length
    rw [rts]
    cases isPr (i + k + 2)
    · exact Nat.le_refl _
    · simp
theorem rts8 : rts false 18 = ini := by decide +kernel
theorem rts64 : rts true 310 = kon := by decide +kernel
theorem rts8_lt : (rts false 17).length = 7 := by decide +kernel
theorem rts64_lt : (rts true 309).length = 63 := by decide +kernel
end Go.Proofs.YtbadpiennobdmaaDoor

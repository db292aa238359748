/- A number picked, as a natural number. -/
import Derived.Test.YtfbkfclpfjoepaaPk
namespace Go.Proofs.Ytfbkfclpfjoepaa
open Go.RowKit
theorem picked_nat (n : Int) (m : Int) (a : Nat) (w : World) (h0 : -9223372036854775808 ≤ n) (h1 : n ≤ 9223372036854775807) (hm : 0 < m) (hm2 : m ≤ 4611686018427387904) (ha : pk n m = a) :
    Calls Try.prog 7 #[.int .i64 n, .int .i64 m] w fun e w' => e = .returned (.int .i64 (a : Int)) ∧ w = w' := by
  rw [← ha]; exact picked_any n m w h0 h1 hm hm2
theorem pk_nat (n m : Int) (h : 0 < m) : ∃ a : Nat, pk n m = (a : Int) ∧ (a : Int) < m := by
  obtain ⟨h0, h1⟩ := pk_range n m h
  obtain ⟨a, ha⟩ := Int.eq_ofNat_of_zero_le h0
  exact ⟨a, ha, by rw [← ha]; exact h1⟩
end Go.Proofs.Ytfbkfclpfjoepaa

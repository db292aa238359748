/- The statements' own Turned: a byte of a copy is turned. -/
import Derived.Test.YtbnjbjdkajjfdaaDoorGF
import Derived.Test.YtbnjbjdkajjfdaaDoorGA
import Derived.Test.YtbnjbjdkajjfdaaDoorGB
namespace Go.Proofs.YtbnjbjdkajjfdaaDoor
open Go.RowKit
/-- bytes with the byte at p turned by x (by 1 where x is 0) -/
def turnB (x : UInt8) : UInt8 := if x < 1 then 1 else x
theorem turn_ne : ∀ a x : UInt8, a ^^^ turnB x ≠ a := by
  have : ∀ x : UInt8, turnB x ≠ 0 := by
    intro x
    unfold turnB
    split
    · decide
    · rename_i h
      intro q
      apply h
      rw [q]; decide
  intro a x h
  apply this x
  have h2 : a ^^^ (a ^^^ turnB x) = a ^^^ a := by rw [h]
  rw [← UInt8.xor_assoc, UInt8.xor_self, UInt8.zero_xor] at h2
  exact h2
@[go_sem] theorem y8_xor (x y : UInt8) : bits .xor .u8 (y8 x) (y8 y) = y8 (x ^^^ y) := by
  show IntKind.u8.wrap ((BitVec.ofInt 8 (y8 x) ^^^ BitVec.ofInt 8 (y8 y)).toNat : Int) = _
  rw [ofInt_y8, ofInt_y8]
  exact wrap8_y8 (x ^^^ y)
@[go_sem] theorem y8_xor1 (x : UInt8) : bits .xor .u8 (y8 x) 1 = y8 (x ^^^ 1) := y8_xor x 1
theorem y8_lt1 (x : UInt8) : (y8 x < 1) = (x < 1) := by
  unfold y8
  rw [UInt8.lt_iff_toNat_lt]
  show ((x.toNat : Int) < 1) = (x.toNat < 1)
  exact propext (by omega)
set_option maxRecDepth 100000 in
set_option maxHeartbeats 1000000 in
theorem turned_any (A : Option Addr) (n c : Nat) (l : List UInt8) (k : Int) (x : UInt8) (p : Nat) (k1 : -9223372036854775808 ≤ k) (k2 : k ≤ 9223372036854775807) (w : World) (hr : Rd w 1 A n c (l.map bv8)) (h0 : 0 < n) (hn : n ≤ 1000) (hp : Hid (pk k (n : Int) = (p : Int))) (hpl : p < l.length) :
    Calls Tryd.prog 28 #[.slice A n c, .int .i64 k, .int .u8 (y8 x)] w fun e w' => ∃ v, e = .returned v ∧ w'.ownsRow w.heap.size 5 1 v n ((l.set p (l[p] ^^^ turnB x)).map bv8) ∧ Below w.heap.size w w' := by
  have hnl := hr.len
  have Hnl := Lib.hid hnl
  have hpn : p < n := by omega
  have hpi : (p : Int) < (n : Int) := by omega
  have d0 : decide (0 < (n : Int)) = true := by simp; omega
  clear hnl
  by_cases hx : x < 1
  · have hy : y8 x < 1 := by rw [y8_lt1]; exact hx
    have ht : turnB x = 1 := if_pos hx
    rw [ht]
    go_enter Tryd.func28, Tryd.ntmps28
    go_wp2_with fail
    with_reducible refine (clone_any _ _ _ _ _ hr (by omega)).mono ?_
    rintro e w1 ⟨v1, rfl, hown1, hb1⟩
    obtain ⟨g, cap, rfl, hg, hglt⟩ := hown1.form h0
    have hc1 : w1.cell? ⟨g, p, none⟩ = some (.int .u8 (y8 l[p])) := by
      rw [hown1.cellAt _ (by omega), List.getElem?_map, List.getElem?_eq_getElem hpl]; rfl
    have hf1 := hown1.frozenAt p
    go_wp2_with ((with_reducible refine (picked_nat k (n : Int) p _ k1 k2 (by omega) (by omega) hp.out).mono ?_); rintro e w' ⟨rfl, rfl⟩)
    go_ret
    refine ⟨_, rfl, ?_, hb1.setCell (p := ⟨g, p, none⟩) hg _⟩
    have h5 := (hown1.stored p (.int .u8 (y8 (l[p] ^^^ 1)))).1
    rw [List.map_set]
    exact h5
  · have hy : ¬ y8 x < 1 := by rw [y8_lt1]; exact hx
    have ht : turnB x = x := if_neg hx
    rw [ht]
    go_enter Tryd.func28, Tryd.ntmps28
    go_wp2_with fail
    with_reducible refine (clone_any _ _ _ _ _ hr (by omega)).mono ?_
    rintro e w1 ⟨v1, rfl, hown1, hb1⟩
    obtain ⟨g, cap, rfl, hg, hglt⟩ := hown1.form h0
    have hc1 : w1.cell? ⟨g, p, none⟩ = some (.int .u8 (y8 l[p])) := by
      rw [hown1.cellAt _ (by omega), List.getElem?_map, List.getElem?_eq_getElem hpl]; rfl
    have hf1 := hown1.frozenAt p
    go_wp2_with ((with_reducible refine (picked_nat k (n : Int) p _ k1 k2 (by omega) (by omega) hp.out).mono ?_); rintro e w' ⟨rfl, rfl⟩)
    go_ret
    refine ⟨_, rfl, ?_, hb1.setCell (p := ⟨g, p, none⟩) hg _⟩
    have h5 := (hown1.stored p (.int .u8 (y8 (l[p] ^^^ x)))).1
    rw [List.map_set]
    exact h5
end Go.Proofs.YtbnjbjdkajjfdaaDoor

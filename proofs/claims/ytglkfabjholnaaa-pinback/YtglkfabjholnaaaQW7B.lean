/- The law PinBack: the walk. -/
import Derived.Test.YtglkfabjholnaaaQPi
import Derived.Test.YtglkfabjholnaaaGA
import Derived.Below
namespace Go.Proofs.Ytglkfabjholnaaa
open Go.RowKit
set_option maxRecDepth 100000 in
set_option maxHeartbeats 1000000 in
theorem pinBack_walk (n : Int) (hw : (Lit.int .i64 n).wf = true) (w : World) :
    Calls Try.prog 4 #[.int .i64 n] w fun e w' => e = .returned (.bool true) ∧ Below w.heap.size w w' := by
  obtain ⟨n0, n1⟩ := i64_range hw
  obtain ⟨a, ha, ha2⟩ := pk_nat n 6 (by omega)
  have Ha := Lib.hid ha
  have Hi := Lib.hid (show Mv 0 false 0 11 by unfold Mv; simp)
  clear ha hw
  by_cases h5 : a = 5
  · have Hu := Lib.hid (show Mv (a : Int) true 0 7 by unfold Mv; simp; omega)
    have q1 : ((a : Int) == 5) = true := by simp; omega
    clear h5 ha2
    go_enter Try.func4, Try.ntmps4
    go_wp2_with fail
    with_reducible refine (picked_nat n 6 a _ n0 n1 (by omega) (by omega) Ha.out).mono ?_
    rintro x w' ⟨rfl, rfl⟩
    go_wp2_with fail
    with_reducible refine (move_at _ true 0 7 _ Hu.out).mono ?_
    rintro x w' ⟨rfl, rfl⟩
    go_wp2_with fail
    with_reducible refine (move_at _ false 0 11 _ Hi.out).mono ?_
    rintro x w' ⟨rfl, rfl⟩
    go_wp2
    go_ret
    exact ⟨rfl, Below.refl _ _⟩
  · obtain ⟨b, hb⟩ : ∃ b : Nat, a + 1 = b := ⟨_, rfl⟩
    have Hu := Lib.hid (show Mv (a : Int) true b 0 by unfold Mv; simp; omega)
    have Hd := Lib.hid (show Mv (b : Int) false a 0 by unfold Mv; simp; omega)
    have q1 : ((a : Int) == 5) = false := by simp; omega
    have q2 : ((b : Int) == (a : Int) + 1) = true := by simp; omega
    clear h5 hb
    go_enter Try.func4, Try.ntmps4
    go_wp2_with fail
    with_reducible refine (picked_nat n 6 a _ n0 n1 (by omega) (by omega) Ha.out).mono ?_
    rintro x w' ⟨rfl, rfl⟩
    go_wp2_with fail
    with_reducible refine (move_at _ true b 0 _ Hu.out).mono ?_
    rintro x w' ⟨rfl, rfl⟩
    go_wp2_with fail
    with_reducible refine (move_at _ false 0 11 _ Hi.out).mono ?_
    rintro x w' ⟨rfl, rfl⟩
    go_wp2_with fail
    with_reducible refine (move_at _ false a 0 _ Hd.out).mono ?_
    rintro x w' ⟨rfl, rfl⟩
    go_wp2
    go_ret
    exact ⟨rfl, Below.refl _ _⟩
end Go.Proofs.Ytglkfabjholnaaa

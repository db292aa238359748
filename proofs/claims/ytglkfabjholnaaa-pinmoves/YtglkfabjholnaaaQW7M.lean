/- The law PinMoves: the walk. -/
import Derived.Test.YtglkfabjholnaaaQPj
import Derived.Below
namespace Go.Proofs.Ytglkfabjholnaaa
open Go.RowKit
set_option maxRecDepth 100000 in
set_option maxHeartbeats 1000000 in
theorem pinMoves_walk (n : Int) (up : Bool) (w : World) :
    Calls Try.prog 3 #[.int .i64 n, .bool up] w fun e w' => e = .returned (.bool true) ∧ Below w.heap.size w w' := by
  obtain ⟨m, e, hm⟩ := mv_some n up
  obtain ⟨f, hf⟩ := ck_some n
  have HM := Lib.hid hm
  have HF := Lib.hid hf
  clear hm
  rcases hf with ⟨h, rfl⟩ | ⟨h, rfl⟩ | ⟨h, h5, rfl⟩
  · go_enter Try.func3, Try.ntmps3
    go_wp2_with fail
    with_reducible refine (pcheck_at n 4 _ HF.out).mono ?_
    rintro x w' ⟨rfl, rfl⟩
    go_wp2_with fail
    with_reducible refine (move_at n up m e _ HM.out).mono ?_
    rintro x w' ⟨rfl, rfl⟩
    go_wp2_with fail
    with_reducible refine (moved_at n up m e _ HM.out).mono ?_
    rintro x w' ⟨rfl, rfl⟩
    go_wp2
    go_ret
    exact ⟨rfl, Below.refl _ _⟩
  · have h0 : ¬ n < 0 := by omega
    have h2 : 0 ≤ n := by omega
    have h3 : decide (n ≤ 5) = false := by simp; omega
    go_enter Try.func3, Try.ntmps3
    go_wp2_with fail
    with_reducible refine (pcheck_at n 4 _ HF.out).mono ?_
    rintro x w' ⟨rfl, rfl⟩
    go_wp2_with fail
    with_reducible refine (move_at n up m e _ HM.out).mono ?_
    rintro x w' ⟨rfl, rfl⟩
    go_wp2_with fail
    with_reducible refine (moved_at n up m e _ HM.out).mono ?_
    rintro x w' ⟨rfl, rfl⟩
    go_wp2
    go_ret
    exact ⟨rfl, Below.refl _ _⟩
  · have h0 : ¬ n < 0 := by omega
    have h6 : ¬ 5 < n := by omega
    go_enter Try.func3, Try.ntmps3
    go_wp2_with fail
    with_reducible refine (pcheck_at n 0 _ HF.out).mono ?_
    rintro x w' ⟨rfl, rfl⟩
    go_wp2_with fail
    with_reducible refine (move_at n up m e _ HM.out).mono ?_
    rintro x w' ⟨rfl, rfl⟩
    go_wp2_with fail
    with_reducible refine (moved_at n up m e _ HM.out).mono ?_
    rintro x w' ⟨rfl, rfl⟩
    go_wp2
    go_ret
    exact ⟨rfl, Below.refl _ _⟩
end Go.Proofs.Ytglkfabjholnaaa

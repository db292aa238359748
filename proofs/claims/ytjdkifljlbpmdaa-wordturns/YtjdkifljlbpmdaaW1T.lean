/- The law WordTurns: rotating and mixing are the reference's. -/
import Derived.Test.YtjdkifljlbpmdaaW1c
namespace Go.Proofs.Ytjdkifljlbpmdaa
open Go.RowKit
set_option maxHeartbeats 1000000 in
theorem wordTurns_walk (x : BitVec 32) (n : Int) (w : World) :
    Calls Try.prog 3 #[.int .u32 (u x), .int .i64 n] w fun e w' => e = .returned (.bool true) ∧ Below w.heap.size w w' := by
  by_cases c1 : n < 0 ∨ 31 < n
  · have c2 : n < 0 ∨ 3 < n := by omega
    go_enter Try.func3, Try.ntmps3
    go_wp2_with fail
    with_reducible refine (rotate_no _ _ _ c1).mono ?_
    rintro e w' ⟨rfl, rfl⟩
    go_wp2_with fail
    with_reducible refine (mix_no _ _ _ c2).mono ?_
    rintro e w' ⟨rfl, rfl⟩
    go_wp2_with fail
    with_reducible refine (rotated_no _ _ _ c1).mono ?_
    rintro e w' ⟨rfl, rfl⟩
    go_wp2_with fail
    with_reducible refine (mixed_no _ _ _ c2).mono ?_
    rintro e w' ⟨rfl, hb⟩
    go_wp2
    go_ret
    exact ⟨rfl, hb⟩
  · have r0 : 0 ≤ n := by omega
    have r1 : n ≤ 31 := by omega
    have e0 : (rotr x n == rotr x n) = true := by rw [beq_iff_eq]
    by_cases c2 : 3 < n
    · have c3 : n < 0 ∨ 3 < n := by omega
      clear c1
      go_enter Try.func3, Try.ntmps3
      go_wp2_with fail
      with_reducible refine (rotate_ok _ _ _ r0 r1).mono ?_
      rintro e w' ⟨rfl, rfl⟩
      go_wp2_with fail
      with_reducible refine (mix_no _ _ _ c3).mono ?_
      rintro e w' ⟨rfl, rfl⟩
      go_wp2_with fail
      with_reducible refine (rotated_ok _ _ _ r0 r1).mono ?_
      rintro e w' ⟨rfl, rfl⟩
      go_wp2_with fail
      with_reducible refine (mixed_no _ _ _ c3).mono ?_
      rintro e w' ⟨rfl, hb⟩
      go_wp2
      go_ret
      exact ⟨rfl, hb⟩
    · have hc : n = 0 ∨ n = 1 ∨ n = 2 ∨ n = 3 := by omega
      clear c1 c2
      rcases hc with rfl | rfl | rfl | rfl
      · have e1 : (mix0 x == mix0 x) = true := by rw [beq_iff_eq]
        go_enter Try.func3, Try.ntmps3
        go_wp2_with fail
        with_reducible refine (rotate_ok _ _ _ r0 r1).mono ?_
        rintro e w' ⟨rfl, rfl⟩
        go_wp2_with fail
        with_reducible refine (mix_0 _ _).mono ?_
        rintro e w' ⟨rfl, rfl⟩
        go_wp2_with fail
        with_reducible refine (rotated_ok _ _ _ r0 r1).mono ?_
        rintro e w' ⟨rfl, rfl⟩
        go_wp2_with fail
        with_reducible refine (mixed_0 _ _).mono ?_
        rintro e w' ⟨rfl, hb⟩
        go_wp2
        go_ret
        exact ⟨rfl, hb⟩
      · have e1 : (mix1 x == mix1 x) = true := by rw [beq_iff_eq]
        go_enter Try.func3, Try.ntmps3
        go_wp2_with fail
        with_reducible refine (rotate_ok _ _ _ r0 r1).mono ?_
        rintro e w' ⟨rfl, rfl⟩
        go_wp2_with fail
        with_reducible refine (mix_1 _ _).mono ?_
        rintro e w' ⟨rfl, rfl⟩
        go_wp2_with fail
        with_reducible refine (rotated_ok _ _ _ r0 r1).mono ?_
        rintro e w' ⟨rfl, rfl⟩
        go_wp2_with fail
        with_reducible refine (mixed_1 _ _).mono ?_
        rintro e w' ⟨rfl, hb⟩
        go_wp2
        go_ret
        exact ⟨rfl, hb⟩
      · have e1 : (mix2 x == mix2 x) = true := by rw [beq_iff_eq]
        go_enter Try.func3, Try.ntmps3
        go_wp2_with fail
        with_reducible refine (rotate_ok _ _ _ r0 r1).mono ?_
        rintro e w' ⟨rfl, rfl⟩
        go_wp2_with fail
        with_reducible refine (mix_2 _ _).mono ?_
        rintro e w' ⟨rfl, rfl⟩
        go_wp2_with fail
        with_reducible refine (rotated_ok _ _ _ r0 r1).mono ?_
        rintro e w' ⟨rfl, rfl⟩
        go_wp2_with fail
        with_reducible refine (mixed_2 _ _).mono ?_
        rintro e w' ⟨rfl, hb⟩
        go_wp2
        go_ret
        exact ⟨rfl, hb⟩
      · have e1 : (mix3 x == mix3 x) = true := by rw [beq_iff_eq]
        go_enter Try.func3, Try.ntmps3
        go_wp2_with fail
        with_reducible refine (rotate_ok _ _ _ r0 r1).mono ?_
        rintro e w' ⟨rfl, rfl⟩
        go_wp2_with fail
        with_reducible refine (mix_3 _ _).mono ?_
        rintro e w' ⟨rfl, rfl⟩
        go_wp2_with fail
        with_reducible refine (rotated_ok _ _ _ r0 r1).mono ?_
        rintro e w' ⟨rfl, rfl⟩
        go_wp2_with fail
        with_reducible refine (mixed_3 _ _).mono ?_
        rintro e w' ⟨rfl, hb⟩
        go_wp2
        go_ret
        exact ⟨rfl, hb⟩
end Go.Proofs.Ytjdkifljlbpmdaa

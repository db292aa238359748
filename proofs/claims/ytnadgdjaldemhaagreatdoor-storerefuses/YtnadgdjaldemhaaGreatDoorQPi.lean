/- Chapter 7: the program's Check and Move, and the reference's answer. -/
import Derived.Test.YtnadgdjaldemhaaGreatDoorGP
import Derived.Lib.Hide
import Derived.IntWalk
namespace Go.Proofs.YtnadgdjaldemhaaGreatDoor
open Go.RowKit
/-- what a move of a count answers: the count, the error -/
def Mv (n : Int) (up : Bool) (m e : Int) : Prop :=
  (n < 0 ∧ m = 0 ∧ e = 4) ∨ (5 < n ∧ m = 0 ∧ e = 4) ∨ (n = 5 ∧ up = true ∧ m = 0 ∧ e = 7) ∨ (0 ≤ n ∧ n < 5 ∧ up = true ∧ m = n + 1 ∧ e = 0) ∨ (n = 0 ∧ up = false ∧ m = 0 ∧ e = 11) ∨ (0 < n ∧ n ≤ 5 ∧ up = false ∧ m = n - 1 ∧ e = 0)
theorem mv_some (n : Int) (up : Bool) : ∃ m e, Mv n up m e := by
  unfold Mv
  by_cases h : n < 0
  · exact ⟨0, 4, by omega⟩
  · by_cases h5 : 5 < n
    · exact ⟨0, 4, by omega⟩
    · cases up
      · by_cases h0 : n = 0
        · exact ⟨0, 11, by simp; omega⟩
        · exact ⟨n - 1, 0, by simp; omega⟩
      · by_cases h0 : n = 5
        · exact ⟨0, 7, by simp; omega⟩
        · exact ⟨n + 1, 0, by simp; omega⟩
set_option maxRecDepth 100000 in
set_option maxHeartbeats 400000 in
theorem raise_at (n m e : Int) (w : World) (h : n = 5 ∧ m = 0 ∧ e = 7 ∨ 0 ≤ n ∧ n < 5 ∧ m = n + 1 ∧ e = 0) : Calls Tryz.prog 87 #[.int .i64 n] w fun x w' => x = .returned (.tuple #[.int .i64 m, .int .i64 e]) ∧ w = w' := by
  rcases h with ⟨rfl, rfl, rfl⟩ | ⟨h0, h5, rfl, rfl⟩
  · go_enter Tryz.func87, Tryz.ntmps87
    go_wp2
    go_ret2
    exact ⟨rfl, rfl⟩
  · have hn : (n == 5) = false := by simp; omega
    go_enter Tryz.func87, Tryz.ntmps87
    go_wp2
    go_ret2
    exact ⟨rfl, rfl⟩
set_option maxRecDepth 100000 in
set_option maxHeartbeats 400000 in
theorem lower_at (n m e : Int) (w : World) (h : n = 0 ∧ m = 0 ∧ e = 11 ∨ 0 < n ∧ n ≤ 5 ∧ m = n - 1 ∧ e = 0) : Calls Tryz.prog 88 #[.int .i64 n] w fun x w' => x = .returned (.tuple #[.int .i64 m, .int .i64 e]) ∧ w = w' := by
  rcases h with ⟨rfl, rfl, rfl⟩ | ⟨h0, h5, rfl, rfl⟩
  · go_enter Tryz.func88, Tryz.ntmps88
    go_wp2
    go_ret2
    exact ⟨rfl, rfl⟩
  · have hn : (n == 0) = false := by simp; omega
    go_enter Tryz.func88, Tryz.ntmps88
    go_wp2
    go_ret2
    exact ⟨rfl, rfl⟩
set_option maxRecDepth 100000 in
set_option maxHeartbeats 800000 in
theorem move_at (n : Int) (up : Bool) (m e : Int) (w : World) (h : Mv n up m e) : Calls Tryz.prog 56 #[.int .i64 n, .bool up] w fun x w' => x = .returned (.tuple #[.int .i64 m, .int .i64 e]) ∧ w = w' := by
  rcases h with ⟨h, rfl, rfl⟩ | ⟨h, rfl, rfl⟩ | ⟨h, rfl, rfl, rfl⟩ | ⟨h, h5, rfl, hm, rfl⟩ | ⟨h, rfl, rfl, rfl⟩ | ⟨h, h5, rfl, hm, rfl⟩
  · have hc := Lib.hid (show Ck n 4 from .inl ⟨h, rfl⟩)
    clear h
    go_enter Tryz.func56, Tryz.ntmps56
    go_wp2_with ((with_reducible refine (pcheck_at n 4 _ hc.out).mono ?_); rintro x w' ⟨rfl, rfl⟩)
    go_ret2
    exact ⟨rfl, rfl⟩
  · have hc := Lib.hid (show Ck n 4 from .inr (.inl ⟨h, rfl⟩))
    clear h
    go_enter Tryz.func56, Tryz.ntmps56
    go_wp2_with ((with_reducible refine (pcheck_at n 4 _ hc.out).mono ?_); rintro x w' ⟨rfl, rfl⟩)
    go_ret2
    exact ⟨rfl, rfl⟩
  · have hc := Lib.hid (show Ck n 0 from .inr (.inr ⟨by omega, by omega, rfl⟩))
    have hr := Lib.hid (show n = 5 ∧ (0 : Int) = 0 ∧ (7 : Int) = 7 ∨ 0 ≤ n ∧ n < 5 ∧ (0 : Int) = n + 1 ∧ (7 : Int) = 0 from .inl ⟨h, rfl, rfl⟩)
    clear h
    go_enter Tryz.func56, Tryz.ntmps56
    go_wp2_with fail
    with_reducible refine (pcheck_at n 0 _ hc.out).mono ?_
    rintro x w' ⟨rfl, rfl⟩
    go_wp2_with fail
    with_reducible refine (raise_at n 0 7 _ (by have := hr.out; omega)).mono ?_
    rintro x w' ⟨rfl, rfl⟩
    go_wp2
    go_ret2
    exact ⟨rfl, rfl⟩
  · have hc := Lib.hid (show Ck n 0 from .inr (.inr ⟨by omega, by omega, rfl⟩))
    have hr := Lib.hid (show n = 5 ∧ m = 0 ∧ (0 : Int) = 7 ∨ 0 ≤ n ∧ n < 5 ∧ m = n + 1 ∧ (0 : Int) = 0 from .inr ⟨h, h5, hm, rfl⟩)
    clear h h5 hm
    go_enter Tryz.func56, Tryz.ntmps56
    go_wp2_with fail
    with_reducible refine (pcheck_at n 0 _ hc.out).mono ?_
    rintro x w' ⟨rfl, rfl⟩
    go_wp2_with fail
    with_reducible refine (raise_at n m 0 _ (by have := hr.out; omega)).mono ?_
    rintro x w' ⟨rfl, rfl⟩
    go_wp2
    go_ret2
    exact ⟨rfl, rfl⟩
  · have hc := Lib.hid (show Ck n 0 from .inr (.inr ⟨by omega, by omega, rfl⟩))
    have hr := Lib.hid (show n = 0 ∧ (0 : Int) = 0 ∧ (11 : Int) = 11 ∨ 0 < n ∧ n ≤ 5 ∧ (0 : Int) = n - 1 ∧ (11 : Int) = 0 from .inl ⟨h, rfl, rfl⟩)
    clear h
    go_enter Tryz.func56, Tryz.ntmps56
    go_wp2_with fail
    with_reducible refine (pcheck_at n 0 _ hc.out).mono ?_
    rintro x w' ⟨rfl, rfl⟩
    go_wp2_with fail
    with_reducible refine (lower_at n 0 11 _ (by have := hr.out; omega)).mono ?_
    rintro x w' ⟨rfl, rfl⟩
    go_wp2
    go_ret2
    exact ⟨rfl, rfl⟩
  · have hc := Lib.hid (show Ck n 0 from .inr (.inr ⟨by omega, by omega, rfl⟩))
    have hr := Lib.hid (show n = 0 ∧ m = 0 ∧ (0 : Int) = 11 ∨ 0 < n ∧ n ≤ 5 ∧ m = n - 1 ∧ (0 : Int) = 0 from .inr ⟨h, h5, hm, rfl⟩)
    clear h h5 hm
    go_enter Tryz.func56, Tryz.ntmps56
    go_wp2_with fail
    with_reducible refine (pcheck_at n 0 _ hc.out).mono ?_
    rintro x w' ⟨rfl, rfl⟩
    go_wp2_with fail
    with_reducible refine (lower_at n m 0 _ (by have := hr.out; omega)).mono ?_
    rintro x w' ⟨rfl, rfl⟩
    go_wp2
    go_ret2
    exact ⟨rfl, rfl⟩
end Go.Proofs.YtnadgdjaldemhaaGreatDoor

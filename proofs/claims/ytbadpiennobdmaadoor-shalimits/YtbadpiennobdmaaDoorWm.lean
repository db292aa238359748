/- What the program's Choose, Most and Mix return. -/
import Derived.Test.YtbadpiennobdmaaDoorRows
import Derived.Test.YtbadpiennobdmaaDoorMd1
import Derived.Test.YtbadpiennobdmaaDoorRot
import Derived.Test.YtbadpiennobdmaaDoorMem
import Derived.Lib.Hide
import Derived.IntWalk
import Derived.Deep.QuietTactic
import Derived.BigQuiet
namespace Go.Proofs.YtbadpiennobdmaaDoor
open Go.RowKit

set_option maxHeartbeats 400000 in
theorem rotr_any (x : BitVec 32) (n : Int) (w : World) (h0 : 0 ≤ n) (h1 : n ≤ 31) :
    Calls Tryd.prog 63 #[.int .u32 (u x), .int .i64 n] w fun e w' => e = .returned (.int .u32 (u (rotr x n))) ∧ w = w' := by
  go_enter Tryd.func63, Tryd.ntmps63
  go_wp2_with (go_at_call 57; refine (rotl_any _ _ _).mono ?_; rintro e w' ⟨rfl, rfl⟩)
  go_ret
  exact ⟨rfl, rfl⟩
set_option maxHeartbeats 400000 in
theorem choose_any (x y z : BitVec 32) (w : World) :
    Calls Tryd.prog 47 #[.int .u32 (u x), .int .u32 (u y), .int .u32 (u z)] w fun e w' => e = .returned (.int .u32 (u (chs x y z))) ∧ w = w' := by
  go_enter Tryd.func47, Tryd.ntmps47
  go_wp2
  go_ret
  exact ⟨rfl, rfl⟩
set_option maxHeartbeats 400000 in
theorem most_any (x y z : BitVec 32) (w : World) :
    Calls Tryd.prog 48 #[.int .u32 (u x), .int .u32 (u y), .int .u32 (u z)] w fun e w' => e = .returned (.int .u32 (u (mst x y z))) ∧ w = w' := by
  go_enter Tryd.func48, Tryd.ntmps48
  go_wp2
  go_ret
  exact ⟨rfl, rfl⟩
set_option maxHeartbeats 400000 in
theorem mix_0 (x : BitVec 32) (w : World) :
    Calls Tryd.prog 59 #[.int .u32 (u x), .int .i64 0] w fun e w' => e = .returned (.tuple #[.int .u32 (u (mix0 x)), .int .i64 0]) ∧ w = w' := by
  go_enter Tryd.func59, Tryd.ntmps59
  go_wp2_with (go_at_call 63; refine (rotr_any _ _ _ (by omega) (by omega)).mono ?_; rintro e w' ⟨rfl, rfl⟩)
  go_ret2
  exact ⟨rfl, rfl⟩
set_option maxHeartbeats 400000 in
theorem mix_1 (x : BitVec 32) (w : World) :
    Calls Tryd.prog 59 #[.int .u32 (u x), .int .i64 1] w fun e w' => e = .returned (.tuple #[.int .u32 (u (mix1 x)), .int .i64 0]) ∧ w = w' := by
  go_enter Tryd.func59, Tryd.ntmps59
  go_wp2_with (go_at_call 63; refine (rotr_any _ _ _ (by omega) (by omega)).mono ?_; rintro e w' ⟨rfl, rfl⟩)
  go_ret2
  exact ⟨rfl, rfl⟩
set_option maxHeartbeats 400000 in
theorem mix_2 (x : BitVec 32) (w : World) :
    Calls Tryd.prog 59 #[.int .u32 (u x), .int .i64 2] w fun e w' => e = .returned (.tuple #[.int .u32 (u (mix2 x)), .int .i64 0]) ∧ w = w' := by
  go_enter Tryd.func59, Tryd.ntmps59
  go_wp2_with (go_at_call 63; refine (rotr_any _ _ _ (by omega) (by omega)).mono ?_; rintro e w' ⟨rfl, rfl⟩)
  go_ret2
  exact ⟨rfl, rfl⟩
set_option maxHeartbeats 400000 in
theorem mix_3 (x : BitVec 32) (w : World) :
    Calls Tryd.prog 59 #[.int .u32 (u x), .int .i64 3] w fun e w' => e = .returned (.tuple #[.int .u32 (u (mix3 x)), .int .i64 0]) ∧ w = w' := by
  go_enter Tryd.func59, Tryd.ntmps59
  go_wp2_with (go_at_call 63; refine (rotr_any _ _ _ (by omega) (by omega)).mono ?_; rintro e w' ⟨rfl, rfl⟩)
  go_ret2
  exact ⟨rfl, rfl⟩
set_option maxHeartbeats 400000 in
theorem mix_no (x : BitVec 32) (n : Int) (w : World) (h : n < 0 ∨ 3 < n) :
    Calls Tryd.prog 59 #[.int .u32 (u x), .int .i64 n] w fun e w' => e = .returned (.tuple #[.int .u32 0, .int .i64 2]) ∧ w = w' := by
  have e0 : (n == 0) = false := by simp; omega
  have e1 : (n == 1) = false := by simp; omega
  have e2 : (n == 2) = false := by simp; omega
  have e3 : (n == 3) = false := by simp; omega
  go_enter Tryd.func59, Tryd.ntmps59
  go_wp2
  go_ret2
  exact ⟨rfl, rfl⟩
end Go.Proofs.YtbadpiennobdmaaDoor

/- Six laws of chapter 1: each returns true, at every argument. -/
import Derived.Test.YtjdkifljlbpmdaaW1c
namespace Go.Proofs.Ytjdkifljlbpmdaa
open Go.RowKit
theorem rotate_one (w : World) : Calls Try.prog 11 #[.int .u32 1, .int .i64 1] w fun e w' => e = .returned (.tuple #[.int .u32 2147483648, .int .i64 0]) ∧ w = w' := by
  have h := rotate_ok 1#32 1 w (by omega) (by omega)
  rwa [show u 1#32 = 1 from rfl, show u (rotr 1#32 1) = 2147483648 from by decide] at h
theorem rotate_six (w : World) : Calls Try.prog 11 #[.int .u32 6, .int .i64 1] w fun e w' => e = .returned (.tuple #[.int .u32 3, .int .i64 0]) ∧ w = w' := by
  have h := rotate_ok 6#32 1 w (by omega) (by omega)
  rwa [show u 6#32 = 6 from rfl, show u (rotr 6#32 1) = 3 from by decide] at h
theorem choose_zero (y z : BitVec 32) (w : World) :
    Calls Try.prog 15 #[.int .u32 0, .int .u32 (u y), .int .u32 (u z)] w fun e w' => e = .returned (.int .u32 (u z)) ∧ w = w' := by
  have h := choose_any 0#32 y z w
  rwa [show u 0#32 = 0 from rfl, chs_zero] at h
theorem mix_top (w : World) :
    Calls Try.prog 12 #[.int .u32 2147483648, .int .i64 2] w fun e w' => e = .returned (.tuple #[.int .u32 285220864, .int .i64 0]) ∧ w = w' := by
  have h := mix_2 0x80000000#32 w
  rwa [show u 0x80000000#32 = 2147483648 from rfl, show u (mix2 0x80000000#32) = 285220864 from by decide] at h
set_option maxHeartbeats 400000 in
theorem wordRound_walk (x : BitVec 32) (n : Int) (hn : (Lit.int .i64 n).wf = true) (w : World) :
    Calls Try.prog 6 #[.int .u32 (u x), .int .i64 n] w fun e w' => e = .returned (.bool true) ∧ Below w.heap.size w w' := by
  obtain ⟨h0, h1⟩ := i64_range hn
  obtain ⟨g0, g1⟩ := pk_range n 32 (by omega)
  have hb : (rotr (rotr x (pk n 32)) (-pk n 32 % 32) == x) = true := by
    rw [beq_iff_eq]
    have := rotr_back x _ g0 (by omega)
    rwa [show (32 - pk n 32) % 32 = -pk n 32 % 32 from by omega] at this
  go_enter Try.func6, Try.ntmps6
  go_wp2_with fail
  with_reducible refine (picked_any n 32 _ h0 h1 (by omega) (by omega)).mono ?_
  rintro e w' ⟨rfl, rfl⟩
  go_wp2_with fail
  with_reducible refine (rotate_ok x (pk n 32) _ g0 (by omega)).mono ?_
  rintro e w' ⟨rfl, rfl⟩
  go_wp2_with fail
  with_reducible refine (rotate_ok (rotr x (pk n 32)) (-pk n 32 % 32) _ (by omega) (by omega)).mono ?_
  rintro e w' ⟨rfl, rfl⟩
  go_wp2_with fail
  with_reducible refine (rotate_one _).mono ?_
  rintro e w' ⟨rfl, rfl⟩
  go_wp2
  go_ret
  exact ⟨rfl, Below.refl _ _⟩
set_option maxHeartbeats 400000 in
theorem wordTwice_walk (x : BitVec 32) (n m : Int) (hn : (Lit.int .i64 n).wf = true) (hm : (Lit.int .i64 m).wf = true) (w : World) :
    Calls Try.prog 10 #[.int .u32 (u x), .int .i64 n, .int .i64 m] w fun e w' => e = .returned (.bool true) ∧ Below w.heap.size w w' := by
  obtain ⟨h0, h1⟩ := i64_range hn
  obtain ⟨h2, h3⟩ := i64_range hm
  obtain ⟨g0, g1⟩ := pk_range n 32 (by omega)
  obtain ⟨g2, g3⟩ := pk_range m 32 (by omega)
  have hb : (rotr (rotr x (pk n 32)) (pk m 32) == rotr x ((pk n 32 + pk m 32) % 32)) = true := by rw [beq_iff_eq]; exact rotr_rotr x _ _ g0 (by omega) g2 (by omega)
  go_enter Try.func10, Try.ntmps10
  go_wp2_with fail
  with_reducible refine (picked_any n 32 _ h0 h1 (by omega) (by omega)).mono ?_
  rintro e w' ⟨rfl, rfl⟩
  go_wp2_with fail
  with_reducible refine (picked_any m 32 _ h2 h3 (by omega) (by omega)).mono ?_
  rintro e w' ⟨rfl, rfl⟩
  go_wp2_with fail
  with_reducible refine (rotate_ok x (pk n 32) _ g0 (by omega)).mono ?_
  rintro e w' ⟨rfl, rfl⟩
  go_wp2_with fail
  with_reducible refine (rotate_ok (rotr x (pk n 32)) (pk m 32) _ g2 (by omega)).mono ?_
  rintro e w' ⟨rfl, rfl⟩
  go_wp2_with fail
  with_reducible refine (rotate_ok x ((pk n 32 + pk m 32) % 32) _ (by omega) (by omega)).mono ?_
  rintro e w' ⟨rfl, rfl⟩
  go_wp2_with fail
  with_reducible refine (rotate_six _).mono ?_
  rintro e w' ⟨rfl, rfl⟩
  go_wp2
  go_ret
  exact ⟨rfl, Below.refl _ _⟩
set_option maxHeartbeats 400000 in
theorem wordPicks_walk (x y z : BitVec 32) (w : World) :
    Calls Try.prog 7 #[.int .u32 (u x), .int .u32 (u y), .int .u32 (u z)] w fun e w' => e = .returned (.bool true) ∧ Below w.heap.size w w' := by
  have e1 : (chs x y y == y) = true := by rw [beq_iff_eq]; exact chs_same x y
  have e2 : (mst x y y == y) = true := by rw [beq_iff_eq]; exact mst_same x y
  have e3 : (mst x y z == mst z x y) = true := by rw [beq_iff_eq]; exact mst_turn x y z
  have e4 : (mst x y z == mst y x z) = true := by rw [beq_iff_eq]; exact mst_swap x y z
  have e5 : (z == z) = true := by rw [beq_iff_eq]
  go_enter Try.func7, Try.ntmps7
  go_wp2_with (first
    | (go_at_call 16; refine (most_any _ _ _ _).mono ?_; rintro e w' ⟨rfl, rfl⟩)
    | (go_at_call 15; (with_reducible refine (choose_any _ _ _ _).mono ?_); rintro e w' ⟨rfl, rfl⟩)
    | (go_at_call 15; (with_reducible refine (choose_zero _ _ _).mono ?_); rintro e w' ⟨rfl, rfl⟩))
  go_ret
  exact ⟨rfl, Below.refl _ _⟩
set_option maxHeartbeats 1000000 in
theorem wordBits_walk (x y z : BitVec 32) (w : World) :
    Calls Try.prog 4 #[.int .u32 (u x), .int .u32 (u y), .int .u32 (u z)] w fun e w' => e = .returned (.bool true) ∧ Below w.heap.size w w' := by
  have e1 : (chs x y z == chs x y z) = true := by rw [beq_iff_eq]
  have e2 : (mst x y z == mst x y z) = true := by rw [beq_iff_eq]
  go_enter Try.func4, Try.ntmps4
  go_wp2_with (first
    | (go_at_call 16; refine (most_any _ _ _ _).mono ?_; rintro e w' ⟨rfl, rfl⟩)
    | (go_at_call 15; refine (choose_any _ _ _ _).mono ?_; rintro e w' ⟨rfl, rfl⟩)
    | (go_at_call 18; refine (mostOf_any _ _ _ _).mono ?_; rintro e w' ⟨rfl, n, rfl⟩)
    | (go_at_call 17; refine (chosen_any _ _ _ _).mono ?_; rintro e w' ⟨rfl, rfl⟩))
  go_ret
  exact ⟨rfl, below_drewN (Below.refl _ _) _⟩
set_option maxHeartbeats 1000000 in
theorem wordLinear_walk (x y : BitVec 32) (n : Int) (hn : (Lit.int .i64 n).wf = true) (w : World) :
    Calls Try.prog 8 #[.int .u32 (u x), .int .u32 (u y), .int .i64 n] w fun e w' => e = .returned (.bool true) ∧ Below w.heap.size w w' := by
  obtain ⟨h0, h1⟩ := i64_range hn
  obtain ⟨g0, g1⟩ := pk_range n 4 (by omega)
  go_enter Try.func8, Try.ntmps8
  go_wp2_with fail
  with_reducible refine (picked_any n 4 _ h0 h1 (by omega) (by omega)).mono ?_
  rintro e w' ⟨rfl, rfl⟩
  generalize pk n 4 = p at g0 g1 ⊢
  have hc : p = 0 ∨ p = 1 ∨ p = 2 ∨ p = 3 := by omega
  clear h0 h1
  rcases hc with rfl | rfl | rfl | rfl
  · have e1 : (mix0 x ^^^ mix0 y == mix0 (x ^^^ y)) = true := by rw [beq_iff_eq]; exact mix0_xor x y
    go_wp2_with (first
      | (go_at_call 12; (with_reducible refine (mix_0 _ _).mono ?_); rintro e w' ⟨rfl, rfl⟩)
      | (go_at_call 12; (with_reducible refine (mix_top _).mono ?_); rintro e w' ⟨rfl, rfl⟩))
    go_ret
    exact ⟨rfl, Below.refl _ _⟩
  · have e1 : (mix1 x ^^^ mix1 y == mix1 (x ^^^ y)) = true := by rw [beq_iff_eq]; exact mix1_xor x y
    go_wp2_with (first
      | (go_at_call 12; (with_reducible refine (mix_1 _ _).mono ?_); rintro e w' ⟨rfl, rfl⟩)
      | (go_at_call 12; (with_reducible refine (mix_top _).mono ?_); rintro e w' ⟨rfl, rfl⟩))
    go_ret
    exact ⟨rfl, Below.refl _ _⟩
  · have e1 : (mix2 x ^^^ mix2 y == mix2 (x ^^^ y)) = true := by rw [beq_iff_eq]; exact mix2_xor x y
    go_wp2_with (first
      | (go_at_call 12; (with_reducible refine (mix_2 _ _).mono ?_); rintro e w' ⟨rfl, rfl⟩)
      | (go_at_call 12; (with_reducible refine (mix_top _).mono ?_); rintro e w' ⟨rfl, rfl⟩))
    go_ret
    exact ⟨rfl, Below.refl _ _⟩
  · have e1 : (mix3 x ^^^ mix3 y == mix3 (x ^^^ y)) = true := by rw [beq_iff_eq]; exact mix3_xor x y
    go_wp2_with (first
      | (go_at_call 12; (with_reducible refine (mix_3 _ _).mono ?_); rintro e w' ⟨rfl, rfl⟩)
      | (go_at_call 12; (with_reducible refine (mix_top _).mono ?_); rintro e w' ⟨rfl, rfl⟩))
    go_ret
    exact ⟨rfl, Below.refl _ _⟩
end Go.Proofs.Ytjdkifljlbpmdaa

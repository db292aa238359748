/- The law RoomTells: the walk. -/
import Derived.Test.YtnecgnhhghmkoaaGW
namespace Go.Proofs.Ytnecgnhhghmkoaa
open Go.RowKit
set_option maxRecDepth 100000 in
set_option maxHeartbeats 1000000 in
theorem roomTells_walk (A : Option Addr) (n c : Nat) (l : List Bl) (a b : Int) (w : World) (hr : KRd kBl w A n c l) :
    Calls Try.prog 3 #[.slice A n c, .int .i64 a, .int .i64 b] w fun e w' => e = .returned (.bool true) ∧ Below w.heap.size w w' := by
  have H1 : Hid (∀ w, KRd kBl w A n c l → _) := fun w h => used_any A n c l w h
  have H2 : Hid (∀ w, KRd kBl w A n c l → _) := fun w h => lacks_any A n c l a b w h
  have H3 : Hid (∀ w, KRd kBl w A n c l → _) := fun w h => roomUsed_any A n c l w h
  have H4 : Hid (∀ w, KRd kBl w A n c l → _) := fun w h => roomLacks_any A n c l a b w h
  generalize wrap64 (uS l) = u at *
  generalize (rL l a b).1 = x at *
  generalize (rL l a b).2 = y at *
  have q1 : (u == u) = true := by simp
  have q2 : (x == x) = true := by simp
  have q3 : (y == y) = true := by simp
  go_enter Try.func3, Try.ntmps3
  go_wp2_with fail
  with_reducible refine (H1.out _ hr).mono ?_
  rintro e w1 ⟨rfl, hb1⟩
  go_wp2_with fail
  with_reducible refine (H2.out _ (hr.below hb1)).mono ?_
  rintro e w2 ⟨rfl, hb2⟩
  have hbA := below_step hb1 hb2
  go_wp2_with fail
  with_reducible refine (H3.out _ (hr.below hbA)).mono ?_
  rintro e w3 ⟨rfl, rfl⟩
  go_wp2_with fail
  with_reducible refine (H4.out _ (hr.below hbA)).mono ?_
  rintro e w4 ⟨rfl, rfl⟩
  go_wp2
  go_ret
  exact ⟨by simp, hbA⟩
end Go.Proofs.Ytnecgnhhghmkoaa

/- The law RoomFits: the walk. -/
import Derived.Test.YtnecgnhhghmkoaaGW
namespace Go.Proofs.Ytnecgnhhghmkoaa
open Go.RowKit
theorem rL_ways (l : List Bl) (a b : Int) : ((rL l a b).2 = 0 ∧ ((rL l a b).1 = 0 ∧ rF l a b = 0 ∨ 0 < (rL l a b).1 ∧ rF l a b = 7)) ∨ ((rL l a b).2 = 4 ∧ (rL l a b).1 = 0 ∧ rF l a b = 4) := by
  have h : (rL l a b).2 = 0 ∧ 0 ≤ (rL l a b).1 ∨ (rL l a b).2 = 4 ∧ (rL l a b).1 = 0 := by
    unfold rL
    split
    · exact .inr ⟨rfl, rfl⟩
    · split
      · exact .inl ⟨rfl, Int.le_refl _⟩
      · rename_i h; exact .inl ⟨rfl, by show 0 ≤ wrap64 _; omega⟩
  unfold rF
  generalize (rL l a b).1 = x at *
  generalize (rL l a b).2 = y at *
  rcases h with ⟨rfl, h⟩ | ⟨rfl, rfl⟩
  · by_cases hx : 0 < x
    · exact .inl ⟨rfl, .inr ⟨hx, by simp [hx]⟩⟩
    · exact .inl ⟨rfl, .inl ⟨by omega, by simp [hx]⟩⟩
  · exact .inr ⟨rfl, rfl, by simp⟩
set_option maxRecDepth 100000 in
set_option maxHeartbeats 1000000 in
theorem roomFits_walk (A : Option Addr) (n c : Nat) (l : List Bl) (a b : Int) (w : World) (hr : KRd kBl w A n c l) :
    Calls Try.prog 4 #[.slice A n c, .int .i64 a, .int .i64 b] w fun e w' => e = .returned (.bool true) ∧ Below w.heap.size w w' := by
  have H1 : Hid (∀ w, KRd kBl w A n c l → _) := fun w h => fits_any A n c l a b w h
  have H2 : Hid (∀ w, KRd kBl w A n c l → _) := fun w h => roomLacks_any A n c l a b w h
  have hw := rL_ways l a b
  generalize rF l a b = f at *
  generalize (rL l a b).1 = x at *
  generalize (rL l a b).2 = y at *
  rcases hw with ⟨rfl, ⟨rfl, rfl⟩ | ⟨hx, rfl⟩⟩ | ⟨rfl, rfl, rfl⟩
  · go_enter Try.func4, Try.ntmps4
    go_wp2_with fail
    with_reducible refine (H1.out _ hr).mono ?_
    rintro e w1 ⟨rfl, hb1⟩
    go_wp2_with fail
    with_reducible refine (H2.out _ (hr.below hb1)).mono ?_
    rintro e w3 ⟨rfl, rfl⟩
    go_wp2
    go_ret
    exact ⟨rfl, hb1⟩
  · have d1 : decide (0 < x) = true := by simpa using hx
    go_enter Try.func4, Try.ntmps4
    go_wp2_with fail
    with_reducible refine (H1.out _ hr).mono ?_
    rintro e w1 ⟨rfl, hb1⟩
    go_wp2_with fail
    with_reducible refine (H2.out _ (hr.below hb1)).mono ?_
    rintro e w3 ⟨rfl, rfl⟩
    go_wp2
    go_ret
    exact ⟨rfl, hb1⟩
  · go_enter Try.func4, Try.ntmps4
    go_wp2_with fail
    with_reducible refine (H1.out _ hr).mono ?_
    rintro e w1 ⟨rfl, hb1⟩
    go_wp2_with fail
    with_reducible refine (H2.out _ (hr.below hb1)).mono ?_
    rintro e w3 ⟨rfl, rfl⟩
    go_wp2
    go_ret
    exact ⟨rfl, hb1⟩
end Go.Proofs.Ytnecgnhhghmkoaa

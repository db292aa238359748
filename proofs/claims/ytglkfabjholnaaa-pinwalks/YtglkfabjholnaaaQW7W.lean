/- The law PinWalks: the walk. -/
import Derived.Test.YtglkfabjholnaaaQPi
import Derived.Test.YtglkfabjholnaaaGA
import Derived.Test.YtglkfabjholnaaaQIm
import Derived.Below
namespace Go.Proofs.Ytglkfabjholnaaa
open Go.RowKit
set_option maxRecDepth 100000 in
set_option maxHeartbeats 4000000 in
theorem pinWalks_walk (A : Option Addr) (n c : Nat) (l : List Int) (w : World) (hr : Rd w 1 A n c (l.map iv)) (hW : ∀ x ∈ l, (Lit.int .i64 x).wf = true) :
    Calls Try.prog 5 #[.slice A n c] w fun e w' => e = .returned (.bool true) ∧ Below w.heap.size w w' := by
  obtain rfl := hr.len
  have HW := Lib.hid hW
  have hcm := hr.2.1
  have hcx := hr.2.2.1
  unfold maxLen at hcx
  have Ht := Lib.hid (show Mv 2 true 3 0 by unfold Mv; simp)
  clear hW
  go_enter Try.func5, Try.ntmps5
  go_wp2
  go_loop [3, 4, 5, 6, 7, 8, 9, 14, 32, 52, 55] (fun p q _ _ _ _ _ i _ _ _ => ∃ j k : Nat, j ≤ l.length ∧ k ≤ 5 ∧ p = .int .i64 k ∧ q = .int .i64 k ∧ i = .int .i64 j) (fun _ _ _ _ _ _ _ i _ _ _ => l.length - (intOf i).toNat)
  case atStart => exact ⟨0, 0, Nat.zero_le _, Nat.zero_le _, rfl, rfl, rfl⟩
  case round =>
    obtain ⟨j, k, hj, hk, rfl, rfl, rfl⟩ := hrel
    by_cases hlt : j < l.length
    · have hji : (j : Int) < (l.length : Int) := by omega
      obtain ⟨b, off, rfl, hcell⟩ := hr.at (k := j) (v := .int .i64 l[j]) (by rw [List.getElem?_map, List.getElem?_eq_getElem hlt]; rfl)
      by_cases h50 : 50 < j
      · have q0 : (50 : Int) < (j : Int) := by omega
        go_wp2_with fail
        with_reducible refine (move_at _ true 3 0 _ Ht.out).mono ?_
        rintro x w' ⟨rfl, rfl⟩
        go_wp2
        go_ret
        exact ⟨rfl, Below.refl _ _⟩
      · have q0 : ¬ (50 : Int) < (j : Int) := by omega
        obtain ⟨x0, x1⟩ := i64_range (HW.out l[j] (List.getElem_mem hlt))
        obtain ⟨a, ha, ha2⟩ := pk_nat l[j] 2 (by omega)
        have Ha := Lib.hid ha
        clear ha
        rcases (show a = 0 ∨ a = 1 by omega) with rfl | rfl
        · by_cases h5 : k = 5
          · subst h5
            have Hm := Lib.hid (show Mv 5 true 0 7 by unfold Mv; simp)
            go_wp2_with fail
            with_reducible refine (picked_any l[j] 2 _ x0 x1 (by omega) (by omega)).mono ?_
            rintro x w' ⟨rfl, rfl⟩
            rw [Ha.out]
            go_wp2_with fail
            with_reducible refine (move_at _ true 0 7 _ Hm.out).mono ?_
            rintro x w' ⟨rfl, rfl⟩
            go_wp2
            go_round
            case rel => exact ⟨j + 1, 5, by omega, by omega, rfl, rfl, by go_num⟩
            case measure => simp [intOf]; omega
          · obtain ⟨m, hm⟩ : ∃ m : Nat, k + 1 = m := ⟨_, rfl⟩
            have Hm := Lib.hid (show Mv (k : Int) true m 0 by unfold Mv; simp; omega)
            have HM := Lib.hid hm
            have q1 : ((k : Int) == 5) = false := by simp; omega
            have q2 : ((m : Int) == (k : Int) + 1) = true := by simp; omega
            clear hm
            go_wp2_with fail
            with_reducible refine (picked_any l[j] 2 _ x0 x1 (by omega) (by omega)).mono ?_
            rintro x w' ⟨rfl, rfl⟩
            rw [Ha.out]
            go_wp2_with fail
            with_reducible refine (move_at _ true m 0 _ Hm.out).mono ?_
            rintro x w' ⟨rfl, rfl⟩
            go_wp2
            go_round
            case rel => exact ⟨j + 1, m, by omega, by have := HM.out; omega, rfl, by rw [← HM.out]; go_num, by go_num⟩
            case measure => simp [intOf]; omega
        · by_cases h5 : k = 0
          · subst h5
            have Hm := Lib.hid (show Mv 0 false 0 11 by unfold Mv; simp)
            go_wp2_with fail
            with_reducible refine (picked_any l[j] 2 _ x0 x1 (by omega) (by omega)).mono ?_
            rintro x w' ⟨rfl, rfl⟩
            rw [Ha.out]
            go_wp2_with fail
            with_reducible refine (move_at _ false 0 11 _ Hm.out).mono ?_
            rintro x w' ⟨rfl, rfl⟩
            go_wp2
            go_round
            case rel => exact ⟨j + 1, 0, by omega, by omega, rfl, rfl, by go_num⟩
            case measure => simp [intOf]; omega
          · obtain ⟨m, hm⟩ : ∃ m : Nat, k = m + 1 := ⟨k - 1, by omega⟩
            have Hm := Lib.hid (show Mv (k : Int) false m 0 by unfold Mv; simp; omega)
            have HM := Lib.hid hm
            have q1 : ((k : Int) == 0) = false := by simp; omega
            have q2 : ((m : Int) == (k : Int) - 1) = true := by simp; omega
            have q3 : 0 < (k : Int) := by omega
            clear hm
            go_wp2_with fail
            with_reducible refine (picked_any l[j] 2 _ x0 x1 (by omega) (by omega)).mono ?_
            rintro x w' ⟨rfl, rfl⟩
            rw [Ha.out]
            go_wp2_with fail
            with_reducible refine (move_at _ false m 0 _ Hm.out).mono ?_
            rintro x w' ⟨rfl, rfl⟩
            go_wp2
            go_round
            case rel => exact ⟨j + 1, m, by omega, by have := HM.out; omega, rfl, by rw [HM.out]; go_num, by go_num⟩
            case measure => simp [intOf]; omega
    · have hjd : decide ((j : Int) < (l.length : Int)) = false := by simp; omega
      go_wp2_with fail
      with_reducible refine (move_at _ true 3 0 _ Ht.out).mono ?_
      rintro x w' ⟨rfl, rfl⟩
      go_wp2
      go_ret
      exact ⟨rfl, Below.refl _ _⟩
end Go.Proofs.Ytglkfabjholnaaa

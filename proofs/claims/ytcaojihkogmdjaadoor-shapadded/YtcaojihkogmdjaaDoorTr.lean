/- strings.Trim of zero bytes. -/
import Derived.Test.YtcaojihkogmdjaaDoorRows
import Derived.Test.YtcaojihkogmdjaaDoorMem
import Derived.Lib.Hide
import Derived.IntWalk
import Derived.StillTailTactics
namespace Go.Proofs.YtcaojihkogmdjaaDoor
open Go.RowKit
def zs (j : Nat) : List UInt8 := List.replicate j 0
theorem zs_length (j : Nat) : (zs j).length = j := by simp [zs]
theorem str_take (l : List UInt8) (j : Nat) : (str l).extract 0 j = str (l.take j) := by
  apply ByteArray.ext
  simp [str, ByteArray.data_extract]
theorem zs_take (j : Nat) : (zs (j + 1)).take j = zs j := by simp [zs, List.take_replicate]
/-- how many bytes a string value has -/
def lenS : Value → Nat
  | .string s => s.size
  | _ => 0
set_option maxHeartbeats 400000 in
theorem trimR_any (z : Nat) (w : World) (hz : z ≤ 4096) :
    Calls Tryd.prog 7 #[.string (str (zs z)), .int .u8 0] w fun e w' => e = .returned (.string (str [])) ∧ w' = w := by
  go_enter Tryd.func7, Tryd.ntmps7
  go_wp2
  go_loop [0] (fun s => ∃ j : Nat, j ≤ z ∧ s = .string (str (zs j))) (fun s => lenS s)
  case atStart => exact ⟨z, Nat.le_refl _, rfl⟩
  case round =>
    obtain ⟨j, hj, rfl⟩ := hrel
    rcases j with _ | j
    · go_wp2
      go_ret
      exact ⟨rfl, rfl⟩
    · obtain ⟨l, hl⟩ : ∃ l, zs (j + 1) = l := ⟨_, rfl⟩
      have hlen : l.length = j + 1 := by rw [← hl, zs_length]
      have hget : ∀ (i : Nat) (h : i < l.length), l[i] = 0 := fun i h => by subst hl; simp [zs]
      have Hl := Lib.hid hl
      rw [hl]
      clear hl
      have hy0 : y8 0 = 0 := rfl
      go_wp2
      go_round
      case rel => exact ⟨j, by omega, by rw [str_take, ← Hl.out, zs_take]⟩
      case measure => rw [str_take, ← Hl.out, zs_take]; simp only [lenS]; rw [str_size, str_size, zs_length, zs_length]; omega
set_option maxHeartbeats 400000 in
theorem trimL_nil (w : World) :
    Calls Tryd.prog 6 #[.string (str []), .int .u8 0] w fun e w' => e = .returned (.string (str [])) ∧ w' = w := by
  go_enter Tryd.func6, Tryd.ntmps6
  go_wp2
  go_loop [0] (fun s => s = .string (str [])) (fun _ => 0)
  case atStart => exact rfl
  case round =>
    obtain rfl := hrel
    go_wp2
    go_ret
    exact ⟨rfl, rfl⟩
set_option maxHeartbeats 400000 in
theorem trim_any (z : Nat) (w : World) (hz : z ≤ 4096) :
    Calls Tryd.prog 5 #[.string (str (zs z)), .string (str [0])] w fun e w' => e = .returned (.string (str [])) ∧ ∃ n, w' = w.drewN n := by
  rcases z with _ | z
  · have h0 : zs 0 = [] := rfl
    rw [h0]
    have e0 : (([] : List UInt8) == []) = true := rfl
    go_enter Tryd.func5, Tryd.ntmps5
    go_wp2
    go_ret
    exact ⟨rfl, 0, rfl⟩
  · have hR := fun w => trimR_any (z + 1) w hz
    obtain ⟨l, hl⟩ : ∃ l, zs (z + 1) = l := ⟨_, rfl⟩
    have hlen : l.length = z + 1 := by rw [← hl, zs_length]
    have e1 : (l == []) = false := by rw [beq_eq_false_iff_ne]; rintro rfl; simp at hlen
    rw [hl] at hR ⊢
    clear hl
    have hy0 : y8 0 = 0 := rfl
    go_enter Tryd.func5, Tryd.ntmps5
    go_wp2
    refine wp_region_still_lit (by kernel_rfl) (by kernel_rfl) ?_
    repeat still_step
    still_call (hR _)
    repeat still_step
    still_call (trimL_nil _)
    repeat still_step
    refine wpStill_nil ?_
    change Exit.then _ _ Exit.normal _ w.drew
    go_wp2
    go_ret
    exact ⟨rfl, 1, rfl⟩
end Go.Proofs.YtcaojihkogmdjaaDoor

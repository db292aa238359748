/- What the reference's functions of chapter 1 on single words return: bit by bit, and by tables. -/
import Derived.Test.YtjdkifljlbpmdaaW1a
namespace Go.Proofs.Ytjdkifljlbpmdaa
open Go.RowKit
set_option maxHeartbeats 400000 in
theorem chosen_any (x y z : BitVec 32) (w : World) :
    Calls Try.prog 17 #[.int .u32 (u x), .int .u32 (u y), .int .u32 (u z)] w fun e w' => e = .returned (.int .u32 (u (chs x y z))) ∧ w = w' := by
  go_enter Try.func17, Try.ntmps17
  go_wp2
  go_loop [7, 8, 9] (fun o i _ => ∃ k : Nat, k ≤ 32 ∧ i = .int .i64 k ∧ o = .int .u32 (u (low (chs x y z) k))) (fun _ i _ => 32 - (intOf i).toNat)
  case atStart => exact ⟨0, by omega, rfl, by rw [low_zero]; rfl⟩
  case round =>
    obtain ⟨k, hk, rfl, rfl⟩ := hrel
    by_cases hlt : k < 32
    · have hs := low_succ (chs x y z) k hlt
      have hb := chs_bit x y z k hlt
      have HS : Hid (low (chs x y z) k + bitAt (chs x y z) k <<< k = low (chs x y z) (k + 1)) := hs
      have HB : Hid (bitAt (chs x y z) k = if bitAt x k = 1#32 then bitAt y k else bitAt z k) := hb
      clear hs hb
      by_cases h1 : (x >>> k &&& 1#32 == 1#32) = true
      · go_wp2
        go_round
        case rel => exact ⟨k + 1, by omega, by go_num, by rw [← HS.out, HB.out, if_pos (by simpa [bitAt] using h1)]; rfl⟩
        case measure => simp [intOf]; omega
      · have h2 : (x >>> k &&& 1#32 == 1#32) = false := by simpa using h1
        clear h1
        go_wp2
        go_round
        case rel => exact ⟨k + 1, by omega, by go_num, by rw [← HS.out, HB.out, if_neg (by simpa [bitAt] using h2)]; rfl⟩
        case measure => simp [intOf]; omega
    · obtain rfl : k = 32 := by omega
      go_wp2
      go_ret
      exact ⟨ret_u (low_full (chs x y z)), rfl⟩
set_option maxHeartbeats 400000 in
theorem mostOf_any (x y z : BitVec 32) (w : World) :
    Calls Try.prog 18 #[.int .u32 (u x), .int .u32 (u y), .int .u32 (u z)] w fun e w' => e = .returned (.int .u32 (u (mst x y z))) ∧ ∃ n, w' = w.drewN n := by
  go_enter Try.func18, Try.ntmps18
  go_wp2
  go_loopw [7, 8] (fun o i wr => ∃ k d : Nat, k ≤ 32 ∧ i = .int .i64 k ∧ o = .int .u32 (u (low (mst x y z) k)) ∧ wr = w.drewN d) (fun _ i _ => 32 - (intOf i).toNat)
  case atStart => exact ⟨0, 0, by omega, rfl, by rw [low_zero]; rfl, rfl⟩
  case round =>
    obtain ⟨k, d, hk, rfl, rfl, rfl⟩ := hrel
    by_cases hlt : k < 32
    · have hs := low_succ (mst x y z) k hlt
      have hb := mst_bit x y z k hlt
      have HS : Hid (low (mst x y z) k + bitAt (mst x y z) k <<< k = low (mst x y z) (k + 1)) := hs
      have HB : Hid (bitAt (mst x y z) k = if 1 < u ((x >>> k &&& 1#32) + (y >>> k &&& 1#32) + (z >>> k &&& 1#32)) then 1#32 else 0#32) := hb
      clear hs hb
      by_cases h1 : 1 < u ((x >>> k &&& 1#32) + (y >>> k &&& 1#32) + (z >>> k &&& 1#32))
      · go_wp2
        go_quiet (fail)
        go_wp2
        go_roundw
        case rel => exact ⟨k + 1, _, by omega, by go_num, by rw [← HS.out, HB.out, if_pos h1, bv_add], rfl⟩
        case measure => simp [intOf]; omega
      · go_wp2
        go_quiet (fail)
        go_wp2
        go_roundw
        case rel => exact ⟨k + 1, _, by omega, by go_num, by rw [← HS.out, HB.out, if_neg (by omega)]; simp, rfl⟩
        case measure => simp [intOf]; omega
    · obtain rfl : k = 32 := by omega
      go_wp2
      go_ret
      exact ⟨ret_u (low_full (mst x y z)), _, rfl⟩
end Go.Proofs.Ytjdkifljlbpmdaa

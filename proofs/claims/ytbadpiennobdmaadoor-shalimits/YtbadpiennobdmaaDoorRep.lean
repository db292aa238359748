/- slices.Repeat of one byte, 2000 times. -/
import Derived.Test.YtbadpiennobdmaaDoorCp
import Derived.Test.YtbadpiennobdmaaDoorMb
import Derived.Test.YtbadpiennobdmaaDoorI8
import Derived.StillTailTactics
import Derived.Deep.RegionLaw
import Derived.IntWalk
namespace Go.Proofs.YtbadpiennobdmaaDoor
open Go.RowKit
set_option maxHeartbeats 400000 in
theorem mulU_any (x y hi lo : Nat) (hx : x < 18446744073709551616) (hy : y < 18446744073709551616) (eh : x * y / 18446744073709551616 = hi) (el : x * y % 18446744073709551616 = lo) (w : World) :
    Calls Tryd.prog 45 #[.int .u64 x, .int .u64 y] w fun e w' => e = .returned (.tuple #[.int .u64 (hi : Int), .int .u64 (lo : Int)]) ∧ w = w' := by
  go_enter Tryd.func45, Tryd.ntmps45
  go_wp2_with ((with_reducible refine (mul64_any x y hi lo hx hy eh el _).mono ?_); rintro e w' ⟨rfl, rfl⟩)
  go_ret2
  exact ⟨rfl, rfl⟩
theorem mul1_2000 (w : World) : Calls Tryd.prog 45 #[.int .u64 1, .int .u64 2000] w fun e w' => e = .returned (.tuple #[.int .u64 0, .int .u64 2000]) ∧ w = w' := mulU_any 1 2000 0 2000 (by omega) (by omega) rfl rfl w
/-- k of 2000 bytes filled -/
def fillR (x : UInt8) (k : Nat) : List Value := (List.replicate k x).map bv8 ++ reps (2000 - k) (.int .u8 0)
theorem fillR_length (x : UInt8) (k : Nat) (h : k ≤ 2000) : (fillR x k).length = 2000 := by unfold fillR; simp [reps]; omega
theorem fillR_end (x : UInt8) : fillR x 2000 = (List.replicate 2000 x).map bv8 := by
  unfold fillR
  rw [Nat.sub_self, show reps 0 (Value.int .u8 0) = [] from rfl, List.append_nil]
theorem fillR_start (x : UInt8) : [bv8 x] ++ (reps 2000 (.int .u8 0)).drop 1 = fillR x 1 := by
  unfold fillR reps; rw [List.drop_replicate]; rfl
theorem fillR_splice (x : UInt8) (k d : Nat) : splice (fillR x k) k ((List.replicate d x).map bv8) = fillR x (k + d) := by
  unfold splice fillR reps
  rw [List.take_left' (by simp), List.length_map, List.length_replicate, List.drop_append, List.length_map, List.length_replicate, List.drop_of_length_le (by simp), List.nil_append, List.drop_replicate, Nat.add_sub_cancel_left, ← List.append_assoc, ← List.map_append, List.replicate_append_replicate, show 2000 - k - d = 2000 - (k + d) from by omega]
set_option maxRecDepth 100000 in
set_option maxHeartbeats 1000000 in
theorem repeat_one (x : UInt8) (g0 c : Nat) (w : World) (hr : Rd w 1 (some ⟨g0, 0, none⟩) 1 c ([x].map bv8)) :
    Calls Tryd.prog 22 #[.slice (some ⟨g0, 0, none⟩) 1 c, .int .i64 2000] w fun e w' => ∃ g, e = .returned (.slice (some ⟨g, 0, none⟩) 2000 2000) ∧ w.heap.size ≤ g ∧ Blk w' g 5 ((List.replicate 2000 x).map bv8) ∧ Below w.heap.size w w' := by
  obtain ⟨i0, hi0, hz0, hz1, hz2⟩ := info_parts u8_info
  have hmk := run_make1 (P := Tryd.prog) Tryd.underlying27 hi0 hz0 hz1 rfl hz2 2000 2000 rfl (by omega) (by omega)
  have hb0 := (Below.refl w.heap.size w).alloc (Nat.le_refl _) (.cells (reps 2000 (.int .u8 0)).toArray 5)
  have hr0 := hr.below hb0
  have hb1' : ∀ y ∈ [x].map bv8, y.oneCell' = true := by intro y hy; simp at hy; subst hy; rfl
  go_enter Tryd.func22, Tryd.ntmps22
  go_wp2_with (first
    | ((with_reducible refine (mul1_2000 _).mono ?_); rintro e w' ⟨rfl, rfl⟩)
    | ((with_reducible refine at_copy ?_); refine wpList_copyR rfl (.tmp 31) (.tmp 32) _ _ rfl Tryd.underlying27 hi0 hz1 w.heap.size 2000 2000 rfl rfl (reps 2000 (.int .u8 0)) 5 (Blk.new w _ _) hr0 (by omega) (by rw [reps_length]; omega) hb1' w.heap.size w hb0 (Nat.le_refl _) ?_; intro w1 HG1 hb1))
  have hg1 : Blk w1 w.heap.size 5 (fillR x 1) := by rw [← fillR_start]; exact HG1.out
  clear HG1 hb0 hr0
  go_loopw [8] (fun q wr => ∃ k : Nat, 1 ≤ k ∧ k ≤ 2000 ∧ q = .int .i64 k ∧ Blk wr w.heap.size 5 (fillR x k) ∧ Below w.heap.size w wr) (fun q _ => 2000 - (intOf q).toNat)
  case atStart => exact ⟨1, by omega, by omega, rfl, hg1, hb1⟩
  case round =>
    clear hg1 hb1
    obtain ⟨k, hk1, hk2, rfl, hg, hbel⟩ := hrel
    by_cases hlt : k < 2000
    · have q1 : (k : Int) < 2000 := by omega
      have q2 : (k : Int) ≤ 2000 := by omega
      have q3 : ¬ 2000 = k := by omega
      obtain ⟨d, hd⟩ : ∃ d, d = min k (2000 - k) := ⟨_, rfl⟩
      have hd1 : 1 ≤ d ∧ d ≤ k ∧ k + d ≤ 2000 := by omega
      have hcl : ∀ (j : Nat) v, ((List.replicate d x).map bv8)[j]? = some v → wr.drew.cell? ⟨w.heap.size, j, none⟩ = some v := fun j v hj => by
        refine (hg.cell j).trans ?_
        unfold fillR
        have hjd : j < d := by
          rcases Nat.lt_or_ge j d with h | h
          · exact h
          · rw [List.getElem?_eq_none (by simp; exact h)] at hj; cases hj
        rw [List.getElem?_append_left (by simp; omega), ← hj, List.getElem?_map, List.getElem?_map, List.getElem?_replicate, List.getElem?_replicate, if_pos (by omega), if_pos hjd]
      have HC := Lib.hid hcl
      have Hsp := Lib.hid (fillR_splice x k d)
      have Hd := Lib.hid hd
      have hone : ∀ v ∈ (List.replicate d x).map bv8, v.oneCell' = true := fun v hv => by
        obtain ⟨y, _, rfl⟩ := List.mem_map.1 hv
        rfl
      have hlen : ((List.replicate d x).map bv8).length = d := by simp
      generalize hcs : (List.replicate d x).map bv8 = cs at *
      clear hcl hd hcs
      have hwr : IntKind.i64.wrap ((k : Int) + (d : Int)) = (k : Int) + (d : Int) := IntWalk.i64_in _ (by omega)
      go_wp2
      go_region_law (refine step_copy_splice rfl (.tmp 41) (.tmp 44) _ _ rfl 5 Tryd.underlying27 (by rw [hi0]; simp [hz1]) (some ⟨w.heap.size, k, none⟩) (some ⟨w.heap.size, 0, none⟩) (2000 - k) (2000 - k) k 2000 (by simp [Act.eval, Act.put]) (by simp [Act.eval, Act.put]) w.heap.size k (fillR x k) 5 hg.drew cs (by rw [hlen]; exact Hd.out) (fun _ => ⟨rfl, _, rfl, fun j v hj => by rw [addr_addR, Nat.zero_add]; exact HC.out j v hj⟩) (by rw [hlen, fillR_length x k hk2]; omega) hone w.heap.size w hbel.drew (Nat.le_refl _) ?_; rw [hlen, Hsp.out]; intro w3 HG3 hb3)
      all_goals
        go_wp2
        refine ⟨?_, ?_⟩
        · repeat apply Exists.intro
          exact ⟨⟨k + d, by omega, by omega, by go_num, HG3.out, hb3⟩, rfl⟩
        · show 2000 - (intOf (.int .i64 ((k : Int) + (d : Int)))).toNat < 2000 - (intOf (.int .i64 (k : Int))).toNat
          simp only [intOf]
          omega
    · have hk' : k = 2000 := by omega
      have hd : decide ((k : Int) < 2000) = false := by simp; omega
      rw [hk', fillR_end] at hg
      clear hk'
      go_wp2
      go_ret
      exact ⟨_, rfl, Nat.le_refl _, hg, hbel⟩
end Go.Proofs.YtbadpiennobdmaaDoor

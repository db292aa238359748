/- The program's Pad. -/
import Derived.Test.YtcaojihkogmdjaaDoorCp
import Derived.Test.YtcaojihkogmdjaaDoorI8
import Derived.IntWalk
namespace Go.Proofs.YtcaojihkogmdjaaDoor
open Go.RowKit
theorem bytes_oneC (l : List UInt8) : ∀ y ∈ l.map bv8, y.oneCell' = true := by
  intro y hy
  obtain ⟨x, _, rfl⟩ := List.mem_map.1 hy
  rfl
set_option maxHeartbeats 400000 in
theorem spad_big (A : Option Addr) (n c : Nat) (w : World) (h : 2000 < n) (hn : n ≤ 9223372036854775807) :
    Calls Tryd.prog 4 #[.slice A n c] w fun e w' => e = .returned (.tuple #[.slice none 0 0, .int .i64 1]) ∧ w = w' := by
  go_enter Tryd.func4, Tryd.ntmps4
  go_wp2
  go_ret2
  exact ⟨rfl, rfl⟩
set_option maxHeartbeats 1000000 in
theorem spad_ok (A : Option Addr) (n c : Nat) (l : List UInt8) (w : World) (hr : Rd w 1 A n c (l.map bv8)) (h : n ≤ 2000) :
    Calls Tryd.prog 4 #[.slice A n c] w fun e w' => ∃ g, e = .returned (.tuple #[.slice (some ⟨g, 0, none⟩) (pad l).length (pad l).length, .int .i64 0]) ∧ Blk w' g 5 ((pad l).map bv8) ∧ Below w.heap.size w w' := by
  obtain rfl := hr.len
  obtain ⟨i0, hi0, hz0, hz1, hz2⟩ := info_parts u8_info
  have hd : decide (2000 < (l.length : Int)) = false := by simp; omega
  obtain ⟨L, hL⟩ : ∃ L, L = l.length + 9 + zeros l.length := ⟨_, rfl⟩
  have hLr : (l.length + 9 + 64 - 1) / 64 * 64 = L := (pad_room _).trans hL.symm
  have hzl := zeros_lt l.length
  have hL2 : l.length + 9 ≤ L ∧ L ≤ 2072 := by omega
  obtain ⟨hL3, hL4⟩ := hL2
  have HL := Lib.hid hL
  clear hL hzl
  have hmk := run_make1 (P := Tryd.prog) Tryd.underlying22 hi0 hz0 hz1 rfl hz2 (((l.length : Int) + 9 + 64 - 1) / 64 * 64) L (by omega) (by omega) (by omega)
  have hb0 := (Below.refl w.heap.size w).alloc (Nat.le_refl _) (.cells (reps L (.int .u8 0)).toArray 5)
  have hr0 := hr.below hb0
  go_enter Tryd.func4, Tryd.ntmps4
  go_wp2_with ((with_reducible refine at_copy ?_); refine wpList_copyR rfl (.tmp 20) (.tmp 21) _ _ rfl Tryd.underlying22 hi0 hz1 w.heap.size L L rfl rfl (reps L (.int .u8 0)) 5 (Blk.new w _ _) hr0 (by omega) (by rw [reps_length]; omega) (bytes_oneC l) w.heap.size w hb0 (Nat.le_refl _) ?_; intro w1 HG1 hb1; have c0 := (HG1.out.cell l.length).trans (padW_mid l L HL.out); have f0 := HG1.out.frozen l.length; have s0 := HG1.out.put l.length (.int .u8 128); rw [padW_zero l L HL.out] at s0; have S0 := Lib.hid s0; clear s0)
  have hb2 := hb1.setCell (p := ⟨w.heap.size, l.length, none⟩) (Nat.le_refl _) (.int .u8 128)
  clear c0 f0 HG1 hb1 hr0 hb0
  go_loopw [7, 31] (fun _ q wr => ∃ k : Nat, k ≤ 8 ∧ q = .int .i64 k ∧ Blk wr w.heap.size 5 ((padW l k).map bv8) ∧ Below w.heap.size w wr) (fun _ q _ => 8 - (intOf q).toNat)
  case atStart => exact ⟨0, by omega, rfl, S0.out, hb2⟩
  case round =>
    clear S0 hb2
    obtain ⟨k, hk, rfl, hblk, hbel⟩ := hrel
    by_cases hlt : k < 8
    · have c0 : wr.cell? ⟨w.heap.size, L - 1 - k, none⟩ = some (.int .u8 0) := (hblk.cell (L - 1 - k)).trans (by rw [HL.out]; exact padW_at l k hlt)
      have f0 := hblk.frozen (L - 1 - k)
      have s0 := hblk.put (L - 1 - k) (.int .u8 (y8 (UInt8.ofNat ((l.length * 8) >>> (8 * k)))))
      have e0 : ((padW l k).map bv8).set (L - 1 - k) (.int .u8 (y8 (UInt8.ofNat ((l.length * 8) >>> (8 * k))))) = (padW l (k + 1)).map bv8 := by rw [HL.out]; exact padW_step l k hlt
      rw [e0] at s0
      have S0 := Lib.hid s0
      clear s0 e0 hblk
      have n0 : ((L : Int) - 1 - k).toNat = L - 1 - k := by omega
      have e1 := shr_y8 l.length k
      generalize UInt8.ofNat ((l.length * 8) >>> (8 * k)) = xk at *
      go_wp2
      go_roundw
      case rel => exact ⟨k + 1, by omega, by go_num, S0.out, hbel.setCell (p := ⟨w.heap.size, L - 1 - k, none⟩) (Nat.le_refl _) _⟩
      case measure => simp [intOf]; omega
    · have hk8 : k = 8 := by omega
      subst hk8
      rw [padW_end] at hblk
      have hpl : (pad l).length = L := by rw [pad_length]; exact HL.out.symm
      go_wp2
      go_ret2
      exact ⟨_, by rw [hpl]; rfl, hblk, hbel⟩
end Go.Proofs.YtcaojihkogmdjaaDoor

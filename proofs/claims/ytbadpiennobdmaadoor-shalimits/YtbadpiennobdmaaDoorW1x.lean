/- Words to bytes: what the program's Bytes returns. -/
import Derived.Test.YtbadpiennobdmaaDoorW1w
import Derived.Test.YtbadpiennobdmaaDoorI8
namespace Go.Proofs.YtbadpiennobdmaaDoor
open Go.RowKit
set_option maxHeartbeats 400000 in
theorem bytes_big (A : Option Addr) (n c : Nat) (w : World) (h : 2000 < n) (hn : n ≤ 9223372036854775807) :
    Calls Tryd.prog 18 #[.slice A n c] w fun e w' => e = .returned (.tuple #[.slice none 0 0, .int .i64 1]) ∧ w = w' := by
  go_enter Tryd.func18, Tryd.ntmps18
  go_wp2
  go_ret2
  exact ⟨rfl, rfl⟩
set_option maxHeartbeats 1000000 in
theorem bytes_ok (A : Option Addr) (n c : Nat) (l : List (BitVec 32)) (w : World) (hr : Rd w 1 A n c (l.map wv)) (h : n ≤ 2000) :
    Calls Tryd.prog 18 #[.slice A n c] w fun e w' => ∃ g, e = .returned (.tuple #[.slice (some ⟨g, 0, none⟩) (4 * n) (4 * n), .int .i64 0]) ∧ Blk w' g 5 ((bytesW l).map bv8) ∧ Below w.heap.size w w' := by
  obtain rfl := hr.len
  obtain ⟨i0, hi0, hz0, hz1, hz2⟩ := info_parts u8_info
  have hmk := run_make1 (P := Tryd.prog) Tryd.underlying27 hi0 hz0 hz1 rfl hz2 (4 * (l.length : Int)) (4 * l.length) (by omega) (by omega) (by omega)
  have hd : decide (2000 < (l.length : Int)) = false := by simp; omega
  go_enter Tryd.func18, Tryd.ntmps18
  go_wp2
  go_loopw [5, 6, 16] (fun _ _ i wr => ∃ k : Nat, k ≤ l.length ∧ i = .int .i64 k ∧ Blk wr w.heap.size 5 (((bytesW l).map bv8).take (4 * k) ++ reps (4 * l.length - 4 * k) (.int .u8 0)) ∧ Below w.heap.size w wr) (fun _ _ i _ => l.length - (intOf i).toNat)
  case atStart => exact ⟨0, by omega, rfl, by simpa using Blk.new w _ _, (Below.refl _ _).alloc (Nat.le_refl _) _⟩
  case round =>
    obtain ⟨k, hk, rfl, hblk, hbel⟩ := hrel
    by_cases hlt : k < l.length
    · obtain ⟨b, off, rfl, hbl, hcell⟩ := hr.addr (by simp; omega)
      have h0 : wr.cell? ⟨b, off + k, none⟩ = some (.int .u32 (u (l[k]'(by omega)))) := (hbel.cell (p := ⟨b, off + k, none⟩) hbl).trans (hcell k _ (by rw [List.getElem?_map, List.getElem?_eq_getElem (by omega)]; rfl))
      have hL : ((bytesW l).map bv8).length = 4 * l.length := by rw [List.length_map, bytesW_length]
      have at0 : ((bytesW l).map bv8)[4 * k]? = some (.int .u8 (y8 (by8 (l[k] >>> 24)))) := by rw [List.getElem?_map]; have := bytesW_at l k hlt 0 (by omega); rw [Nat.add_zero] at this; rw [this]; rfl
      have at1 : ((bytesW l).map bv8)[4 * k + 1]? = some (.int .u8 (y8 (by8 (l[k] >>> 16)))) := by rw [List.getElem?_map, bytesW_at l k hlt 1 (by omega)]; rfl
      have at2 : ((bytesW l).map bv8)[4 * k + 2]? = some (.int .u8 (y8 (by8 (l[k] >>> 8)))) := by rw [List.getElem?_map, bytesW_at l k hlt 2 (by omega)]; rfl
      have at3 : ((bytesW l).map bv8)[4 * k + 3]? = some (.int .u8 (y8 (by8 l[k]))) := by rw [List.getElem?_map, bytesW_at l k hlt 3 (by omega)]; rfl
      have s0 := hblk.put (4 * k) (.int .u8 (y8 (by8 (l[k] >>> 24))))
      rw [fill_step (by omega) at0] at s0
      have s1 := s0.put (4 * k + 1) (.int .u8 (y8 (by8 (l[k] >>> 16))))
      rw [fill_step (by omega) at1] at s1
      have s2 := s1.put (4 * k + 1 + 1) (.int .u8 (y8 (by8 (l[k] >>> 8))))
      rw [fill_step (by omega) at2] at s2
      have s3 := s2.put (4 * k + 1 + 1 + 1) (.int .u8 (y8 (by8 l[k])))
      rw [fill_step (by omega) at3] at s3
      have c0 := (hblk.cell (4 * k)).trans (fill_at (by omega) (by omega))
      have c1 := (s0.cell (4 * k + 1)).trans (fill_at (by omega) (by omega))
      have c2 := (s1.cell (4 * k + 1 + 1)).trans (fill_at (by omega) (by omega))
      have c3 := (s2.cell (4 * k + 1 + 1 + 1)).trans (fill_at (by omega) (by omega))
      have f0 := hblk.frozen (4 * k)
      have f1 := s0.frozen (4 * k + 1)
      have f2 := s1.frozen (4 * k + 1 + 1)
      have f3 := s2.frozen (4 * k + 1 + 1 + 1)
      have H3 := Lib.hid s3
      clear s0 s1 s2 s3 at0 at1 at2 at3 hL hblk hcell
      have n0 : ((4 : Int) * k).toNat = 4 * k := by omega
      have n1 : ((4 : Int) * k + 1).toNat = 4 * k + 1 := by omega
      have n2 : ((4 : Int) * k + 2).toNat = 4 * k + 1 + 1 := by omega
      have n3 : ((4 : Int) * k + 3).toNat = 4 * k + 1 + 1 + 1 := by omega
      go_wp2
      go_roundw
      case rel => exact ⟨k + 1, by omega, by go_num, H3.out, (((hbel.setCell (p := ⟨w.heap.size, 4 * k, none⟩) (Nat.le_refl _) _).setCell (p := ⟨w.heap.size, 4 * k + 1, none⟩) (Nat.le_refl _) _).setCell (p := ⟨w.heap.size, 4 * k + 1 + 1, none⟩) (Nat.le_refl _) _).setCell (p := ⟨w.heap.size, 4 * k + 1 + 1 + 1, none⟩) (Nat.le_refl _) _⟩
      case measure => simp [intOf]; omega
    · obtain rfl : k = l.length := by omega
      have hb2 := hblk
      rw [fill_end (by rw [List.length_map, bytesW_length])] at hb2
      go_wp2
      go_ret2
      exact ⟨w.heap.size, rfl, hb2, hbel⟩
end Go.Proofs.YtbadpiennobdmaaDoor

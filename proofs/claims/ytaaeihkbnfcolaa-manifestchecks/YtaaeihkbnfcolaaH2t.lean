/- Bytes to hexadecimal digits: what the program's Text returns. -/
import Derived.Test.YtaaeihkbnfcolaaRows
import Derived.Test.YtaaeihkbnfcolaaI8
import Derived.Test.YtaaeihkbnfcolaaY8
import Derived.StillTailTactics
import Derived.IntWalk
namespace Go.Proofs.Ytaaeihkbnfcolaa
open Go.RowKit
set_option maxHeartbeats 1000000 in
theorem text_any (A : Option Addr) (n c : Nat) (l : List UInt8) (w : World) (hr : Rd w 1 A n c (l.map bv8)) (hz : n ≤ 140737488351232) :
    Calls Try.prog 57 #[.slice A n c] w fun e w' => e = .returned (.string (str (hexT l))) ∧ Below w.heap.size w w' := by
  obtain rfl := hr.len
  obtain ⟨i0, hi0, hz0, hz1, hz2⟩ := info_parts u8_info
  have hmk := run_make1 (P := Try.prog) Try.underlying27 hi0 hz0 hz1 rfl hz2 (2 * (l.length : Int)) (2 * l.length) (by omega) (by omega) (by omega)
  go_enter Try.func57, Try.ntmps57
  go_wp2
  go_loopw [4, 5, 12] (fun _ _ i wr => ∃ k : Nat, k ≤ l.length ∧ i = .int .i64 k ∧ Blk wr w.heap.size 5 (((hexT l).map bv8).take (2 * k) ++ reps (2 * l.length - 2 * k) (.int .u8 0)) ∧ Below w.heap.size w wr) (fun _ _ i _ => l.length - (intOf i).toNat)
  case atStart => exact ⟨0, by omega, rfl, by simpa using Blk.new w _ _, (Below.refl _ _).alloc (Nat.le_refl _) _⟩
  case round =>
    obtain ⟨k, hk, rfl, hblk, hbel⟩ := hrel
    by_cases hlt : k < l.length
    · obtain ⟨b, off, rfl, hbl, hcell⟩ := hr.addr (by simp; omega)
      have h0 : wr.cell? ⟨b, off + k, none⟩ = some (.int .u8 (y8 (l[k]'(by omega)))) := (hbel.cell (p := ⟨b, off + k, none⟩) hbl).trans (hcell k _ (by rw [List.getElem?_map, List.getElem?_eq_getElem (by omega)]; rfl))
      have hL : ((hexT l).map bv8).length = 2 * l.length := by rw [List.length_map, hexT_length]
      have at0 : ((hexT l).map bv8)[2 * k]? = some (.int .u8 (y8 (dg (l[k] >>> 4)))) := by rw [List.getElem?_map, (hexT_at l k hlt).1]; rfl
      have at1 : ((hexT l).map bv8)[2 * k + 1]? = some (.int .u8 (y8 (dg (l[k] &&& 15)))) := by rw [List.getElem?_map, (hexT_at l k hlt).2]; rfl
      have s0 := hblk.put (2 * k) (.int .u8 (y8 (dg (l[k] >>> 4))))
      rw [fill_step (by omega) at0] at s0
      have s1 := s0.put (2 * k + 1) (.int .u8 (y8 (dg (l[k] &&& 15))))
      rw [fill_step (by omega) at1] at s1
      have c0 := (hblk.cell (2 * k)).trans (fill_at (by omega) (by omega))
      have c1 := (s0.cell (2 * k + 1)).trans (fill_at (by omega) (by omega))
      have f0 := hblk.frozen (2 * k)
      have f1 := s0.frozen (2 * k + 1)
      have H1 := Lib.hid s1
      clear s0 s1 at0 at1 hL hblk hcell
      have n0 : ((2 : Int) * k).toNat = 2 * k := by omega
      have n1 : ((2 : Int) * k + 1).toNat = 2 * k + 1 := by omega
      go_wp2
      go_roundw
      case rel => exact ⟨k + 1, by omega, by go_num, H1.out, (hbel.setCell (p := ⟨w.heap.size, 2 * k, none⟩) (Nat.le_refl _) _).setCell (p := ⟨w.heap.size, 2 * k + 1, none⟩) (Nat.le_refl _) _⟩
      case measure => simp [intOf]; omega
    · obtain rfl : k = l.length := by omega
      have hb2 := hblk
      rw [fill_end (by rw [List.length_map, hexT_length])] at hb2
      have hrd := blk_rd hb2 (n := (hexT l).length) (by rw [List.length_map]) (by rw [hexT_length]; omega)
      have k1 := run_bytes_str (P := Try.prog) Try.underlying27 Try.underlying5 Try.underlying9 hrd
      rw [hexT_length] at k1
      have e2 : ((2 * l.length : Nat) : Int) = 2 * (l.length : Int) := by omega
      clear hblk hb2 hrd
      go_wp2
      go_ret
      exact ⟨rfl, hbel⟩
end Go.Proofs.Ytaaeihkbnfcolaa

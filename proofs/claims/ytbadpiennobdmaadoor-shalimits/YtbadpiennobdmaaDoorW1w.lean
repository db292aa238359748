/- Words and bytes: what the program's functions return. -/
import Derived.Test.YtbadpiennobdmaaDoorRows
import Derived.Test.YtbadpiennobdmaaDoorMem
import Derived.Lib.Hide
import Derived.Test.YtbadpiennobdmaaDoorI32
import Derived.Test.YtbadpiennobdmaaDoorWp
import Derived.StillTailTactics
import Derived.IntWalk
namespace Go.Proofs.YtbadpiennobdmaaDoor
open Go.RowKit
set_option maxHeartbeats 400000 in
theorem words_big (A : Option Addr) (n c : Nat) (w : World) (h : 2072 < n) (hn : n ≤ 9223372036854775807) :
    Calls Tryd.prog 16 #[.slice A n c] w fun e w' => e = .returned (.tuple #[.slice none 0 0, .int .i64 1]) ∧ w = w' := by
  go_enter Tryd.func16, Tryd.ntmps16
  go_wp2
  go_ret2
  exact ⟨rfl, rfl⟩
set_option maxHeartbeats 400000 in
theorem words_odd (A : Option Addr) (n c : Nat) (w : World) (h : n ≤ 2072) (hn : n % 4 ≠ 0) :
    Calls Tryd.prog 16 #[.slice A n c] w fun e w' => e = .returned (.tuple #[.slice none 0 0, .int .i64 3]) ∧ w = w' := by
  have hne : ((n : Int) % 4 != 0) = true := by rw [bne_iff_ne]; omega
  go_enter Tryd.func16, Tryd.ntmps16
  go_wp2
  go_ret2
  exact ⟨rfl, rfl⟩
set_option maxHeartbeats 400000 in
theorem words_ok (A : Option Addr) (n c : Nat) (l : List UInt8) (w : World) (hr : Rd w 1 A n c (l.map bv8)) (h : n ≤ 2072) (h4 : n % 4 = 0) :
    Calls Tryd.prog 16 #[.slice A n c] w fun e w' => ∃ g, e = .returned (.tuple #[.slice (some ⟨g, 0, none⟩) (n / 4) (n / 4), .int .i64 0]) ∧ Blk w' g 42 ((words l).map wv) ∧ Below w.heap.size w w' := by
  obtain rfl := hr.len
  obtain ⟨m, hm⟩ : ∃ m, l.length = 4 * m := ⟨l.length / 4, by omega⟩
  obtain ⟨i0, hi0, hz0, hz1, hz2⟩ := info_parts u32_info
  have hne : ((l.length : Int) % 4 != 0) = false := by rw [bne_eq_false_iff_eq]; omega
  have hmk := run_make1 (P := Tryd.prog) Tryd.underlying22 hi0 hz0 hz1 rfl hz2 ((l.length : Int) / 4) (l.length / 4) (by omega) (by omega) (by omega)
  have Hm := Lib.hid hm
  clear hm
  have hd : decide (2072 < (l.length : Int)) = false := by simp; omega
  go_enter Tryd.func16, Tryd.ntmps16
  go_wp2
  go_loopw [5, 19] (fun _ i wr => ∃ k : Nat, k ≤ l.length / 4 ∧ i = .int .i64 k ∧ Blk wr w.heap.size 42 (((words l).map wv).take k ++ reps (l.length / 4 - k) (.int .u32 0)) ∧ Below w.heap.size w wr) (fun _ i _ => l.length / 4 - (intOf i).toNat)
  case atStart => exact ⟨0, by omega, rfl, by simpa using Blk.new w _ _, (Below.refl _ _).alloc (Nat.le_refl _) _⟩
  case round =>
    obtain ⟨k, hk, rfl, hblk, hbel⟩ := hrel
    by_cases hlt : k < l.length / 4
    · obtain ⟨b, off, rfl, hbl, hcell⟩ := hr.addr (by simp; omega)
      have hcw := fun (j : Nat) v hv => (hbel.cell (p := ⟨b, off + j, none⟩) hbl).trans (hcell j v hv)
      have h0 : wr.cell? ⟨b, off + 4 * k, none⟩ = some (.int .u8 (y8 (l[4 * k]'(by omega)))) := hcw _ _ (by rw [List.getElem?_map, List.getElem?_eq_getElem (by omega)]; rfl)
      have h1 : wr.cell? ⟨b, off + (4 * k + 1), none⟩ = some (.int .u8 (y8 (l[4 * k + 1]'(by omega)))) := hcw _ _ (by rw [List.getElem?_map, List.getElem?_eq_getElem (by omega)]; rfl)
      have h2 : wr.cell? ⟨b, off + (4 * k + 2), none⟩ = some (.int .u8 (y8 (l[4 * k + 2]'(by omega)))) := hcw _ _ (by rw [List.getElem?_map, List.getElem?_eq_getElem (by omega)]; rfl)
      have h3 : wr.cell? ⟨b, off + (4 * k + 3), none⟩ = some (.int .u8 (y8 (l[4 * k + 3]'(by omega)))) := hcw _ _ (by rw [List.getElem?_map, List.getElem?_eq_getElem (by omega)]; rfl)
      clear hcw hcell
      have i0 : (4 : Int) * k < l.length := by omega
      have i1 : (4 : Int) * k + 1 < l.length := by omega
      have i2 : (4 : Int) * k + 2 < l.length := by omega
      have i3 : (4 : Int) * k + 3 < l.length := by omega
      have j0 : (0 : Int) ≤ 4 * k := by omega
      have j1 : (0 : Int) ≤ 4 * k + 1 := by omega
      have j2 : (0 : Int) ≤ 4 * k + 2 := by omega
      have j3 : (0 : Int) ≤ 4 * k + 3 := by omega
      have n0 : ((4 : Int) * k).toNat = 4 * k := by omega
      have n1 : ((4 : Int) * k + 1).toNat = 4 * k + 1 := by omega
      have n2 : ((4 : Int) * k + 2).toNat = 4 * k + 2 := by omega
      have n3 : ((4 : Int) * k + 3).toNat = 4 * k + 3 := by omega
      have v0 : IntKind.i64.wrap ((4 : Int) * k) = 4 * k := IntWalk.i64_in _ (by omega)
      have v1 : IntKind.i64.wrap ((4 : Int) * k + 1) = 4 * k + 1 := IntWalk.i64_in _ (by omega)
      have v2 : IntKind.i64.wrap ((4 : Int) * k + 2) = 4 * k + 2 := IntWalk.i64_in _ (by omega)
      have v3 : IntKind.i64.wrap ((4 : Int) * k + 3) = 4 * k + 3 := IntWalk.i64_in _ (by omega)
      go_wp2
      go_still_tail 36, (by kernel_rfl)
      change wpList _ _ _ _ _ wr.drew
      have hwk : ((words l).map wv)[k]? = some (.int .u32 (u (word4 (l[4 * k]'(by omega)) (l[4 * k + 1]'(by omega)) (l[4 * k + 2]'(by omega)) (l[4 * k + 3]'(by omega))))) := by rw [List.getElem?_map, words_at l k (by omega)]; rfl
      have Hwk := Lib.hid hwk
      have hset := hblk.drew.put k (.int .u32 (u (word4 (l[4 * k]'(by omega)) (l[4 * k + 1]'(by omega)) (l[4 * k + 2]'(by omega)) (l[4 * k + 3]'(by omega)))))
      rw [fill_step hlt hwk] at hset
      have Hset := Lib.hid hset
      have hcl : wr.drew.cell? ⟨w.heap.size, k, none⟩ = some (.int .u32 0) := by rw [hblk.drew.cell, fill_at hlt (by rw [List.length_map, words_length]; exact hlt)]
      have hfr : wr.drew.frozen? ⟨w.heap.size, k, none⟩ = false := hblk.drew.frozen k
      have hbd := hbel.drew
      clear hwk hset v0 v1 v2 v3 n0 n1 n2 n3 hblk hbel h0 h1 h2 h3
      generalize wr.drew = wd at *
      go_wp2
      go_roundw
      case rel => exact ⟨k + 1, by omega, by go_num, Hset.out, hbd.setCell (p := ⟨w.heap.size, k, none⟩) (Nat.le_refl _) _⟩
      case measure => simp [intOf]; omega
    · obtain rfl : k = l.length / 4 := by omega
      have hb2 := hblk
      rw [fill_end (by rw [List.length_map, words_length])] at hb2
      go_wp2
      go_ret2
      exact ⟨w.heap.size, rfl, hb2, hbel⟩
end Go.Proofs.YtbadpiennobdmaaDoor

/- Words to bytes: what the reference's WordBytes returns. -/
import Derived.Test.YtbadpiennobdmaaDoorW1r
namespace Go.Proofs.YtbadpiennobdmaaDoor
open Go.RowKit
set_option maxHeartbeats 400000 in
theorem wordBytes_big (A : Option Addr) (n c : Nat) (w : World) (h : 2000 < n) (hn : n ≤ 9223372036854775807) :
    Calls Tryd.prog 32 #[.slice A n c] w fun e w' => e = .returned (.tuple #[.slice none 0 0, .int .i64 1]) ∧ w = w' := by
  go_enter Tryd.func32, Tryd.ntmps32
  go_wp2
  go_ret2
  exact ⟨rfl, rfl⟩
theorem take_snoc {ys : List Value} {k : Nat} {v : Value} (h : ys[k]? = some v) : ys.take k ++ [v] = ys.take (k + 1) := by
  rw [List.take_add_one, h]; rfl
theorem td24 (x : BitVec 32) : (u x).tdiv (16777216 : Int) % (256 : Int) = y8 (by8 (x >>> 24)) := by
  rw [Int.tdiv_eq_ediv_of_nonneg (u_nonneg x), bv_div24, mod256_u]
theorem td16 (x : BitVec 32) : (u x).tdiv (65536 : Int) % (256 : Int) = y8 (by8 (x >>> 16)) := by
  rw [Int.tdiv_eq_ediv_of_nonneg (u_nonneg x), bv_div16, mod256_u]
theorem td8 (x : BitVec 32) : (u x).tdiv (256 : Int) % (256 : Int) = y8 (by8 (x >>> 8)) := by
  rw [Int.tdiv_eq_ediv_of_nonneg (u_nonneg x), bv_div256, mod256_u]
theorem td0 (x : BitVec 32) : (u x).tmod (256 : Int) % (256 : Int) = y8 (by8 x) := by
  rw [Int.tmod_eq_emod_of_nonneg (u_nonneg x), Int.emod_emod, mod256_u]
def units : List Value := [.int .u32 16777216, .int .u32 65536, .int .u32 256, .int .u32 1]
set_option maxHeartbeats 1000000 in
theorem wordBytes_ok (A : Option Addr) (n c : Nat) (l : List (BitVec 32)) (w : World) (hr : Rd w 1 A n c (l.map wv)) (h : n ≤ 2000) :
    Calls Tryd.prog 32 #[.slice A n c] w fun e w' => ∃ v, e = .returned (.tuple #[v, .int .i64 0]) ∧ w'.ownsRow w.heap.size 5 1 v (4 * n) ((bytesW l).map bv8) ∧ Below w.heap.size w w' := by
  obtain rfl := hr.len
  obtain ⟨i0, hi0, hz0, hz1, hz2⟩ := info_parts u8_info
  have hd : decide (2000 < (l.length : Int)) = false := by simp; omega
  go_enter Tryd.func32, Tryd.ntmps32
  go_wp2
  go_loopw [4, 6, 8, 14] (fun v _ _ i wr => ∃ k : Nat, k ≤ l.length ∧ i = .int .i64 k ∧ wr.ownsRow w.heap.size 5 1 v (4 * k) (((bytesW l).map bv8).take (4 * k)) ∧ Below w.heap.size w wr) (fun _ _ _ i _ => l.length - (intOf i).toNat)
  case atStart => exact ⟨0, by omega, rfl, World.ownsRow_nil _ _ _ _, Below.refl _ _⟩
  case round =>
    obtain ⟨k, hk, rfl, hown, hbel⟩ := hrel
    by_cases hlt : k < l.length
    · obtain ⟨b, off, rfl, hbl, hcell⟩ := hr.addr (by simp; omega)
      have h0 : wr.cell? ⟨b, off + k, none⟩ = some (.int .u32 (u (l[k]'(by omega)))) := (hbel.cell (p := ⟨b, off + k, none⟩) hbl).trans (hcell k _ (by rw [List.getElem?_map, List.getElem?_eq_getElem (by omega)]; rfl))
      clear hcell
      rename World => wo
      have hU := Blk.new wo 42 units
      have hneU : u4.ownBlock ≠ some wo.heap.size := fun e => by have := (hown.lt _ e).2; omega
      go_wp2
      go_loopw [4, 8, 20] (fun v _ i wi => ∃ j : Nat, j ≤ 4 ∧ i = .int .i64 j ∧ wi.ownsRow w.heap.size 5 1 v (4 * k + j) (((bytesW l).map bv8).take (4 * k + j)) ∧ Below w.heap.size w wi ∧ Blk wi wo.heap.size 42 units ∧ v.ownBlock ≠ some wo.heap.size) (fun _ _ i _ => 4 - (intOf i).toNat)
      case atStart => exact ⟨0, by omega, rfl, own_alloc hown _, hbel.alloc hbel.size _, hU, hneU⟩
      case round =>
        obtain ⟨j, hj, rfl, hown2, hbel2, hblk, hne⟩ := hrel
        have c0 := hblk.cell j
        rcases (by omega : j = 0 ∨ j = 1 ∨ j = 2 ∨ j = 3 ∨ j = 4) with rfl | rfl | rfl | rfl | rfl
        · have c1 : wr.cell? ⟨wo.heap.size, 0, none⟩ = some (.int .u32 16777216) := c0
          have hat : ((bytesW l).map bv8)[4 * k + 0]? = some (.int .u8 (y8 (by8 (l[k] >>> 24)))) := by rw [List.getElem?_map, bytesW_at l k hlt 0 (by omega)]; rfl
          have Hat := Lib.hid hat
          clear c0 hat
          go_wp2_with (at_builtin; refine wpList_append1 rfl (.tmp 24) (.tmp 30) _ rfl Tryd.underlying27 hi0 hz0 hz1 hz2 rfl (by omega) _ _ _ rfl hown2 [_] rfl (by intro y hy; rw [List.mem_singleton] at hy; subst hy; rfl) rfl (by omega) (by omega) hbel2.size ?_; rintro v1 w1 ⟨hown1, hb1, hsz1, hfar1⟩)
          go_roundw
          case rel =>
            obtain ⟨hf1, hf2⟩ := hfar1 _ hblk.lt hne
            refine ⟨0 + 1, by omega, by go_num, ?_, hbel2.trans hb1, hf2.trans hblk, hf1⟩
            rw [td24] at hown1
            rw [← take_snoc Hat.out]
            exact hown1
          case measure => simp [intOf]
        · have c1 : wr.cell? ⟨wo.heap.size, 1, none⟩ = some (.int .u32 65536) := c0
          have hat : ((bytesW l).map bv8)[4 * k + 1]? = some (.int .u8 (y8 (by8 (l[k] >>> 16)))) := by rw [List.getElem?_map, bytesW_at l k hlt 1 (by omega)]; rfl
          have Hat := Lib.hid hat
          clear c0 hat
          go_wp2_with (at_builtin; refine wpList_append1 rfl (.tmp 24) (.tmp 30) _ rfl Tryd.underlying27 hi0 hz0 hz1 hz2 rfl (by omega) _ _ _ rfl hown2 [_] rfl (by intro y hy; rw [List.mem_singleton] at hy; subst hy; rfl) rfl (by omega) (by omega) hbel2.size ?_; rintro v1 w1 ⟨hown1, hb1, hsz1, hfar1⟩)
          go_roundw
          case rel =>
            obtain ⟨hf1, hf2⟩ := hfar1 _ hblk.lt hne
            refine ⟨1 + 1, by omega, by go_num, ?_, hbel2.trans hb1, hf2.trans hblk, hf1⟩
            rw [td16] at hown1
            rw [← take_snoc Hat.out]
            exact hown1
          case measure => simp [intOf]
        · have c1 : wr.cell? ⟨wo.heap.size, 2, none⟩ = some (.int .u32 256) := c0
          have hat : ((bytesW l).map bv8)[4 * k + 2]? = some (.int .u8 (y8 (by8 (l[k] >>> 8)))) := by rw [List.getElem?_map, bytesW_at l k hlt 2 (by omega)]; rfl
          have Hat := Lib.hid hat
          clear c0 hat
          go_wp2_with (at_builtin; refine wpList_append1 rfl (.tmp 24) (.tmp 30) _ rfl Tryd.underlying27 hi0 hz0 hz1 hz2 rfl (by omega) _ _ _ rfl hown2 [_] rfl (by intro y hy; rw [List.mem_singleton] at hy; subst hy; rfl) rfl (by omega) (by omega) hbel2.size ?_; rintro v1 w1 ⟨hown1, hb1, hsz1, hfar1⟩)
          go_roundw
          case rel =>
            obtain ⟨hf1, hf2⟩ := hfar1 _ hblk.lt hne
            refine ⟨2 + 1, by omega, by go_num, ?_, hbel2.trans hb1, hf2.trans hblk, hf1⟩
            rw [td8] at hown1
            rw [← take_snoc Hat.out]
            exact hown1
          case measure => simp [intOf]
        · have c1 : wr.cell? ⟨wo.heap.size, 3, none⟩ = some (.int .u32 1) := c0
          have hat : ((bytesW l).map bv8)[4 * k + 3]? = some (.int .u8 (y8 (by8 l[k]))) := by rw [List.getElem?_map, bytesW_at l k hlt 3 (by omega)]; rfl
          have Hat := Lib.hid hat
          clear c0 hat
          go_wp2_with (at_builtin; refine wpList_append1 rfl (.tmp 24) (.tmp 30) _ rfl Tryd.underlying27 hi0 hz0 hz1 hz2 rfl (by omega) _ _ _ rfl hown2 [_] rfl (by intro y hy; rw [List.mem_singleton] at hy; subst hy; rfl) rfl (by omega) (by omega) hbel2.size ?_; rintro v1 w1 ⟨hown1, hb1, hsz1, hfar1⟩)
          go_roundw
          case rel =>
            obtain ⟨hf1, hf2⟩ := hfar1 _ hblk.lt hne
            refine ⟨3 + 1, by omega, by go_num, ?_, hbel2.trans hb1, hf2.trans hblk, hf1⟩
            rw [td0] at hown1
            rw [← take_snoc Hat.out]
            exact hown1
          case measure => simp [intOf]
        · go_wp2
          go_roundw
          case rel => exact ⟨k + 1, by omega, by go_num, hown2, hbel2⟩
          case measure => simp [intOf]; omega
    · obtain rfl : k = l.length := by omega
      rw [List.take_of_length_le (by rw [List.length_map, bytesW_length]; omega)] at hown
      go_wp2
      go_ret2
      exact ⟨_, rfl, hown, hbel⟩
end Go.Proofs.YtbadpiennobdmaaDoor

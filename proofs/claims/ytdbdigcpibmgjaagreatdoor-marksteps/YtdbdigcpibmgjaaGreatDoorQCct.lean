/- slices.Concat of two slices of texts, and slices.Grow of nil. -/
import Derived.Test.YtdbdigcpibmgjaaGreatDoorGRB
import Derived.Test.YtdbdigcpibmgjaaGreatDoorGRB
import Derived.Lib.AppendZeros
namespace Go.Proofs.YtdbdigcpibmgjaaGreatDoor
open Go.RowKit
theorem zeroCells_sizeT (z : Value) (k : Nat) (h : z.cells = #[z]) : (Builtin.zeroCells z.cells k).size = k := by unfold Builtin.zeroCells; rw [h]; simp
set_option maxRecDepth 100000 in
set_option maxHeartbeats 400000 in
theorem growT_nil (n : Nat) (w : World) (h : n * 16 ≤ 140737488355328) : Calls Tryz.prog 68 #[.slice none 0 0, .int .i64 n] w (GivesTx [] w) := by
  obtain ⟨i0, hi0, hz0, hz1, hz2⟩ := info_parts str_info
  have hd : decide ((n : Int) < 0) = false := by simp
  rcases Nat.eq_zero_or_pos n with rfl | hp
  · go_enter Tryz.func68, Tryz.ntmps68
    go_wp2
    go_ret
    exact ⟨_, rfl, World.ownsRow_nil _ _ _ _, Below.refl _ _⟩
  · have hrun := fun ty => Lib.run_append_nil_zeros (P := Tryz.prog) w 26 3 ty 9 i0 (.string ByteArray.empty) .i64 .i64 Tryz.underlying26 Tryz.underlying3 hi0 hz0 n hp (by omega) (by omega) (by rw [hz2]; omega)
    have hge := grownCap_ge w n 0 9
    have hle := grownCap_le_maxLen w n 0 9 (by unfold maxLen; omega)
    have hsz : (Builtin.zeroCells (Value.string ByteArray.empty).cells n ++ Builtin.zeroCells (Value.string ByteArray.empty).cells (grownCap w n 0 9 - n)).size = grownCap w n 0 9 * 1 := by
      rw [Array.size_append, zeroCells_sizeT _ _ rfl, zeroCells_sizeT _ _ rfl]; omega
    generalize Builtin.zeroCells (Value.string ByteArray.empty).cells n ++ Builtin.zeroCells (Value.string ByteArray.empty).cells (grownCap w n 0 9 - n) = cs at *
    generalize grownCap w n 0 9 = cp at *
    have hown := World.ownsRow_made (base := w.heap.size) (e := 9) (size := 1) w.drew cs cp (Nat.le_refl _) hle hsz
    have hbel := (Below.refl w.heap.size w).drew.alloc (Nat.le_refl _) (.cells cs 9)
    have hp2 : (0 : Int) < (n : Int) := by omega
    go_enter Tryz.func68, Tryz.ntmps68
    go_wp2_with (at_builtin; refine Lib.wpList_append_run w rfl (.tmp 20) (.tmp 21) _ _ rfl _ _ rfl rfl _ _ (hrun _) ?_)
    go_ret
    exact ⟨_, rfl, hown, hbel⟩
theorem growT_at (q : Int) (n : Nat) (hq : q = n) (w : World) (h : n * 16 ≤ 140737488355328) : Calls Tryz.prog 68 #[.slice none 0 0, .int .i64 q] w (GivesTx [] w) := by
  rw [hq]; exact growT_nil n w h
set_option maxRecDepth 100000 in
set_option maxHeartbeats 2000000 in
theorem concat2T (g : Nat) (A B : Option Addr) (n m c d : Nat) (l k : List (List UInt8)) (w : World) (hr : Rd w 1 A n c (l.map sv)) (hs : Rd w 1 B m d (k.map sv)) (hA : A = none → c = 0) (hB : B = none → d = 0) (hg : Blk w g 26 [.slice A n c, .slice B m d]) (hn : (n + m) * 16 ≤ 140737488355328) :
    Calls Tryz.prog 27 #[.slice (some ⟨g, 0, none⟩) 2 2] w (GivesTx (l ++ k) w) := by
  obtain ⟨i0, hi0, hz0, hz1, hz2⟩ := info_parts str_info
  have c0 : w.cell? ⟨g, 0, none⟩ = some (.slice A n c) := hg.cell 0
  have c1 : w.cell? ⟨g, 1, none⟩ = some (.slice B m d) := hg.cell 1
  have hglt := hg.lt
  have hnl := hr.tlen
  have hml := hs.tlen
  have Hnl := Lib.hid hnl
  have Hml := Lib.hid hml
  clear hnl hml
  go_enter Tryz.func27, Tryz.ntmps27
  go_wp2
  go_loop [3, 5, 11] (fun z _ i => (i = .int .i64 0 ∧ z = .int .i64 0) ∨ (i = .int .i64 1 ∧ z = .int .i64 n) ∨ (i = .int .i64 2 ∧ z = .int .i64 ((n : Int) + m))) (fun _ _ i => 2 - (intOf i).toNat)
  case atStart => exact .inl ⟨rfl, rfl⟩
  case round =>
    rcases hrel with ⟨rfl, rfl⟩ | ⟨rfl, rfl⟩ | ⟨rfl, rfl⟩
    · have hd : decide ((n : Int) < 0) = false := by simp
      go_wp2
      go_round
      case rel => exact .inr (.inl ⟨by go_num, by go_num⟩)
      case measure => simp [intOf]
    · have hd : decide ((n : Int) + m < 0) = false := by simp; omega
      go_wp2
      go_round
      case rel => exact .inr (.inr ⟨by go_num, by go_num⟩)
      case measure => simp [intOf]
    · go_wp2_with fail
      with_reducible refine (growT_at ((n : Int) + (m : Int)) (n + m) (by omega) _ hn).mono ?_
      rintro e w1 ⟨v1, rfl, hown1, hb1⟩
      go_wp2
      go_loopw [6, 8, 27] (fun v _ i wr => Below w.heap.size w wr ∧ ((i = .int .i64 0 ∧ wr.ownsRow w.heap.size 9 1 v 0 []) ∨ (i = .int .i64 1 ∧ wr.ownsRow w.heap.size 9 1 v n (l.map sv)) ∨ (i = .int .i64 2 ∧ wr.ownsRow w.heap.size 9 1 v (n + m) (l.map sv ++ k.map sv)))) (fun _ _ i _ => 2 - (intOf i).toNat)
      case atStart => exact ⟨hb1, .inl ⟨rfl, hown1⟩⟩
      case round =>
        clear hown1 hb1
        obtain ⟨hbel, hrel⟩ := hrel
        have hbz := hbel.size
        have d0 : wr.cell? ⟨g, 0, none⟩ = some (.slice A n c) := (hbel.cell (p := ⟨g, 0, none⟩) hglt).trans c0
        have d1 : wr.cell? ⟨g, 1, none⟩ = some (.slice B m d) := (hbel.cell (p := ⟨g, 1, none⟩) hglt).trans c1
        have hr1 := hr.below hbel
        have hs1 := hs.below hbel
        rcases hrel with ⟨rfl, hown⟩ | ⟨rfl, hown⟩ | ⟨rfl, hown⟩
        · go_wp2_with (at_builtin; refine wpList_appendR rfl (.tmp 31) (.tmp 32) _ rfl Tryz.underlying26 hi0 hz0 hz1 hz2 rfl (by omega) _ 0 [] rfl hown hr1 hA (sv_one _) rfl (by omega) (by unfold maxLen; omega) hbz ?_; rintro v2 w2 ⟨hown2, hb2⟩; rw [Nat.zero_add, List.nil_append] at hown2)
          go_roundw
          case rel => exact ⟨hbel.trans hb2, .inr (.inl ⟨by go_num, hown2⟩)⟩
          case measure => simp [intOf]
        · go_wp2_with (at_builtin; refine wpList_appendR rfl (.tmp 31) (.tmp 32) _ rfl Tryz.underlying26 hi0 hz0 hz1 hz2 rfl (by omega) _ n (l.map sv) rfl hown hs1 hB (sv_one _) rfl (by omega) (by unfold maxLen; omega) hbz ?_; rintro v2 w2 ⟨hown2, hb2⟩)
          go_roundw
          case rel => exact ⟨hbel.trans hb2, .inr (.inr ⟨by go_num, hown2⟩)⟩
          case measure => simp [intOf]
        · go_wp2
          go_ret
          refine ⟨_, rfl, ?_, hbel⟩
          rw [List.length_append, ← Hnl.out, ← Hml.out, List.map_append]
          exact hown
end Go.Proofs.YtdbdigcpibmgjaaGreatDoor

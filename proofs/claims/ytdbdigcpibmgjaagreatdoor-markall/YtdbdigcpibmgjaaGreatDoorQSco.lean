/- slices.Sort and slices.Compact of texts of the call's own. -/
import Derived.Test.YtdbdigcpibmgjaaGreatDoorGRB
import Derived.Test.YtdbdigcpibmgjaaGreatDoorQShg
import Derived.Test.YtdbdigcpibmgjaaGreatDoorQShc
import Derived.Lib.OwnBridge
import Derived.Lib.SlicesCompact
import Derived.Sort.OwnSorted
namespace Go.Proofs.YtdbdigcpibmgjaaGreatDoor
open Go.RowKit Go.Maps Go.Sort Go.Shelf
theorem sortT_own (base g cap : Nat) (ss : List (List UInt8)) (w : World) (h : w.ownsRow base 9 1 (.slice (some ⟨g, 0, none⟩) ss.length cap) ss.length (ss.map sv)) (hB : base ≤ w.heap.size) (hn : ss.length < 4611686018427387904) :
    Calls Tryz.prog 28 #[.slice (some ⟨g, 0, none⟩) ss.length cap] w fun e w' => e = .returned (.tuple #[]) ∧
      w'.ownsRow base 9 1 (.slice (some ⟨g, 0, none⟩) (ss.mergeSort fun x y => decide (x ≤ y)).length cap) (ss.mergeSort fun x y => decide (x ≤ y)).length ((ss.mergeSort fun x y => decide (x ≤ y)).map sv) ∧ Below base w w' := by
  rcases h.2 with ⟨e0, _⟩ | ⟨g', cap', cur, e0, hbase, hb, r1, r2, r3, r4⟩
  · cases e0
  · injection e0 with e1 _ e3
    injection e1 with e1
    injection e1 with e1
    subst e1; subst e3
    have hH : Holds encStr w g 0 ss.toArray := holds_of_block hb (by rw [Nat.mul_one] at r4; exact r4)
    have hgl : g < w.heap.size := (Array.getElem?_eq_some_iff.1 hb).1
    have hsz : ss.length < 4611686018427387904 := hn
    refine (AnyM.slices_Sort_string Tryz.lay_Sort g 0 cap ss w hH hgl hsz).mono ?_
    rintro e w' ⟨rfl, nn, os, rfl⟩
    have hl : (ss.mergeSort fun x y => decide (x ≤ y)).length = ss.length := List.length_mergeSort ss
    refine ⟨rfl, ?_, (Below.refl base w).grown (grownBy_sorted _) hB (fun j hj => by cases hj; exact hbase)⟩
    rw [hl]
    exact ownsRow_sorted hl hbase hb r1 r2 r3
theorem compactT_own (base g cap : Nat) (zs : List (List UInt8)) (w : World) (h : w.ownsRow base 9 1 (.slice (some ⟨g, 0, none⟩) zs.length cap) zs.length (zs.map sv)) :
    Calls Tryz.prog 29 #[.slice (some ⟨g, 0, none⟩) zs.length cap] w fun e w' => e = .returned (.slice (some ⟨g, 0, none⟩) (Lib.compact zs).length cap) ∧
      w'.ownsRow base 9 1 (.slice (some ⟨g, 0, none⟩) (Lib.compact zs).length cap) (Lib.compact zs).length ((Lib.compact zs).map sv) ∧ Below base w w' := by
  obtain ⟨g', cap', e0, hbase, hgl, hn, hm, -, hH⟩ := Lib.holds_of_ownsRow (enc := encStr) (zs := zs) h (by simp)
  injection e0 with e1 _ e3
  injection e1 with e1
  injection e1 with e1
  subst e1; subst e3
  refine (Any.slices_Compact_string Tryz.lay_Compact g 0 cap zs w hH (by unfold maxLen at hm; omega) hn).mono ?_
  rintro e w' ⟨rfl, q, rfl⟩
  have hle := Lib.compact_length_le zs
  have hc := Lib.ownsRow_putRow (enc := encStr) (q := q) (k := (Lib.compact zs).length) (ys := Lib.compact zs ++ List.replicate (zs.length - (Lib.compact zs).length) []) h (by simp; omega) hle
  rw [List.take_left] at hc
  exact ⟨rfl, hc, Lib.below_putRow (Below.refl base w) hbase⟩
end Go.Proofs.YtdbdigcpibmgjaaGreatDoor

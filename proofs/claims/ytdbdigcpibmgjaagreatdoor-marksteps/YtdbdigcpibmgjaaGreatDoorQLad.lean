/- The landed mark: Add. -/
import Derived.Test.YtdbdigcpibmgjaaGreatDoorQCct
import Derived.Test.YtdbdigcpibmgjaaGreatDoorQSco
import Derived.Test.YtdbdigcpibmgjaaGreatDoorGRD
namespace Go.Proofs.YtdbdigcpibmgjaaGreatDoor
open Go.RowKit Go.Maps Go.Sort Go.Shelf
/-- slices.Sort, of nil too -/
theorem sortT_any (base : Nat) (v : Value) (ss : List (List UInt8)) (w : World) (h : w.ownsRow base 9 1 v ss.length (ss.map sv)) (hB : base ≤ w.heap.size) (hn : ss.length < 4611686018427387904) :
    Calls Tryz.prog 28 #[v] w fun e w' => e = .returned (.tuple #[]) ∧ w'.ownsRow base 9 1 v (ss.mergeSort fun x y => decide (x ≤ y)).length ((ss.mergeSort fun x y => decide (x ≤ y)).map sv) ∧ Below base w w' := by
  rcases h.2 with ⟨rfl, h0⟩ | ⟨g, cap, cur, rfl, -⟩
  · have hs : ss = [] := List.eq_nil_of_length_eq_zero (by first | exact h0 | omega | simpa using h0)
    subst hs
    refine (AnyM.slices_Sort_string_none Tryz.lay_Sort none 0 w).mono ?_
    rintro e w' ⟨rfl, rfl⟩
    exact ⟨rfl, by simpa using World.ownsRow_nil _ _ _ _, Below.refl _ _⟩
  · refine (sortT_own base g cap ss w h hB hn).mono ?_
    rintro e w' ⟨rfl, h1, h2⟩
    rw [List.length_mergeSort] at h1 ⊢
    exact ⟨rfl, h1, h2⟩
/-- slices.Compact, of nil too -/
theorem compactT_any (base : Nat) (v : Value) (zs : List (List UInt8)) (w : World) (h : w.ownsRow base 9 1 v zs.length (zs.map sv)) :
    Calls Tryz.prog 29 #[v] w fun e w' => ∃ u, e = .returned u ∧ w'.ownsRow base 9 1 u (Lib.compact zs).length ((Lib.compact zs).map sv) ∧ Below base w w' := by
  rcases h.2 with ⟨rfl, h0⟩ | ⟨g, cap, cur, rfl, -⟩
  · have hs : zs = [] := List.eq_nil_of_length_eq_zero (by first | exact h0 | omega | simpa using h0)
    subst hs
    refine (Any.slices_Compact_string_empty Tryz.lay_Compact none 0 w).mono ?_
    rintro e w' ⟨rfl, rfl⟩
    exact ⟨_, rfl, World.ownsRow_nil _ _ _ _, Below.refl _ _⟩
  · refine (compactT_own base g cap zs w h).mono ?_
    rintro e w' ⟨rfl, h1, h2⟩
    exact ⟨_, rfl, h1, h2⟩
set_option maxRecDepth 100000 in
set_option maxHeartbeats 1000000 in
theorem lAdd_any (A B : Option Addr) (n m c d : Nat) (g k : List (List UInt8)) (w : World) (hr : Rd w 1 A n c (g.map sv)) (hs : Rd w 1 B m d (k.map sv)) (hA : A = none → c = 0) (hB : B = none → d = 0) (hz : (n + m) * 16 ≤ 140737488355328) :
    Calls Tryz.prog 8 #[.slice A n c, .slice B m d] w (GivesTx (ris (g ++ k)) w) := by
  have hal := (Below.refl w.heap.size w).alloc (Nat.le_refl _) (.cells #[.slice A n c, .slice B m d] 26)
  have hgB := Blk.new w 26 [.slice A n c, .slice B m d]
  have hL : (g ++ k).length < 4611686018427387904 := by
    have h1 := hr.tlen
    have h2 := hs.tlen
    rw [List.length_append]; omega
  have HL := Lib.hid hL
  have HC := Lib.hid (concat2T w.heap.size A B n m c d g k _ (hr.below hal) (hs.below hal) hA hB hgB hz)
  have HM : Hid (Lib.compact ((g ++ k).mergeSort fun x y => decide (x ≤ y)) = ris (g ++ k)) := compact_ris (merge_srU _) fun x => merge_mem _ _
  generalize ris (g ++ k) = R at *
  generalize g ++ k = X at *
  clear hr hs hL hgB
  go_enter Tryz.func8, Tryz.ntmps8
  go_wp2_with fail
  with_reducible refine HC.out.mono ?_
  rintro e w2 ⟨v2, rfl, hown2, hb2⟩
  obtain ⟨P2, p2, rfl⟩ := own_slice hown2
  have HS := Lib.hid (sortT_any _ _ X w2 hown2 hb2.size HL.out)
  clear hown2
  go_wp2_with fail
  with_reducible refine HS.out.mono ?_
  rintro e w3 ⟨rfl, hown3, hb3⟩
  have HD := Lib.hid (compactT_any _ _ _ w3 hown3)
  rw [HM.out] at HD
  clear hown3 HS
  go_wp2_with fail
  with_reducible refine HD.out.mono ?_
  rintro e w4 ⟨v4, rfl, hown4, hb4⟩
  go_wp2
  go_ret
  exact ⟨v4, rfl, own_base hown4 hal.size, below_step hal (hb2.trans (hb3.trans hb4))⟩
end Go.Proofs.YtdbdigcpibmgjaaGreatDoor

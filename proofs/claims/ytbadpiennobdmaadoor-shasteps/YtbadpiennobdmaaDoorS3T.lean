/- The law ShaSteps: one block is the reference's. -/
import Derived.Test.YtbadpiennobdmaaDoorFw
import Derived.Test.YtbadpiennobdmaaDoorRc
import Derived.Test.YtbadpiennobdmaaDoorSs
import Derived.Test.YtbadpiennobdmaaDoorW1e
namespace Go.Proofs.YtbadpiennobdmaaDoor
open Go.RowKit
theorem rts64_bef (i : Nat) (h : i < 310) : (rts true i).length < 64 := by
  have := rts_mono true i (309 - i)
  rw [show i + (309 - i) = 309 from by omega, rts64_lt] at this
  omega
theorem roots64 (w : World) : Calls Tryd.prog 27 #[.int .i64 64, .bool true] w fun e w' => ∃ v, e = .returned v ∧ w'.ownsRow w.heap.size 42 1 v 64 (kon.map wv) ∧ Below w.heap.size w w' := by
  have hc := firstRoots_any true 64 310 w (by omega) (by rw [rts64]; exact kon_length) rts64_bef (by omega)
  rw [rts64, show ((64 : Nat) : Int) = 64 from rfl] at hc
  exact hc
set_option maxHeartbeats 400000 in
theorem rstep_size (A B : Option Addr) (n m c d : Nat) (w : World) (h : n ≠ 8 ∨ m ≠ 16) :
    Calls Tryd.prog 10 #[.slice A n c, .slice B m d] w fun e w' => e = .returned (.tuple #[.slice none 0 0, .int .i64 1]) ∧ w = w' := by
  by_cases h8 : n = 8
  · subst h8
    have h1 : (((m : Nat) : Int) != 16) = true := by rw [bne_iff_ne]; omega
    go_enter Tryd.func10, Tryd.ntmps10
    go_wp2
    go_ret2
    exact ⟨rfl, rfl⟩
  · have h1 : (((n : Nat) : Int) != 8) = true := by rw [bne_iff_ne]; omega
    go_enter Tryd.func10, Tryd.ntmps10
    go_wp2
    go_ret2
    exact ⟨rfl, rfl⟩
attribute [local irreducible] kon
set_option maxHeartbeats 400000 in
theorem rstep_ok (s : St) (bl : List (BitVec 32)) (A B : Option Addr) (c d : Nat) (w : World) (hh : Rd w 1 A 8 c (s.list.map wv)) (hb : Rd w 1 B 16 d (bl.map wv)) :
    Calls Tryd.prog 10 #[.slice A 8 c, .slice B 16 d] w fun e w' => ∃ g, e = .returned (.tuple #[.slice (some ⟨g, 0, none⟩) 8 8, .int .i64 0]) ∧ Blk w' g 42 ((stp s bl).list.map wv) ∧ Below w.heap.size w w' := by
  go_enter Tryd.func10, Tryd.ntmps10
  go_wp2_with fail
  with_reducible refine (roots64 _).mono ?_
  rintro e w1 ⟨v, rfl, hown, hb1⟩
  obtain ⟨A1, c1, rfl, hr1⟩ := own_rd hown
  go_wp2_with fail
  with_reducible refine (compressed_any s bl _ _ _ _ _ _ _ (hh.below hb1) (hb.below hb1) hr1).mono ?_
  rintro e w2 ⟨g, rfl, hg, hb2⟩
  go_wp2
  go_ret2
  exact ⟨g, rfl, hg, below_step hb1 hb2⟩
theorem sameWords_eq (A B : Option Addr) (n0 m0 c d : Nat) (l : List (BitVec 32)) (w : World) (hr : Rd w 1 A n0 c (l.map wv)) (hs : Rd w 1 B m0 d (l.map wv)) :
    Calls Tryd.prog 11 #[.slice A n0 c, .slice B m0 d] w fun e w' => e = .returned (.bool true) ∧ ∃ n, w' = w.drewN n := by
  have h := sameWords_any A B n0 m0 c d l l w hr hs
  rwa [beq_self_eq_true] at h
theorem st_of (l : List (BitVec 32)) (h : l.length = 8) : ∃ s : St, l = s.list := by
  match l, h with
  | [a, b, c, d, e, f, g, h], _ => exact ⟨⟨a, b, c, d, e, f, g, h⟩, rfl⟩
set_option maxHeartbeats 400000 in
theorem shaSteps_walk (A B : Option Addr) (n m c d : Nat) (l q : List (BitVec 32)) (w : World) (hK : Kon w) (hr : Rd w 1 A n c (l.map wv)) (hq : Rd w 1 B m d (q.map wv)) :
    Calls Tryd.prog 3 #[.slice A n c, .slice B m d] w fun e w' => e = .returned (.bool true) ∧ Below w.heap.size w w' := by
  by_cases hs : n ≠ 8 ∨ m ≠ 16
  · go_enter Tryd.func3, Tryd.ntmps3
    go_wp2_with fail
    with_reducible refine (step_size _ _ _ _ _ _ _ hs).mono ?_
    rintro e w1 ⟨rfl, rfl⟩
    go_wp2_with fail
    with_reducible refine (rstep_size _ _ _ _ _ _ _ hs).mono ?_
    rintro e w1 ⟨rfl, rfl⟩
    go_wp2_with fail
    with_reducible refine (sameWords_eq _ _ _ _ _ _ [] _ (Rd.nil _ _) (Rd.nil _ _)).mono ?_
    rintro e w2 ⟨rfl, nd, rfl⟩
    go_wp2
    go_ret
    exact ⟨by simp, below_drewN (Below.refl _ _) nd⟩
  · obtain rfl : n = 8 := by omega
    obtain rfl : m = 16 := by omega
    clear hs
    obtain ⟨s, rfl⟩ := st_of l hr.len.symm
    go_enter Tryd.func3, Tryd.ntmps3
    go_wp2_with fail
    with_reducible refine (step_ok s q _ _ _ _ _ hK hr hq).mono ?_
    rintro e w1 ⟨g1, rfl, hg1, hb1⟩
    have hr1 := blk_rd hg1 (n := 8) rfl (by omega)
    go_wp2_with fail
    with_reducible refine (rstep_ok s q _ _ _ _ _ (hr.below hb1) (hq.below hb1)).mono ?_
    rintro e w2 ⟨g2, rfl, hg2, hb2⟩
    have hr2 := blk_rd hg2 (n := 8) rfl (by omega)
    go_wp2_with fail
    with_reducible refine (sameWords_eq _ _ _ _ _ _ _ _ (hr1.below hb2) hr2).mono ?_
    rintro e w3 ⟨rfl, nd, rfl⟩
    go_wp2
    go_ret
    exact ⟨by simp, below_drewN (below_step hb1 hb2) nd⟩
end Go.Proofs.YtbadpiennobdmaaDoor

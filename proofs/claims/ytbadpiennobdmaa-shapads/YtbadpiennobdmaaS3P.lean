/- The law ShaPads: the words at the start and the padded bytes are the reference's. -/
import Derived.Test.YtbadpiennobdmaaFw
import Derived.Test.YtbadpiennobdmaaSp
import Derived.Test.YtbadpiennobdmaaRp
import Derived.Test.YtbadpiennobdmaaW1e
namespace Go.Proofs.Ytbadpiennobdmaa
open Go.RowKit
def pErr (n : Nat) : Int := if 2000 < n then 1 else 0
def pRes (l : List UInt8) : List UInt8 := if 2000 < l.length then [] else pad l
theorem spad_all (A : Option Addr) (n c : Nat) (l : List UInt8) (w : World) (hr : Rd w 1 A n c (l.map bv8)) : Calls Try.prog 5 #[.slice A n c] w (GivesB (pRes l) (pErr l.length) w) := by
  obtain rfl := hr.len
  have h1 := hr.2.1
  have h2 := hr.2.2.1
  unfold maxLen at h2
  by_cases hb : 2000 < l.length
  · rw [show pErr l.length = 1 from if_pos hb, show pRes l = [] from if_pos hb]
    exact (spad_big A _ c w hb (by omega)).mono fun _ _ h => gives_nil h
  · rw [show pErr l.length = 0 from if_neg hb, show pRes l = pad l from if_neg hb]
    refine (spad_ok A _ c l w hr (by omega)).mono ?_
    rintro e w' ⟨g, rfl, hblk, hb⟩
    exact ⟨_, _, _, rfl, blk_rd hblk (by rw [List.length_map]) (by rw [pad_length]; have := zeros_lt l.length; omega), hb⟩
theorem rpad_all (A : Option Addr) (n c : Nat) (l : List UInt8) (w : World) (hr : Rd w 1 A n c (l.map bv8)) (hA : A = none → c = 0) : Calls Try.prog 7 #[.slice A n c] w (GivesB (pRes l) (pErr l.length) w) := by
  obtain rfl := hr.len
  have h1 := hr.2.1
  have h2 := hr.2.2.1
  unfold maxLen at h2
  by_cases hb : 2000 < l.length
  · rw [show pErr l.length = 1 from if_pos hb, show pRes l = [] from if_pos hb]
    exact (shaPad_big A _ c w hb (by omega)).mono fun _ _ h => gives_nil h
  · rw [show pErr l.length = 0 from if_neg hb, show pRes l = pad l from if_neg hb]
    refine (shaPad_ok A _ c l w hr hA (by omega)).mono ?_
    rintro e w' ⟨v, rfl, hown, hb⟩
    obtain ⟨A', c', rfl, hrd⟩ := own_rd hown
    exact ⟨_, _, _, rfl, hrd, hb⟩
theorem rts8_bef (i : Nat) (h : i < 18) : (rts false i).length < 8 := by
  have := rts_mono false i (17 - i)
  rw [show i + (17 - i) = 17 from by omega, rts8_lt] at this
  omega
set_option maxHeartbeats 400000 in
theorem rstart_any (w : World) :
    Calls Try.prog 6 #[] w fun e w' => ∃ v, e = .returned v ∧ w'.ownsRow w.heap.size 31 1 v 8 (ini.map wv) ∧ Below w.heap.size w w' := by
  have hc := firstRoots_any false 8 18 w (by omega) (by rw [rts8]; rfl) rts8_bef (by omega)
  rw [rts8, show ((8 : Nat) : Int) = 8 from rfl] at hc
  go_enter Try.func6, Try.ntmps6
  go_wp2_with fail
  with_reducible refine hc.mono ?_
  rintro e w1 ⟨v, rfl, hown, hb⟩
  go_wp2
  go_ret
  exact ⟨_, rfl, hown, hb⟩
theorem sameWords_eq (A B : Option Addr) (n0 m0 c d : Nat) (l : List (BitVec 32)) (w : World) (hr : Rd w 1 A n0 c (l.map wv)) (hs : Rd w 1 B m0 d (l.map wv)) :
    Calls Try.prog 8 #[.slice A n0 c, .slice B m0 d] w fun e w' => e = .returned (.bool true) ∧ ∃ n, w' = w.drewN n := by
  have h := sameWords_any A B n0 m0 c d l l w hr hs
  rwa [beq_self_eq_true] at h
set_option maxHeartbeats 400000 in
theorem shaPads_walk (A : Option Addr) (n c : Nat) (l : List UInt8) (w : World) (hr : Rd w 1 A n c (l.map bv8)) (hA : A = none → c = 0) :
    Calls Try.prog 3 #[.slice A n c] w fun e w' => e = .returned (.bool true) ∧ Below w.heap.size w w' := by
  go_enter Try.func3, Try.ntmps3
  go_wp2_with fail
  with_reducible refine (start_any _).mono ?_
  rintro e w1 ⟨g1, rfl, hblk1, hb1⟩
  have hr1 := blk_rd hblk1 (n := 8) rfl (by omega)
  go_wp2_with fail
  with_reducible refine (spad_all _ _ _ _ _ (hr.below hb1)).mono ?_
  rintro e w2 ⟨A2, n2, c2, rfl, hr2, hb2⟩
  go_wp2_with fail
  with_reducible refine (rstart_any _).mono ?_
  rintro e w3 ⟨v3, rfl, hown3, hb3⟩
  obtain ⟨A3, c3, rfl, hr3⟩ := own_rd hown3
  go_wp2_with fail
  with_reducible refine (rpad_all _ _ _ _ _ (((hr.below hb1).below hb2).below hb3) hA).mono ?_
  rintro e w4 ⟨A4, n4, c4, rfl, hr4, hb4⟩
  have ef : (pRes l == pRes l) = true := by simp
  go_wp2_with fail
  with_reducible refine (sameWords_eq _ _ _ _ _ _ _ _ (((hr1.below hb2).below hb3).below hb4) (hr3.below hb4)).mono ?_
  rintro e w5 ⟨rfl, nd, rfl⟩
  go_wp2_with fail
  with_reducible refine (sameBytes_any _ _ _ _ _ _ _ _ _ (((hr2.below hb3).below hb4).drewN nd) (hr4.drewN nd)).mono ?_
  rintro e w6 ⟨rfl, rfl⟩
  go_wp2
  go_ret
  exact ⟨by simp, below_drewN (below_step (below_step (below_step hb1 hb2) hb3) hb4) nd⟩
end Go.Proofs.Ytbadpiennobdmaa

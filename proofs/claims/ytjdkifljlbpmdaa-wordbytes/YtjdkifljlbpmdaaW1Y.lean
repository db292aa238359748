/- The law WordBytes: words of bytes and bytes of words are the reference's. -/
import Derived.Test.YtjdkifljlbpmdaaW1s
import Derived.Test.YtjdkifljlbpmdaaW1e
namespace Go.Proofs.Ytjdkifljlbpmdaa
open Go.RowKit
/-- what a call that returns a list and an error number gives: the list is readable, and nothing old has turned -/
def Gives (f : UInt8 → Value) (l : List UInt8) (n : Nat) (err : Int) (w : World) (e : Ending) (w' : World) : Prop :=
  ∃ A c, e = .returned (.tuple #[.slice A n c, .int .i64 err]) ∧ Rd w' 1 A n c (l.map f) ∧ Below w.heap.size w w'
theorem own_rd {w : World} {base : Nat} {e : TypeId} {v : Value} {n : Nat} {xs : List Value} (h : w.ownsRow base e 1 v n xs) : ∃ A c, v = .slice A n c ∧ Rd w 1 A n c xs := by
  rcases h.2 with ⟨rfl, rfl⟩ | ⟨g, cap, cur, rfl, _, _, h1, h2, _⟩
  · have : xs = [] := List.eq_nil_of_length_eq_zero (by simpa using h.1)
    subst this
    exact ⟨none, 0, rfl, Rd.nil _ _⟩
  · exact ⟨_, _, rfl, Rd.of_own h h2 h1⟩
theorem blk_rd {w : World} {g : Nat} {t : TypeId} {xs : List Value} {n : Nat} (h : Blk w g t xs) (hn : xs.length = n) (hm : n ≤ 9000000000) : Rd w 1 (some ⟨g, 0, none⟩) n n xs := by
  have := h.rd (size := 1) (n := n) (c := n) (Nat.le_refl _) (by unfold maxLen; omega) (by omega)
  rwa [List.take_of_length_le (by omega)] at this
/-- the program's Words, at every argument: the error number and the words -/
def wErr (n : Nat) : Int := if 2072 < n then 1 else if n % 4 ≠ 0 then 3 else 0
def wRes (l : List UInt8) : List (BitVec 32) := if wErr l.length = 0 then words l else []
def GivesW (l : List (BitVec 32)) (err : Int) (w : World) (e : Ending) (w' : World) : Prop :=
  ∃ A n c, e = .returned (.tuple #[.slice A n c, .int .i64 err]) ∧ Rd w' 1 A n c (l.map wv) ∧ Below w.heap.size w w'
def GivesB (l : List UInt8) (err : Int) (w : World) (e : Ending) (w' : World) : Prop :=
  ∃ A n c, e = .returned (.tuple #[.slice A n c, .int .i64 err]) ∧ Rd w' 1 A n c (l.map bv8) ∧ Below w.heap.size w w'
theorem wRes_no {l : List UInt8} (h : wErr l.length ≠ 0) : wRes l = [] := if_neg h
theorem wRes_yes {l : List UInt8} (h : wErr l.length = 0) : wRes l = words l := if_pos h
theorem words_all (A : Option Addr) (n c : Nat) (l : List UInt8) (w : World) (hr : Rd w 1 A n c (l.map bv8)) : Calls Try.prog 19 #[.slice A n c] w (GivesW (wRes l) (wErr l.length) w) := by
  obtain rfl := hr.len
  have h1 := hr.2.1
  have h2 := hr.2.2.1
  unfold maxLen at h2
  by_cases hb : 2072 < l.length
  · have e : wErr l.length = 1 := if_pos hb
    rw [wRes_no (by omega), e]
    refine (words_big A _ c w hb (by omega)).mono ?_
    rintro e w' ⟨rfl, rfl⟩
    exact ⟨none, 0, 0, rfl, Rd.nil _ _, Below.refl _ _⟩
  · by_cases ho : l.length % 4 ≠ 0
    · have e : wErr l.length = 3 := by unfold wErr; rw [if_neg hb, if_pos ho]
      rw [wRes_no (by omega), e]
      refine (words_odd A _ c w (by omega) ho).mono ?_
      rintro e w' ⟨rfl, rfl⟩
      exact ⟨none, 0, 0, rfl, Rd.nil _ _, Below.refl _ _⟩
    · have e : wErr l.length = 0 := by unfold wErr; rw [if_neg hb, if_neg ho]
      rw [wRes_yes e, e]
      refine (words_ok A _ c l w hr (by omega) (by omega)).mono ?_
      rintro e w' ⟨g, rfl, hblk, hb⟩
      exact ⟨_, _, _, rfl, blk_rd hblk (by rw [List.length_map, words_length]) (by omega), hb⟩
theorem wordsOf_all (A : Option Addr) (n c : Nat) (l : List UInt8) (w : World) (hr : Rd w 1 A n c (l.map bv8)) : Calls Try.prog 21 #[.slice A n c] w (GivesW (wRes l) (wErr l.length) w) := by
  obtain rfl := hr.len
  have h1 := hr.2.1
  have h2 := hr.2.2.1
  unfold maxLen at h2
  by_cases hb : 2072 < l.length
  · have e : wErr l.length = 1 := if_pos hb
    rw [wRes_no (by omega), e]
    refine (wordsOf_big A _ c w hb (by omega)).mono ?_
    rintro e w' ⟨rfl, rfl⟩
    exact ⟨none, 0, 0, rfl, Rd.nil _ _, Below.refl _ _⟩
  · by_cases ho : l.length % 4 ≠ 0
    · have e : wErr l.length = 3 := by unfold wErr; rw [if_neg hb, if_pos ho]
      rw [wRes_no (by omega), e]
      refine (wordsOf_odd A _ c w (by omega) ho).mono ?_
      rintro e w' ⟨rfl, rfl⟩
      exact ⟨none, 0, 0, rfl, Rd.nil _ _, Below.refl _ _⟩
    · have e : wErr l.length = 0 := by unfold wErr; rw [if_neg hb, if_neg ho]
      rw [wRes_yes e, e]
      refine (wordsOf_ok A _ c l w hr (by omega) (by omega)).mono ?_
      rintro e w' ⟨v, rfl, hown, hb⟩
      obtain ⟨A', c', rfl, hrd⟩ := own_rd hown
      exact ⟨_, _, _, rfl, hrd, hb⟩
def bErr (n : Nat) : Int := if 2000 < n then 1 else 0
def bRes (l : List (BitVec 32)) : List UInt8 := if 2000 < l.length then [] else bytesW l
theorem bytes_all (A : Option Addr) (n c : Nat) (l : List (BitVec 32)) (w : World) (hr : Rd w 1 A n c (l.map wv)) : Calls Try.prog 20 #[.slice A n c] w (GivesB (bRes l) (bErr l.length) w) := by
  obtain rfl := hr.len
  have h1 := hr.2.1
  have h2 := hr.2.2.1
  unfold maxLen at h2
  by_cases hb : 2000 < l.length
  · rw [show bErr l.length = 1 from if_pos hb, show bRes l = [] from if_pos hb]
    refine (bytes_big A _ c w hb (by omega)).mono ?_
    rintro e w' ⟨rfl, rfl⟩
    exact ⟨none, 0, 0, rfl, Rd.nil _ _, Below.refl _ _⟩
  · rw [show bErr l.length = 0 from if_neg hb, show bRes l = bytesW l from if_neg hb]
    refine (bytes_ok A _ c l w hr (by omega)).mono ?_
    rintro e w' ⟨g, rfl, hblk, hb⟩
    exact ⟨_, _, _, rfl, blk_rd hblk (by rw [List.length_map, bytesW_length]) (by omega), hb⟩
theorem wordBytes_all (A : Option Addr) (n c : Nat) (l : List (BitVec 32)) (w : World) (hr : Rd w 1 A n c (l.map wv)) : Calls Try.prog 22 #[.slice A n c] w (GivesB (bRes l) (bErr l.length) w) := by
  obtain rfl := hr.len
  have h1 := hr.2.1
  have h2 := hr.2.2.1
  unfold maxLen at h2
  by_cases hb : 2000 < l.length
  · rw [show bErr l.length = 1 from if_pos hb, show bRes l = [] from if_pos hb]
    refine (wordBytes_big A _ c w hb (by omega)).mono ?_
    rintro e w' ⟨rfl, rfl⟩
    exact ⟨none, 0, 0, rfl, Rd.nil _ _, Below.refl _ _⟩
  · rw [show bErr l.length = 0 from if_neg hb, show bRes l = bytesW l from if_neg hb]
    refine (wordBytes_ok A _ c l w hr (by omega)).mono ?_
    rintro e w' ⟨v, rfl, hown, hb⟩
    obtain ⟨A', c', rfl, hrd⟩ := own_rd hown
    exact ⟨_, _, _, rfl, hrd, hb⟩
set_option maxHeartbeats 400000 in
theorem wordBytes_walk (A B : Option Addr) (n m c d : Nat) (l : List UInt8) (k : List (BitVec 32)) (w : World) (hr : Rd w 1 A n c (l.map bv8)) (hs : Rd w 1 B m d (k.map wv)) :
    Calls Try.prog 5 #[.slice A n c, .slice B m d] w fun e w' => e = .returned (.bool true) ∧ Below w.heap.size w w' := by
  generalize he : wErr l.length = e1
  generalize hf : bErr k.length = e2
  have c1 := fun w hr => words_all A n c l w hr
  have c2 := fun w hs => bytes_all B m d k w hs
  have c3 := fun w hr => wordsOf_all A n c l w hr
  have c4 := fun w hs => wordBytes_all B m d k w hs
  rw [he] at c1 c3
  rw [hf] at c2 c4
  generalize wRes l = r1 at c1 c3
  generalize bRes k = r2 at c2 c4
  have q1 : (e1 == e1) = true := by rw [beq_iff_eq]
  have q2 : (e2 == e2) = true := by rw [beq_iff_eq]
  have q3 : (r1 == r1) = true := by rw [beq_iff_eq]
  have q4 : (r2 == r2) = true := by rw [beq_iff_eq]
  have C1 := Lib.hid c1
  have C2 := Lib.hid c2
  have C3 := Lib.hid c3
  have C4 := Lib.hid c4
  clear c1 c2 c3 c4 he hf
  go_enter Try.func5, Try.ntmps5
  go_wp2_with fail
  with_reducible refine (C1.out _ hr).mono ?_
  rintro e w1 ⟨A1, n1, k1, rfl, hr1, hw1⟩
  go_wp2_with fail
  with_reducible refine (C2.out _ (hs.below hw1)).mono ?_
  rintro e w2 ⟨A2, n2, k2, rfl, hr2, hw2⟩
  have b2 := below_step hw1 hw2
  go_wp2_with fail
  with_reducible refine (C3.out _ (hr.below b2)).mono ?_
  rintro e w3 ⟨A3, n3, k3, rfl, hr3, hw3⟩
  have b3 := below_step b2 hw3
  go_wp2_with fail
  with_reducible refine (C4.out _ (hs.below b3)).mono ?_
  rintro e w4 ⟨A4, n4, k4, rfl, hr4, hw4⟩
  have b4 := below_step b3 hw4
  have f1 := ((hr1.below hw2).below hw3).below hw4
  have f3 := hr3.below hw4
  have f2 := (hr2.below hw3).below hw4
  go_wp2_with fail
  with_reducible refine (sameWords_any _ _ _ _ _ _ _ _ _ f1 f3).mono ?_
  rintro e w5 ⟨rfl, nd, rfl⟩
  go_wp2_with fail
  with_reducible refine (sameBytes_any _ _ _ _ _ _ _ _ _ (f2.drewN _) (hr4.drewN _)).mono ?_
  rintro e w6 ⟨rfl, rfl⟩
  go_wp2
  go_ret
  exact ⟨by simp, below_drewN b4 _⟩
end Go.Proofs.Ytjdkifljlbpmdaa

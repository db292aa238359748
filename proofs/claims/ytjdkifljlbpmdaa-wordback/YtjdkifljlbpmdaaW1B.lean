/- The law WordBack: words to bytes and back are the words. -/
import Derived.Test.YtjdkifljlbpmdaaW1x
import Derived.Test.YtjdkifljlbpmdaaW1e
namespace Go.Proofs.Ytjdkifljlbpmdaa
open Go.RowKit
theorem w8_by8 (x : BitVec 32) : w8 (by8 x) = x &&& 0xff#32 := by
  apply BitVec.eq_of_toNat_eq
  unfold w8 by8
  have h : x.toNat &&& 255 = x.toNat % 256 := Nat.and_two_pow_sub_one_eq_mod _ 8
  simp only [BitVec.toNat_ofNat, BitVec.toNat_and, UInt8.toNat_ofNat']
  show _ = x.toNat &&& 255
  rw [h]; omega
theorem word4_four (x : BitVec 32) : word4 (by8 (x >>> 24)) (by8 (x >>> 16)) (by8 (x >>> 8)) (by8 x) = x := by
  unfold word4
  simp only [w8_by8]
  apply BitVec.eq_of_getLsbD_eq
  intro i hi
  have hff : ∀ j, (0xff#32).getLsbD j = decide (j < 8) := by
    intro j
    by_cases hj : j < 32
    · have : ∀ j : Fin 32, (0xff#32).getLsbD j.val = decide (j.val < 8) := by decide
      exact this ⟨j, hj⟩
    · rw [BitVec.getLsbD_of_ge _ _ (by omega)]; simp; omega
  simp only [BitVec.getLsbD_or, BitVec.getLsbD_shiftLeft, BitVec.getLsbD_and, BitVec.getLsbD_ushiftRight, hff, hi, decide_true, Bool.true_and]
  by_cases h1 : i < 8
  · have a1 : i < 16 := by omega
    have a2 : i < 24 := by omega
    simp [h1, a1, a2]
  · by_cases h2 : i < 16
    · have a1 : ¬ i < 8 := h1
      have a2 : i < 24 := by omega
      have a3 : i - 8 < 8 := by omega
      have a4 : 8 + (i - 8) = i := by omega
      simp [h1, h2, a2, a3, a4]
    · by_cases h3 : i < 24
      · have a3 : ¬ i - 8 < 8 := by omega
        have a4 : i - 16 < 8 := by omega
        have a5 : 16 + (i - 16) = i := by omega
        simp [h1, h2, h3, a3, a4, a5]
      · have a3 : ¬ i - 8 < 8 := by omega
        have a4 : ¬ i - 16 < 8 := by omega
        have a5 : i - 24 < 8 := by omega
        have a6 : 24 + (i - 24) = i := by omega
        simp [h1, h2, h3, a3, a4, a5, a6]
theorem words_bytesW : ∀ l : List (BitVec 32), words (bytesW l) = l
  | [] => rfl
  | x :: r => by
    have e : bytesW (x :: r) = by8 (x >>> 24) :: by8 (x >>> 16) :: by8 (x >>> 8) :: by8 x :: bytesW r := rfl
    rw [e, words, words_bytesW r, word4_four]
theorem Rd.take {w : World} {A : Option Addr} {n c : Nat} {xs : List Value} (h : Rd w 1 A n c xs) (k : Nat) (hk : k ≤ n) : Rd w 1 A k c (xs.take k) := by
  obtain ⟨h1, h2, h3, h4⟩ := h
  refine ⟨by rw [List.length_take]; omega, by omega, h3, fun hp => ?_⟩
  obtain ⟨b, off, e, hc⟩ := h4 (by rw [List.length_take] at hp; omega)
  refine ⟨b, off, e, fun j v hv => hc j v ?_⟩
  rw [List.getElem?_take] at hv
  split at hv
  · exact hv
  · cases hv
set_option maxHeartbeats 400000 in
theorem wordBack_walk (A : Option Addr) (n0 c : Nat) (l0 : List (BitVec 32)) (w : World) (hr0 : Rd w 1 A n0 c (l0.map wv)) :
    Calls Try.prog 9 #[.slice A n0 c] w fun e w' => e = .returned (.bool true) ∧ Below w.heap.size w w' := by
  have hlm := hr0.2.2.1
  have hlc := hr0.2.1
  unfold maxLen at hlm
  obtain ⟨l, n, hn, hr⟩ : ∃ (l : List (BitVec 32)) (n : Nat), n = min n0 400 ∧ Rd w 1 A n c (l.map wv) := by
    refine ⟨l0.take (min n0 400), min n0 400, rfl, ?_⟩
    have := hr0.take (min n0 400) (by omega)
    rwa [← List.map_take] at this
  have hle : n ≤ 400 := by omega
  have eb : ((4 * n : Nat) : Int) = 4 * (n : Int) := by omega
  have ee : (l == l) = true := by rw [beq_iff_eq]
  by_cases hc : n0 ≤ 400
  · obtain rfl : n = n0 := by omega
    clear hn
    go_enter Try.func9, Try.ntmps9
    go_wp2_with fail
    with_reducible refine (bytes_ok _ _ _ l _ hr (by omega)).mono ?_
    rintro e w1 ⟨g, rfl, hb1, hw1⟩
    have hr1 := hb1.rd (size := 1) (n := 4 * n) (c := 4 * n) (Nat.le_refl _) (by unfold maxLen; omega) (by rw [List.length_map, bytesW_length, ← hr.len]; omega)
    rw [List.take_of_length_le (by rw [List.length_map, bytesW_length, ← hr.len]; omega)] at hr1
    have hq := hr.below hw1
    go_wp2_with fail
    with_reducible refine (words_ok _ _ _ _ _ hr1 (by omega) (by omega)).mono ?_
    rintro e w2 ⟨g2, rfl, hb2, hw2⟩
    rw [words_bytesW] at hb2
    have hr2 := hb2.rd (size := 1) (n := n) (c := n) (Nat.le_refl _) (by unfold maxLen; omega) (by rw [List.length_map, ← hr.len]; omega)
    rw [List.take_of_length_le (by rw [List.length_map, ← hr.len]; omega)] at hr2
    have hq2 := hq.below hw2
    go_wp2_with fail
    with_reducible refine (equalWords_any _ _ _ _ _ _ _ _ _ hq2 hr2).mono ?_
    rintro e w3 ⟨rfl, nd, rfl⟩
    go_wp2
    go_ret
    exact ⟨by simp, below_drewN (below_step hw1 hw2) _⟩
  · obtain rfl : n = 400 := by omega
    clear hn
    go_enter Try.func9, Try.ntmps9
    go_wp2_with fail
    with_reducible refine (bytes_ok _ _ _ l _ hr (by omega)).mono ?_
    rintro e w1 ⟨g, rfl, hb1, hw1⟩
    have hr1 := hb1.rd (size := 1) (n := 1600) (c := 1600) (Nat.le_refl _) (by unfold maxLen; omega) (by rw [List.length_map, bytesW_length, ← hr.len]; omega)
    rw [List.take_of_length_le (by rw [List.length_map, bytesW_length, ← hr.len]; omega)] at hr1
    have hq := hr.below hw1
    go_wp2_with fail
    with_reducible refine (words_ok _ _ _ _ _ hr1 (by omega) (by omega)).mono ?_
    rintro e w2 ⟨g2, rfl, hb2, hw2⟩
    rw [words_bytesW] at hb2
    have hr2 := hb2.rd (size := 1) (n := 400) (c := 400) (Nat.le_refl _) (by unfold maxLen; omega) (by rw [List.length_map, ← hr.len]; omega)
    rw [List.take_of_length_le (by rw [List.length_map, ← hr.len]; omega)] at hr2
    have hq2 := hq.below hw2
    go_wp2_with fail
    with_reducible refine (equalWords_any _ _ _ _ _ _ _ _ _ hq2 hr2).mono ?_
    rintro e w3 ⟨rfl, nd, rfl⟩
    go_wp2
    go_ret
    exact ⟨by simp, below_drewN (below_step hw1 hw2) _⟩
end Go.Proofs.Ytjdkifljlbpmdaa

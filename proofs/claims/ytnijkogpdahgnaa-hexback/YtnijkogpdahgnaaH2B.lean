/- The laws HexBack and HexTurns: the walks. -/
import Derived.Test.YtnijkogpdahgnaaH2m
namespace Go.Proofs.Ytnijkogpdahgnaa
open Go.RowKit
theorem Rd.take {w : World} {A : Option Addr} {n c : Nat} {xs : List Value} (h : Rd w 1 A n c xs) (k : Nat) (hk : k ≤ n) : Rd w 1 A k c (xs.take k) := by
  obtain ⟨h1, h2, h3, h4⟩ := h
  refine ⟨by rw [List.length_take]; omega, by omega, h3, fun hp => ?_⟩
  obtain ⟨b, off, e, hc⟩ := h4 (by rw [List.length_take] at hp; omega)
  refine ⟨b, off, e, fun j v hv => hc j v ?_⟩
  rw [List.getElem?_take] at hv
  split at hv
  · exact hv
  · cases hv
theorem Rd.as {w : World} {A : Option Addr} {n c : Nat} {l : List UInt8} (h : Rd w 1 A n c (l.map bv8)) : Rd w 1 A l.length c (l.map bv8) := by have := h.len; subst this; exact h
set_option maxHeartbeats 400000 in
theorem hexBack_walk (A : Option Addr) (n0 c : Nat) (l0 : List UInt8) (w : World) (hr0 : Rd w 1 A n0 c (l0.map bv8)) :
    Calls Try.prog 5 #[.slice A n0 c] w fun e w' => e = .returned (.bool true) ∧ Below w.heap.size w w' := by
  have hlm := hr0.2.2.1
  have hlc := hr0.2.1
  unfold maxLen at hlm
  obtain ⟨l, n, hn, hr⟩ : ∃ (l : List UInt8) (n : Nat), n = min n0 1000 ∧ Rd w 1 A n c (l.map bv8) := by
    refine ⟨l0.take (min n0 1000), min n0 1000, rfl, ?_⟩
    have := hr0.take (min n0 1000) (by omega)
    rwa [← List.map_take] at this
  have hle : n ≤ 1000 := by omega
  have hnl := hr.len
  have HL := Lib.hid (hexT_length l)
  have hlen2 : (hexT l).length ≤ maxLen := by rw [hexT_length]; unfold maxLen; omega
  have e0 := hErr_ok (l := hexT l) (by rw [hexT_length]; omega) (by rw [hexT_length]; omega) (hexT_all l)
  rw [unh_hexT] at e0
  have E1 := Lib.hid e0.1
  have E2 := Lib.hid e0.2
  have Hnl := Lib.hid hnl
  have ee : (l == l) = true := by simp
  clear e0 hnl
  by_cases hc : n0 ≤ 1000
  · obtain rfl : n = n0 := by omega
    clear hn
    go_enter Try.func5, Try.ntmps5
    go_wp2_with fail
    with_reducible refine (text_any _ _ _ l _ hr (by omega)).mono ?_
    rintro e w1 ⟨rfl, hw1⟩
    go_wp2_with fail
    with_reducible refine (hbytes_all _ _ hlen2).mono ?_
    rintro e w2 ⟨A2, n2, c2, rfl, hr2, hw2⟩
    rw [E2.out] at hr2
    rw [E1.out]
    have h2 := hr2.len
    have hq := (hr.below hw1).below hw2
    rw [← Hnl.out] at h2
    subst h2
    have k1 := run_bytes_str (P := Try.prog) Try.underlying22 Try.underlying5 Try.underlying9 hq.as
    have k2 := run_bytes_str (P := Try.prog) Try.underlying22 Try.underlying5 Try.underlying9 hr2.as
    rw [← Hnl.out] at k1 k2
    have hl2 : ((hexT l).length : Int) = 2 * (n2 : Int) := by rw [HL.out, Hnl.out]; omega
    go_wp2
    go_ret
    exact ⟨by simp, below_step hw1 hw2⟩
  · obtain rfl : n = 1000 := by omega
    clear hn
    go_enter Try.func5, Try.ntmps5
    go_wp2_with fail
    with_reducible refine (text_any _ _ _ l _ hr (by omega)).mono ?_
    rintro e w1 ⟨rfl, hw1⟩
    go_wp2_with fail
    with_reducible refine (hbytes_all _ _ hlen2).mono ?_
    rintro e w2 ⟨A2, n2, c2, rfl, hr2, hw2⟩
    rw [E2.out] at hr2
    rw [E1.out]
    have h2 := hr2.len
    have hq := (hr.below hw1).below hw2
    rw [← Hnl.out] at h2
    subst h2
    have k1 := run_bytes_str (P := Try.prog) Try.underlying22 Try.underlying5 Try.underlying9 hq.as
    have k2 := run_bytes_str (P := Try.prog) Try.underlying22 Try.underlying5 Try.underlying9 hr2.as
    rw [← Hnl.out] at k1 k2
    have hl2 : ((hexT l).length : Int) = 2000 := by rw [HL.out]; have := Hnl.out; omega
    go_wp2
    go_ret
    exact ⟨by simp, below_step hw1 hw2⟩
theorem hErr_0aff : hErr [48, 97, 102, 102] = 0 ∧ hRes [48, 97, 102, 102] = [10, 255] := by decide +kernel
set_option maxHeartbeats 400000 in
theorem hexTurns_walk (l : List UInt8) (w : World) (hm : l.length ≤ maxLen) :
    Calls Try.prog 6 #[.string (str l)] w fun e w' => e = .returned (.bool true) ∧ Below w.heap.size w w' := by
  have hc1 : (⟨#[48, 97, 102, 102]⟩ : ByteArray) = str [48, 97, 102, 102] := rfl
  have hc2 : (⟨#[10, 255]⟩ : ByteArray) = str [10, 255] := rfl
  have ee : (([10, 255] : List UInt8) != [10, 255]) = false := by decide
  go_enter Try.func6, Try.ntmps6
  go_wp2_with fail
  with_reducible refine (hbytes_all _ _ hm).mono ?_
  rintro e w1 ⟨A1, n1, c1, rfl, hr1, hw1⟩
  go_wp2_with fail
  with_reducible refine (hbytes_all _ _ (by simp [maxLen])).mono ?_
  rintro e w2 ⟨A2, n2, c2, rfl, hr2, hw2⟩
  rw [hErr_0aff.1]
  rw [hErr_0aff.2] at hr2
  have h2 := hr2.len
  simp only [List.length_cons, List.length_nil] at h2
  subst h2
  have k2 : (convert 22 9 (.slice A2 2 c2)).run Try.prog w2 = .ok (.string (str [10, 255])) w2 := run_bytes_str (P := Try.prog) Try.underlying22 Try.underlying5 Try.underlying9 hr2
  by_cases h0 : hErr l = 0
  · have hlr : 4000 < l.length ∨ ¬ 4000 < l.length := by omega
    have hbound : l.length ≤ 4000 ∧ hRes l = unh l ∧ hexT (unh l) = l := by
      unfold hErr at h0
      split at h0
      · omega
      · split at h0
        · omega
        · rename_i h3 h4
          have h5 : l.length % 2 = 0 := by
            rcases Nat.eq_zero_or_pos (l.length % 2) with h | h
            · exact h
            · exact absurd (.inl (by omega)) h4
          have h6 : l.all isD = true := by
            cases h : l.all isD
            · exact absurd (.inr h) h4
            · rfl
          exact ⟨by omega, (hErr_ok (by omega) h5 h6).2, hexT_unh l h5 h6⟩
    obtain ⟨hb1, hb2, hb3⟩ := hbound
    rw [hb2] at hr1
    have hn1 := hr1.len
    rw [unh_length] at hn1
    have hz : n1 ≤ 140737488351232 := by omega
    have HB := Lib.hid hb3
    have H0 := Lib.hid h0
    have e1 : (l == l) = true := by simp
    clear hb2 hb3 hlr hn1 h0
    rw [H0.out]
    go_wp2_with fail
    with_reducible refine (text_any _ _ _ (unh l) _ (hr1.below hw2) hz).mono ?_
    rintro e w3 ⟨rfl, hw3⟩
    rw [HB.out]
    go_wp2
    go_ret
    exact ⟨by simp, below_step (below_step hw1 hw2) hw3⟩
  · have hres : hRes l = [] := if_neg h0
    rw [hres] at hr1
    have hn1 := hr1.len
    simp only [List.length_nil] at hn1
    subst hn1
    have hne : (hErr l != 0) = true := by rw [bne_iff_ne]; exact h0
    clear h0 hres
    go_wp2
    go_ret
    exact ⟨by simp, below_step hw1 hw2⟩
end Go.Proofs.Ytnijkogpdahgnaa

/- The law HexDigests: the walk. -/
import Derived.Test.YtnijkogpdahgnaaH2m
import Derived.Test.YtnijkogpdahgnaaDg
import Derived.Test.YtnijkogpdahgnaaShelf
namespace Go.Proofs.Ytnijkogpdahgnaa
open Go.RowKit
theorem cErr_ok {l : List UInt8} (h : l.length = 64) (hd : l.all isD = true) : cErr l = 0 := by
  unfold cErr; rw [if_neg (by omega), hd]; rfl
theorem cErr_G : cErr (Lib.repeatL [71] 64) = 3 := by decide +kernel
theorem cErr_hexT (l : List UInt8) : (cErr (hexT l) == 0) = decide (l.length = 32) := by
  by_cases h : l.length = 32
  · rw [cErr_ok (by rw [hexT_length]; omega) (hexT_all l), decide_eq_true h]; rfl
  · rw [show cErr (hexT l) = 1 from if_pos (by rw [hexT_length]; omega), decide_eq_false h]; rfl
theorem repeatG (w : World) : Calls Try.prog 18 #[.string (str [71]), .int .i64 64] w fun e w' => e = .returned (.string (str (Lib.repeatL [71] 64))) ∧ Below w.heap.size w w' :=
  Try.strings_Repeat_main (str [71]) 64 w (by omega) (by omega) (by simp [str_size]) (by simp [str_size])
theorem repeatG_length : (Lib.repeatL [71] 64).length ≤ maxLen := by rw [Lib.repeatL_length]; simp [maxLen]
set_option maxRecDepth 100000 in
set_option maxHeartbeats 1000000 in
theorem hexDigests_walk (A : Option Addr) (n c : Nat) (l : List UInt8) (w : World) (hr : Rd w 1 A n c (l.map bv8)) (hz : n ≤ 140737488351232) :
    Calls Try.prog 8 #[.slice A n c] w fun e w' => e = .returned (.bool true) ∧ Below w.heap.size w w' := by
  have hn := hr.len
  have hD := dig_length l
  have hm1 : (dig l).length ≤ maxLen := by rw [hD]; simp [maxLen]
  have hm2 : (hexT l).length ≤ maxLen := by rw [hexT_length, ← hn]; unfold maxLen; omega
  have E1 := Lib.hid (cErr_ok hD (hexT_all _))
  have e2 := cErr_hexT l
  have Hn := Lib.hid hn
  clear hD hn
  have hG : (⟨#[71]⟩ : ByteArray) = str [71] := rfl
  have e32 : ((n : Int) == 32) = decide (l.length = 32) := by
    rw [Bool.eq_iff_iff, beq_iff_eq, decide_eq_true_iff, ← Hn.out]; omega
  generalize decide (l.length = 32) = b at *
  have eb : (b == b) = true := by simp
  go_enter Try.func8, Try.ntmps8
  go_wp2_with fail
  with_reducible refine (text_any _ _ _ _ _ hr hz).mono ?_
  rintro e w1 ⟨rfl, hb1⟩
  go_wp2_with fail
  with_reducible refine (digest_ok _ _ _ _ _ (hr.below hb1) hz).mono ?_
  rintro e w2 ⟨rfl, hb2⟩
  go_wp2_with fail
  with_reducible refine (hcheck_all _ _ hm1).mono ?_
  rintro e w3 ⟨rfl, rfl⟩
  rw [E1.out]
  go_wp2_with fail
  with_reducible refine (hcheck_all _ _ hm2).mono ?_
  rintro e w3 ⟨rfl, rfl⟩
  go_wp2_with fail
  with_reducible refine (repeatG _).mono ?_
  rintro e w3 ⟨rfl, hb3⟩
  go_wp2_with fail
  with_reducible refine (hcheck_all _ _ repeatG_length).mono ?_
  rintro e w4 ⟨rfl, rfl⟩
  rw [cErr_G]
  go_wp2
  go_ret
  exact ⟨rfl, below_step (below_step hb1 hb2) hb3⟩
end Go.Proofs.Ytnijkogpdahgnaa

/- Hexadecimal digits; the program's Check. -/
import Derived.Test.YtaaeihkbnfcolaaRows
import Derived.Test.YtaaeihkbnfcolaaY8
import Derived.Lib.Hide
import Derived.IntWalk
import Derived.Deep.QuietTactic
import Derived.BigQuiet
namespace Go.Proofs.Ytaaeihkbnfcolaa
open Go.RowKit
/-- is the byte one of the digits -/
def isD (c : UInt8) : Bool := decide (48 ≤ y8 c ∧ y8 c ≤ 57 ∨ 97 ≤ y8 c ∧ y8 c ≤ 102)
/-- the number of a digit -/
def vl (c : UInt8) : UInt8 := if c ≤ 57 then c - 48 else c - 87
theorem isD_iff (c : UInt8) : isD c = true ↔ (48 ≤ y8 c ∧ y8 c ≤ 57 ∨ 97 ≤ y8 c ∧ y8 c ≤ 102) := by simp [isD]
theorem vl_table : ∀ n : Fin 256, isD (UInt8.ofNat n.val) = true → (y8 (vl (UInt8.ofNat n.val)) = if y8 (UInt8.ofNat n.val) ≤ 57 then y8 (UInt8.ofNat n.val) - 48 else y8 (UInt8.ofNat n.val) - 87) ∧ dg (vl (UInt8.ofNat n.val)) = UInt8.ofNat n.val ∧ (vl (UInt8.ofNat n.val)).toNat < 16 := by decide +kernel
theorem vl_spec {c : UInt8} (h : isD c = true) : (y8 (vl c) = if y8 c ≤ 57 then y8 c - 48 else y8 c - 87) ∧ dg (vl c) = c ∧ (vl c).toNat < 16 := by
  have := vl_table ⟨c.toNat, c.toNat_lt⟩
  simp only [UInt8.ofNat_toNat] at this
  exact this h
theorem dgD_table : ∀ n : Fin 256, isD (dg (UInt8.ofNat n.val >>> 4)) = true ∧ isD (dg (UInt8.ofNat n.val &&& 15)) = true := by decide +kernel
theorem dgD (x : UInt8) : isD (dg (x >>> 4)) = true ∧ isD (dg (x &&& 15)) = true := by
  have := dgD_table ⟨x.toNat, x.toNat_lt⟩
  simpa only [UInt8.ofNat_toNat] using this
theorem hexT_isD : ∀ l : List UInt8, (hexT l).all isD = true
  | [] => rfl
  | a :: r => by
    rw [show hexT (a :: r) = dg (a >>> 4) :: dg (a &&& 15) :: hexT r from rfl, List.all_cons, List.all_cons, (dgD a).1, (dgD a).2, hexT_isD r]; rfl
set_option maxRecDepth 100000 in
set_option maxHeartbeats 400000 in
theorem isDigit_any (c : UInt8) (w : World) :
    Calls Try.prog 59 #[.int .u8 (y8 c)] w fun e w' => e = .returned (.bool (isD c)) ∧ w = w' := by
  have hfin : Hid (∀ b : Bool, (b = true ↔ (48 ≤ y8 c ∧ y8 c ≤ 57 ∨ 97 ≤ y8 c ∧ y8 c ≤ 102)) → b = isD c) := fun b h => by
    rw [Bool.eq_iff_iff, h, isD_iff]
  have g0 := y8_nonneg c
  have g1 := y8_lt c
  go_enter Try.func59, Try.ntmps59
  go_wp2
  all_goals (go_ret; exact ⟨ret_bool (hfin.out _ (by first | (simp; omega) | omega)), rfl⟩)
theorem all_snoc {l : List UInt8} {k : Nat} (hk : k < l.length) : (l.take (k + 1)).all isD = ((l.take k).all isD && isD l[k]) := by
  rw [List.take_succ_eq_append_getElem hk, List.all_append]; simp
set_option maxHeartbeats 400000 in
theorem onlyDigits_any (l : List UInt8) (w : World) (hl : l.length ≤ maxLen) :
    Calls Try.prog 51 #[.string (str l)] w fun e w' => e = .returned (.bool (l.all isD)) ∧ w = w' := by
  unfold maxLen at hl
  go_enter Try.func51, Try.ntmps51
  go_wp2
  go_loop [3, 6] (fun _ i => ∃ k : Nat, k ≤ l.length ∧ i = .int .i64 k ∧ Hid ((l.take k).all isD = true)) (fun _ i => l.length - (intOf i).toNat)
  case atStart => exact ⟨0, Nat.zero_le _, rfl, rfl⟩
  case round =>
    obtain ⟨k, hk, rfl, HA⟩ := hrel
    by_cases hlt : k < l.length
    · have hs := all_snoc hlt
      rw [HA.out, Bool.true_and] at hs
      have HS := Lib.hid hs
      clear hs
      by_cases hd : isD l[k] = true
      · go_wp2_with ((with_reducible refine (isDigit_any _ _).mono ?_); rintro e w' ⟨rfl, rfl⟩)
        go_round
        case rel => exact ⟨k + 1, by omega, by go_num, HS.out.trans hd⟩
        case measure => simp [intOf]; omega
      · have hd' : isD l[k] = false := by simpa using hd
        have hf : Hid (l.all isD = false) := by
          show _ = _
          rw [Bool.eq_false_iff]
          intro h
          exact hd (List.all_eq_true.1 h _ (List.getElem_mem hlt))
        clear hd
        go_wp2_with ((with_reducible refine (isDigit_any _ _).mono ?_); rintro e w' ⟨rfl, rfl⟩)
        go_ret
        exact ⟨ret_bool hf.out.symm, rfl⟩
    · have hf : Hid (l.all isD = true) := by
        show _ = _
        have := HA.out
        rwa [List.take_of_length_le (by omega)] at this
      go_wp2
      go_ret
      exact ⟨ret_bool hf.out.symm, rfl⟩
set_option maxHeartbeats 400000 in
theorem hcheck_size (l : List UInt8) (w : World) (h : l.length ≠ 64) :
    Calls Try.prog 42 #[.string (str l)] w fun e w' => e = .returned (.int .i64 1) ∧ w = w' := by
  have hne : ((l.length : Int) != 64) = true := by rw [bne_iff_ne]; omega
  go_enter Try.func42, Try.ntmps42
  go_wp2
  go_ret
  exact ⟨rfl, rfl⟩
set_option maxHeartbeats 400000 in
theorem hcheck_form (l : List UInt8) (w : World) (h : l.length = 64) (b : Bool) (hd : l.all isD = b) :
    Calls Try.prog 42 #[.string (str l)] w fun e w' => e = .returned (.int .i64 (if b then 0 else 3)) ∧ w = w' := by
  have hne : ((l.length : Int) != 64) = false := by rw [bne_eq_false_iff_eq]; omega
  have hm : l.length ≤ maxLen := by unfold maxLen; omega
  clear h
  cases b
  all_goals
    go_enter Try.func42, Try.ntmps42
    go_wp2_with ((with_reducible refine (onlyDigits_any _ _ hm).mono ?_); rintro e w' ⟨rfl, rfl⟩)
    go_ret
    exact ⟨rfl, rfl⟩
end Go.Proofs.Ytaaeihkbnfcolaa

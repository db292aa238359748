/- Reading a number: the reference's WireNumberOf. -/
import Derived.Test.YtaaeihkbnfcolaaNr
import Derived.Test.YtaaeihkbnfcolaaRm
import Derived.Test.YtaaeihkbnfcolaaRf
import Derived.Test.YtaaeihkbnfcolaaRr
import Derived.StillTailTactics
import Derived.RegionTactic
namespace Go.Proofs.Ytaaeihkbnfcolaa
open Go.RowKit
theorem y8_and127 (x : UInt8) : bits .and .u8 (y8 x) 127 = ((x.toNat % 128 : Nat) : Int) := by
  have : ∀ n : Fin 256, bits .and .u8 (n.val : Int) 127 = ((n.val % 128 : Nat) : Int) := by decide +kernel
  exact this ⟨x.toNat, x.toNat_lt⟩
set_option maxRecDepth 100000 in
set_option maxHeartbeats 1000000 in
theorem rof_long (A : Option Addr) (n c : Nat) (l : List UInt8) (w : World) (hr : Rd w 1 A n c (l.map bv8)) (h5 : 5 ≤ lead l) :
    Calls Try.prog 37 #[.slice A n c] w fun e' w' => e' = .returned (.tuple #[.int .i64 0, .slice none 0 0, .int .i64 3]) ∧ w = w' := by
  obtain rfl := hr.len
  have hle := lead_le l
  have hcm := hr.2.1
  have hcx := hr.2.2.1
  unfold maxLen at hcx
  have hl5 : 5 ≤ l.length := by omega
  have H5 := Lib.hid h5
  clear h5 hle
  go_enter Try.func37, Try.ntmps37
  go_wp2
  go_loop [5] (fun q => ∃ k : Nat, k ≤ 5 ∧ q = .int .i64 k) (fun q => 5 - (intOf q).toNat)
  case atStart => exact ⟨0, by omega, rfl⟩
  case round =>
    obtain ⟨k, hk, rfl⟩ := hrel
    by_cases hlt : k < 5
    · have hkl : k < l.length := by omega
      have hki : (k : Int) < (l.length : Int) := by omega
      have hk5 : (k : Int) < 5 := by omega
      obtain ⟨b, off, rfl, hcell⟩ := hr.at (k := k) (v := .int .u8 (y8 l[k])) (by rw [List.getElem?_map, List.getElem?_eq_getElem (by omega)]; rfl)
      have hx := lead_at l k (by have := H5.out; omega) hkl
      have hd : decide (128 ≤ y8 l[k]) = true := by unfold y8; simp; omega
      clear hx
      go_wp2
      go_round
      case rel => exact ⟨k + 1, by omega, by go_num⟩
      case measure => simp [intOf] <;> omega
    · have hk5 : k = 5 := by omega
      subst hk5
      by_cases h6 : 5 < l.length
      · have hki : (5 : Int) < (l.length : Int) := by omega
        go_wp2
        go_ret3
        exact ⟨rfl, rfl⟩
      · have hki : ¬ (5 : Int) < (l.length : Int) := by omega
        go_wp2
        go_ret3
        exact ⟨rfl, rfl⟩
set_option maxRecDepth 100000 in
set_option maxHeartbeats 1000000 in
theorem rof_short (A : Option Addr) (n c : Nat) (l : List UInt8) (w : World) (hr : Rd w 1 A n c (l.map bv8)) (h5 : lead l < 5) (h6 : lead l = l.length) :
    Calls Try.prog 37 #[.slice A n c] w fun e' w' => e' = .returned (.tuple #[.int .i64 0, .slice none 0 0, .int .i64 8]) ∧ w = w' := by
  obtain rfl := hr.len
  have hcm := hr.2.1
  have hcx := hr.2.2.1
  unfold maxLen at hcx
  have hl5 : l.length < 5 := by omega
  have H6 := Lib.hid h6
  clear h5 h6
  go_enter Try.func37, Try.ntmps37
  go_wp2
  go_loop [5] (fun q => ∃ k : Nat, k ≤ l.length ∧ q = .int .i64 k) (fun q => 5 - (intOf q).toNat)
  case atStart => exact ⟨0, by omega, rfl⟩
  case round =>
    obtain ⟨k, hk, rfl⟩ := hrel
    by_cases hlt : k < l.length
    · have hki : (k : Int) < (l.length : Int) := by omega
      have hk5 : (k : Int) < 5 := by omega
      obtain ⟨b, off, rfl, hcell⟩ := hr.at (k := k) (v := .int .u8 (y8 l[k])) (by rw [List.getElem?_map, List.getElem?_eq_getElem (by omega)]; rfl)
      have hx := lead_at l k (by have := H6.out; omega) hlt
      have hd : decide (128 ≤ y8 l[k]) = true := by unfold y8; simp; omega
      clear hx
      go_wp2
      go_round
      case rel => exact ⟨k + 1, by omega, by go_num⟩
      case measure => simp [intOf] <;> omega
    · have hd : decide ((k : Int) < (l.length : Int)) = false := by simp; omega
      have hd2 : ((k : Int) == 5) = false := by rw [beq_eq_false_iff_ne]; omega
      have hd3 : ((k : Int) == (l.length : Int)) = true := by rw [beq_iff_eq]; omega
      go_wp2
      go_ret3
      exact ⟨rfl, rfl⟩
end Go.Proofs.Ytaaeihkbnfcolaa

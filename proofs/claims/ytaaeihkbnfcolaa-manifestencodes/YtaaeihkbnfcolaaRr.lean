/- Reading a number: the program's ReadNumber. -/
import Derived.Test.YtaaeihkbnfcolaaRm
import Derived.Test.YtaaeihkbnfcolaaRf
namespace Go.Proofs.Ytaaeihkbnfcolaa
open Go.RowKit
theorem rErr_cases (l : List UInt8) : rErr l = 0 ∨ (rErr l = 3 ∧ rVal l = 0 ∧ rLen l = 0 ∧ rRest l = []) ∨ (rErr l = 8 ∧ rVal l = 0 ∧ rLen l = 0 ∧ rRest l = []) := by
  have hle := lead_le l
  by_cases h5 : 5 ≤ lead l
  · exact .inr (.inl (read_long h5))
  · by_cases h6 : lead l = l.length
    · exact .inr (.inr (read_short (by omega) h6))
    · by_cases h7 : 4294967295 < val (l.take (lead l + 1)) ∨ enc (val (l.take (lead l + 1))) ≠ l.take (lead l + 1)
      · exact .inr (.inl (read_form (by omega) (by omega) h7))
      · refine .inl (read_ok (by omega) (by omega) ?_ ?_).1
        · exact Nat.le_of_not_lt fun q => h7 (.inl q)
        · exact Classical.byContradiction fun q => h7 (.inr q)
theorem wnumber_at (A : Option Addr) (n c : Nat) (l : List UInt8) (w : World) (hr : Rd w 1 A n c (l.map bv8)) (v k e : Int) (hv : (rVal l : Int) = v) (hk : (rLen l : Int) = k) (he : rErr l = e) :
    Calls Try.prog 54 #[.slice A n c] w fun e' w' => e' = .returned (.tuple #[.int .i64 v, .int .i64 k, .int .i64 e]) ∧ w = w' := by
  rw [← hv, ← hk, ← he]; exact wnumber_any A n c l w hr
set_option maxHeartbeats 400000 in
theorem readNumber_no (A : Option Addr) (n c : Nat) (l : List UInt8) (w : World) (hr : Rd w 1 A n c (l.map bv8)) (e : Int) (he : rErr l = e) (hv : rVal l = 0) (hk : rLen l = 0) (hne : e = 8 ∨ e = 3) :
    Calls Try.prog 47 #[.slice A n c] w fun e' w' => e' = .returned (.tuple #[.int .i64 0, .slice none 0 0, .int .i64 e]) ∧ w = w' := by
  have HV := Lib.hid hv
  have HK := Lib.hid hk
  have HE := Lib.hid he
  clear hv hk he
  rcases hne with rfl | rfl
  · go_enter Try.func47, Try.ntmps47
    go_wp2_with ((with_reducible refine (wnumber_at _ _ _ _ _ hr 0 0 8 (by simp [HV.out]) (by simp [HK.out]) HE.out).mono ?_); rintro e' w' ⟨rfl, rfl⟩)
    go_ret3
    exact ⟨rfl, rfl⟩
  · go_enter Try.func47, Try.ntmps47
    go_wp2_with ((with_reducible refine (wnumber_at _ _ _ _ _ hr 0 0 3 (by simp [HV.out]) (by simp [HK.out]) HE.out).mono ?_); rintro e' w' ⟨rfl, rfl⟩)
    go_ret3
    exact ⟨rfl, rfl⟩
set_option maxHeartbeats 400000 in
theorem readNumber_ok (A : Option Addr) (n c : Nat) (l : List UInt8) (w : World) (hr : Rd w 1 A n c (l.map bv8)) (hz : n ≤ 140737488355328) (he : rErr l = 0) :
    Calls Try.prog 47 #[.slice A n c] w (GivesN (.int .i64 (rVal l)) (rRest l) 0 w) := by
  obtain rfl := hr.len
  have hok := rErr_ok he
  have hcm := hr.2.1
  have hcx := hr.2.2.1
  unfold maxLen at hcx
  obtain ⟨k, hk⟩ : ∃ k, rLen l = k := ⟨_, rfl⟩
  have hkl : k ≤ l.length := by rw [← hk]; exact rLen_le l
  have hk1 : 1 ≤ k := by rw [← hk]; unfold rLen; rw [if_pos he]; omega
  have hrest := rRest_eq he
  rw [hk] at hrest
  obtain ⟨v, hv⟩ : ∃ v, rVal l = v := ⟨_, rfl⟩
  have HK := Lib.hid hk
  have HE := Lib.hid he
  have HV := Lib.hid hv
  have HR := Lib.hid hrest
  obtain ⟨b, off, rfl, hcell⟩ := hr.2.2.2 (by simp; omega)
  have hki : (k : Int) ≤ (l.length : Int) := by omega
  clear hcell hk he hv hrest hok
  by_cases hck : c = k
  · subst hck
    have hlc : l.length = c := by omega
    have hd : Rd w 1 (some ⟨b, off, none⟩) 0 0 (([] : List UInt8).map bv8) := Rd.none0 w (some ⟨b, off, none⟩) 0 (by unfold maxLen; omega)
    have Hlc := Lib.hid hlc
    clear hlc
    go_enter Try.func47, Try.ntmps47
    go_wp2_with fail
    with_reducible refine (wnumber_at _ _ _ _ _ hr (v : Int) (c : Int) 0 (by rw [HV.out]) (by rw [HK.out]) HE.out).mono ?_
    rintro e' w' ⟨rfl, rfl⟩
    go_wp2_with fail
    with_reducible refine (copied_any _ _ _ _ _ hd (by omega)).mono ?_
    rintro e' w1 ⟨rfl, hr1, hb1⟩
    go_wp2
    go_ret3
    have e0 : rRest l = [] := by rw [HR.out, ← Hlc.out, List.drop_length]
    rw [HV.out, e0]
    exact ⟨_, _, _, rfl, hr1, fun h => by (cases h), by omega, fun _ q => by (cases q; exact Nat.le_refl _), hb1⟩
  · have hck' : ¬ c = k := hck
    have hd := hr.drop k hkl
    rw [← List.map_drop] at hd
    go_enter Try.func47, Try.ntmps47
    go_wp2_with fail
    with_reducible refine (wnumber_at _ _ _ _ _ hr (v : Int) (k : Int) 0 (by rw [HV.out]) (by rw [HK.out]) HE.out).mono ?_
    rintro e' w' ⟨rfl, rfl⟩
    go_wp2_with fail
    with_reducible refine (copied_any _ _ _ _ _ hd (by omega)).mono ?_
    rintro e' w1 ⟨rfl, hr1, hb1⟩
    go_wp2
    go_ret3
    rw [HV.out, HR.out]
    exact ⟨_, _, _, rfl, hr1, fun h => by (cases h), by omega, fun _ q => by (cases q; exact Nat.le_refl _), hb1⟩
theorem readNumber_any (A : Option Addr) (n c : Nat) (l : List UInt8) (w : World) (hr : Rd w 1 A n c (l.map bv8)) (hz : n ≤ 140737488355328) :
    Calls Try.prog 47 #[.slice A n c] w (GivesN (.int .i64 (rVal l)) (rRest l) (rErr l) w) := by
  rcases rErr_cases l with h | h | h
  · rw [h]; exact readNumber_ok A n c l w hr hz h
  · rw [h.1, h.2.1, h.2.2.2]
    exact (readNumber_no A n c l w hr 3 h.1 h.2.1 h.2.2.1 (.inr rfl)).mono fun _ _ k => givesN_nil k
  · rw [h.1, h.2.1, h.2.2.2]
    exact (readNumber_no A n c l w hr 8 h.1 h.2.1 h.2.2.1 (.inl rfl)).mono fun _ _ k => givesN_nil k
end Go.Proofs.Ytaaeihkbnfcolaa

/- Reading a text: the program's ReadText. -/
import Derived.Test.YtaaeihkbnfcolaaRr
import Derived.Test.YtaaeihkbnfcolaaVt
import Derived.Deep.RegionWith
namespace Go.Proofs.Ytaaeihkbnfcolaa
open Go.RowKit
set_option maxHeartbeats 400000 in
theorem readText_no (A : Option Addr) (n c : Nat) (l : List UInt8) (w : World) (hr : Rd w 1 A n c (l.map bv8)) (e : Int) (he : rErr l = e) (hv : rVal l = 0) (hk : rLen l = 0) (hne : e = 8 ∨ e = 3) :
    Calls Try.prog 56 #[.slice A n c] w fun e' w' => e' = .returned (.tuple #[.string (str []), .slice none 0 0, .int .i64 e]) ∧ w = w' := by
  have HV := Lib.hid hv
  have HK := Lib.hid hk
  have HE := Lib.hid he
  clear hv hk he
  rcases hne with rfl | rfl
  · go_enter Try.func56, Try.ntmps56
    go_wp2_with ((with_reducible refine (wnumber_at _ _ _ _ _ hr 0 0 8 (by simp [HV.out]) (by simp [HK.out]) HE.out).mono ?_); rintro e' w' ⟨rfl, rfl⟩)
    go_ret3
    exact ⟨rfl, rfl⟩
  · go_enter Try.func56, Try.ntmps56
    go_wp2_with ((with_reducible refine (wnumber_at _ _ _ _ _ hr 0 0 3 (by simp [HV.out]) (by simp [HK.out]) HE.out).mono ?_); rintro e' w' ⟨rfl, rfl⟩)
    go_ret3
    exact ⟨rfl, rfl⟩
set_option maxRecDepth 100000 in
set_option maxHeartbeats 2000000 in
theorem readText_some (b off n c : Nat) (l : List UInt8) (w : World) (hr : Rd w 1 (some ⟨b, off, none⟩) n c (l.map bv8)) (hz : n ≤ 140737488355328) (he : rErr l = 0) (hfull : ¬ c = rLen l) :
    Calls Try.prog 56 #[.slice (some ⟨b, off, none⟩) n c] w (GivesN (.string (str (tStr l))) (tRest l) (tErr l) w) := by
  obtain rfl := hr.len
  have hcm := hr.2.1
  have hcx := hr.2.2.1
  unfold maxLen at hcx
  obtain ⟨k, hk⟩ : ∃ k, rLen l = k := ⟨_, rfl⟩
  have hkl : k ≤ l.length := by rw [← hk]; exact rLen_le l
  have hrest := rRest_eq he
  rw [hk] at hrest hfull
  obtain ⟨v, hv⟩ : ∃ v, rVal l = v := ⟨_, rfl⟩
  have hvx : v < 4294967296 := by rw [← hv]; exact rVal_lt l
  have HK := Lib.hid hk
  have HE := Lib.hid he
  have HV := Lib.hid hv
  have HR := Lib.hid hrest
  have hki : (k : Int) ≤ (l.length : Int) := by omega
  have hdr := hr.drop k hkl
  rw [← List.map_drop] at hdr
  have HL : Hid ((rRest l).length = l.length - k) := by show _ = _; rw [hrest, List.length_drop]
  have hli : ((l.length - k : Nat) : Int) = (l.length : Int) - (k : Int) := by omega
  clear hk he hv hrest
  by_cases hbig : 2000 < v
  · have hd : decide (2000 < (v : Int)) = true := by simp; omega
    have HT := Lib.hid (tErr_big HE.out (by rw [HV.out]; exact hbig))
    go_enter Try.func56, Try.ntmps56
    go_wp2_with ((with_reducible refine (wnumber_at _ _ _ _ _ hr (v : Int) (k : Int) 0 (by rw [HV.out]) (by rw [HK.out]) HE.out).mono ?_); rintro e' w' ⟨rfl, rfl⟩)
    go_ret3
    rw [(tErr_no HT.out (by omega)).1, (tErr_no HT.out (by omega)).2, HT.out]
    exact givesN_nil ⟨rfl, rfl⟩
  · have hd : decide (2000 < (v : Int)) = false := by simp; omega
    by_cases hsh : l.length - k < v
    · have hd2 : decide (((l.length - k : Nat) : Int) < (v : Int)) = true := by simp; omega
      have HT := Lib.hid (tErr_short HE.out (by rw [HV.out]; exact hbig) (by rw [HV.out, HL.out]; exact hsh))
      go_enter Try.func56, Try.ntmps56
      go_wp2_with ((with_reducible refine (wnumber_at _ _ _ _ _ hr (v : Int) (k : Int) 0 (by rw [HV.out]) (by rw [HK.out]) HE.out).mono ?_); rintro e' w' ⟨rfl, rfl⟩)
      go_ret3
      rw [(tErr_no HT.out (by omega)).1, (tErr_no HT.out (by omega)).2, HT.out]
      exact givesN_nil ⟨rfl, rfl⟩
    · have hd2 : decide (((l.length - k : Nat) : Int) < (v : Int)) = false := by simp; omega
      have HT := Lib.hid (tErr_zero HE.out (by rw [HV.out]; exact hbig) (by rw [HV.out, HL.out]; exact hsh))
      go_enter Try.func56, Try.ntmps56
      go_wp2_with ((with_reducible refine (wnumber_at _ _ _ _ _ hr (v : Int) (k : Int) 0 (by rw [HV.out]) (by rw [HK.out]) HE.out).mono ?_); rintro e' w' ⟨rfl, rfl⟩)
      have HX := Lib.hid (show (rRest l).take v = (l.drop k).take v by rw [HR.out])
      have HY := Lib.hid (show (rRest l).drop v = (l.drop k).drop v by rw [HR.out])
      have hq1 : v ≤ l.length - k := by omega
      have hq2 : l.length - k ≤ c - k := by omega
      have hq3 : l.length - k ≤ 140737488355328 := by omega
      have hq4 : ((l.length : Int) - (k : Int)) = ((l.length - k : Nat) : Int) := by omega
      have hcx2 : c - k ≤ 9223372036854775807 := by omega
      rw [hq4]
      clear hli hq4 hsh hd2 hr hcm hcx hfull hkl hki HL HK hz
      generalize l.drop k = m at *
      generalize l.length - k = R at *
      generalize c - k = C at *
      have ht := hdr.take v hq1
      rw [← List.map_take] at ht
      have k1 := run_bytes_str (P := Try.prog) Try.underlying27 Try.underlying5 Try.underlying9 ht.drew.as
      have htl : (m.take v).length = v := by have := hdr.len; rw [List.length_take]; omega
      rw [htl] at k1
      by_cases hCv : C = v
      · obtain rfl : R = C := by omega
        subst hCv
        have hd2 : Rd w 1 (some ⟨b, off + k, none⟩) 0 0 ((m.drop R).map bv8) := by
          rw [List.drop_of_length_le (by have := hdr.len; omega)]; exact Rd.none0 _ _ 0 (by unfold maxLen; omega)
        go_region_with (go_at_call 55; refine (copied_any _ _ _ (m.drop R) _ ?_ ?_).mono ?_; exact hd2.drew; omega; rintro e w1 ⟨rfl, hr1, hb1⟩; have k2 := run_bytes_str (P := Try.prog) Try.underlying27 Try.underlying5 Try.underlying9 (ht.drew.as.below hb1); rw [htl] at k2)
        all_goals
          go_wp2
          go_ret3
          rw [(tErr_ok HT.out).1, (tErr_ok HT.out).2, HT.out, HV.out, HX.out, HY.out]
          exact ⟨_, _, _, rfl, hr1, fun h => by (cases h), by omega, fun _ q => by (cases q; exact Nat.le_refl _), (Below.refl _ _).drew.trans hb1⟩
      · have i1 : (v : Int) ≤ (R : Int) := by omega
        have i2 : (v : Int) ≤ (C : Int) := by omega
        have hd2 := hdr.drop v hq1
        rw [← List.map_drop] at hd2
        go_region_with (go_at_call 55; refine (copied_any _ _ _ (m.drop v) _ ?_ ?_).mono ?_; exact hd2.drew; omega; rintro e w1 ⟨rfl, hr1, hb1⟩; have k2 := run_bytes_str (P := Try.prog) Try.underlying27 Try.underlying5 Try.underlying9 (ht.drew.as.below hb1); rw [htl] at k2)
        all_goals
          go_wp2
          go_ret3
          rw [(tErr_ok HT.out).1, (tErr_ok HT.out).2, HT.out, HV.out, HX.out, HY.out]
          exact ⟨_, _, _, rfl, hr1, fun h => by (cases h), by omega, fun _ q => by (cases q; exact Nat.le_refl _), (Below.refl _ _).drew.trans hb1⟩
set_option maxRecDepth 100000 in
set_option maxHeartbeats 2000000 in
theorem readText_full (b off n : Nat) (l : List UInt8) (w : World) (c : Nat) (hr : Rd w 1 (some ⟨b, off, none⟩) n c (l.map bv8)) (he : rErr l = 0) (hfull : c = rLen l) :
    Calls Try.prog 56 #[.slice (some ⟨b, off, none⟩) n c] w (GivesN (.string (str (tStr l))) (tRest l) (tErr l) w) := by
  obtain rfl := hr.len
  have hcm := hr.2.1
  have hcx := hr.2.2.1
  unfold maxLen at hcx
  have hkl : c ≤ l.length := by rw [hfull]; exact rLen_le l
  have hrest : rRest l = [] := by rw [rRest_eq he, ← hfull, List.drop_of_length_le (by omega)]
  obtain ⟨v, hv⟩ : ∃ v, rVal l = v := ⟨_, rfl⟩
  have hvx : v < 4294967296 := by rw [← hv]; exact rVal_lt l
  have HK := Lib.hid hfull
  have HE := Lib.hid he
  have HV := Lib.hid hv
  have HR := Lib.hid hrest
  have hlc : l.length = c := by omega
  have hz0' : l.length - c = 0 := by omega
  have hki : (c : Int) ≤ (l.length : Int) := by omega
  have HL : Hid ((rRest l).length = 0) := by show _ = _; rw [hrest]; rfl
  have Hlc := Lib.hid hlc
  clear hfull he hv hrest hlc
  by_cases hbig : 2000 < v
  · have hd : decide (2000 < (v : Int)) = true := by simp; omega
    have HT := Lib.hid (tErr_big HE.out (by rw [HV.out]; exact hbig))
    go_enter Try.func56, Try.ntmps56
    go_wp2_with ((with_reducible refine (wnumber_at _ _ _ _ _ hr (v : Int) (c : Int) 0 (by rw [HV.out]) (by rw [← HK.out]) HE.out).mono ?_); rintro e' w' ⟨rfl, rfl⟩)
    go_ret3
    rw [(tErr_no HT.out (by omega)).1, (tErr_no HT.out (by omega)).2, HT.out]
    exact givesN_nil ⟨rfl, rfl⟩
  · have hd : decide (2000 < (v : Int)) = false := by simp; omega
    by_cases hsh : 0 < v
    · have hd2 : (0 : Int) < (v : Int) := by omega
      have HT := Lib.hid (tErr_short HE.out (by rw [HV.out]; exact hbig) (by rw [HV.out, HL.out]; exact hsh))
      go_enter Try.func56, Try.ntmps56
      go_wp2_with ((with_reducible refine (wnumber_at _ _ _ _ _ hr (v : Int) (c : Int) 0 (by rw [HV.out]) (by rw [← HK.out]) HE.out).mono ?_); rintro e' w' ⟨rfl, rfl⟩)
      go_ret3
      rw [(tErr_no HT.out (by omega)).1, (tErr_no HT.out (by omega)).2, HT.out]
      exact givesN_nil ⟨rfl, rfl⟩
    · obtain rfl : v = 0 := by omega
      have HT := Lib.hid (tErr_zero HE.out (by rw [HV.out]; exact hbig) (by rw [HV.out, HL.out]; exact hsh))
      have hd2 : Rd w 1 (some ⟨b, off, none⟩) 0 0 (([] : List UInt8).map bv8) := Rd.none0 _ _ 0 (by unfold maxLen; omega)
      have k1 := run_bytes_str (P := Try.prog) Try.underlying27 Try.underlying5 Try.underlying9 (l := []) hd2.drew
      rw [List.length_nil] at k1
      clear hd hsh
      go_enter Try.func56, Try.ntmps56
      go_wp2_with ((with_reducible refine (wnumber_at _ _ _ _ _ hr 0 (c : Int) 0 (by simp [HV.out]) (by rw [← HK.out]) HE.out).mono ?_); rintro e' w' ⟨rfl, rfl⟩)
      go_region_with (go_at_call 55; refine (copied_any _ _ _ [] _ ?_ ?_).mono ?_; exact hd2.drew; omega; rintro e w1 ⟨rfl, hr1, hb1⟩; have k2 := run_bytes_str (P := Try.prog) Try.underlying27 Try.underlying5 Try.underlying9 (l := []) (hd2.drew.below hb1); rw [List.length_nil] at k2)
      all_goals
        go_wp2
        go_ret3
        rw [(tErr_ok HT.out).1, (tErr_ok HT.out).2, HT.out, HV.out, HR.out]
        exact ⟨_, _, _, rfl, hr1, fun h => by (cases h), by omega, fun _ q => by (cases q; exact Nat.le_refl _), (Below.refl _ _).drew.trans hb1⟩
theorem readText_any (A : Option Addr) (n c : Nat) (l : List UInt8) (w : World) (hr : Rd w 1 A n c (l.map bv8)) (hz : n ≤ 140737488355328) :
    Calls Try.prog 56 #[.slice A n c] w (GivesN (.string (str (tStr l))) (tRest l) (tErr l) w) := by
  rcases rErr_cases l with h | h | h
  · have hok := rErr_ok h
    obtain ⟨b, off, rfl, _⟩ := hr.2.2.2 (by simp; omega)
    by_cases hf : c = rLen l
    · exact readText_full b off n l w c hr h hf
    · exact readText_some b off n c l w hr hz h hf
  · have ht := tErr_r h.1 (by omega)
    rw [(tErr_no ht (by omega)).1, (tErr_no ht (by omega)).2, ht]
    exact (readText_no A n c l w hr 3 h.1 h.2.1 h.2.2.1 (.inr rfl)).mono fun _ _ k => givesN_nil k
  · have ht := tErr_r h.1 (by omega)
    rw [(tErr_no ht (by omega)).1, (tErr_no ht (by omega)).2, ht]
    exact (readText_no A n c l w hr 8 h.1 h.2.1 h.2.2.1 (.inl rfl)).mono fun _ _ k => givesN_nil k
end Go.Proofs.Ytaaeihkbnfcolaa

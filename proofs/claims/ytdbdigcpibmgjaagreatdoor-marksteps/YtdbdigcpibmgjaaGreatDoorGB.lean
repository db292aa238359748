/- Texts that belong together: what the functions of the program and of the statements return. -/
import Derived.Test.YtdbdigcpibmgjaaGreatDoorGA
import Derived.Test.YtdbdigcpibmgjaaGreatDoorGA
import Derived.Deep.RegionWith
import Derived.Test.YtdbdigcpibmgjaaGreatDoorRows
import Derived.StillTailTactics
import Derived.IntWalk
import Derived.Lib.Hide
import Derived.Deep.QuietTactic
import Derived.BigQuiet
/- Reading a text: the program's ReadText. -/
namespace Go.Proofs.YtdbdigcpibmgjaaGreatDoor
open Go.RowKit
set_option maxRecDepth 100000 in
set_option maxHeartbeats 400000 in
theorem readText_no (A : Option Addr) (n c : Nat) (l : List UInt8) (w : World) (hr : Rd w 1 A n c (l.map bv8)) (e : Int) (he : rErr l = e) (hv : rVal l = 0) (hk : rLen l = 0) (hne : e = 8 ∨ e = 3) :
    Calls Tryz.prog 183 #[.slice A n c] w fun e' w' => e' = .returned (.tuple #[.string (str []), .slice none 0 0, .int .i64 e]) ∧ w = w' := by
  have HV := Lib.hid hv
  have HK := Lib.hid hk
  have HE := Lib.hid he
  clear hv hk he
  rcases hne with rfl | rfl
  · go_enter Tryz.func183, Tryz.ntmps183
    go_wp2_with ((with_reducible refine (wnumber_at _ _ _ _ _ hr 0 0 8 (by simp [HV.out]) (by simp [HK.out]) HE.out).mono ?_); rintro e' w' ⟨rfl, rfl⟩)
    go_ret3
    exact ⟨rfl, rfl⟩
  · go_enter Tryz.func183, Tryz.ntmps183
    go_wp2_with ((with_reducible refine (wnumber_at _ _ _ _ _ hr 0 0 3 (by simp [HV.out]) (by simp [HK.out]) HE.out).mono ?_); rintro e' w' ⟨rfl, rfl⟩)
    go_ret3
    exact ⟨rfl, rfl⟩
set_option maxRecDepth 100000 in
set_option maxHeartbeats 2000000 in
theorem readText_some (b off n c : Nat) (l : List UInt8) (w : World) (hr : Rd w 1 (some ⟨b, off, none⟩) n c (l.map bv8)) (hz : n ≤ 140737488355328) (he : rErr l = 0) (hfull : ¬ c = rLen l) :
    Calls Tryz.prog 183 #[.slice (some ⟨b, off, none⟩) n c] w (GivesN (.string (str (tStr l))) (tRest l) (tErr l) w) := by
  obtain rfl := hr.len
  have hcm := hr.2.1
  have hcx := hr.2.2.1
  unfold maxLen at hcx
  obtain ⟨k, hk⟩ : ∃ k, rLen l = k := ⟨_, rfl⟩
  have hkl : k ≤ l.length := by rw [← hk]; exact rLen_le l
  have hrest := rRest_eq he
  rw [hk] at hrest hfull
  obtain ⟨v, hv⟩ : ∃ v, rVal l = v := ⟨_, rfl⟩
  have hvx : v < 4294967296 := by rw [← hv]; exact rVal_lt l
  have HK := Lib.hid hk
  have HE := Lib.hid he
  have HV := Lib.hid hv
  have HR := Lib.hid hrest
  have hki : (k : Int) ≤ (l.length : Int) := by omega
  have hdr := hr.drop k hkl
  rw [← List.map_drop] at hdr
  have HL : Hid ((rRest l).length = l.length - k) := by show _ = _; rw [hrest, List.length_drop]
  have hli : ((l.length - k : Nat) : Int) = (l.length : Int) - (k : Int) := by omega
  clear hk he hv hrest
  by_cases hbig : 2000 < v
  · have hd : decide (2000 < (v : Int)) = true := by simp; omega
    have HT := Lib.hid (tErr_big HE.out (by rw [HV.out]; exact hbig))
    go_enter Tryz.func183, Tryz.ntmps183
    go_wp2_with ((with_reducible refine (wnumber_at _ _ _ _ _ hr (v : Int) (k : Int) 0 (by rw [HV.out]) (by rw [HK.out]) HE.out).mono ?_); rintro e' w' ⟨rfl, rfl⟩)
    go_ret3
    rw [(tErr_no HT.out (by omega)).1, (tErr_no HT.out (by omega)).2, HT.out]
    exact givesN_nil ⟨rfl, rfl⟩
  · have hd : decide (2000 < (v : Int)) = false := by simp; omega
    by_cases hsh : l.length - k < v
    · have hd2 : decide (((l.length - k : Nat) : Int) < (v : Int)) = true := by simp; omega
      have HT := Lib.hid (tErr_short HE.out (by rw [HV.out]; exact hbig) (by rw [HV.out, HL.out]; exact hsh))
      go_enter Tryz.func183, Tryz.ntmps183
      go_wp2_with ((with_reducible refine (wnumber_at _ _ _ _ _ hr (v : Int) (k : Int) 0 (by rw [HV.out]) (by rw [HK.out]) HE.out).mono ?_); rintro e' w' ⟨rfl, rfl⟩)
      go_ret3
      rw [(tErr_no HT.out (by omega)).1, (tErr_no HT.out (by omega)).2, HT.out]
      exact givesN_nil ⟨rfl, rfl⟩
    · have hd2 : decide (((l.length - k : Nat) : Int) < (v : Int)) = false := by simp; omega
      have HT := Lib.hid (tErr_zero HE.out (by rw [HV.out]; exact hbig) (by rw [HV.out, HL.out]; exact hsh))
      go_enter Tryz.func183, Tryz.ntmps183
      go_wp2_with ((with_reducible refine (wnumber_at _ _ _ _ _ hr (v : Int) (k : Int) 0 (by rw [HV.out]) (by rw [HK.out]) HE.out).mono ?_); rintro e' w' ⟨rfl, rfl⟩)
      have HX := Lib.hid (show (rRest l).take v = (l.drop k).take v by rw [HR.out])
      have HY := Lib.hid (show (rRest l).drop v = (l.drop k).drop v by rw [HR.out])
      have hq1 : v ≤ l.length - k := by omega
      have hq2 : l.length - k ≤ c - k := by omega
      have hq3 : l.length - k ≤ 140737488355328 := by omega
      have hq4 : ((l.length : Int) - (k : Int)) = ((l.length - k : Nat) : Int) := by omega
      have hcx2 : c - k ≤ 9223372036854775807 := by omega
      rw [hq4]
      clear hli hq4 hsh hd2 hr hcm hcx hfull hkl hki HL HK hz
      generalize l.drop k = m at *
      generalize l.length - k = R at *
      generalize c - k = C at *
      have ht := hdr.take v hq1
      rw [← List.map_take] at ht
      have k1 := run_bytes_str (P := Tryz.prog) Tryz.underlying43 Tryz.underlying5 Tryz.underlying9 ht.drew.as
      have htl : (m.take v).length = v := by have := hdr.len; rw [List.length_take]; omega
      rw [htl] at k1
      by_cases hCv : C = v
      · obtain rfl : R = C := by omega
        subst hCv
        have hd2 : Rd w 1 (some ⟨b, off + k, none⟩) 0 0 ((m.drop R).map bv8) := by
          rw [List.drop_of_length_le (by have := hdr.len; omega)]; exact Rd.none0 _ _ 0 (by unfold maxLen; omega)
        go_region_with (go_at_call 182; refine (copied_any _ _ _ (m.drop R) _ ?_ ?_).mono ?_; exact hd2.drew; omega; rintro e w1 ⟨rfl, hr1, hb1⟩; have k2 := run_bytes_str (P := Tryz.prog) Tryz.underlying43 Tryz.underlying5 Tryz.underlying9 (ht.drew.as.below hb1); rw [htl] at k2)
        all_goals
          go_wp2
          go_ret3
          rw [(tErr_ok HT.out).1, (tErr_ok HT.out).2, HT.out, HV.out, HX.out, HY.out]
          exact ⟨_, _, _, rfl, hr1, fun h => by (cases h), by omega, fun _ q => by (cases q; exact Nat.le_refl _), (Below.refl _ _).drew.trans hb1⟩
      · have i1 : (v : Int) ≤ (R : Int) := by omega
        have i2 : (v : Int) ≤ (C : Int) := by omega
        have hd2 := hdr.drop v hq1
        rw [← List.map_drop] at hd2
        go_region_with (go_at_call 182; refine (copied_any _ _ _ (m.drop v) _ ?_ ?_).mono ?_; exact hd2.drew; omega; rintro e w1 ⟨rfl, hr1, hb1⟩; have k2 := run_bytes_str (P := Tryz.prog) Tryz.underlying43 Tryz.underlying5 Tryz.underlying9 (ht.drew.as.below hb1); rw [htl] at k2)
        all_goals
          go_wp2
          go_ret3
          rw [(tErr_ok HT.out).1, (tErr_ok HT.out).2, HT.out, HV.out, HX.out, HY.out]
          exact ⟨_, _, _, rfl, hr1, fun h => by (cases h), by omega, fun _ q => by (cases q; exact Nat.le_refl _), (Below.refl _ _).drew.trans hb1⟩
set_option maxRecDepth 100000 in
set_option maxHeartbeats 2000000 in
theorem readText_full (b off n : Nat) (l : List UInt8) (w : World) (c : Nat) (hr : Rd w 1 (some ⟨b, off, none⟩) n c (l.map bv8)) (he : rErr l = 0) (hfull : c = rLen l) :
    Calls Tryz.prog 183 #[.slice (some ⟨b, off, none⟩) n c] w (GivesN (.string (str (tStr l))) (tRest l) (tErr l) w) := by
  obtain rfl := hr.len
  have hcm := hr.2.1
  have hcx := hr.2.2.1
  unfold maxLen at hcx
  have hkl : c ≤ l.length := by rw [hfull]; exact rLen_le l
  have hrest : rRest l = [] := by rw [rRest_eq he, ← hfull, List.drop_of_length_le (by omega)]
  obtain ⟨v, hv⟩ : ∃ v, rVal l = v := ⟨_, rfl⟩
  have hvx : v < 4294967296 := by rw [← hv]; exact rVal_lt l
  have HK := Lib.hid hfull
  have HE := Lib.hid he
  have HV := Lib.hid hv
  have HR := Lib.hid hrest
  have hlc : l.length = c := by omega
  have hz0' : l.length - c = 0 := by omega
  have hki : (c : Int) ≤ (l.length : Int) := by omega
  have HL : Hid ((rRest l).length = 0) := by show _ = _; rw [hrest]; rfl
  have Hlc := Lib.hid hlc
  clear hfull he hv hrest hlc
  by_cases hbig : 2000 < v
  · have hd : decide (2000 < (v : Int)) = true := by simp; omega
    have HT := Lib.hid (tErr_big HE.out (by rw [HV.out]; exact hbig))
    go_enter Tryz.func183, Tryz.ntmps183
    go_wp2_with ((with_reducible refine (wnumber_at _ _ _ _ _ hr (v : Int) (c : Int) 0 (by rw [HV.out]) (by rw [← HK.out]) HE.out).mono ?_); rintro e' w' ⟨rfl, rfl⟩)
    go_ret3
    rw [(tErr_no HT.out (by omega)).1, (tErr_no HT.out (by omega)).2, HT.out]
    exact givesN_nil ⟨rfl, rfl⟩
  · have hd : decide (2000 < (v : Int)) = false := by simp; omega
    by_cases hsh : 0 < v
    · have hd2 : (0 : Int) < (v : Int) := by omega
      have HT := Lib.hid (tErr_short HE.out (by rw [HV.out]; exact hbig) (by rw [HV.out, HL.out]; exact hsh))
      go_enter Tryz.func183, Tryz.ntmps183
      go_wp2_with ((with_reducible refine (wnumber_at _ _ _ _ _ hr (v : Int) (c : Int) 0 (by rw [HV.out]) (by rw [← HK.out]) HE.out).mono ?_); rintro e' w' ⟨rfl, rfl⟩)
      go_ret3
      rw [(tErr_no HT.out (by omega)).1, (tErr_no HT.out (by omega)).2, HT.out]
      exact givesN_nil ⟨rfl, rfl⟩
    · obtain rfl : v = 0 := by omega
      have HT := Lib.hid (tErr_zero HE.out (by rw [HV.out]; exact hbig) (by rw [HV.out, HL.out]; exact hsh))
      have hd2 : Rd w 1 (some ⟨b, off, none⟩) 0 0 (([] : List UInt8).map bv8) := Rd.none0 _ _ 0 (by unfold maxLen; omega)
      have k1 := run_bytes_str (P := Tryz.prog) Tryz.underlying43 Tryz.underlying5 Tryz.underlying9 (l := []) hd2.drew
      rw [List.length_nil] at k1
      clear hd hsh
      go_enter Tryz.func183, Tryz.ntmps183
      go_wp2_with ((with_reducible refine (wnumber_at _ _ _ _ _ hr 0 (c : Int) 0 (by simp [HV.out]) (by rw [← HK.out]) HE.out).mono ?_); rintro e' w' ⟨rfl, rfl⟩)
      go_region_with (go_at_call 182; refine (copied_any _ _ _ [] _ ?_ ?_).mono ?_; exact hd2.drew; omega; rintro e w1 ⟨rfl, hr1, hb1⟩; have k2 := run_bytes_str (P := Tryz.prog) Tryz.underlying43 Tryz.underlying5 Tryz.underlying9 (l := []) (hd2.drew.below hb1); rw [List.length_nil] at k2)
      all_goals
        go_wp2
        go_ret3
        rw [(tErr_ok HT.out).1, (tErr_ok HT.out).2, HT.out, HV.out, HR.out]
        exact ⟨_, _, _, rfl, hr1, fun h => by (cases h), by omega, fun _ q => by (cases q; exact Nat.le_refl _), (Below.refl _ _).drew.trans hb1⟩
theorem readText_any (A : Option Addr) (n c : Nat) (l : List UInt8) (w : World) (hr : Rd w 1 A n c (l.map bv8)) (hz : n ≤ 140737488355328) :
    Calls Tryz.prog 183 #[.slice A n c] w (GivesN (.string (str (tStr l))) (tRest l) (tErr l) w) := by
  rcases rErr_cases l with h | h | h
  · have hok := rErr_ok h
    obtain ⟨b, off, rfl, _⟩ := hr.2.2.2 (by simp; omega)
    by_cases hf : c = rLen l
    · exact readText_full b off n l w c hr h hf
    · exact readText_some b off n c l w hr hz h hf
  · have ht := tErr_r h.1 (by omega)
    rw [(tErr_no ht (by omega)).1, (tErr_no ht (by omega)).2, ht]
    exact (readText_no A n c l w hr 3 h.1 h.2.1 h.2.2.1 (.inr rfl)).mono fun _ _ k => givesN_nil k
  · have ht := tErr_r h.1 (by omega)
    rw [(tErr_no ht (by omega)).1, (tErr_no ht (by omega)).2, ht]
    exact (readText_no A n c l w hr 8 h.1 h.2.1 h.2.2.1 (.inl rfl)).mono fun _ _ k => givesN_nil k
end Go.Proofs.YtdbdigcpibmgjaaGreatDoor
/- Reading a text: the reference's WireTextOf. -/
namespace Go.Proofs.YtdbdigcpibmgjaaGreatDoor
open Go.RowKit
theorem rof_at (A : Option Addr) (n c : Nat) (l : List UInt8) (w : World) (hr : Rd w 1 A n c (l.map bv8)) (hz : n ≤ 140737488351232) (v e : Int) (hv : (rVal l : Int) = v) (he : rErr l = e) :
    Calls Tryz.prog 121 #[.slice A n c] w (GivesN (.int .i64 v) (rRest l) e w) := by
  rw [← hv, ← he]; exact rof_any A n c l w hr hz
set_option maxRecDepth 100000 in
set_option maxHeartbeats 400000 in
theorem rtextOf_no (A : Option Addr) (n c : Nat) (l : List UInt8) (w : World) (hr : Rd w 1 A n c (l.map bv8)) (hz : n ≤ 140737488351232) (e : Int) (he : rErr l = e) (hv : rVal l = 0) (hne : e = 8 ∨ e = 3) :
    Calls Tryz.prog 122 #[.slice A n c] w fun e' w' => e' = .returned (.tuple #[.string (str []), .slice none 0 0, .int .i64 e]) ∧ Below w.heap.size w w' := by
  have HV := Lib.hid hv
  have HE := Lib.hid he
  clear hv he
  rcases hne with rfl | rfl
  · go_enter Tryz.func122, Tryz.ntmps122
    go_wp2_with fail
    with_reducible refine (rof_at _ _ _ _ _ hr hz 0 8 (by simp [HV.out]) HE.out).mono ?_
    rintro e' w1 ⟨A1, n1, c1, rfl, hr1, hA1, hn1, -, hb1⟩
    go_wp2
    go_ret3
    exact ⟨rfl, hb1⟩
  · go_enter Tryz.func122, Tryz.ntmps122
    go_wp2_with fail
    with_reducible refine (rof_at _ _ _ _ _ hr hz 0 3 (by simp [HV.out]) HE.out).mono ?_
    rintro e' w1 ⟨A1, n1, c1, rfl, hr1, hA1, hn1, -, hb1⟩
    go_wp2
    go_ret3
    exact ⟨rfl, hb1⟩
theorem givesN_nil' {w : World} {x : Value} {err : Int} {e : Ending} {w' : World} (h : e = .returned (.tuple #[x, .slice none 0 0, .int .i64 err]) ∧ Below w.heap.size w w') : GivesN x [] err w e w' := by
  obtain ⟨rfl, hb⟩ := h
  exact ⟨none, 0, 0, rfl, Rd.nil _ _, fun _ => rfl, by omega, fun _ q => (by cases q), hb⟩
set_option maxRecDepth 100000 in
set_option maxHeartbeats 2000000 in
theorem rtextOf_ok (A : Option Addr) (n c : Nat) (l : List UInt8) (w : World) (hr : Rd w 1 A n c (l.map bv8)) (hz : n ≤ 140737488351232) (he : rErr l = 0) :
    Calls Tryz.prog 122 #[.slice A n c] w (GivesN (.string (str (tStr l))) (tRest l) (tErr l) w) := by
  obtain ⟨v, hv⟩ : ∃ v, rVal l = v := ⟨_, rfl⟩
  have hvx : v < 4294967296 := by rw [← hv]; exact rVal_lt l
  have HE := Lib.hid he
  have HV := Lib.hid hv
  clear he hv
  go_enter Tryz.func122, Tryz.ntmps122
  go_wp2_with fail
  with_reducible refine (rof_at _ _ _ _ _ hr hz (v : Int) 0 (by rw [HV.out]) HE.out).mono ?_
  rintro e' w1 ⟨A1, n1, c1, rfl, hr1, hA1, hn1, hF1, hb1⟩
  have hl1 := hr1.len
  have hc1 := hr1.2.1
  have hm1 := hr1.2.2.1
  unfold maxLen at hm1
  by_cases hbig : 2000 < v
  · have hd : decide (2000 < (v : Int)) = true := by simp; omega
    have HT := Lib.hid (tErr_big HE.out (by rw [HV.out]; exact hbig))
    clear hl1
    go_wp2
    go_ret3
    rw [(tErr_no HT.out (by omega)).1, (tErr_no HT.out (by omega)).2, HT.out]
    exact givesN_nil' ⟨rfl, hb1⟩
  · have hd : decide (2000 < (v : Int)) = false := by simp; omega
    by_cases hsh : n1 < v
    · have hd2 : decide ((n1 : Int) < (v : Int)) = true := by simp; omega
      have HT := Lib.hid (tErr_short HE.out (by rw [HV.out]; exact hbig) (by rw [HV.out, ← hl1]; exact hsh))
      clear hl1
      go_wp2
      go_ret3
      rw [(tErr_no HT.out (by omega)).1, (tErr_no HT.out (by omega)).2, HT.out]
      exact givesN_nil' ⟨rfl, hb1⟩
    · have hd2 : decide ((n1 : Int) < (v : Int)) = false := by simp; omega
      have HT := Lib.hid (tErr_zero HE.out (by rw [HV.out]; exact hbig) (by rw [HV.out, ← hl1]; exact hsh))
      have Hl1 := Lib.hid hl1
      clear hl1
      have hq1 : v ≤ n1 := by omega
      have i1 : (v : Int) ≤ (n1 : Int) := by omega
      have i2 : (v : Int) ≤ (c1 : Int) := by omega
      have ht := hr1.take v hq1
      rw [← List.map_take] at ht
      have htl : ((rRest l).take v).length = v := by have := Hl1.out; rw [List.length_take]; omega
      have k1 := fun nn : Nat => run_bytes_str (P := Tryz.prog) Tryz.underlying43 Tryz.underlying5 Tryz.underlying9 (ht.as.drewN nn)
      simp only [htl] at k1
      by_cases hcv : c1 = v
      · subst hcv
        have hnv : n1 - c1 = 0 := by omega
        have hr2 : ∀ nn, Rd (w1.drewN nn) 1 A1 (n1 - c1) (c1 - c1) (((rRest l).drop c1).map bv8) := fun nn => by
          rw [hnv, Nat.sub_self, List.drop_of_length_le (by have := Hl1.out; omega)]; exact Rd.none0 _ _ 0 (by unfold maxLen; omega)
        go_wp2
        go_quiet (fail)
        go_wp2
        go_ret3
        rw [(tErr_ok HT.out).1, (tErr_ok HT.out).2, HT.out, HV.out]
        exact ⟨_, _, _, rfl, by first | exact hr2 nq | simpa [hnv] using hr2 nq, fun _ => by omega, by omega, hF1.out, below_drewN hb1 nq⟩
      · rcases Nat.eq_zero_or_pos n1 with hn0 | hn0
        · obtain rfl : v = 0 := by omega
          subst hn0
          go_wp2
          go_quiet (fail)
          go_wp2
          go_ret3
          rw [(tErr_ok HT.out).1, (tErr_ok HT.out).2, HT.out, HV.out, List.drop_zero]
          exact ⟨_, _, _, rfl, hr1.drewN nq, hA1, by omega, hF1.out, below_drewN hb1 nq⟩
        · obtain ⟨b, off, rfl, _⟩ := hr1.2.2.2 (by rw [List.length_map, ← Hl1.out]; exact hn0)
          have hr2 := hr1.drop v hq1
          rw [← List.map_drop] at hr2
          go_wp2
          go_quiet (fail)
          go_wp2
          go_ret3
          rw [(tErr_ok HT.out).1, (tErr_ok HT.out).2, HT.out, HV.out]
          exact ⟨_, _, _, rfl, hr2.drewN nq, fun h => by (cases h), by omega, fun a q => by (cases q; exact hF1.out ⟨b, off, none⟩ rfl), below_drewN hb1 nq⟩
theorem rtextOf_any (A : Option Addr) (n c : Nat) (l : List UInt8) (w : World) (hr : Rd w 1 A n c (l.map bv8)) (hz : n ≤ 140737488351232) :
    Calls Tryz.prog 122 #[.slice A n c] w (GivesN (.string (str (tStr l))) (tRest l) (tErr l) w) := by
  rcases rErr_cases l with h | h | h
  · exact rtextOf_ok A n c l w hr hz h
  · have ht := tErr_r h.1 (by omega)
    rw [(tErr_no ht (by omega)).1, (tErr_no ht (by omega)).2, ht]
    exact (rtextOf_no A n c l w hr hz 3 h.1 h.2.1 (.inr rfl)).mono fun _ _ k => givesN_nil' k
  · have ht := tErr_r h.1 (by omega)
    rw [(tErr_no ht (by omega)).1, (tErr_no ht (by omega)).2, ht]
    exact (rtextOf_no A n c l w hr hz 8 h.1 h.2.1 (.inl rfl)).mono fun _ _ k => givesN_nil' k
end Go.Proofs.YtdbdigcpibmgjaaGreatDoor
/- Bytes to hexadecimal digits: what the program's Text returns. -/
namespace Go.Proofs.YtdbdigcpibmgjaaGreatDoor
open Go.RowKit
set_option maxRecDepth 100000 in
set_option maxHeartbeats 1000000 in
theorem text_any (A : Option Addr) (n c : Nat) (l : List UInt8) (w : World) (hr : Rd w 1 A n c (l.map bv8)) (hz : n ≤ 140737488351232) :
    Calls Tryz.prog 184 #[.slice A n c] w fun e w' => e = .returned (.string (str (hexT l))) ∧ Below w.heap.size w w' := by
  obtain rfl := hr.len
  obtain ⟨i0, hi0, hz0, hz1, hz2⟩ := info_parts u8_info
  have hmk := run_make1 (P := Tryz.prog) Tryz.underlying43 hi0 hz0 hz1 rfl hz2 (2 * (l.length : Int)) (2 * l.length) (by omega) (by omega) (by omega)
  go_enter Tryz.func184, Tryz.ntmps184
  go_wp2
  go_loopw [4, 5, 12] (fun _ _ i wr => ∃ k : Nat, k ≤ l.length ∧ i = .int .i64 k ∧ Blk wr w.heap.size 5 (((hexT l).map bv8).take (2 * k) ++ reps (2 * l.length - 2 * k) (.int .u8 0)) ∧ Below w.heap.size w wr) (fun _ _ i _ => l.length - (intOf i).toNat)
  case atStart => exact ⟨0, by omega, rfl, by simpa using Blk.new w _ _, (Below.refl _ _).alloc (Nat.le_refl _) _⟩
  case round =>
    obtain ⟨k, hk, rfl, hblk, hbel⟩ := hrel
    by_cases hlt : k < l.length
    · obtain ⟨b, off, rfl, hbl, hcell⟩ := hr.addr (by simp; omega)
      have h0 : wr.cell? ⟨b, off + k, none⟩ = some (.int .u8 (y8 (l[k]'(by omega)))) := (hbel.cell (p := ⟨b, off + k, none⟩) hbl).trans (hcell k _ (by rw [List.getElem?_map, List.getElem?_eq_getElem (by omega)]; rfl))
      have hL : ((hexT l).map bv8).length = 2 * l.length := by rw [List.length_map, hexT_length]
      have at0 : ((hexT l).map bv8)[2 * k]? = some (.int .u8 (y8 (dg (l[k] >>> 4)))) := by rw [List.getElem?_map, (hexT_at l k hlt).1]; rfl
      have at1 : ((hexT l).map bv8)[2 * k + 1]? = some (.int .u8 (y8 (dg (l[k] &&& 15)))) := by rw [List.getElem?_map, (hexT_at l k hlt).2]; rfl
      have s0 := hblk.put (2 * k) (.int .u8 (y8 (dg (l[k] >>> 4))))
      rw [fill_step (by omega) at0] at s0
      have s1 := s0.put (2 * k + 1) (.int .u8 (y8 (dg (l[k] &&& 15))))
      rw [fill_step (by omega) at1] at s1
      have c0 := (hblk.cell (2 * k)).trans (fill_at (by omega) (by omega))
      have c1 := (s0.cell (2 * k + 1)).trans (fill_at (by omega) (by omega))
      have f0 := hblk.frozen (2 * k)
      have f1 := s0.frozen (2 * k + 1)
      have H1 := Lib.hid s1
      clear s0 s1 at0 at1 hL hblk hcell
      have n0 : ((2 : Int) * k).toNat = 2 * k := by omega
      have n1 : ((2 : Int) * k + 1).toNat = 2 * k + 1 := by omega
      go_wp2
      go_roundw
      case rel => exact ⟨k + 1, by omega, by go_num, H1.out, (hbel.setCell (p := ⟨w.heap.size, 2 * k, none⟩) (Nat.le_refl _) _).setCell (p := ⟨w.heap.size, 2 * k + 1, none⟩) (Nat.le_refl _) _⟩
      case measure => simp [intOf]; omega
    · obtain rfl : k = l.length := by omega
      have hb2 := hblk
      rw [fill_end (by rw [List.length_map, hexT_length])] at hb2
      have hrd := blk_rd hb2 (n := (hexT l).length) (by rw [List.length_map]) (by rw [hexT_length]; omega)
      have k1 := run_bytes_str (P := Tryz.prog) Tryz.underlying43 Tryz.underlying5 Tryz.underlying9 hrd
      rw [hexT_length] at k1
      have e2 : ((2 * l.length : Nat) : Int) = 2 * (l.length : Int) := by omega
      clear hblk hb2 hrd
      go_wp2
      go_ret
      exact ⟨rfl, hbel⟩
end Go.Proofs.YtdbdigcpibmgjaaGreatDoor
/- Bytes of digits: plain facts. -/
namespace Go.Proofs.YtdbdigcpibmgjaaGreatDoor
open Go.RowKit
theorem y8_shl4 (x : UInt8) : IntKind.u8.wrap (y8 x * (16 : Int)) = y8 (x <<< 4) := by
  have : ∀ n : Fin 256, IntKind.u8.wrap ((n.val : Int) * 16) = (((UInt8.ofNat n.val) <<< 4).toNat : Int) := by decide +kernel
  have h := this ⟨x.toNat, x.toNat_lt⟩
  simp only [UInt8.ofNat_toNat] at h
  exact h
theorem y8_shl4' (x : UInt8) : y8 x * (16 : Int) % (256 : Int) = y8 (x <<< 4) := by
  rw [← y8_shl4, IntKind.wrap_u8]
theorem ofInt_y8 (x : UInt8) : BitVec.ofInt 8 (y8 x) = x.toBitVec := by
  unfold y8
  rw [BitVec.ofInt_natCast]
  apply BitVec.eq_of_toNat_eq
  rw [BitVec.toNat_ofNat]
  exact Nat.mod_eq_of_lt x.toNat_lt
theorem y8_or (x y : UInt8) : bits .or .u8 (y8 x) (y8 y) = y8 (x ||| y) := by
  show IntKind.u8.wrap ((BitVec.ofInt 8 (y8 x) ||| BitVec.ofInt 8 (y8 y)).toNat : Int) = _
  rw [ofInt_y8, ofInt_y8]
  have := (x ||| y).toNat_lt
  show IntKind.u8.wrap (((x ||| y).toBitVec).toNat : Int) = _
  exact wrap8_y8 (x ||| y)
attribute [go_sem] y8_shl4 y8_shl4' y8_or
/-- the byte of two digits; the bytes of digits -/
def two (a b : UInt8) : UInt8 := vl a <<< 4 ||| vl b
def unh : List UInt8 → List UInt8
  | a :: b :: r => two a b :: unh r
  | _ => []
theorem unh_length : ∀ l : List UInt8, (unh l).length = l.length / 2
  | [] => rfl
  | [_] => by simp [unh]
  | _ :: _ :: r => by simp [unh, unh_length r]; omega
theorem unh_at : ∀ (l : List UInt8) (k : Nat) (h : 2 * k + 1 < l.length), (unh l)[k]? = some (two l[2 * k] l[2 * k + 1])
  | [], _, h => absurd h (by simp)
  | [_], _, h => absurd h (by simp)
  | a :: b :: r, 0, _ => rfl
  | a :: b :: r, k + 1, h => by
    have h' : 2 * k + 1 < r.length := by simp at h; omega
    have := unh_at r k h'
    rw [unh, List.getElem?_cons_succ, this]
    congr 1
/-- the error number of a digest's text -/
def cErr (l : List UInt8) : Int := if l.length ≠ 64 then 1 else if l.all isD then 0 else 3
end Go.Proofs.YtdbdigcpibmgjaaGreatDoor
/- The program's hex.Check. -/
namespace Go.Proofs.YtdbdigcpibmgjaaGreatDoor
open Go.RowKit
set_option maxRecDepth 100000 in
set_option maxHeartbeats 400000 in
theorem isDigit_any (c : UInt8) (w : World) :
    Calls Tryz.prog 189 #[.int .u8 (y8 c)] w fun e w' => e = .returned (.bool (isD c)) ∧ w = w' := by
  have hfin : Hid (∀ b : Bool, (b = true ↔ (48 ≤ y8 c ∧ y8 c ≤ 57 ∨ 97 ≤ y8 c ∧ y8 c ≤ 102)) → b = isD c) := fun b h => by
    rw [Bool.eq_iff_iff, h, isD_iff]
  have g0 := y8_nonneg c
  have g1 := y8_lt c
  go_enter Tryz.func189, Tryz.ntmps189
  go_wp2
  all_goals (go_ret; exact ⟨ret_bool (hfin.out _ (by first | (simp; omega) | omega)), rfl⟩)
set_option maxRecDepth 100000 in
set_option maxHeartbeats 400000 in
theorem onlyDigits_any (l : List UInt8) (w : World) (hl : l.length ≤ maxLen) :
    Calls Tryz.prog 173 #[.string (str l)] w fun e w' => e = .returned (.bool (l.all isD)) ∧ w = w' := by
  unfold maxLen at hl
  go_enter Tryz.func173, Tryz.ntmps173
  go_wp2
  go_loop [3, 6] (fun _ i => ∃ k : Nat, k ≤ l.length ∧ i = .int .i64 k ∧ Hid ((l.take k).all isD = true)) (fun _ i => l.length - (intOf i).toNat)
  case atStart => exact ⟨0, Nat.zero_le _, rfl, rfl⟩
  case round =>
    obtain ⟨k, hk, rfl, HA⟩ := hrel
    by_cases hlt : k < l.length
    · have hs := all_snoc hlt
      rw [HA.out, Bool.true_and] at hs
      have HS := Lib.hid hs
      clear hs
      by_cases hd : isD l[k] = true
      · go_wp2_with ((with_reducible refine (isDigit_any _ _).mono ?_); rintro e w' ⟨rfl, rfl⟩)
        go_round
        case rel => exact ⟨k + 1, by omega, by go_num, HS.out.trans hd⟩
        case measure => simp [intOf]; omega
      · have hd' : isD l[k] = false := by simpa using hd
        have hf : Hid (l.all isD = false) := by
          show _ = _
          rw [Bool.eq_false_iff]
          intro h
          exact hd (List.all_eq_true.1 h _ (List.getElem_mem hlt))
        clear hd
        go_wp2_with ((with_reducible refine (isDigit_any _ _).mono ?_); rintro e w' ⟨rfl, rfl⟩)
        go_ret
        exact ⟨ret_bool hf.out.symm, rfl⟩
    · have hf : Hid (l.all isD = true) := by
        show _ = _
        have := HA.out
        rwa [List.take_of_length_le (by omega)] at this
      go_wp2
      go_ret
      exact ⟨ret_bool hf.out.symm, rfl⟩
set_option maxRecDepth 100000 in
set_option maxHeartbeats 400000 in
theorem hcheck_size (l : List UInt8) (w : World) (h : l.length ≠ 64) :
    Calls Tryz.prog 145 #[.string (str l)] w fun e w' => e = .returned (.int .i64 1) ∧ w = w' := by
  have hne : ((l.length : Int) != 64) = true := by rw [bne_iff_ne]; omega
  go_enter Tryz.func145, Tryz.ntmps145
  go_wp2
  go_ret
  exact ⟨rfl, rfl⟩
set_option maxRecDepth 100000 in
set_option maxHeartbeats 400000 in
theorem hcheck_form (l : List UInt8) (w : World) (h : l.length = 64) (b : Bool) (hd : l.all isD = b) :
    Calls Tryz.prog 145 #[.string (str l)] w fun e w' => e = .returned (.int .i64 (if b then 0 else 3)) ∧ w = w' := by
  have hne : ((l.length : Int) != 64) = false := by rw [bne_eq_false_iff_eq]; omega
  have hm : l.length ≤ maxLen := by unfold maxLen; omega
  clear h
  cases b
  all_goals
    go_enter Tryz.func145, Tryz.ntmps145
    go_wp2_with ((with_reducible refine (onlyDigits_any _ _ hm).mono ?_); rintro e w' ⟨rfl, rfl⟩)
    go_ret
    exact ⟨rfl, rfl⟩
theorem hcheck_all (l : List UInt8) (w : World) (_hm : l.length ≤ maxLen) : Calls Tryz.prog 145 #[.string (str l)] w fun e w' => e = .returned (.int .i64 (cErr l)) ∧ w = w' := by
  by_cases hb : l.length ≠ 64
  · rw [show cErr l = 1 from if_pos hb]
    exact hcheck_size l w hb
  · have := hcheck_form l w (by omega) _ rfl
    have e : cErr l = if l.all isD then 0 else 3 := if_neg hb
    rw [e]; exact this
end Go.Proofs.YtdbdigcpibmgjaaGreatDoor
/- Bytes and hexadecimal digits: what the reference's functions return. -/
namespace Go.Proofs.YtdbdigcpibmgjaaGreatDoor
open Go.RowKit
theorem indexByte_table : ∀ n : Fin 256, Lib.indexByte [48, 49, 50, 51, 52, 53, 54, 55, 56, 57, 97, 98, 99, 100, 101, 102] (UInt8.ofNat n.val) = if isD (UInt8.ofNat n.val) then y8 (vl (UInt8.ofNat n.val)) else -1 := by decide +kernel
def dix (c : UInt8) : Int := if isD c then y8 (vl c) else -1
theorem indexByte_digs (c : UInt8) : Lib.indexByte digs.data.toList (y8 c).toNat.toUInt8 = dix c := by
  unfold dix
  have := indexByte_table ⟨c.toNat, c.toNat_lt⟩
  simp only [UInt8.ofNat_toNat] at this
  rw [← this]
  congr 1
  simp [y8]
set_option maxRecDepth 100000 in
set_option maxHeartbeats 400000 in
theorem sliteIndexByte_any (s : ByteArray) (c : Int) (w : World) :
    Calls Tryz.prog 165 #[.string s, .int .u8 c] w fun e w' => e = .returned (.int .i64 (Lib.indexByte s.data.toList c.toNat.toUInt8)) ∧ w = w' := by
  go_enter Tryz.func165, Tryz.ntmps165
  go_wp2
  rw [run_callFunc_extern Tryz.func186 (by kernel_rfl) (by kernel_rfl) (by kernel_rfl) (e := Extern.BytealgIndexByte.indexByte) (by kernel_rfl), Lib.run_indexByteString]
  simp only [Result.andThen]
  rw [Oper.upon_value]
  go_wp2
  go_ret
  exact ⟨rfl, rfl⟩
set_option maxRecDepth 100000 in
set_option maxHeartbeats 400000 in
theorem indexDigs_any (c : UInt8) (w : World) :
    Calls Tryz.prog 124 #[.string digs, .int .u8 (y8 c)] w fun e w' => e = .returned (.int .i64 (dix c)) ∧ w = w' := by
  have hi := Lib.hid (indexByte_digs c)
  go_enter Tryz.func124, Tryz.ntmps124
  go_wp2_with ((with_reducible refine (sliteIndexByte_any _ _ _).mono ?_); rintro e w' ⟨rfl, rfl⟩)
  go_ret
  exact ⟨ret_int hi.out, rfl⟩
end Go.Proofs.YtdbdigcpibmgjaaGreatDoor
/- The reference's HexText. -/
namespace Go.Proofs.YtdbdigcpibmgjaaGreatDoor
open Go.RowKit
theorem dg_small {n : UInt8} (h : y8 n ≤ 9) : 48 + y8 n = y8 (dg n) := by
  have : ∀ n : Fin 256, n.val ≤ 9 → 48 + (n.val : Int) = ((dg (UInt8.ofNat n.val)).toNat : Int) := by decide +kernel
  have h := this ⟨n.toNat, n.toNat_lt⟩ (by unfold y8 at h; simp; omega)
  simp only [UInt8.ofNat_toNat] at h
  exact h
theorem dg_great {n : UInt8} (h : 9 < y8 n) (h2 : n.toNat < 16) : 97 + y8 n - 10 = y8 (dg n) := by
  have : ∀ n : Fin 256, 9 < n.val → n.val < 16 → 97 + (n.val : Int) - 10 = ((dg (UInt8.ofNat n.val)).toNat : Int) := by decide +kernel
  have h := this ⟨n.toNat, n.toNat_lt⟩ (by unfold y8 at h; simp; omega) h2
  simp only [UInt8.ofNat_toNat] at h
  exact h
theorem hexT_even (l : List UInt8) (k : Nat) (h : k < 2 * l.length) (hm : k % 2 = 0) : (hexT l)[k]? = some (dg (l[k / 2]'(by omega) >>> 4)) := by
  have := (hexT_at l (k / 2) (by omega)).1
  rwa [show 2 * (k / 2) = k from by omega] at this
theorem hexT_odd (l : List UInt8) (k : Nat) (h : k < 2 * l.length) (hm : k % 2 ≠ 0) : (hexT l)[k]? = some (dg (l[k / 2]'(by omega) &&& 15)) := by
  have := (hexT_at l (k / 2) (by omega)).2
  rwa [show 2 * (k / 2) + 1 = k from by omega] at this
set_option maxRecDepth 100000 in
set_option maxHeartbeats 1000000 in
theorem hexText_any (A : Option Addr) (n c : Nat) (l : List UInt8) (w : World) (hr : Rd w 1 A n c (l.map bv8)) (hz : n ≤ 140737488351232) :
    Calls Tryz.prog 123 #[.slice A n c] w fun e w' => e = .returned (.string (str (hexT l))) ∧ Below w.heap.size w w' := by
  obtain rfl := hr.len
  obtain ⟨i0, hi0, hz0, hz1, hz2⟩ := info_parts u8_info
  have hmk := run_make1 (P := Tryz.prog) Tryz.underlying43 hi0 hz0 hz1 rfl hz2 (2 * (l.length : Int)) (2 * l.length) (by omega) (by omega) (by omega)
  have e2 : ((2 * l.length : Nat) : Int) = 2 * (l.length : Int) := by omega
  go_enter Tryz.func123, Tryz.ntmps123
  go_wp2
  go_loopw [4, 5, 12] (fun _ _ i wr => ∃ k : Nat, k ≤ 2 * l.length ∧ i = .int .i64 k ∧ Blk wr w.heap.size 5 (((hexT l).map bv8).take k ++ reps (2 * l.length - k) (.int .u8 0)) ∧ Below w.heap.size w wr) (fun _ _ i _ => 2 * l.length - (intOf i).toNat)
  case atStart => exact ⟨0, by omega, rfl, by simpa using Blk.new w _ _, (Below.refl _ _).alloc (Nat.le_refl _) _⟩
  case round =>
    obtain ⟨k, hk, rfl, hblk, hbel⟩ := hrel
    by_cases hlt : k < 2 * l.length
    · obtain ⟨b, off, rfl, hbl, hcell⟩ := hr.addr (by simp; omega)
      have h0 : wr.cell? ⟨b, off + k / 2, none⟩ = some (.int .u8 (y8 (l[k / 2]'(by omega)))) := (hbel.cell (p := ⟨b, off + k / 2, none⟩) hbl).trans (hcell (k / 2) _ (by rw [List.getElem?_map, List.getElem?_eq_getElem (by omega)]; rfl))
      have hL : ((hexT l).map bv8).length = 2 * l.length := by rw [List.length_map, hexT_length]
      have hq : ((k : Int) / 2).toNat = k / 2 := by omega
      have hq0 : 0 ≤ (k : Int) / 2 := by omega
      have hq1 : (k : Int) / 2 < l.length := by omega
      have hlt' : (k : Int) < 2 * (l.length : Int) := by omega
      have ha := and1 k (by omega)
      have c0 := (hblk.cell k).trans (fill_at hlt (by omega))
      have f0 := hblk.frozen k
      clear hcell
      by_cases hm : k % 2 = 0
      · have hp : (((k % 2 : Nat) : Int) == 1) = false := by rw [beq_eq_false_iff_ne]; omega
        by_cases hs : y8 (l[k / 2] >>> 4) ≤ 9
        · skip
          have at0 : ((hexT l).map bv8)[k]? = some (.int .u8 (y8 (dg (l[k / 2] >>> 4)))) := by rw [List.getElem?_map, hexT_even l k hlt hm]; rfl
          have hdg := dg_small hs
          have s0 := hblk.put k (.int .u8 (y8 (dg (l[k / 2] >>> 4))))
          rw [fill_step hlt at0] at s0
          have H1 := Lib.hid s0
          clear s0 at0 hL hblk hm
          go_wp2
          go_roundw
          case rel => exact ⟨k + 1, by omega, by go_num, H1.out, hbel.setCell (p := ⟨w.heap.size, k, none⟩) (Nat.le_refl _) _⟩
          case measure => simp [intOf]; omega
        · skip
          have at0 : ((hexT l).map bv8)[k]? = some (.int .u8 (y8 (dg (l[k / 2] >>> 4)))) := by rw [List.getElem?_map, hexT_even l k hlt hm]; rfl
          have hdg := dg_great (by omega) (hi_lt l[k / 2])
          have gl := hi_lt l[k / 2]
          have gm : y8 (l[k / 2] >>> 4) < 16 := by unfold y8; omega
          have hs' : 9 < y8 (l[k / 2] >>> 4) := by omega
          have s0 := hblk.put k (.int .u8 (48 + y8 (l[k / 2] >>> 4)))
          have s1 := s0.put k (.int .u8 (y8 (dg (l[k / 2] >>> 4))))
          have c1 := s0.cell k
          rw [List.getElem?_set_self (by rw [List.length_append, List.length_take, reps_length]; omega)] at c1
          have f1 := s0.frozen k
          rw [List.set_set, fill_step hlt at0] at s1
          have H1 := Lib.hid s1
          clear s0 s1 at0 hL hblk hm gl hs
          go_wp2
          go_roundw
          case rel => exact ⟨k + 1, by omega, by go_num, H1.out, (hbel.setCell (p := ⟨w.heap.size, k, none⟩) (Nat.le_refl _) _).setCell (p := ⟨w.heap.size, k, none⟩) (Nat.le_refl _) _⟩
          case measure => simp [intOf]; omega
      · have hp : (((k % 2 : Nat) : Int) == 1) = true := by rw [beq_iff_eq]; omega
        by_cases hs : y8 (l[k / 2] &&& 15) ≤ 9
        · skip
          have at0 : ((hexT l).map bv8)[k]? = some (.int .u8 (y8 (dg (l[k / 2] &&& 15)))) := by rw [List.getElem?_map, hexT_odd l k hlt hm]; rfl
          have hdg := dg_small hs
          have s0 := hblk.put k (.int .u8 (y8 (dg (l[k / 2] &&& 15))))
          rw [fill_step hlt at0] at s0
          have H1 := Lib.hid s0
          clear s0 at0 hL hblk hm
          go_wp2
          go_roundw
          case rel => exact ⟨k + 1, by omega, by go_num, H1.out, hbel.setCell (p := ⟨w.heap.size, k, none⟩) (Nat.le_refl _) _⟩
          case measure => simp [intOf]; omega
        · skip
          have at0 : ((hexT l).map bv8)[k]? = some (.int .u8 (y8 (dg (l[k / 2] &&& 15)))) := by rw [List.getElem?_map, hexT_odd l k hlt hm]; rfl
          have hdg := dg_great (by omega) (lo_lt l[k / 2])
          have gl := lo_lt l[k / 2]
          have gm : y8 (l[k / 2] &&& 15) < 16 := by unfold y8; omega
          have hs' : 9 < y8 (l[k / 2] &&& 15) := by omega
          have s0 := hblk.put k (.int .u8 (48 + y8 (l[k / 2] &&& 15)))
          have s1 := s0.put k (.int .u8 (y8 (dg (l[k / 2] &&& 15))))
          have c1 := s0.cell k
          rw [List.getElem?_set_self (by rw [List.length_append, List.length_take, reps_length]; omega)] at c1
          have f1 := s0.frozen k
          rw [List.set_set, fill_step hlt at0] at s1
          have H1 := Lib.hid s1
          clear s0 s1 at0 hL hblk hm gl hs
          go_wp2
          go_roundw
          case rel => exact ⟨k + 1, by omega, by go_num, H1.out, (hbel.setCell (p := ⟨w.heap.size, k, none⟩) (Nat.le_refl _) _).setCell (p := ⟨w.heap.size, k, none⟩) (Nat.le_refl _) _⟩
          case measure => simp [intOf]; omega
    · obtain rfl : k = 2 * l.length := by omega
      have hb2 := hblk
      rw [fill_end (by rw [List.length_map, hexT_length])] at hb2
      have hrd := blk_rd hb2 (n := (hexT l).length) (by rw [List.length_map]) (by rw [hexT_length]; omega)
      have k1 := run_bytes_str (P := Tryz.prog) Tryz.underlying43 Tryz.underlying5 Tryz.underlying9 hrd
      rw [hexT_length] at k1
      clear hblk hb2 hrd
      go_wp2
      go_ret
      exact ⟨rfl, hbel⟩
end Go.Proofs.YtdbdigcpibmgjaaGreatDoor
/- The reference's HexBytes and HexFault. -/
namespace Go.Proofs.YtdbdigcpibmgjaaGreatDoor
open Go.RowKit
@[go_sem] theorem y8_add (x y : UInt8) : (y8 x + y8 y) % (256 : Int) = y8 (x + y) := by
  unfold y8; rw [UInt8.toNat_add]; omega
/-- the bytes so far, behind k digits: the reference's loop -/
def hst (l : List UInt8) : Nat → List UInt8
  | 0 => []
  | k + 1 =>
    let s := if k % 2 = 0 then hst l k ++ [0] else hst l k
    s.set (k / 2) ((s.getD (k / 2) 0) <<< 4 + vl (l.getD k 0))
theorem hst_length (l : List UInt8) : ∀ k, (hst l k).length = (k + 1) / 2
  | 0 => rfl
  | k + 1 => by
    rw [hst]
    simp only [List.length_set]
    split
    · rw [List.length_append, hst_length l k]; simp; omega
    · rw [hst_length l k]; omega
theorem two_table : ∀ a b : Fin 16, ((0 : UInt8) <<< 4 + UInt8.ofNat a.val) <<< 4 + UInt8.ofNat b.val = UInt8.ofNat a.val <<< 4 ||| UInt8.ofNat b.val := by decide +kernel
theorem two_add {a b : UInt8} (ha : isD a = true) (hb : isD b = true) : ((0 : UInt8) <<< 4 + vl a) <<< 4 + vl b = two a b := by
  have h1 := (vl_spec ha).2.2
  have h2 := (vl_spec hb).2.2
  have := two_table ⟨(vl a).toNat, h1⟩ ⟨(vl b).toNat, h2⟩
  simp only [UInt8.ofNat_toNat] at this
  exact this
theorem unh_take : ∀ (j : Nat) (l : List UInt8), 2 * j + 1 < l.length → unh (l.take (2 * (j + 1))) = unh (l.take (2 * j)) ++ [two (l.getD (2 * j) 0) (l.getD (2 * j + 1) 0)]
  | _, [], h => absurd h (by simp)
  | _, [_], h => absurd h (by simp)
  | 0, a :: b :: r, _ => by simp [unh]
  | j + 1, a :: b :: r, h => by
    have := unh_take j r (by simp at h; omega)
    rw [show 2 * (j + 1 + 1) = 2 * (j + 1) + 2 from by omega, show 2 * (j + 1) + 1 = 2 * j + 1 + 2 from by omega]
    simp only [List.take_succ_cons, unh, this]
    rw [show 2 * (j + 1) = 2 * j + 2 from by omega]
    simp only [List.take_succ_cons, unh, List.cons_append, List.getD_cons_succ]
theorem hst_all (l : List UInt8) (hd : l.all isD = true) : ∀ j, 2 * j ≤ l.length → hst l (2 * j) = unh (l.take (2 * j))
  | 0, _ => rfl
  | j + 1, h => by
    have ih := hst_all l hd j (by omega)
    have hW : (unh (l.take (2 * j))).length = j := by rw [unh_length, List.length_take]; omega
    have hD := List.all_eq_true.1 hd
    have d0 : isD (l.getD (2 * j) 0) = true := by rw [getD_lt (by omega)]; exact hD _ (List.getElem_mem _)
    have d1 : isD (l.getD (2 * j + 1) 0) = true := by rw [getD_lt (by omega)]; exact hD _ (List.getElem_mem _)
    rw [unh_take j l (by omega), show 2 * (j + 1) = 2 * j + 1 + 1 from by omega, hst, if_neg (by omega), hst, if_pos (by omega), ih, show (2 * j + 1) / 2 = j from by omega, show 2 * j / 2 = j from by omega]
    rw [set_last _ _ _ _ hW, getD_last _ _ _ _ hW, set_last _ _ _ _ hW, getD_last _ _ _ _ hW, two_add d0 d1]
theorem hst_end (l : List UInt8) (hd : l.all isD = true) (h : l.length % 2 = 0) : hst l l.length = unh l := by
  have := hst_all l hd (l.length / 2) (by omega)
  rwa [show 2 * (l.length / 2) = l.length from by omega, List.take_length] at this
set_option maxRecDepth 100000 in
set_option maxHeartbeats 400000 in
theorem rbytes_big (l : List UInt8) (w : World) (h : 4000 < l.length) (hm : l.length ≤ maxLen) :
    Calls Tryz.prog 158 #[.string (str l)] w fun e w' => e = .returned (.tuple #[.slice none 0 0, .int .i64 1]) ∧ w = w' := by
  unfold maxLen at hm
  go_enter Tryz.func158, Tryz.ntmps158
  go_wp2
  go_ret2
  exact ⟨rfl, rfl⟩
set_option maxRecDepth 100000 in
set_option maxHeartbeats 400000 in
theorem rbytes_odd (l : List UInt8) (w : World) (h : l.length ≤ 4000) (hn : l.length % 2 ≠ 0) :
    Calls Tryz.prog 158 #[.string (str l)] w fun e w' => e = .returned (.tuple #[.slice none 0 0, .int .i64 3]) ∧ w = w' := by
  have ha := and1 l.length (by omega)
  have hne : (((l.length % 2 : Nat) : Int) == 1) = true := by rw [beq_iff_eq]; omega
  go_enter Tryz.func158, Tryz.ntmps158
  go_wp2
  all_goals (go_ret2; exact ⟨rfl, rfl⟩)
set_option maxRecDepth 100000 in
set_option maxHeartbeats 2000000 in
theorem rbytes_even (l : List UInt8) (w : World) (h : l.length ≤ 4000) (h2 : l.length % 2 = 0) (b : Bool) (hb : l.all isD = b) :
    Calls Tryz.prog 158 #[.string (str l)] w (GivesB (bif b then unh l else []) (bif b then 0 else 3) w) := by
  have ha := and1 l.length (by omega)
  rw [h2] at ha
  have hm : l.length ≤ maxLen := by unfold maxLen; omega
  obtain ⟨i0, hi0, hz0, hz1, hz2⟩ := info_parts u8_info
  have H2 := Lib.hid h2
  have HB := Lib.hid hb
  have hd : decide (4000 < (l.length : Int)) = false := by simp; omega
  obtain ⟨c1, w1, hcv, hr, hb1, hs1⟩ := run_str_bytes (P := Tryz.prog) Tryz.underlying9 Tryz.underlying43 Tryz.underlying5 w l hm
  have hs1' : w.heap.size < w1.heap.size := by omega
  clear h2 hb hs1
  go_enter Tryz.func158, Tryz.ntmps158
  go_wp2
  go_loopw [4, 5, 6, 7, 18] (fun v _ _ _ i wr => ∃ k : Nat, k ≤ l.length ∧ i = .int .i64 k ∧ wr.ownsRow w1.heap.size 5 1 v ((k + 1) / 2) ((hst l k).map bv8) ∧ Below w1.heap.size w1 wr ∧ Hid ((l.take k).all isD = true)) (fun _ _ _ _ i _ => l.length - (intOf i).toNat)
  case atStart => exact ⟨0, by omega, rfl, World.ownsRow_nil _ _ _ _, Below.refl _ _, rfl⟩
  case round =>
    obtain ⟨k, hk, rfl, hown, hbel, HA⟩ := hrel
    by_cases hlt : k < l.length
    · obtain ⟨b0, off, hA0, hbl, hcell⟩ := hr.addr (by simp; omega)
      obtain ⟨rfl, rfl⟩ : w.heap.size = b0 ∧ 0 = off := by injection hA0 with hA0; injection hA0 with q1 q2; exact ⟨q1, q2⟩
      have h0 : wr.cell? ⟨w.heap.size, k, none⟩ = some (.int .u8 (y8 (l[k]'(by omega)))) := (hbel.cell (p := ⟨w.heap.size, k, none⟩) hbl).trans (by have := hcell k _ (by rw [List.getElem?_map, List.getElem?_eq_getElem (by omega)]; rfl); rwa [Nat.zero_add] at this)
      clear hcell hA0
      have hs := all_snoc hlt
      rw [HA.out, Bool.true_and] at hs
      have HS := Lib.hid hs
      clear hs
      by_cases hdk : isD l[k] = true
      · have hix : dix l[k] = y8 (vl l[k]) := if_pos hdk
        have hge : (0 : Int) ≤ y8 (vl l[k]) := y8_nonneg _
        have hng : decide (y8 (vl l[k]) < 0) = false := by simp; omega
        have hak := and1 k (by omega)
        have hq : ((k : Int) / 2).toNat = k / 2 := by omega
        have hq0 : 0 ≤ (k : Int) / 2 := by omega
        by_cases hm2 : k % 2 = 0
        · have hmb : (((k % 2 : Nat) : Int) == 0) = true := by rw [beq_iff_eq]; omega
          have hw1 : hst l (k + 1) = (hst l k ++ [0]).set (k / 2) ((0 : UInt8) <<< 4 + vl l[k]) := by
            rw [hst, if_pos hm2, getD_last _ _ _ _ (by rw [hst_length]; omega), getD_lt hlt]
          have hap : (hst l k).map bv8 ++ [.int .u8 0] = (hst l k ++ [0]).map bv8 := by rw [List.map_append]; rfl
          have hzz : ∃ z : UInt8, Hid (z = 0) := ⟨_, rfl⟩
          obtain ⟨z, hzz⟩ := hzz
          have Hw := Lib.hid hw1
          have Ha := Lib.hid hap
          have HD := Lib.hid hdk
          have hm3 : k % 2 < 1 := by omega
          clear hw1 hap hdk hm2
          go_wp2_with (first | (at_builtin; refine wpList_append1 rfl (.tmp 30) (.tmp 31) _ rfl Tryz.underlying43 hi0 hz0 hz1 hz2 rfl (by omega) _ _ _ rfl hown [.int .u8 0] rfl (by simp [Value.oneCell']) rfl (by omega) (by omega) hbel.size ?_; rintro v1 w2 ⟨hown1, hbb1, hsz1, hfar1⟩; obtain ⟨g, cap, rfl, hg, hglt⟩ := hown1.form (by omega); have hc1 : w2.cell? ⟨g, k / 2, none⟩ = some (.int .u8 (y8 z)) := (by rw [hown1.cellAt _ (by omega), List.getElem?_append_right (by rw [List.length_map, hst_length]; omega), List.length_map, hst_length, show k / 2 - (k + 1) / 2 = 0 from by omega, hzz.out]; rfl); have hf1 := hown1.frozenAt (k / 2); have hi1 : (k : Int) / 2 < ((((k + 1) / 2 + 1 : Nat)) : Int) := (by omega)) | ((with_reducible refine (indexDigs_any _ _).mono ?_); rintro e w' ⟨rfl, rfl⟩))
          go_roundw
          case rel =>
            refine ⟨k + 1, by omega, by go_num, ?_, (hbel.trans hbb1).setCell (p := ⟨g, k / 2, none⟩) hg _, HS.out.trans HD.out⟩
            have h5 := (hown1.stored (k / 2) (.int .u8 (y8 (z <<< 4 + vl l[k])))).1
            rw [Ha.out] at h5
            have h6 : ((hst l k ++ [0]).map bv8).set (k / 2) (.int .u8 (y8 (z <<< 4 + vl l[k]))) = (hst l (k + 1)).map bv8 := by
              rw [Hw.out, List.map_set, hzz.out]; rfl
            rw [h6] at h5
            rwa [show (k + 1 + 1) / 2 = (k + 1) / 2 + 1 from by omega]
          case measure => simp [intOf]; omega
        · have hmb : (((k % 2 : Nat) : Int) == 0) = false := by rw [beq_eq_false_iff_ne]; omega
          have hL := hst_length l k
          have hzz : ∃ z : UInt8, Hid (z = (hst l k).getD (k / 2) 0) := ⟨_, rfl⟩
          obtain ⟨z, hzz⟩ := hzz
          have hw1 : hst l (k + 1) = (hst l k).set (k / 2) (z <<< 4 + vl l[k]) := by
            rw [hst, if_neg hm2, getD_lt hlt, hzz.out]
          obtain ⟨g, cap, rfl, hg, hglt⟩ := hown.form (by omega)
          have hc1 : wr.cell? ⟨g, k / 2, none⟩ = some (.int .u8 (y8 z)) := by
            rw [hown.cellAt _ (by omega), List.getElem?_map, List.getElem?_eq_getElem (by omega), hzz.out, getD_lt (by omega)]; rfl
          have hf1 := hown.frozenAt (k / 2)
          have hi1 : (k : Int) / 2 < ((((k + 1) / 2 : Nat)) : Int) := by omega
          have Hw := Lib.hid hw1
          have HD := Lib.hid hdk
          have hm3 : 0 < k % 2 := by omega
          clear hw1 hL hdk hm2
          go_wp2_with ((with_reducible refine (indexDigs_any _ _).mono ?_); rintro e w' ⟨rfl, rfl⟩)
          go_roundw
          case rel =>
            refine ⟨k + 1, by omega, by go_num, ?_, hbel.setCell (p := ⟨g, k / 2, none⟩) hg _, HS.out.trans HD.out⟩
            have h5 := (hown.stored (k / 2) (.int .u8 (y8 (z <<< 4 + vl l[k])))).1
            have h6 : ((hst l k).map bv8).set (k / 2) (.int .u8 (y8 (z <<< 4 + vl l[k]))) = (hst l (k + 1)).map bv8 := by
              rw [Hw.out, List.map_set]; rfl
            rw [h6] at h5
            rwa [show (k + 1 + 1) / 2 = (k + 1) / 2 from by omega]
          case measure => simp [intOf]; omega
      · have hix : dix l[k] = -1 := if_neg hdk
        have hf : b = false := by
          have := HB.out
          cases b
          · rfl
          · exact absurd (List.all_eq_true.1 this _ (List.getElem_mem hlt)) hdk
        subst hf
        have HD := Lib.hid hdk
        clear hdk
        go_wp2_with ((with_reducible refine (indexDigs_any _ _).mono ?_); rintro e w' ⟨rfl, rfl⟩)
        go_ret2
        exact ⟨none, 0, 0, rfl, Rd.nil _ _, hb1.trans (hbel.mono (by omega))⟩
    · obtain rfl : k = l.length := by omega
      have hf : b = true := by
        have := HA.out
        rw [List.take_length, HB.out] at this
        exact this
      subst hf
      rw [hst_end l HB.out H2.out] at hown
      obtain ⟨A', c', rfl, hrd⟩ := own_rd hown
      go_wp2
      go_ret2
      exact ⟨_, _, _, rfl, hrd, hb1.trans (hbel.mono (by omega))⟩
end Go.Proofs.YtdbdigcpibmgjaaGreatDoor
/- Digits at every argument: the reference's HexBytes and HexFault. -/
namespace Go.Proofs.YtdbdigcpibmgjaaGreatDoor
open Go.RowKit
def hErr (l : List UInt8) : Int := if 4000 < l.length then 1 else if l.length % 2 ≠ 0 ∨ l.all isD = false then 3 else 0
def hRes (l : List UInt8) : List UInt8 := if hErr l = 0 then unh l else []
theorem hErr_big {l : List UInt8} (h : 4000 < l.length) : hErr l = 1 ∧ hRes l = [] := by
  have e : hErr l = 1 := if_pos h
  exact ⟨e, by unfold hRes; rw [e]; rfl⟩
theorem hErr_no {l : List UInt8} (h : ¬ 4000 < l.length) (h2 : l.length % 2 ≠ 0 ∨ l.all isD = false) : hErr l = 3 ∧ hRes l = [] := by
  have e : hErr l = 3 := by unfold hErr; rw [if_neg h, if_pos h2]
  exact ⟨e, by unfold hRes; rw [e]; rfl⟩
theorem hErr_ok {l : List UInt8} (h : ¬ 4000 < l.length) (h2 : l.length % 2 = 0) (h3 : l.all isD = true) : hErr l = 0 ∧ hRes l = unh l := by
  have e : hErr l = 0 := by unfold hErr; rw [if_neg h, if_neg (by simp [h2, h3])]
  exact ⟨e, by unfold hRes; rw [e]; rfl⟩
theorem rbytes_all (l : List UInt8) (w : World) (hm : l.length ≤ maxLen) : Calls Tryz.prog 158 #[.string (str l)] w (GivesB (hRes l) (hErr l) w) := by
  by_cases hb : 4000 < l.length
  · rw [(hErr_big hb).1, (hErr_big hb).2]
    exact (rbytes_big l w hb hm).mono fun _ _ h => gives_nil h
  · by_cases ho : l.length % 2 = 0
    · have := rbytes_even l w (by omega) ho
      cases hd : l.all isD
      · rw [(hErr_no hb (.inr hd)).1, (hErr_no hb (.inr hd)).2]
        exact this _ hd
      · rw [(hErr_ok hb ho hd).1, (hErr_ok hb ho hd).2]
        exact this _ hd
    · rw [(hErr_no hb (.inl ho)).1, (hErr_no hb (.inl ho)).2]
      exact (rbytes_odd l w (by omega) ho).mono fun _ _ h => gives_nil h
set_option maxRecDepth 100000 in
set_option maxHeartbeats 400000 in
theorem hexFault_all (l : List UInt8) (w : World) (hm : l.length ≤ maxLen) : Calls Tryz.prog 115 #[.string (str l)] w fun e w' => e = .returned (.int .i64 (cErr l)) ∧ Below w.heap.size w w' := by
  by_cases hb : l.length ≠ 64
  · have hne : ((l.length : Int) != 64) = true := by rw [bne_iff_ne]; omega
    rw [show cErr l = 1 from if_pos hb]
    clear hb
    go_enter Tryz.func115, Tryz.ntmps115
    go_wp2
    go_ret
    exact ⟨rfl, Below.refl _ _⟩
  · have hne : ((l.length : Int) != 64) = false := by rw [bne_eq_false_iff_eq]; omega
    have h64 : l.length = 64 := by omega
    have e : cErr l = if l.all isD then 0 else 3 := if_neg hb
    clear hb
    cases hd : l.all isD
    · have e2 := hErr_no (l := l) (by omega) (.inr hd)
      rw [hd] at e
      have E := Lib.hid e
      have E2 := Lib.hid e2.1
      have hn3 : ((3 : Int) != 0) = true := rfl
      clear e e2 h64 hd
      go_enter Tryz.func115, Tryz.ntmps115
      go_wp2_with fail
      with_reducible refine (rbytes_all _ _ hm).mono ?_
      rintro e w1 ⟨A, n, c, rfl, hr, hbel⟩
      rw [E2.out]
      go_wp2
      go_ret
      exact ⟨ret_int E.out.symm, hbel⟩
    · have e2 := hErr_ok (l := l) (by omega) (by omega) hd
      rw [hd] at e
      have E := Lib.hid e
      have E2 := Lib.hid e2.1
      clear e e2 h64 hd
      go_enter Tryz.func115, Tryz.ntmps115
      go_wp2_with fail
      with_reducible refine (rbytes_all _ _ hm).mono ?_
      rintro e w1 ⟨A, n, c, rfl, hr, hbel⟩
      rw [E2.out]
      go_wp2
      go_ret
      exact ⟨ret_int E.out.symm, hbel⟩
end Go.Proofs.YtdbdigcpibmgjaaGreatDoor
/- Hexadecimal digits and bytes, back and forth: plain facts. -/
namespace Go.Proofs.YtdbdigcpibmgjaaGreatDoor
open Go.RowKit
theorem dg_table : ∀ n : Fin 256, two (dg (UInt8.ofNat n.val >>> 4)) (dg (UInt8.ofNat n.val &&& 15)) = UInt8.ofNat n.val ∧ isD (dg (UInt8.ofNat n.val >>> 4)) = true ∧ isD (dg (UInt8.ofNat n.val &&& 15)) = true := by decide +kernel
theorem dg_spec (x : UInt8) : two (dg (x >>> 4)) (dg (x &&& 15)) = x ∧ isD (dg (x >>> 4)) = true ∧ isD (dg (x &&& 15)) = true := by
  have := dg_table ⟨x.toNat, x.toNat_lt⟩
  simpa only [UInt8.ofNat_toNat] using this
theorem hexT_cons (a : UInt8) (r : List UInt8) : hexT (a :: r) = dg (a >>> 4) :: dg (a &&& 15) :: hexT r := rfl
theorem unh_hexT : ∀ l : List UInt8, unh (hexT l) = l
  | [] => rfl
  | a :: r => by rw [hexT_cons, unh, unh_hexT r, (dg_spec a).1]
theorem hexT_all : ∀ l : List UInt8, (hexT l).all isD = true
  | [] => rfl
  | a :: r => by rw [hexT_cons, List.all_cons, List.all_cons, (dg_spec a).2.1, (dg_spec a).2.2, hexT_all r]; rfl
theorem two_parts_table : ∀ a b : Fin 16, (UInt8.ofNat a.val <<< 4 ||| UInt8.ofNat b.val) >>> 4 = UInt8.ofNat a.val ∧ (UInt8.ofNat a.val <<< 4 ||| UInt8.ofNat b.val) &&& 15 = UInt8.ofNat b.val := by decide +kernel
theorem two_parts {a b : UInt8} (ha : isD a = true) (hb : isD b = true) : dg (two a b >>> 4) = a ∧ dg (two a b &&& 15) = b := by
  have h1 := vl_spec ha
  have h2 := vl_spec hb
  have := two_parts_table ⟨(vl a).toNat, h1.2.2⟩ ⟨(vl b).toNat, h2.2.2⟩
  simp only [UInt8.ofNat_toNat] at this
  unfold two
  rw [this.1, this.2]
  exact ⟨h1.2.1, h2.2.1⟩
theorem hexT_unh : ∀ l : List UInt8, l.length % 2 = 0 → l.all isD = true → hexT (unh l) = l
  | [], _, _ => rfl
  | [_], h, _ => absurd h (by simp)
  | a :: b :: r, h, hd => by
    simp only [List.all_cons, Bool.and_eq_true] at hd
    rw [unh, hexT_cons, (two_parts hd.1 hd.2.1).1, (two_parts hd.1 hd.2.1).2, hexT_unh r (by simp at h; omega) hd.2.2]
end Go.Proofs.YtdbdigcpibmgjaaGreatDoor

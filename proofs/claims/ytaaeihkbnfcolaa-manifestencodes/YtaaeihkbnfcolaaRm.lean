/- Reading a number: the program's number. -/
import Derived.Test.YtaaeihkbnfcolaaRn
namespace Go.Proofs.Ytaaeihkbnfcolaa
open Go.RowKit
theorem ret_three {a a' b b' c c' : Int} (h : a = a') (h2 : b = b') (h3 : c = c') : Ending.returned (.tuple #[.int .i64 a, .int .i64 b, .int .i64 c]) = .returned (.tuple #[.int .i64 a', .int .i64 b', .int .i64 c']) := by rw [h, h2, h3]
theorem numberLength_at (A : Option Addr) (n c : Nat) (l : List UInt8) (w : World) (hr : Rd w 1 A n c (l.map bv8)) (k e : Int) (hk : (nlen l : Int) = k) (he : nlerr l = e) :
    Calls Try.prog 61 #[.slice A n c] w fun e' w' => e' = .returned (.tuple #[.int .i64 k, .int .i64 e]) ∧ w = w' := by
  rw [← hk, ← he]; exact numberLength_any A n c l w hr
theorem y8_mod (x : UInt8) : y8 x % (128 : Int) = ((x.toNat % 128 : Nat) : Int) := by unfold y8; simp
set_option maxHeartbeats 400000 in
theorem wnumber_no (A : Option Addr) (n c : Nat) (l : List UInt8) (w : World) (hr : Rd w 1 A n c (l.map bv8)) (e : Int) (hl : nlen l = 0) (he : nlerr l = e) (hne : e = 8 ∨ e = 3) :
    Calls Try.prog 54 #[.slice A n c] w fun e' w' => e' = .returned (.tuple #[.int .i64 0, .int .i64 0, .int .i64 e]) ∧ w = w' := by
  have HL := Lib.hid hl
  have HE := Lib.hid he
  clear hl he
  rcases hne with rfl | rfl
  · go_enter Try.func54, Try.ntmps54
    go_wp2_with ((with_reducible refine (numberLength_at _ _ _ _ _ hr 0 8 (by simp [HL.out]) HE.out).mono ?_); rintro e' w' ⟨rfl, rfl⟩)
    go_ret3
    exact ⟨rfl, rfl⟩
  · go_enter Try.func54, Try.ntmps54
    go_wp2_with ((with_reducible refine (numberLength_at _ _ _ _ _ hr 0 3 (by simp [HL.out]) HE.out).mono ?_); rintro e' w' ⟨rfl, rfl⟩)
    go_ret3
    exact ⟨rfl, rfl⟩
set_option maxRecDepth 100000 in
set_option maxHeartbeats 1000000 in
theorem wnumber_some (A : Option Addr) (n c : Nat) (l : List UInt8) (w : World) (hr : Rd w 1 A n c (l.map bv8)) (d : Nat) (hd5 : d < 5) (hdl : d < l.length) (hd : Hid (lead l = d)) :
    Calls Try.prog 54 #[.slice A n c] w fun e' w' => e' = .returned (.tuple #[.int .i64 (rVal l), .int .i64 (rLen l), .int .i64 (rErr l)]) ∧ w = w' := by
  obtain rfl := hr.len
  have hcm := hr.2.1
  have hcx := hr.2.2.1
  unfold maxLen at hcx
  obtain ⟨b, off, rfl, hcell⟩ := hr.2.2.2 (by simp; omega)
  have hcd : w.cell? ⟨b, off + d, none⟩ = some (.int .u8 (y8 l[d])) := hcell d _ (by rw [List.getElem?_map, List.getElem?_eq_getElem hdl]; rfl)
  have HC := Lib.hid hcell
  obtain ⟨t, ht⟩ : ∃ t, Hid (t = l.take (d + 1)) := ⟨_, rfl⟩
  have htl : Hid (t.length = d + 1) := by show _ = _; rw [ht.out, List.length_take]; omega
  have hdi : (d : Int) < (l.length : Int) := by omega
  have hnl := nl_ok (l := l) (by rw [hd.out]; omega) (by rw [hd.out]; omega)
  rw [hd.out] at hnl
  have HN := Lib.hid hnl
  clear hcell hnl
  go_enter Try.func54, Try.ntmps54
  go_wp2_with ((with_reducible refine (numberLength_at _ _ _ _ _ hr ((d : Int) + 1) 0 (by rw [HN.out.1]; omega) HN.out.2).mono ?_); rintro e' w' ⟨rfl, rfl⟩)
  go_loop [7, 8] (fun nv iv => ∃ (j v : Nat) (q : Int), j ≤ d + 1 ∧ v < 34359738368 ∧ nv = .int .i64 v ∧ iv = .int .i64 q ∧ Hid (q = (j : Int) - 1) ∧ -1 ≤ q ∧ Hid (v = val (t.drop j))) (fun _ iv => ((intOf iv) + 1).toNat)
  case atStart => exact ⟨d + 1, 0, _, by omega, by omega, rfl, rfl, by show _ = _; omega, by omega, by show _ = _; rw [List.drop_of_length_le (by rw [htl.out]; omega)]; rfl⟩
  case round =>
    obtain ⟨j, v, q, hj, hv, rfl, rfl, Hq, hq1, HV⟩ := hrel
    by_cases hq : 0 ≤ q
    · obtain ⟨i, rfl⟩ := Int.eq_ofNat_of_zero_le hq
      have hji : j = i + 1 := by have := Hq.out; omega
      have hil : i < l.length := by omega
      have hii : (i : Int) < (l.length : Int) := by omega
      have hci : w.cell? ⟨b, off + i, none⟩ = some (.int .u8 (y8 l[i])) := HC.out i _ (by rw [List.getElem?_map, List.getElem?_eq_getElem hil]; rfl)
      have hy := y8_mod l[i]
      have hy0 := y8_nonneg l[i]
      have hy1 := y8_lt l[i]
      have hid : i ≤ d := by omega
      obtain ⟨r, hr2⟩ : ∃ r, l[i].toNat % 128 = r := ⟨_, rfl⟩
      rw [hr2] at hy
      have hr3 : r < 128 := by omega
      have HW := Lib.hid (show v * 128 + r = val (t.drop i) ∧ v * 128 + r < 34359738368 by
        have h1 : v * 128 + r = val (t.drop i) := by
          rw [val_drop (l := t) (j := i) (by rw [htl.out]; omega), ← hji, ← HV.out, ← hr2]
          have : t[i]'(by rw [htl.out]; omega) = l[i] := by
            have h3 : t[i]? = l[i]? := by rw [ht.out, List.getElem?_take, if_pos (by omega)]
            rw [List.getElem?_eq_getElem (by rw [htl.out]; omega), List.getElem?_eq_getElem hil] at h3
            exact Option.some.inj h3
          rw [this]; omega
        refine ⟨h1, ?_⟩
        rw [h1]
        refine Nat.lt_of_lt_of_le (val_lt _) ?_
        rw [List.length_drop, htl.out]
        exact Nat.le_trans (Nat.pow_le_pow_right (by omega) (by omega : d + 1 - i ≤ 5)) (by decide))
      clear hji hr2 HV hq
      go_wp2
      go_round
      case rel => exact ⟨i, v * 128 + r, (i : Int) - 1, by omega, HW.out.2, by go_num, by go_num, rfl, by omega, HW.out.1⟩
      case measure => simp [intOf] <;> omega
    · have hq' : q = -1 := by omega
      have hj0 : j = 0 := by have := Hq.out; omega
      have HV2 : Hid (v = val (l.take (lead l + 1))) := by
        show _ = _
        have := HV.out
        rw [hj0, List.drop_zero, ht.out, ← hd.out] at this
        exact this
      have HEV := Lib.hid (enc_val l (by rw [hd.out]; exact hdl))
      have hd0 : lead l < 5 ∧ lead l < l.length := by rw [hd.out]; exact ⟨hd5, hdl⟩
      have HD0 := Lib.hid hd0
      have hdg : Hid (l[lead l]'hd0.2 = l[d]) := by
        show _ = _
        have h3 : l[lead l]? = l[d]? := by rw [hd.out]
        rw [List.getElem?_eq_getElem hd0.2, List.getElem?_eq_getElem hdl] at h3
        exact Option.some.inj h3
      have hqd : decide (0 ≤ q) = false := by simp; omega
      clear hq' hj0 HV
      by_cases hbig : 4294967295 < v
      · have hb1 : decide (4294967295 < (v : Int)) = true := by simp; omega
        have HR := Lib.hid (read_form (l := l) HD0.out.1 HD0.out.2 (.inl (by rw [← HV2.out]; exact hbig)))
        go_wp2
        go_ret3
        exact ⟨ret_three (by rw [HR.out.2.1]; rfl) (by rw [HR.out.2.2.1]; rfl) HR.out.1.symm, rfl⟩
      · have hb1 : decide (4294967295 < (v : Int)) = false := by simp; omega
        have HB := Lib.hid (show val (l.take (lead l + 1)) ≤ 4294967295 by rw [← HV2.out]; omega)
        by_cases h1 : d = 0
        · have hb2 : decide ((1 : Int) < (d : Int) + 1) = false := by simp; omega
          have HR := Lib.hid (read_ok (l := l) HD0.out.1 HD0.out.2 HB.out (HEV.out.2 (.inl (by rw [hd.out]; exact h1))))
          go_wp2
          go_ret3
          exact ⟨ret_three (by rw [HR.out.2.1, HV2.out]) (by rw [HR.out.2.2.1, hd.out]; omega) HR.out.1.symm, rfl⟩
        · have hb2 : decide ((1 : Int) < (d : Int) + 1) = true := by simp; omega
          by_cases hx : l[d].toNat = 0
          · have hb3 : (y8 l[d] == 0) = true := by rw [beq_iff_eq]; unfold y8; omega
            have HR := Lib.hid (read_form (l := l) HD0.out.1 HD0.out.2 (.inr fun h => by
              rcases HEV.out.1 h with h | h
              · rw [hd.out] at h; exact h1 h
              · rw [hdg.out] at h; exact h hx))
            go_wp2
            go_ret3
            exact ⟨ret_three (by rw [HR.out.2.1]; rfl) (by rw [HR.out.2.2.1]; rfl) HR.out.1.symm, rfl⟩
          · have hb3 : (y8 l[d] == 0) = false := by rw [beq_eq_false_iff_ne]; unfold y8; omega
            have HR := Lib.hid (read_ok (l := l) HD0.out.1 HD0.out.2 HB.out (HEV.out.2 (.inr (by rw [hdg.out]; exact hx))))
            go_wp2
            go_ret3
            exact ⟨ret_three (by rw [HR.out.2.1, HV2.out]) (by rw [HR.out.2.2.1, hd.out]; omega) HR.out.1.symm, rfl⟩
theorem wnumber_any (A : Option Addr) (n c : Nat) (l : List UInt8) (w : World) (hr : Rd w 1 A n c (l.map bv8)) :
    Calls Try.prog 54 #[.slice A n c] w fun e' w' => e' = .returned (.tuple #[.int .i64 (rVal l), .int .i64 (rLen l), .int .i64 (rErr l)]) ∧ w = w' := by
  have hle := lead_le l
  by_cases h5 : 5 ≤ lead l
  · have h1 := nl_long (l := l) (by omega) h5
    have h2 := read_long h5
    rw [h2.1, h2.2.1, h2.2.2.1]
    exact wnumber_no A n c l w hr 3 h1.1 h1.2 (.inr rfl)
  · by_cases h6 : lead l = l.length
    · have h1 := nl_short (l := l) (by omega) (by omega)
      have h2 := read_short (l := l) (by omega) h6
      rw [h2.1, h2.2.1, h2.2.2.1]
      exact wnumber_no A n c l w hr 8 h1.1 h1.2 (.inl rfl)
    · exact wnumber_some A n c l w hr (lead l) (by omega) (by omega) rfl
end Go.Proofs.Ytaaeihkbnfcolaa

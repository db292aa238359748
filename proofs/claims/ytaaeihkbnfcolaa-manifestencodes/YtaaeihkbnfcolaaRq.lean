/- Reading a number: the reference's WireNumberOf where a byte below 128 stands among the first five. -/
import Derived.Test.YtaaeihkbnfcolaaRo
import Derived.Deep.QuietTactic
import Derived.BigQuiet
namespace Go.Proofs.Ytaaeihkbnfcolaa
open Go.RowKit
set_option maxRecDepth 100000 in
set_option maxHeartbeats 2000000 in
theorem rof_some (A : Option Addr) (n c : Nat) (l : List UInt8) (w : World) (hr : Rd w 1 A n c (l.map bv8)) (hz : n ≤ 140737488351232) (d : Nat) (hd5 : d < 5) (hdl : d < l.length) (hd : Hid (lead l = d)) :
    Calls Try.prog 37 #[.slice A n c] w (GivesN (.int .i64 (rVal l)) (rRest l) (rErr l) w) := by
  obtain rfl := hr.len
  obtain ⟨i0, hi0, hz0, hz1, hz2⟩ := info_parts u8_info
  have hcm := hr.2.1
  have hcx := hr.2.2.1
  unfold maxLen at hcx
  obtain ⟨b, off, rfl, hcell⟩ := hr.2.2.2 (by simp; omega)
  have hcd : w.cell? ⟨b, off + d, none⟩ = some (.int .u8 (y8 l[d])) := hcell d _ (by rw [List.getElem?_map, List.getElem?_eq_getElem hdl]; rfl)
  have HC := Lib.hid hcell
  obtain ⟨t, ht⟩ : ∃ t, Hid (t = l.take (d + 1)) := ⟨_, rfl⟩
  have htl : Hid (t.length = d + 1) := by show _ = _; rw [ht.out, List.length_take]; omega
  have hdi : (d : Int) < (l.length : Int) := by omega
  have hd5i : (d : Int) < 5 := by omega
  have hd0 : lead l < 5 ∧ lead l < l.length := by rw [hd.out]; exact ⟨hd5, hdl⟩
  have hst := lead_stop l hd0.2
  have hdg : l[lead l]'hd0.2 = l[d] := by
    have h3 : l[lead l]? = l[d]? := by rw [hd.out]
    rw [List.getElem?_eq_getElem hd0.2, List.getElem?_eq_getElem hdl] at h3
    exact Option.some.inj h3
  rw [hdg] at hst
  have hdx : decide (128 ≤ y8 l[d]) = false := by unfold y8; simp; omega
  have HD0 := Lib.hid hd0
  clear hcell hst hdg hd0
  go_enter Try.func37, Try.ntmps37
  go_wp2
  go_loop [5] (fun q => ∃ k : Nat, k ≤ d ∧ q = .int .i64 k) (fun q => 5 - (intOf q).toNat)
  case atStart => exact ⟨0, by omega, rfl⟩
  case round =>
    obtain ⟨k, hk, rfl⟩ := hrel
    by_cases hlt : k < d
    · have hkl : k < l.length := by omega
      have hki : (k : Int) < (l.length : Int) := by omega
      have hk5 : (k : Int) < 5 := by omega
      have hck : w.cell? ⟨b, off + k, none⟩ = some (.int .u8 (y8 l[k])) := HC.out k _ (by rw [List.getElem?_map, List.getElem?_eq_getElem hkl]; rfl)
      have hx := lead_at l k (by have := hd.out; omega) hkl
      have hd : decide (128 ≤ y8 l[k]) = true := by unfold y8; simp; omega
      clear hx
      go_wp2
      go_round
      case rel => exact ⟨k + 1, by omega, by go_num⟩
      case measure => simp [intOf] <;> omega
    · obtain rfl : k = d := by omega
      have e5 : ((k : Int) == 5) = false := by rw [beq_eq_false_iff_ne]; omega
      have e6 : ((k : Int) == (l.length : Int)) = false := by rw [beq_eq_false_iff_ne]; omega
      go_wp2
      go_loop [6, 7] (fun nv iv => ∃ (j v : Nat) (q : Int), j ≤ k + 1 ∧ v < 34359738368 ∧ nv = .int .i64 v ∧ iv = .int .i64 q ∧ Hid (q = (j : Int) - 1) ∧ -1 ≤ q ∧ Hid (v = val (t.drop j))) (fun _ iv => ((intOf iv) + 1).toNat)
      case atStart => exact ⟨k + 1, 0, _, by omega, by omega, rfl, rfl, by show _ = _; omega, by omega, by show _ = _; rw [List.drop_of_length_le (by rw [htl.out]; omega)]; rfl⟩
      case round =>
        obtain ⟨j, v, q, hj, hv, rfl, rfl, Hq, hq1, HV⟩ := hrel
        by_cases hq : 0 ≤ q
        · obtain ⟨i, rfl⟩ := Int.eq_ofNat_of_zero_le hq
          have hji : j = i + 1 := by have := Hq.out; omega
          have hil : i < l.length := by omega
          have hii : (i : Int) < (l.length : Int) := by omega
          have hci : w.cell? ⟨b, off + i, none⟩ = some (.int .u8 (y8 l[i])) := HC.out i _ (by rw [List.getElem?_map, List.getElem?_eq_getElem hil]; rfl)
          have hy := y8_and127 l[i]
          obtain ⟨r, hr2⟩ : ∃ r, l[i].toNat % 128 = r := ⟨_, rfl⟩
          rw [hr2] at hy
          have hr3 : r < 128 := by omega
          have hid : i ≤ k := by omega
          have HW := Lib.hid (show v * 128 + r = val (t.drop i) ∧ v * 128 + r < 34359738368 by
            have h1 : v * 128 + r = val (t.drop i) := by
              rw [val_drop (l := t) (j := i) (by rw [htl.out]; omega), ← hji, ← HV.out, ← hr2]
              have : t[i]'(by rw [htl.out]; omega) = l[i] := by
                have h3 : t[i]? = l[i]? := by rw [ht.out, List.getElem?_take, if_pos (by omega)]
                rw [List.getElem?_eq_getElem (by rw [htl.out]; omega), List.getElem?_eq_getElem hil] at h3
                exact Option.some.inj h3
              rw [this]; omega
            refine ⟨h1, ?_⟩
            rw [h1]
            refine Nat.lt_of_lt_of_le (val_lt _) ?_
            rw [List.length_drop, htl.out]
            exact Nat.le_trans (Nat.pow_le_pow_right (by omega) (by omega : k + 1 - i ≤ 5)) (by decide))
          clear hji hr2 HV hq
          go_wp2
          go_round
          case rel => exact ⟨i, v * 128 + r, (i : Int) - 1, by omega, HW.out.2, by go_num, by go_num, rfl, by omega, HW.out.1⟩
          case measure => simp [intOf] <;> omega
        · have hj0 : j = 0 := by have := Hq.out; omega
          have HVt : Hid (v = val t) := by
            show _ = _
            have := HV.out
            rwa [hj0, List.drop_zero] at this
          have hqd : decide (0 ≤ q) = false := by simp; omega
          have Ht2 : Hid (t = l.take (lead l + 1)) := by show _ = _; rw [ht.out, hd.out]
          clear hj0 HV hq
          by_cases hbig : 4294967295 < v
          · have HR := Lib.hid (read_form (l := l) HD0.out.1 HD0.out.2 (.inl (by rw [← Ht2.out, ← HVt.out]; exact hbig)))
            go_wp2_with fail
            with_reducible refine (rnumber_out (v : Int) _ (by omega) (by omega) (.inr (by omega))).mono ?_
            rintro e' w' ⟨rfl, rfl⟩
            go_wp2_with fail
            go_quiet (fail)
            go_wp2
            go_ret3
            rw [HR.out.1, HR.out.2.1, HR.out.2.2.2]
            exact ⟨none, 0, 0, rfl, Rd.nil _ _, fun _ => rfl, by omega, fun _ q => by (cases q), below_drewN (Below.refl _ _) _⟩
          · go_wp2_with fail
            with_reducible refine (rnumber_ok v _ (by omega)).mono ?_
            rintro e' w1 ⟨v1, rfl, hown1, hb1⟩
            obtain ⟨A1, c1, rfl, hr1⟩ := own_rd hown1
            have hrt := ((hr.take (k + 1) (by omega)).below hb1)
            rw [← List.map_take, ← ht.out] at hrt
            have k1 := fun nn : Nat => run_bytes_str (P := Try.prog) Try.underlying27 Try.underlying5 Try.underlying9 (hr1.drewN nn)
            have k2 := fun nn : Nat => run_bytes_str (P := Try.prog) Try.underlying27 Try.underlying5 Try.underlying9 (hrt.as.drewN nn)
            simp only [htl.out] at k2
            by_cases heq : enc v = t
            · have f5 : (enc v == t) = true := by rw [beq_iff_eq]; exact heq
              have HR := Lib.hid (read_ok (l := l) HD0.out.1 HD0.out.2 (by rw [← Ht2.out, ← HVt.out]; omega) (by rw [← Ht2.out, ← HVt.out]; exact heq))
              have v1 : IntKind.i64.wrap ((k : Int) + 1) = (k : Int) + 1 := IntWalk.i64_in _ (by omega)
              have f8 : (k : Int) + 1 ≤ (c : Int) := by omega
              clear heq
              go_wp2_with fail
              go_quiet (fail)
              have hrA := (hr.below hb1).drewN nq
              have hbA := below_drewN hb1 nq
              clear k1 k2 hr1 hown1 hrt hb1
              generalize w1.drewN nq = w2 at *
              have hb0 := hbA.alloc hbA.size (.cells #[] 5)
              have hown0 : (w2.alloc (.cells #[] 5)).ownsRow w2.heap.size 5 1 (.slice (some ⟨w2.heap.size, 0, none⟩) 0 0) 0 [] :=
                ⟨rfl, .inr ⟨w2.heap.size, 0, #[], rfl, Nat.le_refl _, heap_alloc_new w2 _, Nat.le_refl _, by simp [maxLen], rfl, rfl⟩⟩
              have hr0 := hrA.below ((Below.refl w2.heap.size w2).alloc (Nat.le_refl _) (.cells #[] 5))
              have hs0 : w2.heap.size ≤ (w2.alloc (.cells #[] 5)).heap.size := by simp
              have hsw := hbA.size
              have HF := Lib.hid (show rRest l = l.drop (k + 1) by rw [HR.out.2.2.2, hd.out])
              by_cases hck : c = k + 1
              · have hlk : l.length = k + 1 := by omega
                have hr2 : Rd (w2.alloc (.cells #[] 5)) 1 (some ⟨b, off, none⟩) 0 0 (([] : List UInt8).map bv8) := Rd.none0 _ _ 0 (by unfold maxLen; omega)
                have HLK := Lib.hid hlk
                have hlk2 : l.length - (k + 1) = 0 := by omega
                clear hlk
                go_wp2_with (at_builtin; refine wpList_appendR rfl (.tmp 65) (.tmp 69) _ rfl Try.underlying27 hi0 hz0 hz1 hz2 rfl (by omega) _ 0 [] rfl hown0 hr2 (fun h => by (cases h)) (bytes_one _) rfl (by omega) (by unfold maxLen; omega) hs0 ?_; rintro v3 w3 ⟨hown3, hb3⟩)
                go_ret3
                obtain ⟨A3, c3, rfl, hr3, hA3, hF3⟩ := own_rdF hown3
                rw [HR.out.1, HR.out.2.1, ← Ht2.out, ← HVt.out, HF.out, ← HLK.out, List.drop_length]
                exact ⟨A3, _, c3, rfl, hr3, hA3, by omega, fun a q => Nat.le_trans hsw (hF3 a q), hb0.trans (hb3.mono hsw)⟩
              · have hr2 := hr0.drop (k + 1) (by omega)
                rw [← List.map_drop] at hr2
                go_wp2_with (at_builtin; refine wpList_appendR rfl (.tmp 65) (.tmp 69) _ rfl Try.underlying27 hi0 hz0 hz1 hz2 rfl (by omega) _ 0 [] rfl hown0 hr2 (fun h => by (cases h)) (bytes_one _) rfl (by omega) (by unfold maxLen; omega) hs0 ?_; rintro v3 w3 ⟨hown3, hb3⟩)
                go_ret3
                obtain ⟨A3, c3, rfl, hr3, hA3, hF3⟩ := own_rdF hown3
                rw [HR.out.1, HR.out.2.1, ← Ht2.out, ← HVt.out, HF.out]
                rw [List.nil_append] at hr3
                exact ⟨A3, _, c3, rfl, hr3, hA3, by omega, fun a q => Nat.le_trans hsw (hF3 a q), hb0.trans (hb3.mono hsw)⟩
            · have f5 : (enc v == t) = false := by rw [beq_eq_false_iff_ne]; exact heq
              have HR := Lib.hid (read_form (l := l) HD0.out.1 HD0.out.2 (.inr (by rw [← Ht2.out, ← HVt.out]; exact heq)))
              have v1 : IntKind.i64.wrap ((k : Int) + 1) = (k : Int) + 1 := IntWalk.i64_in _ (by omega)
              have f8 : (k : Int) + 1 ≤ (c : Int) := by omega
              go_wp2_with fail
              go_quiet (fail)
              go_wp2
              go_ret3
              rw [HR.out.1, HR.out.2.1, HR.out.2.2.2]
              exact ⟨none, 0, 0, rfl, Rd.nil _ _, fun _ => rfl, by omega, fun _ q => by (cases q), below_drewN hb1 _⟩
theorem rof_any (A : Option Addr) (n c : Nat) (l : List UInt8) (w : World) (hr : Rd w 1 A n c (l.map bv8)) (hz : n ≤ 140737488351232) :
    Calls Try.prog 37 #[.slice A n c] w (GivesN (.int .i64 (rVal l)) (rRest l) (rErr l) w) := by
  have hle := lead_le l
  by_cases h5 : 5 ≤ lead l
  · have h := read_long h5
    rw [h.1, h.2.1, h.2.2.2]
    exact (rof_long A n c l w hr h5).mono fun _ _ k => givesN_nil k
  · by_cases h6 : lead l = l.length
    · have h := read_short (l := l) (by omega) h6
      rw [h.1, h.2.1, h.2.2.2]
      exact (rof_short A n c l w hr (by omega) h6).mono fun _ _ k => givesN_nil k
    · exact rof_some A n c l w hr hz (lead l) (by omega) (by omega) rfl
end Go.Proofs.Ytaaeihkbnfcolaa

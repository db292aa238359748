/- Reading a text: the reference's WireTextOf. -/
import Derived.Test.YtaaeihkbnfcolaaRq
import Derived.Test.YtaaeihkbnfcolaaRt
namespace Go.Proofs.Ytaaeihkbnfcolaa
open Go.RowKit
theorem rof_at (A : Option Addr) (n c : Nat) (l : List UInt8) (w : World) (hr : Rd w 1 A n c (l.map bv8)) (hz : n ≤ 140737488351232) (v e : Int) (hv : (rVal l : Int) = v) (he : rErr l = e) :
    Calls Try.prog 37 #[.slice A n c] w (GivesN (.int .i64 v) (rRest l) e w) := by
  rw [← hv, ← he]; exact rof_any A n c l w hr hz
set_option maxHeartbeats 400000 in
theorem rtextOf_no (A : Option Addr) (n c : Nat) (l : List UInt8) (w : World) (hr : Rd w 1 A n c (l.map bv8)) (hz : n ≤ 140737488351232) (e : Int) (he : rErr l = e) (hv : rVal l = 0) (hne : e = 8 ∨ e = 3) :
    Calls Try.prog 38 #[.slice A n c] w fun e' w' => e' = .returned (.tuple #[.string (str []), .slice none 0 0, .int .i64 e]) ∧ Below w.heap.size w w' := by
  have HV := Lib.hid hv
  have HE := Lib.hid he
  clear hv he
  rcases hne with rfl | rfl
  · go_enter Try.func38, Try.ntmps38
    go_wp2_with fail
    with_reducible refine (rof_at _ _ _ _ _ hr hz 0 8 (by simp [HV.out]) HE.out).mono ?_
    rintro e' w1 ⟨A1, n1, c1, rfl, hr1, hA1, hn1, -, hb1⟩
    go_wp2
    go_ret3
    exact ⟨rfl, hb1⟩
  · go_enter Try.func38, Try.ntmps38
    go_wp2_with fail
    with_reducible refine (rof_at _ _ _ _ _ hr hz 0 3 (by simp [HV.out]) HE.out).mono ?_
    rintro e' w1 ⟨A1, n1, c1, rfl, hr1, hA1, hn1, -, hb1⟩
    go_wp2
    go_ret3
    exact ⟨rfl, hb1⟩
theorem givesN_nil' {w : World} {x : Value} {err : Int} {e : Ending} {w' : World} (h : e = .returned (.tuple #[x, .slice none 0 0, .int .i64 err]) ∧ Below w.heap.size w w') : GivesN x [] err w e w' := by
  obtain ⟨rfl, hb⟩ := h
  exact ⟨none, 0, 0, rfl, Rd.nil _ _, fun _ => rfl, by omega, fun _ q => (by cases q), hb⟩
set_option maxRecDepth 100000 in
set_option maxHeartbeats 2000000 in
theorem rtextOf_ok (A : Option Addr) (n c : Nat) (l : List UInt8) (w : World) (hr : Rd w 1 A n c (l.map bv8)) (hz : n ≤ 140737488351232) (he : rErr l = 0) :
    Calls Try.prog 38 #[.slice A n c] w (GivesN (.string (str (tStr l))) (tRest l) (tErr l) w) := by
  obtain ⟨v, hv⟩ : ∃ v, rVal l = v := ⟨_, rfl⟩
  have hvx : v < 4294967296 := by rw [← hv]; exact rVal_lt l
  have HE := Lib.hid he
  have HV := Lib.hid hv
  clear he hv
  go_enter Try.func38, Try.ntmps38
  go_wp2_with fail
  with_reducible refine (rof_at _ _ _ _ _ hr hz (v : Int) 0 (by rw [HV.out]) HE.out).mono ?_
  rintro e' w1 ⟨A1, n1, c1, rfl, hr1, hA1, hn1, hF1, hb1⟩
  have hl1 := hr1.len
  have hc1 := hr1.2.1
  have hm1 := hr1.2.2.1
  unfold maxLen at hm1
  by_cases hbig : 2000 < v
  · have hd : decide (2000 < (v : Int)) = true := by simp; omega
    have HT := Lib.hid (tErr_big HE.out (by rw [HV.out]; exact hbig))
    clear hl1
    go_wp2
    go_ret3
    rw [(tErr_no HT.out (by omega)).1, (tErr_no HT.out (by omega)).2, HT.out]
    exact givesN_nil' ⟨rfl, hb1⟩
  · have hd : decide (2000 < (v : Int)) = false := by simp; omega
    by_cases hsh : n1 < v
    · have hd2 : decide ((n1 : Int) < (v : Int)) = true := by simp; omega
      have HT := Lib.hid (tErr_short HE.out (by rw [HV.out]; exact hbig) (by rw [HV.out, ← hl1]; exact hsh))
      clear hl1
      go_wp2
      go_ret3
      rw [(tErr_no HT.out (by omega)).1, (tErr_no HT.out (by omega)).2, HT.out]
      exact givesN_nil' ⟨rfl, hb1⟩
    · have hd2 : decide ((n1 : Int) < (v : Int)) = false := by simp; omega
      have HT := Lib.hid (tErr_zero HE.out (by rw [HV.out]; exact hbig) (by rw [HV.out, ← hl1]; exact hsh))
      have Hl1 := Lib.hid hl1
      clear hl1
      have hq1 : v ≤ n1 := by omega
      have i1 : (v : Int) ≤ (n1 : Int) := by omega
      have i2 : (v : Int) ≤ (c1 : Int) := by omega
      have ht := hr1.take v hq1
      rw [← List.map_take] at ht
      have htl : ((rRest l).take v).length = v := by have := Hl1.out; rw [List.length_take]; omega
      have k1 := fun nn : Nat => run_bytes_str (P := Try.prog) Try.underlying27 Try.underlying5 Try.underlying9 (ht.as.drewN nn)
      simp only [htl] at k1
      by_cases hcv : c1 = v
      · subst hcv
        have hnv : n1 - c1 = 0 := by omega
        have hr2 : ∀ nn, Rd (w1.drewN nn) 1 A1 (n1 - c1) (c1 - c1) (((rRest l).drop c1).map bv8) := fun nn => by
          rw [hnv, Nat.sub_self, List.drop_of_length_le (by have := Hl1.out; omega)]; exact Rd.none0 _ _ 0 (by unfold maxLen; omega)
        go_wp2
        go_quiet (fail)
        go_wp2
        go_ret3
        rw [(tErr_ok HT.out).1, (tErr_ok HT.out).2, HT.out, HV.out]
        exact ⟨_, _, _, rfl, by first | exact hr2 nq | simpa [hnv] using hr2 nq, fun _ => by omega, by omega, hF1.out, below_drewN hb1 nq⟩
      · rcases Nat.eq_zero_or_pos n1 with hn0 | hn0
        · obtain rfl : v = 0 := by omega
          subst hn0
          go_wp2
          go_quiet (fail)
          go_wp2
          go_ret3
          rw [(tErr_ok HT.out).1, (tErr_ok HT.out).2, HT.out, HV.out, List.drop_zero]
          exact ⟨_, _, _, rfl, hr1.drewN nq, hA1, by omega, hF1.out, below_drewN hb1 nq⟩
        · obtain ⟨b, off, rfl, _⟩ := hr1.2.2.2 (by rw [List.length_map, ← Hl1.out]; exact hn0)
          have hr2 := hr1.drop v hq1
          rw [← List.map_drop] at hr2
          go_wp2
          go_quiet (fail)
          go_wp2
          go_ret3
          rw [(tErr_ok HT.out).1, (tErr_ok HT.out).2, HT.out, HV.out]
          exact ⟨_, _, _, rfl, hr2.drewN nq, fun h => by (cases h), by omega, fun a q => by (cases q; exact hF1.out ⟨b, off, none⟩ rfl), below_drewN hb1 nq⟩
theorem rtextOf_any (A : Option Addr) (n c : Nat) (l : List UInt8) (w : World) (hr : Rd w 1 A n c (l.map bv8)) (hz : n ≤ 140737488351232) :
    Calls Try.prog 38 #[.slice A n c] w (GivesN (.string (str (tStr l))) (tRest l) (tErr l) w) := by
  rcases rErr_cases l with h | h | h
  · exact rtextOf_ok A n c l w hr hz h
  · have ht := tErr_r h.1 (by omega)
    rw [(tErr_no ht (by omega)).1, (tErr_no ht (by omega)).2, ht]
    exact (rtextOf_no A n c l w hr hz 3 h.1 h.2.1 (.inr rfl)).mono fun _ _ k => givesN_nil' k
  · have ht := tErr_r h.1 (by omega)
    rw [(tErr_no ht (by omega)).1, (tErr_no ht (by omega)).2, ht]
    exact (rtextOf_no A n c l w hr hz 8 h.1 h.2.1 (.inl rfl)).mono fun _ _ k => givesN_nil' k
end Go.Proofs.Ytaaeihkbnfcolaa

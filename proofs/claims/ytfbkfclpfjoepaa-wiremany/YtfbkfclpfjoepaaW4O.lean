/- The law WireOne: the walk. -/
import Derived.Test.YtfbkfclpfjoepaaNu
import Derived.Test.YtfbkfclpfjoepaaRr
import Derived.Test.YtfbkfclpfjoepaaPn
import Derived.Deep.QuietTactic
import Derived.BigQuiet
namespace Go.Proofs.Ytfbkfclpfjoepaa
open Go.RowKit
theorem readNumber_at (A : Option Addr) (n c : Nat) (l : List UInt8) (w : World) (hr : Rd w 1 A n c (l.map bv8)) (hz : n ≤ 140737488355328) (v e : Int) (hv : (rVal l : Int) = v) (he : rErr l = e) :
    Calls Try.prog 9 #[.slice A n c] w (GivesN (.int .i64 v) (rRest l) e w) := by
  rw [← hv, ← he]; exact readNumber_any A n c l w hr hz
theorem read_80 : rErr [128, 0] = 3 := by
  have h1 : lead [128, 0] = 1 := by decide
  have h2 : val ([128, 0].take (lead [128, 0] + 1)) = 0 := by rw [h1]; decide
  refine (read_form (l := [128, 0]) (by rw [h1]; decide) (by rw [h1]; decide) (.inr ?_)).1
  rw [h2, h1, enc_small (by omega)]; decide
theorem rRest_len {l : List UInt8} (h : rErr l = 0) : (rRest l).length = l.length - rLen l := by rw [rRest_eq h, List.length_drop]
theorem enc_rVal {l : List UInt8} (h : rErr l = 0) : enc (rVal l) = l.take (rLen l) := by
  have := (rErr_ok h).2.2.2
  unfold rVal rLen; rw [if_pos h, if_pos h]; exact this
theorem rd_80 (w : World) : Rd (w.alloc (.cells #[.int .u8 128, .int .u8 0] 5)) 1 (some ⟨w.heap.size, 0, none⟩) 2 2 (([128, 0] : List UInt8).map bv8) :=
  blk_rd (Blk.new w 5 (([128, 0] : List UInt8).map bv8)) rfl (by omega)
set_option maxRecDepth 100000 in
set_option maxHeartbeats 2000000 in
theorem wireOne_no (e0 : Int) (h0 : e0 = 3 ∨ e0 = 8) (A : Option Addr) (n0 c : Nat) (l : List UInt8) (n k : Int) (hn : (Lit.int .i64 n).wf = true) (hk : (Lit.int .i64 k).wf = true) (w : World) (hr : Rd w 1 A n0 c (l.map bv8)) (hz : n0 ≤ 140737488351232) (he : Hid (rErr l = e0)) :
    Calls Try.prog 4 #[.slice A n0 c, .int .i64 n, .int .i64 k] w fun e w' => e = .returned (.bool true) ∧ Below w.heap.size w w' := by
  obtain ⟨n1, n2⟩ := i64_range hn
  obtain ⟨k1, k2⟩ := i64_range hk
  obtain ⟨a, ha, ha2⟩ := pk_nat n 4294967296 (by omega)
  have ha3 : a < 4294967296 := by omega
  have hp0 := enc_pos a
  have hp5 := enc_len5 ha3
  obtain ⟨p, hp, hp2⟩ := pk_nat k ((enc a).length : Int) (by omega)
  have Ha := Lib.hid ha
  have Hp := Lib.hid hp
  have hp3 : p < (enc a).length := by omega
  have HX := Lib.hid (read_cut ha3 hp3)
  have hl0 : (((enc a).length : Int) == 0) = false := by rw [beq_eq_false_iff_ne]; omega
  clear ha hp hn hk
  obtain ⟨v0, hv0⟩ : ∃ v0, Hid ((rVal l : Int) = v0) := ⟨_, rfl⟩
  rcases h0 with rfl | rfl
  all_goals
    go_enter Try.func4, Try.ntmps4
    go_wp2_with fail
    with_reducible refine (readNumber_at _ _ _ _ _ hr (by omega) v0 _ hv0.out he.out).mono ?_
    rintro e w1 ⟨A1, n1', c1, rfl, hr1, hA1, hn1, hb1⟩
    go_wp2_with fail
    with_reducible refine (readNumber_at _ _ _ _ _ (rd_80 w1) (by omega) _ _ rfl read_80).mono ?_
    rintro e w2 ⟨A2, n2', c2, rfl, hr2, hA2, hn2, hb2⟩
    have hbB := below_step hb1 (((Below.refl w1.heap.size w1).alloc (Nat.le_refl _) _).trans (hb2.mono (by simp)))
    go_wp2_with fail
    with_reducible refine (picked_nat n 4294967296 a _ n1 n2 (by omega) (by omega) Ha.out).mono ?_
    rintro e w' ⟨rfl, rfl⟩
    go_wp2_with fail
    with_reducible refine (number_ok a _ ha3).mono ?_
    rintro e w3 ⟨v3, rfl, hown3, hb3⟩
    obtain ⟨A3, c3, rfl, hr3⟩ := own_rd hown3
    have hc3 := hr3.2.1
    have hr4 := hr3.take p (by omega)
    rw [← List.map_take] at hr4
    clear hown3 hr2
    go_wp2_with fail
    with_reducible refine (picked_nat k ((enc a).length : Int) p _ k1 k2 (by omega) (by omega) Hp.out).mono ?_
    rintro e w' ⟨rfl, rfl⟩
    have hpi : (p : Int) ≤ (c3 : Int) := by omega
    go_wp2_with fail
    with_reducible refine (readNumber_at _ _ _ _ _ hr4 (by omega) _ _ rfl HX.out).mono ?_
    rintro e w5 ⟨A5, n5, c5, rfl, hr5, hA5, hn5, hb5⟩
    go_wp2
    go_ret
    exact ⟨rfl, below_step (below_step hbB hb3) hb5⟩
set_option maxRecDepth 100000 in
set_option maxHeartbeats 2000000 in
theorem wireOne_ok (A : Option Addr) (n0 c : Nat) (l : List UInt8) (n k : Int) (hn : (Lit.int .i64 n).wf = true) (hk : (Lit.int .i64 k).wf = true) (w : World) (hr : Rd w 1 A n0 c (l.map bv8)) (hz : n0 ≤ 140737488351232) (he : Hid (rErr l = 0)) :
    Calls Try.prog 4 #[.slice A n0 c, .int .i64 n, .int .i64 k] w fun e w' => e = .returned (.bool true) ∧ Below w.heap.size w w' := by
  obtain ⟨n1, n2⟩ := i64_range hn
  obtain ⟨k1, k2⟩ := i64_range hk
  obtain ⟨a, ha, ha2⟩ := pk_nat n 4294967296 (by omega)
  have ha3 : a < 4294967296 := by omega
  have hp0 := enc_pos a
  have hp5 := enc_len5 ha3
  obtain ⟨p, hp, hp2⟩ := pk_nat k ((enc a).length : Int) (by omega)
  have Ha := Lib.hid ha
  have Hp := Lib.hid hp
  have hp3 : p < (enc a).length := by omega
  have HX := Lib.hid (read_cut ha3 hp3)
  have hl0 : (((enc a).length : Int) == 0) = false := by rw [beq_eq_false_iff_ne]; omega
  have hcm := hr.2.1
  have hcx := hr.2.2.1
  unfold maxLen at hcx
  clear ha hp hn hk
  obtain ⟨v, hv⟩ : ∃ v, Hid (rVal l = v) := ⟨_, rfl⟩
  obtain ⟨j, hj⟩ : ∃ j, Hid (rLen l = j) := ⟨_, rfl⟩
  have hvx : v < 4294967296 := by rw [← hv.out]; exact rVal_lt l
  have hjl : j ≤ n0 := by rw [← hj.out, hr.len]; exact rLen_le l
  have HT : Hid (enc v = l.take j) := by show _ = _; rw [← hv.out, ← hj.out]; exact enc_rVal he.out
  obtain ⟨r, rfl⟩ : ∃ r, n0 = j + r := ⟨n0 - j, by omega⟩
  have HL : Hid ((rRest l).length = r) := by show _ = _; rw [rRest_len he.out, hj.out, ← hr.len]; omega
  go_enter Try.func4, Try.ntmps4
  go_wp2_with fail
  with_reducible refine (readNumber_at _ _ _ _ _ hr (by omega) (v : Int) 0 (by rw [hv.out]) he.out).mono ?_
  rintro e w1 ⟨A1, n1', c1, rfl, hr1, hA1, hn1, hb1⟩
  obtain rfl : n1' = r := by rw [hr1.len]; exact HL.out
  go_wp2_with fail
  with_reducible refine (readNumber_at _ _ _ _ _ (rd_80 w1) (by omega) _ _ rfl read_80).mono ?_
  rintro e w2 ⟨A2, n2', c2, rfl, hr2, hA2, hn2, hb2⟩
  have hbB := below_step hb1 (((Below.refl w1.heap.size w1).alloc (Nat.le_refl _) _).trans (hb2.mono (by simp)))
  go_wp2_with fail
  with_reducible refine (number_ok v _ hvx).mono ?_
  rintro e w3 ⟨v3, rfl, hown3, hb3⟩
  obtain ⟨A3, c3, rfl, hr3⟩ := own_rd hown3
  have hbC := below_step hbB hb3
  have hrt := (hr.below hbC).take j hjl
  rw [← List.map_take] at hrt
  have q1 := fun nn : Nat => run_bytes_str (P := Try.prog) Try.underlying22 Try.underlying5 Try.underlying9 (hr3.drewN nn)
  have q2 := fun nn : Nat => run_bytes_str (P := Try.prog) Try.underlying22 Try.underlying5 Try.underlying9 (hrt.as.drewN nn)
  have hlj : (l.take j).length = j := by have := hr.len; rw [List.length_take]; omega
  simp only [hlj] at q2
  have f5 : (enc v == l.take j) = true := by rw [beq_iff_eq]; exact HT.out
  have s1 : (j : Int) + (n1' : Int) - (n1' : Int) = (j : Int) := by omega
  have s2 : IntKind.i64.wrap (j : Int) = (j : Int) := IntWalk.i64_in _ (by omega)
  have s3 : (j : Int) ≤ (c : Int) := by omega
  clear hown3 hr2
  go_wp2_with fail
  go_quiet (fail)
  have hbD := below_drewN hbC nq
  clear q1 q2 hr3 hrt hbC
  generalize w3.drewN nq = w4 at *
  go_wp2_with fail
  with_reducible refine (picked_nat n 4294967296 a _ n1 n2 (by omega) (by omega) Ha.out).mono ?_
  rintro e w' ⟨rfl, rfl⟩
  go_wp2_with fail
  with_reducible refine (number_ok a _ ha3).mono ?_
  rintro e w5 ⟨v5, rfl, hown5, hb5⟩
  obtain ⟨A5, c5, rfl, hr5⟩ := own_rd hown5
  have hc5 := hr5.2.1
  have hr6 := hr5.take p (by omega)
  rw [← List.map_take] at hr6
  clear hown5
  go_wp2_with fail
  with_reducible refine (picked_nat k ((enc a).length : Int) p _ k1 k2 (by omega) (by omega) Hp.out).mono ?_
  rintro e w' ⟨rfl, rfl⟩
  have hpi : (p : Int) ≤ (c5 : Int) := by omega
  go_wp2_with fail
  with_reducible refine (readNumber_at _ _ _ _ _ hr6 (by omega) _ _ rfl HX.out).mono ?_
  rintro e w7 ⟨A7, n7, c7, rfl, hr7, hA7, hn7, hb7⟩
  go_wp2
  go_ret
  exact ⟨rfl, below_step (below_step hbD hb5) hb7⟩
theorem wireOne_walk (A : Option Addr) (n0 c : Nat) (l : List UInt8) (n k : Int) (hn : (Lit.int .i64 n).wf = true) (hk : (Lit.int .i64 k).wf = true) (w : World) (hr : Rd w 1 A n0 c (l.map bv8)) (hz : n0 ≤ 140737488351232) :
    Calls Try.prog 4 #[.slice A n0 c, .int .i64 n, .int .i64 k] w fun e w' => e = .returned (.bool true) ∧ Below w.heap.size w w' := by
  rcases rErr_cases l with h | h | h
  · exact wireOne_ok A n0 c l n k hn hk w hr hz h
  · exact wireOne_no 3 (.inl rfl) A n0 c l n k hn hk w hr hz h.1
  · exact wireOne_no 8 (.inr rfl) A n0 c l n k hn hk w hr hz h.1
end Go.Proofs.Ytfbkfclpfjoepaa

/- The law WireShort: the walk. -/
import Derived.Test.YtkiaildchmncoaaNu
import Derived.Test.YtkiaildchmncoaaPk
namespace Go.Proofs.Ytkiaildchmncoaa
open Go.RowKit
/-- how many binary digits a number has -/
def bl (k : Nat) : Nat := if h : k = 0 then 0 else bl (k / 2) + 1
termination_by k
decreasing_by omega
theorem bl_zero : bl 0 = 0 := by rw [bl, dif_pos rfl]
theorem bl_pos {k : Nat} (h : 0 < k) : bl k = bl (k / 2) + 1 := by rw [bl, dif_neg (by omega)]
theorem bl_le (k : Nat) : bl k ≤ k := by
  induction k using Nat.strongRecOn with
  | _ k ih =>
    rcases Nat.eq_zero_or_pos k with rfl | h
    · rw [bl_zero]; exact Nat.le_refl _
    · rw [bl_pos h]
      have := ih (k / 2) (by omega)
      omega
theorem bl_pow : ∀ (j k : Nat), k < 2 ^ j → bl k ≤ j
  | 0, k, h => by
    have : k = 0 := by simpa using h
    subst this; rw [bl_zero]; exact Nat.le_refl _
  | j + 1, k, h => by
    rcases Nat.eq_zero_or_pos k with rfl | hp
    · rw [bl_zero]; omega
    · rw [bl_pos hp]
      have := bl_pow j (k / 2) (by rw [Nat.pow_succ] at h; omega)
      omega
theorem bl_shift {k : Nat} (h : 128 ≤ k) : bl k = bl (k / 128) + 7 := by
  rw [bl_pos (k := k) (by omega), bl_pos (k := k / 2) (by omega), bl_pos (k := k / 2 / 2) (by omega), bl_pos (k := k / 2 / 2 / 2) (by omega), bl_pos (k := k / 2 / 2 / 2 / 2) (by omega),
    bl_pos (k := k / 2 / 2 / 2 / 2 / 2) (by omega), bl_pos (k := k / 2 / 2 / 2 / 2 / 2 / 2) (by omega), show k / 2 / 2 / 2 / 2 / 2 / 2 / 2 = k / 128 from by omega]
theorem enc_bits (k : Nat) : (enc k).length = max 1 ((bl k + 6) / 7) := by
  induction k using Nat.strongRecOn with
  | _ k ih =>
    by_cases h : k < 128
    · rw [enc_small h]
      have := bl_pow 7 k (by simpa using h)
      simp only [List.length_cons, List.length_nil]
      omega
    · rw [enc_big h, List.length_cons, ih (k / 128) (by omega), bl_shift (k := k) (by omega), bl_pos (k := k / 128) (by omega)]
      omega
theorem picked_nat (n : Int) (m : Int) (a : Nat) (w : World) (h0 : -9223372036854775808 ≤ n) (h1 : n ≤ 9223372036854775807) (hm : 0 < m) (hm2 : m ≤ 4611686018427387904) (ha : pk n m = a) :
    Calls Try.prog 20 #[.int .i64 n, .int .i64 m] w fun e w' => e = .returned (.int .i64 (a : Int)) ∧ w = w' := by
  rw [← ha]; exact picked_any n m w h0 h1 hm hm2
theorem pk_nat (n m : Int) (h : 0 < m) : ∃ a : Nat, pk n m = (a : Int) ∧ (a : Int) < m := by
  obtain ⟨h0, h1⟩ := pk_range n m h
  obtain ⟨a, ha⟩ := Int.eq_ofNat_of_zero_le h0
  exact ⟨a, ha, by rw [← ha]; exact h1⟩
set_option maxRecDepth 100000 in
set_option maxHeartbeats 1000000 in
theorem wireShort_walk (n m : Int) (hw : (Lit.int .i64 n).wf = true) (hv : (Lit.int .i64 m).wf = true) (w : World) :
    Calls Try.prog 9 #[.int .i64 n, .int .i64 m] w fun e w' => e = .returned (.bool true) ∧ Below w.heap.size w w' := by
  obtain ⟨n0, n1⟩ := i64_range hw
  obtain ⟨m0, m1⟩ := i64_range hv
  obtain ⟨a, ha, ha2⟩ := pk_nat n 4294967296 (by omega)
  obtain ⟨b, hb, hb2⟩ := pk_nat m 4294967296 (by omega)
  have Ha := Lib.hid ha
  have Hb := Lib.hid hb
  clear ha hb hw hv
  rcases Nat.lt_trichotomy a b with hab | rfl | hab
  · have q1 : ¬ (b : Int) < (a : Int) := by omega
    have q2 : (a : Int) < (b : Int) := by omega
    go_enter Try.func9, Try.ntmps9
    go_wp2_with fail
    with_reducible refine (picked_nat n 4294967296 _ _ n0 n1 (by omega) (by omega) Ha.out).mono ?_
    rintro e w' ⟨rfl, rfl⟩
    go_wp2_with fail
    with_reducible refine (picked_nat m 4294967296 _ _ m0 m1 (by omega) (by omega) Hb.out).mono ?_
    rintro e w' ⟨rfl, rfl⟩
    go_wp2_with fail
    with_reducible refine (number_ok a _ (by omega)).mono ?_
    rintro e w1 ⟨v1, rfl, hown1, hb1⟩
    go_wp2_with fail
    with_reducible refine (number_ok b _ (by omega)).mono ?_
    rintro e w2 ⟨v2, rfl, hown2, hb2⟩
    obtain ⟨A1, c1, rfl, hr1⟩ := own_rd hown1
    obtain ⟨A2, c2, rfl, hr2⟩ := own_rd hown2
    clear hown1 hown2 hr1 hr2
    go_wp2
    go_loop [9, 10] (fun q k => ∃ j z : Nat, q = .int .i64 z ∧ k = .int .i64 j ∧ j < 4294967296 ∧ z < 4294967296 ∧ Hid (z + bl j = bl b)) (fun _ k => (intOf k).toNat)
    case atStart => exact ⟨b, 0, rfl, rfl, by omega, by omega, Nat.zero_add _⟩
    case round =>
      obtain ⟨j, z, rfl, rfl, hj, hz, HB⟩ := hrel
      by_cases hp : 0 < j
      · have hd : decide (0 < (j : Int)) = true := by simp; omega
        have hz' : z + 1 < 4294967296 ∧ z + 1 + bl (j / 2) = bl b := by
          have h1 := HB.out
          rw [bl_pos hp] at h1
          have := bl_le b
          omega
        have Hz := Lib.hid hz'
        clear hz'
        go_wp2
        go_round
        case rel => exact ⟨j / 2, z + 1, by go_num, by go_num, by omega, Hz.out.1, Hz.out.2⟩
        case measure => simp [intOf]; omega
      · have hd : decide (0 < (j : Int)) = false := by simp; omega
        have hzb : z = bl b := by
          have h1 := HB.out
          rw [show j = 0 from by omega, bl_zero] at h1
          exact h1
        have HM := Lib.hid (enc_mono a b (by omega))
        have HL := Lib.hid (show (enc b).length = max 1 ((z + 6) / 7) by rw [hzb]; exact enc_bits b)
        clear hzb HB
        by_cases hq : 7 < z
        · obtain ⟨y, hy⟩ : ∃ y : Nat, ((z : Int) + 6) / 7 = (y : Int) := ⟨(z + 6) / 7, by omega⟩
          have q3 : (1 : Int) < (y : Int) := by omega
          have q4 : (((enc b).length : Int) == (y : Int)) = true := by rw [beq_iff_eq]; have := HL.out; omega
          have q5 : (enc a).length ≤ (enc b).length := HM.out
          clear HM HL
          generalize (enc a).length = x1 at *
          generalize (enc b).length = x2 at *
          have q6 : (x1 : Int) ≤ (x2 : Int) := by omega
          go_wp2
          go_ret
          exact ⟨rfl, below_step hb1 hb2⟩
        · have q3 : ¬ (1 : Int) < ((z : Int) + 6) / 7 := by omega
          have q4 : (enc b).length = 1 := by have := HL.out; omega
          have q5 : (enc a).length = 1 := by have := HM.out; have := enc_pos a; omega
          go_wp2
          go_ret
          exact ⟨rfl, below_step hb1 hb2⟩
  · go_enter Try.func9, Try.ntmps9
    go_wp2_with fail
    with_reducible refine (picked_nat n 4294967296 _ _ n0 n1 (by omega) (by omega) Ha.out).mono ?_
    rintro e w' ⟨rfl, rfl⟩
    go_wp2_with fail
    with_reducible refine (picked_nat m 4294967296 _ _ m0 m1 (by omega) (by omega) Hb.out).mono ?_
    rintro e w' ⟨rfl, rfl⟩
    go_wp2_with fail
    with_reducible refine (number_ok a _ (by omega)).mono ?_
    rintro e w1 ⟨v1, rfl, hown1, hb1⟩
    go_wp2_with fail
    with_reducible refine (number_ok a _ (by omega)).mono ?_
    rintro e w2 ⟨v2, rfl, hown2, hb2⟩
    obtain ⟨A1, c1, rfl, hr1⟩ := own_rd hown1
    obtain ⟨A2, c2, rfl, hr2⟩ := own_rd hown2
    clear hown1 hown2 hr1 hr2
    go_wp2
    go_loop [9, 10] (fun q k => ∃ j z : Nat, q = .int .i64 z ∧ k = .int .i64 j ∧ j < 4294967296 ∧ z < 4294967296 ∧ Hid (z + bl j = bl a)) (fun _ k => (intOf k).toNat)
    case atStart => exact ⟨a, 0, rfl, rfl, by omega, by omega, Nat.zero_add _⟩
    case round =>
      obtain ⟨j, z, rfl, rfl, hj, hz, HB⟩ := hrel
      by_cases hp : 0 < j
      · have hd : decide (0 < (j : Int)) = true := by simp; omega
        have hz' : z + 1 < 4294967296 ∧ z + 1 + bl (j / 2) = bl a := by
          have h1 := HB.out
          rw [bl_pos hp] at h1
          have := bl_le a
          omega
        have Hz := Lib.hid hz'
        clear hz'
        go_wp2
        go_round
        case rel => exact ⟨j / 2, z + 1, by go_num, by go_num, by omega, Hz.out.1, Hz.out.2⟩
        case measure => simp [intOf]; omega
      · have hd : decide (0 < (j : Int)) = false := by simp; omega
        have hzb : z = bl a := by
          have h1 := HB.out
          rw [show j = 0 from by omega, bl_zero] at h1
          exact h1
        have HM := Lib.hid (enc_mono a a (by omega))
        have HL := Lib.hid (show (enc a).length = max 1 ((z + 6) / 7) by rw [hzb]; exact enc_bits a)
        clear hzb HB
        by_cases hq : 7 < z
        · obtain ⟨y, hy⟩ : ∃ y : Nat, ((z : Int) + 6) / 7 = (y : Int) := ⟨(z + 6) / 7, by omega⟩
          have q3 : (1 : Int) < (y : Int) := by omega
          have q4 : (((enc a).length : Int) == (y : Int)) = true := by rw [beq_iff_eq]; have := HL.out; omega
          have q5 : decide (((enc a).length : Int) ≤ ((enc a).length : Int)) = true := by simp
          go_wp2
          go_ret
          exact ⟨rfl, below_step hb1 hb2⟩
        · have q3 : ¬ (1 : Int) < ((z : Int) + 6) / 7 := by omega
          have q4 : (enc a).length = 1 := by have := HL.out; omega
          have q5 : (enc a).length = 1 := by have := HM.out; have := enc_pos a; omega
          go_wp2
          go_ret
          exact ⟨rfl, below_step hb1 hb2⟩
  · have q1 : ¬ (a : Int) < (b : Int) := by omega
    have q2 : (b : Int) < (a : Int) := by omega
    go_enter Try.func9, Try.ntmps9
    go_wp2_with fail
    with_reducible refine (picked_nat n 4294967296 _ _ n0 n1 (by omega) (by omega) Ha.out).mono ?_
    rintro e w' ⟨rfl, rfl⟩
    go_wp2_with fail
    with_reducible refine (picked_nat m 4294967296 _ _ m0 m1 (by omega) (by omega) Hb.out).mono ?_
    rintro e w' ⟨rfl, rfl⟩
    go_wp2_with fail
    with_reducible refine (number_ok b _ (by omega)).mono ?_
    rintro e w1 ⟨v1, rfl, hown1, hb1⟩
    go_wp2_with fail
    with_reducible refine (number_ok a _ (by omega)).mono ?_
    rintro e w2 ⟨v2, rfl, hown2, hb2⟩
    obtain ⟨A1, c1, rfl, hr1⟩ := own_rd hown1
    obtain ⟨A2, c2, rfl, hr2⟩ := own_rd hown2
    clear hown1 hown2 hr1 hr2
    go_wp2
    go_loop [9, 10] (fun q k => ∃ j z : Nat, q = .int .i64 z ∧ k = .int .i64 j ∧ j < 4294967296 ∧ z < 4294967296 ∧ Hid (z + bl j = bl a)) (fun _ k => (intOf k).toNat)
    case atStart => exact ⟨a, 0, rfl, rfl, by omega, by omega, Nat.zero_add _⟩
    case round =>
      obtain ⟨j, z, rfl, rfl, hj, hz, HB⟩ := hrel
      by_cases hp : 0 < j
      · have hd : decide (0 < (j : Int)) = true := by simp; omega
        have hz' : z + 1 < 4294967296 ∧ z + 1 + bl (j / 2) = bl a := by
          have h1 := HB.out
          rw [bl_pos hp] at h1
          have := bl_le a
          omega
        have Hz := Lib.hid hz'
        clear hz'
        go_wp2
        go_round
        case rel => exact ⟨j / 2, z + 1, by go_num, by go_num, by omega, Hz.out.1, Hz.out.2⟩
        case measure => simp [intOf]; omega
      · have hd : decide (0 < (j : Int)) = false := by simp; omega
        have hzb : z = bl a := by
          have h1 := HB.out
          rw [show j = 0 from by omega, bl_zero] at h1
          exact h1
        have HM := Lib.hid (enc_mono b a (by omega))
        have HL := Lib.hid (show (enc a).length = max 1 ((z + 6) / 7) by rw [hzb]; exact enc_bits a)
        clear hzb HB
        by_cases hq : 7 < z
        · obtain ⟨y, hy⟩ : ∃ y : Nat, ((z : Int) + 6) / 7 = (y : Int) := ⟨(z + 6) / 7, by omega⟩
          have q3 : (1 : Int) < (y : Int) := by omega
          have q4 : (((enc a).length : Int) == (y : Int)) = true := by rw [beq_iff_eq]; have := HL.out; omega
          have q5 : (enc b).length ≤ (enc a).length := HM.out
          clear HM HL
          generalize (enc b).length = x1 at *
          generalize (enc a).length = x2 at *
          have q6 : (x1 : Int) ≤ (x2 : Int) := by omega
          go_wp2
          go_ret
          exact ⟨rfl, below_step hb1 hb2⟩
        · have q3 : ¬ (1 : Int) < ((z : Int) + 6) / 7 := by omega
          have q4 : (enc a).length = 1 := by have := HL.out; omega
          have q5 : (enc b).length = 1 := by have := HM.out; have := enc_pos b; omega
          go_wp2
          go_ret
          exact ⟨rfl, below_step hb1 hb2⟩
end Go.Proofs.Ytkiaildchmncoaa

/- The reference's firstRoots: the first bits of roots of primes. -/
import Derived.Test.YtbadpiennobdmaaDoorFrb
import Derived.Test.YtbadpiennobdmaaDoorMb
import Derived.Test.YtbadpiennobdmaaDoorAd
import Derived.Test.YtbadpiennobdmaaDoorApp
import Derived.Test.YtbadpiennobdmaaDoorI32
import Derived.IntWalk
namespace Go.Proofs.YtbadpiennobdmaaDoor
open Go.RowKit
attribute [local irreducible] rts rootB trial isPr fitC
set_option maxRecDepth 100000 in
set_option maxHeartbeats 4000000 in
theorem firstRoots_any (cube : Bool) (many N : Nat) (w : World) (hN : N ≤ 310) (hend : (rts cube N).length = many) (hbef : ∀ i, i < N → (rts cube i).length < many) (hm : many ≤ 64) :
    Calls Tryd.prog 27 #[.int .i64 many, .bool cube] w fun e w' => ∃ v, e = .returned v ∧ w'.ownsRow w.heap.size 42 1 v many ((rts cube N).map wv) ∧ Below w.heap.size w w' := by
  obtain ⟨i0, hi0, hz0, hz1, hz2⟩ := info_parts u32_info
  have HE := Lib.hid hend
  have HB := Lib.hid hbef
  clear hend hbef
  go_enter Tryd.func27, Tryd.ntmps27
  go_wp2
  go_loopw [5, 6, 7, 8, 9, 10, 11, 12, 13, 14, 15, 16, 17, 18, 19, 20, 21] (fun o p _ _ _ _ _ _ _ _ _ _ _ _ _ _ _ wr => ∃ i m : Nat, i ≤ N ∧ m ≤ many ∧ Hid ((rts cube i).length = m) ∧ p = .int .u64 ((i : Int) + 2) ∧ wr.ownsRow w.heap.size 42 1 o m ((rts cube i).map wv) ∧ Below w.heap.size w wr) (fun _ p _ _ _ _ _ _ _ _ _ _ _ _ _ _ _ _ => N + 2 - (intOf p).toNat)
  case atStart => exact ⟨0, 0, by omega, by omega, (by show (rts cube 0).length = 0; unfold rts; rfl), rfl, (by have e : rts cube 0 = [] := (by unfold rts; rfl); rw [e]; exact World.ownsRow_nil _ _ _ _), Below.refl _ _⟩
  case round =>
    obtain ⟨i, m, hi, hmm, Hm, rfl, hown, hbel⟩ := hrel
    obtain ⟨A, c, rfl, hrd⟩ := own_rd hown
    clear hrd
    by_cases hlt : i < N
    · have hml : m < many := by have := HB.out i hlt; rw [Hm.out] at this; exact this
      go_wp2
      go_loopw [7, 8] (fun b q wr2 => ∃ (k : Nat) (pr : Bool), 2 ≤ k ∧ k ≤ 30 ∧ b = .bool pr ∧ q = .int .u64 (k : Int) ∧ Hid (isPr (i + 2) = trial (i + 2) (42 - k) k pr) ∧ wr2 = wr) (fun _ q _ => 40 - (intOf q).toNat)
      case atStart => exact ⟨2, true, by omega, by omega, rfl, rfl, (by show isPr (i + 2) = _; unfold isPr; rfl), rfl⟩
      case round =>
        obtain ⟨k, pr, hk2, hk, rfl, rfl, HT, rfl⟩ := hrel
        obtain ⟨s, hs⟩ : ∃ s, k * k = s := ⟨_, rfl⟩
        have hsk : s ≤ 900 := by rw [← hs]; exact Nat.le_trans (Nat.mul_le_mul hk hk) (by decide)
        have hs0 := sq_wrap k s hs hsk
        have HS := Lib.hid hs
        clear hs
        by_cases hsq : s ≤ i + 2
        · have hk20 := sq_small (q := k) (p := i + 2) (by omega) (by rw [HS.out]; exact hsq)
          have hT := trial_go (i + 2) (41 - k) k pr (by rw [HS.out]; exact hsq)
          rw [show 41 - k + 1 = 42 - k from by omega, ← HT.out] at hT
          have HT2 := Lib.hid hT
          clear hT
          cases pr
          · go_wp2
            go_roundw
            case rel => exact ⟨k + 1, false, by omega, by omega, rfl, by go_num, (by have := HT2.out; rw [show 41 - k = 42 - (k + 1) from by omega, Bool.false_and] at this; exact this), trivial⟩
            case measure => simp [intOf]; omega
          · have hk0 : (k : Int) ≠ 0 := by omega
            have hrm : Int.tmod ((i : Int) + 2) (k : Int) = (((i + 2) % k : Nat) : Int) := by rw [Int.tmod_eq_emod_of_nonneg (by omega)]; simp
            generalize (i + 2) % k = r at *
            go_wp2
            go_roundw
            case rel => exact ⟨k + 1, r != 0, by omega, by omega, by congr 1; rw [Bool.eq_iff_iff, bne_iff_ne, bne_iff_ne]; omega, by go_num, (by have := HT2.out; rw [show 41 - k = 42 - (k + 1) from by omega, Bool.true_and] at this; exact this), trivial⟩
            case measure => simp [intOf]; omega
        · have hT := trial_end (i + 2) (41 - k) k pr (by rw [HS.out]; exact hsq)
          rw [show 41 - k + 1 = 42 - k from by omega, ← HT.out] at hT
          have HT2 := Lib.hid hT
          clear hT
          cases pr
          · go_wp2
            go_roundw
            case rel => exact ⟨i + 1, m, by omega, by omega, (by show (rts cube (i + 1)).length = m; rw [rts_no cube i HT2.out]; exact Hm.out), by go_num, (by rw [rts_no cube i HT2.out]; exact hown), hbel⟩
            case measure => simp [intOf]; omega
          · go_wp2
            obtain ⟨R, hR⟩ : ∃ R, rootB (fitC cube (i + 2)) 36 0 = R := ⟨_, rfl⟩
            have HR := Lib.hid hR
            clear hR
            go_loopw [9, 10, 11, 12, 13, 14, 15, 16, 17, 18, 19, 20, 21] (fun rr bt _ _ _ _ _ _ _ _ _ _ _ wr2 => ∃ b r0 : Nat, b ≤ 36 ∧ r0 < 68719476736 ∧ rr = .int .u64 (r0 : Int) ∧ bt = .int .i64 ((b : Int) - 1) ∧ Hid (rootB (fitC cube (i + 2)) b r0 = R) ∧ wr2 = wr) (fun _ bt _ _ _ _ _ _ _ _ _ _ _ _ => (intOf bt + 1).toNat)
            case atStart => exact ⟨36, 0, by omega, by omega, rfl, rfl, HR.out, rfl⟩
            case round =>
              obtain ⟨b, r0, hb, hr0, rfl, rfl, HB2, rfl⟩ := hrel
              rcases b with _ | b
              · have hcv : IntKind.u32.wrap (r0 : Int) = u (BitVec.ofNat 32 r0) := u64_u32 r0
                have hcw : (r0 : Int) % 4294967296 = u (BitVec.ofNat 32 r0) := u64_u32' r0
                have hyes := rts_yes cube i HT2.out
                rw [HR.out, ← HB2.out, rootB_zero] at hyes
                have Hyes := Lib.hid hyes
                clear hyes
                go_wp2_with (at_builtin; refine wpList_append1 rfl (.tmp 109) (.tmp 112) _ rfl Tryd.underlying22 hi0 hz0 hz1 hz2 rfl (by omega) _ _ _ rfl hown [.int .u32 (u (BitVec.ofNat 32 r0))] rfl (by intro y hy; rw [List.mem_singleton] at hy; subst hy; rfl) rfl (by omega) (by omega) hbel.size ?_; rintro v3 w3 ⟨hown3, hb3, _, _⟩)
                go_roundw
                case rel => exact ⟨i + 1, m + 1, by omega, by omega, (by show (rts cube (i + 1)).length = m + 1; rw [Hyes.out, List.length_append, Hm.out]; rfl), by go_num, (by rw [Hyes.out, List.map_append]; exact hown3), hbel.trans hb3⟩
                case measure => simp [intOf]; omega
              · have e1 : ((b + 1 : Nat) : Int) - 1 = (b : Int) := by omega
                simp only [e1]
                obtain ⟨T, hT⟩ : ∃ T, r0 ||| 2 ^ b = T := ⟨_, rfl⟩
                have hTl := or_lt36 r0 b hr0 (by omega)
                have hor := or_pow r0 b hr0 (by omega)
                rw [hT] at hTl hor
                have HTe := Lib.hid hT.symm
                clear hT
                obtain ⟨hi2, hhi⟩ : ∃ x, T * T / 18446744073709551616 = x := ⟨_, rfl⟩
                obtain ⟨lo, hlo⟩ : ∃ x, T * T % 18446744073709551616 = x := ⟨_, rfl⟩
                have hlol : lo < 18446744073709551616 := by omega
                have hhil : hi2 < 18446744073709551616 := by have b1 : T * T < 68719476736 * 68719476736 := Nat.mul_lt_mul'' hTl hTl
                                                             omega
                have m1 := fun w => mul64_any T T hi2 lo (by omega) (by omega) hhi hlo w
                cases cube
                · have hf := fit2_eq (i + 2) T hi2 lo hhi hlo
                  have Hf := Lib.hid hf
                  clear hf hhi hlo
                  rcases fit_ways hi2 (i + 2) lo ((i : Int) + 2) (by omega) with ⟨ef, d1⟩ | ⟨ef, d1, d2, d3⟩ | ⟨ef, d1, d2, d3⟩ | ⟨ef, d1, d2⟩
                  · have hrt := rootB_yes (fitC false (i + 2)) b r0 T HTe.out (by rw [Hf.out, ef])
                    rw [HB2.out] at hrt
                    have Hrt := Lib.hid hrt.symm
                    clear hrt ef
                    go_wp2_with ((with_reducible refine (m1 _).mono ?_); rintro e w' ⟨rfl, rfl⟩)
                    go_roundw
                    case rel => exact ⟨b, T, by omega, hTl, rfl, by go_num, Hrt.out, trivial⟩
                    case measure => simp [intOf]
                  · have hrt := rootB_yes (fitC false (i + 2)) b r0 T HTe.out (by rw [Hf.out, ef])
                    rw [HB2.out] at hrt
                    have Hrt := Lib.hid hrt.symm
                    clear hrt ef
                    go_wp2_with ((with_reducible refine (m1 _).mono ?_); rintro e w' ⟨rfl, rfl⟩)
                    go_roundw
                    case rel => exact ⟨b, T, by omega, hTl, rfl, by go_num, Hrt.out, trivial⟩
                    case measure => simp [intOf]
                  · have hrt := rootB_no (fitC false (i + 2)) b r0 T HTe.out (by rw [Hf.out, ef])
                    rw [HB2.out] at hrt
                    have Hrt := Lib.hid hrt.symm
                    clear hrt ef
                    go_wp2_with ((with_reducible refine (m1 _).mono ?_); rintro e w' ⟨rfl, rfl⟩)
                    go_roundw
                    case rel => exact ⟨b, r0, by omega, hr0, rfl, by go_num, Hrt.out, trivial⟩
                    case measure => simp [intOf]
                  · have hrt := rootB_no (fitC false (i + 2)) b r0 T HTe.out (by rw [Hf.out, ef])
                    rw [HB2.out] at hrt
                    have Hrt := Lib.hid hrt.symm
                    clear hrt ef
                    go_wp2_with ((with_reducible refine (m1 _).mono ?_); rintro e w' ⟨rfl, rfl⟩)
                    go_roundw
                    case rel => exact ⟨b, r0, by omega, hr0, rfl, by go_num, Hrt.out, trivial⟩
                    case measure => simp [intOf]
                · obtain ⟨aa, haa⟩ : ∃ x, lo * T / 18446744073709551616 = x := ⟨_, rfl⟩
                  obtain ⟨bb, hbb⟩ : ∃ x, lo * T % 18446744073709551616 = x := ⟨_, rfl⟩
                  obtain ⟨dd, hdd⟩ : ∃ x, hi2 * T / 18446744073709551616 = x := ⟨_, rfl⟩
                  obtain ⟨cc, hcc⟩ : ∃ x, hi2 * T % 18446744073709551616 = x := ⟨_, rfl⟩
                  have hac := fit3_small T hi2 lo aa cc hTl hhi hlo haa hcc
                  have m2 := fun w => mul64_any lo T aa bb hlol (by omega) haa hbb w
                  have m3 := fun w => mul64_any hi2 T dd cc hhil (by omega) hdd hcc w
                  obtain ⟨tp, htp⟩ : ∃ x, aa + cc = x := ⟨_, rfl⟩
                  have m4 := fun w => add64_at aa cc tp 0 (by omega) (by omega) w
                  have hf := fit3_eq (i + 2) T hi2 lo aa bb cc hTl hhi hlo haa hbb hcc
                  rw [htp] at hf
                  have Hf := Lib.hid hf
                  clear hf hhi hlo haa hbb hdd hcc hac htp
                  rcases fit_ways tp ((i + 2) * 4294967296) bb (((i : Int) + 2) * 4294967296) (by omega) with ⟨ef, k1⟩ | ⟨ef, k1, k2, k3⟩ | ⟨ef, k1, k2, k3⟩ | ⟨ef, k1, k2⟩
                  · rcases fit_ways hi2 (i + 2) lo ((i : Int) + 2) (by omega) with ⟨eg, d1⟩ | ⟨eg, d1, d2, d3⟩ | ⟨eg, d1, d2, d3⟩ | ⟨eg, d1, d2⟩
                    · have hrt := rootB_yes (fitC true (i + 2)) b r0 T HTe.out (by rw [Hf.out, ef])
                      rw [HB2.out] at hrt
                      have Hrt := Lib.hid hrt.symm
                      clear hrt ef eg
                      go_wp2_with (first | ((with_reducible refine (m1 _).mono ?_); rintro e w' ⟨rfl, rfl⟩) | ((with_reducible refine (m2 _).mono ?_); rintro e w' ⟨rfl, rfl⟩) | ((with_reducible refine (m3 _).mono ?_); rintro e w' ⟨rfl, rfl⟩))
                      go_roundw
                      case rel => exact ⟨b, T, by omega, hTl, rfl, by go_num, Hrt.out, trivial⟩
                      case measure => simp [intOf]
                    · have hrt := rootB_yes (fitC true (i + 2)) b r0 T HTe.out (by rw [Hf.out, ef])
                      rw [HB2.out] at hrt
                      have Hrt := Lib.hid hrt.symm
                      clear hrt ef eg
                      go_wp2_with (first | ((with_reducible refine (m1 _).mono ?_); rintro e w' ⟨rfl, rfl⟩) | ((with_reducible refine (m2 _).mono ?_); rintro e w' ⟨rfl, rfl⟩) | ((with_reducible refine (m3 _).mono ?_); rintro e w' ⟨rfl, rfl⟩))
                      go_roundw
                      case rel => exact ⟨b, T, by omega, hTl, rfl, by go_num, Hrt.out, trivial⟩
                      case measure => simp [intOf]
                    · have hrt := rootB_yes (fitC true (i + 2)) b r0 T HTe.out (by rw [Hf.out, ef])
                      rw [HB2.out] at hrt
                      have Hrt := Lib.hid hrt.symm
                      clear hrt ef eg
                      go_wp2_with (first | ((with_reducible refine (m1 _).mono ?_); rintro e w' ⟨rfl, rfl⟩) | ((with_reducible refine (m2 _).mono ?_); rintro e w' ⟨rfl, rfl⟩) | ((with_reducible refine (m3 _).mono ?_); rintro e w' ⟨rfl, rfl⟩))
                      go_roundw
                      case rel => exact ⟨b, T, by omega, hTl, rfl, by go_num, Hrt.out, trivial⟩
                      case measure => simp [intOf]
                    · have hrt := rootB_yes (fitC true (i + 2)) b r0 T HTe.out (by rw [Hf.out, ef])
                      rw [HB2.out] at hrt
                      have Hrt := Lib.hid hrt.symm
                      clear hrt ef eg
                      go_wp2_with (first | ((with_reducible refine (m1 _).mono ?_); rintro e w' ⟨rfl, rfl⟩) | ((with_reducible refine (m2 _).mono ?_); rintro e w' ⟨rfl, rfl⟩) | ((with_reducible refine (m3 _).mono ?_); rintro e w' ⟨rfl, rfl⟩))
                      go_roundw
                      case rel => exact ⟨b, T, by omega, hTl, rfl, by go_num, Hrt.out, trivial⟩
                      case measure => simp [intOf]
                  · rcases fit_ways hi2 (i + 2) lo ((i : Int) + 2) (by omega) with ⟨eg, d1⟩ | ⟨eg, d1, d2, d3⟩ | ⟨eg, d1, d2, d3⟩ | ⟨eg, d1, d2⟩
                    · have hrt := rootB_yes (fitC true (i + 2)) b r0 T HTe.out (by rw [Hf.out, ef])
                      rw [HB2.out] at hrt
                      have Hrt := Lib.hid hrt.symm
                      clear hrt ef eg
                      go_wp2_with (first | ((with_reducible refine (m1 _).mono ?_); rintro e w' ⟨rfl, rfl⟩) | ((with_reducible refine (m2 _).mono ?_); rintro e w' ⟨rfl, rfl⟩) | ((with_reducible refine (m3 _).mono ?_); rintro e w' ⟨rfl, rfl⟩))
                      go_roundw
                      case rel => exact ⟨b, T, by omega, hTl, rfl, by go_num, Hrt.out, trivial⟩
                      case measure => simp [intOf]
                    · have hrt := rootB_yes (fitC true (i + 2)) b r0 T HTe.out (by rw [Hf.out, ef])
                      rw [HB2.out] at hrt
                      have Hrt := Lib.hid hrt.symm
                      clear hrt ef eg
                      go_wp2_with (first | ((with_reducible refine (m1 _).mono ?_); rintro e w' ⟨rfl, rfl⟩) | ((with_reducible refine (m2 _).mono ?_); rintro e w' ⟨rfl, rfl⟩) | ((with_reducible refine (m3 _).mono ?_); rintro e w' ⟨rfl, rfl⟩))
                      go_roundw
                      case rel => exact ⟨b, T, by omega, hTl, rfl, by go_num, Hrt.out, trivial⟩
                      case measure => simp [intOf]
                    · have hrt := rootB_yes (fitC true (i + 2)) b r0 T HTe.out (by rw [Hf.out, ef])
                      rw [HB2.out] at hrt
                      have Hrt := Lib.hid hrt.symm
                      clear hrt ef eg
                      go_wp2_with (first | ((with_reducible refine (m1 _).mono ?_); rintro e w' ⟨rfl, rfl⟩) | ((with_reducible refine (m2 _).mono ?_); rintro e w' ⟨rfl, rfl⟩) | ((with_reducible refine (m3 _).mono ?_); rintro e w' ⟨rfl, rfl⟩))
                      go_roundw
                      case rel => exact ⟨b, T, by omega, hTl, rfl, by go_num, Hrt.out, trivial⟩
                      case measure => simp [intOf]
                    · have hrt := rootB_yes (fitC true (i + 2)) b r0 T HTe.out (by rw [Hf.out, ef])
                      rw [HB2.out] at hrt
                      have Hrt := Lib.hid hrt.symm
                      clear hrt ef eg
                      go_wp2_with (first | ((with_reducible refine (m1 _).mono ?_); rintro e w' ⟨rfl, rfl⟩) | ((with_reducible refine (m2 _).mono ?_); rintro e w' ⟨rfl, rfl⟩) | ((with_reducible refine (m3 _).mono ?_); rintro e w' ⟨rfl, rfl⟩))
                      go_roundw
                      case rel => exact ⟨b, T, by omega, hTl, rfl, by go_num, Hrt.out, trivial⟩
                      case measure => simp [intOf]
                  · rcases fit_ways hi2 (i + 2) lo ((i : Int) + 2) (by omega) with ⟨eg, d1⟩ | ⟨eg, d1, d2, d3⟩ | ⟨eg, d1, d2, d3⟩ | ⟨eg, d1, d2⟩
                    · have hrt := rootB_no (fitC true (i + 2)) b r0 T HTe.out (by rw [Hf.out, ef])
                      rw [HB2.out] at hrt
                      have Hrt := Lib.hid hrt.symm
                      clear hrt ef eg
                      go_wp2_with (first | ((with_reducible refine (m1 _).mono ?_); rintro e w' ⟨rfl, rfl⟩) | ((with_reducible refine (m2 _).mono ?_); rintro e w' ⟨rfl, rfl⟩) | ((with_reducible refine (m3 _).mono ?_); rintro e w' ⟨rfl, rfl⟩))
                      go_roundw
                      case rel => exact ⟨b, r0, by omega, hr0, rfl, by go_num, Hrt.out, trivial⟩
                      case measure => simp [intOf]
                    · have hrt := rootB_no (fitC true (i + 2)) b r0 T HTe.out (by rw [Hf.out, ef])
                      rw [HB2.out] at hrt
                      have Hrt := Lib.hid hrt.symm
                      clear hrt ef eg
                      go_wp2_with (first | ((with_reducible refine (m1 _).mono ?_); rintro e w' ⟨rfl, rfl⟩) | ((with_reducible refine (m2 _).mono ?_); rintro e w' ⟨rfl, rfl⟩) | ((with_reducible refine (m3 _).mono ?_); rintro e w' ⟨rfl, rfl⟩))
                      go_roundw
                      case rel => exact ⟨b, r0, by omega, hr0, rfl, by go_num, Hrt.out, trivial⟩
                      case measure => simp [intOf]
                    · have hrt := rootB_no (fitC true (i + 2)) b r0 T HTe.out (by rw [Hf.out, ef])
                      rw [HB2.out] at hrt
                      have Hrt := Lib.hid hrt.symm
                      clear hrt ef eg
                      go_wp2_with (first | ((with_reducible refine (m1 _).mono ?_); rintro e w' ⟨rfl, rfl⟩) | ((with_reducible refine (m2 _).mono ?_); rintro e w' ⟨rfl, rfl⟩) | ((with_reducible refine (m3 _).mono ?_); rintro e w' ⟨rfl, rfl⟩))
                      go_roundw
                      case rel => exact ⟨b, r0, by omega, hr0, rfl, by go_num, Hrt.out, trivial⟩
                      case measure => simp [intOf]
                    · have hrt := rootB_no (fitC true (i + 2)) b r0 T HTe.out (by rw [Hf.out, ef])
                      rw [HB2.out] at hrt
                      have Hrt := Lib.hid hrt.symm
                      clear hrt ef eg
                      go_wp2_with (first | ((with_reducible refine (m1 _).mono ?_); rintro e w' ⟨rfl, rfl⟩) | ((with_reducible refine (m2 _).mono ?_); rintro e w' ⟨rfl, rfl⟩) | ((with_reducible refine (m3 _).mono ?_); rintro e w' ⟨rfl, rfl⟩))
                      go_roundw
                      case rel => exact ⟨b, r0, by omega, hr0, rfl, by go_num, Hrt.out, trivial⟩
                      case measure => simp [intOf]
                  · rcases fit_ways hi2 (i + 2) lo ((i : Int) + 2) (by omega) with ⟨eg, d1⟩ | ⟨eg, d1, d2, d3⟩ | ⟨eg, d1, d2, d3⟩ | ⟨eg, d1, d2⟩
                    · have hrt := rootB_no (fitC true (i + 2)) b r0 T HTe.out (by rw [Hf.out, ef])
                      rw [HB2.out] at hrt
                      have Hrt := Lib.hid hrt.symm
                      clear hrt ef eg
                      go_wp2_with (first | ((with_reducible refine (m1 _).mono ?_); rintro e w' ⟨rfl, rfl⟩) | ((with_reducible refine (m2 _).mono ?_); rintro e w' ⟨rfl, rfl⟩) | ((with_reducible refine (m3 _).mono ?_); rintro e w' ⟨rfl, rfl⟩))
                      go_roundw
                      case rel => exact ⟨b, r0, by omega, hr0, rfl, by go_num, Hrt.out, trivial⟩
                      case measure => simp [intOf]
                    · have hrt := rootB_no (fitC true (i + 2)) b r0 T HTe.out (by rw [Hf.out, ef])
                      rw [HB2.out] at hrt
                      have Hrt := Lib.hid hrt.symm
                      clear hrt ef eg
                      go_wp2_with (first | ((with_reducible refine (m1 _).mono ?_); rintro e w' ⟨rfl, rfl⟩) | ((with_reducible refine (m2 _).mono ?_); rintro e w' ⟨rfl, rfl⟩) | ((with_reducible refine (m3 _).mono ?_); rintro e w' ⟨rfl, rfl⟩))
                      go_roundw
                      case rel => exact ⟨b, r0, by omega, hr0, rfl, by go_num, Hrt.out, trivial⟩
                      case measure => simp [intOf]
                    · have hrt := rootB_no (fitC true (i + 2)) b r0 T HTe.out (by rw [Hf.out, ef])
                      rw [HB2.out] at hrt
                      have Hrt := Lib.hid hrt.symm
                      clear hrt ef eg
                      go_wp2_with (first | ((with_reducible refine (m1 _).mono ?_); rintro e w' ⟨rfl, rfl⟩) | ((with_reducible refine (m2 _).mono ?_); rintro e w' ⟨rfl, rfl⟩) | ((with_reducible refine (m3 _).mono ?_); rintro e w' ⟨rfl, rfl⟩))
                      go_roundw
                      case rel => exact ⟨b, r0, by omega, hr0, rfl, by go_num, Hrt.out, trivial⟩
                      case measure => simp [intOf]
                    · have hrt := rootB_no (fitC true (i + 2)) b r0 T HTe.out (by rw [Hf.out, ef])
                      rw [HB2.out] at hrt
                      have Hrt := Lib.hid hrt.symm
                      clear hrt ef eg
                      go_wp2_with (first | ((with_reducible refine (m1 _).mono ?_); rintro e w' ⟨rfl, rfl⟩) | ((with_reducible refine (m2 _).mono ?_); rintro e w' ⟨rfl, rfl⟩) | ((with_reducible refine (m3 _).mono ?_); rintro e w' ⟨rfl, rfl⟩))
                      go_roundw
                      case rel => exact ⟨b, r0, by omega, hr0, rfl, by go_num, Hrt.out, trivial⟩
                      case measure => simp [intOf]
    · have hNi : i = N := by omega
      subst hNi
      have hmm2 : m = many := by rw [← Hm.out, HE.out]
      subst hmm2
      go_wp2
      go_ret
      exact ⟨_, rfl, hown, hbel⟩
end Go.Proofs.YtbadpiennobdmaaDoor

/- The law IndexOldest: the walk. -/
import Derived.Test.YtfleegidlncmjaaGZ
import Derived.Test.YtfleegidlncmjaaGEE
import Derived.BigQuiet
namespace Go.Proofs.Ytfleegidlncmjaa
open Go.RowKit
/-- three entries, as the walk lays them -/
theorem three_rd (w : World) : KRd kEn (w.alloc (.cells #[.string ⟨#[]⟩, .slice none 0 0, .int .i64 1, .int .i64 0, .string ⟨#[]⟩, .slice none 0 0, .int .i64 0, .int .i64 5, .string ⟨#[]⟩, .slice none 0 0, .int .i64 0, .int .i64 4] 28)) (some ⟨w.heap.size, 0, none⟩) 3 3 [⟨[], [], 1, 0⟩, ⟨[], [], 0, 5⟩, ⟨[], [], 0, 4⟩] := by
  refine ⟨[(⟨[], [], 1, 0⟩, ⟨none, 0, 0⟩), (⟨[], [], 0, 5⟩, ⟨none, 0, 0⟩), (⟨[], [], 0, 4⟩, ⟨none, 0, 0⟩)], rfl, ?_, ?_⟩
  · exact (Blk.new w 28 [.string ⟨#[]⟩, .slice none 0 0, .int .i64 1, .int .i64 0, .string ⟨#[]⟩, .slice none 0 0, .int .i64 0, .int .i64 5, .string ⟨#[]⟩, .slice none 0 0, .int .i64 0, .int .i64 4]).rd (size := 4) (n := 3) (c := 3) (Nat.le_refl _) (by unfold maxLen; omega) (by simp)
  · intro x hx
    simp only [List.mem_cons, List.not_mem_nil, or_false] at hx
    rcases hx with rfl | rfl | rfl <;> exact ⟨Rd.nil _ _, fun _ => rfl⟩
theorem three_old : xOld [⟨[], [], 1, 0⟩, ⟨[], [], 0, 5⟩, ⟨[], [], 0, 4⟩] = (2, 0) := by decide +kernel
set_option maxRecDepth 100000 in
set_option maxHeartbeats 4000000 in
theorem indexOldest_walk (A : Option Addr) (n c : Nat) (l : List Rw) (w : World) (hr : Rd w 4 A n c (rcs l)) (hg : ∀ p ∈ l, p.good) (hn : n ≤ 4294967296000) :
    Calls Try.prog 9 #[.slice A n c] w fun e w' => e = .returned (.bool true) ∧ Below w.heap.size w w' := by
  have hfd := store_field1
  have H3 : Hid (∀ W A n c, KRd kEn W A n c [⟨[], [], 1, 0⟩, ⟨[], [], 0, 5⟩, ⟨[], [], 0, 4⟩] → Calls Try.prog 21 #[.slice A n c] W fun e w' => e = .returned (.tuple #[.int .i64 2, .int .i64 0]) ∧ Below W.heap.size W w') := fun W A n c h => by
    have := iold_any A n c _ W h
    rw [three_old] at this
    exact this
  go_enter Try.func9, Try.ntmps9
  go_wp2_with fail
  with_reducible refine (store_entries _ _ _ _ _ hr hg hn).mono ?_
  rintro e w1 ⟨A1, c1, L, A2, n2, c2, vr, vk, rfl, hN1, hS, hb1⟩
  have r1 := hN1.rd
  have hL7 := hS.len
  clear hN1 hr hg hS
  have hO := iold_any _ _ _ L w1 r1
  rcases xOld_ways L with ⟨i, hi, ho, hp, hle⟩ | ⟨ho, hall⟩
  · rw [ho] at hO
    have HO := Lib.hid hO
    have HLE := Lib.hid hle
    have hii : (i : Int) < (L.length : Int) := by omega
    obtain ⟨x, hx⟩ : ∃ x, L[i] = x := ⟨_, rfl⟩
    have HI := Lib.hid hx
    rw [hx] at hp
    have d9 : (x.pn == 0) = true := by rw [beq_iff_eq]; exact hp
    clear hO ho hle hx hp
    go_wp2_with fail
    with_reducible refine HO.out.mono ?_
    rintro e w2 ⟨rfl, hb2⟩
    have r2 := r1.below hb2
    have hbA := below_step hb1 hb2
    go_wp2_with fail
    with_reducible refine (H3.out _ _ 3 3 (three_rd w2)).mono ?_
    rintro e w3 ⟨rfl, hb3⟩
    have hbT := below_step ((Below.refl w2.heap.size w2).alloc (Nat.le_refl _) (.cells #[.string ⟨#[]⟩, .slice none 0 0, .int .i64 1, .int .i64 0, .string ⟨#[]⟩, .slice none 0 0, .int .i64 0, .int .i64 5, .string ⟨#[]⟩, .slice none 0 0, .int .i64 0, .int .i64 4] 28)) hb3
    have r3 := r2.below hbT
    have hbC := below_step hbA hbT
    clear hb3 hbT r2 r1
    go_wp2_with fail
    go_loopw [2, 9, 34] (fun s2 _ s34 wr => ∃ k : Nat, k ≤ L.length ∧ s34 = .int .i64 k ∧ s2 = .bool false ∧ Below w3.heap.size w3 wr) (fun _ _ s34 _ => L.length - (intOf s34).toNat)
    case atStart => exact ⟨0, Nat.zero_le _, rfl, rfl, Below.refl _ _⟩
    case round =>
      obtain ⟨k, hk, rfl, rfl, hbel⟩ := hrel
      have rk := r3.below hbel
      obtain ⟨b, off, D', dn', dc', rfl, ic0, ic1, ic2, ic3, -, -⟩ := rk.entry hi
      rw [HI.out] at ic2 ic3
      by_cases hlt : k < L.length
      · obtain ⟨b', off', D, dn, dc, hAA, hc0, hc1, hc2, hc3, -, -⟩ := rk.entry hlt
        injection hAA with hAA
        injection hAA with ha1 ha2
        subst ha1 ha2
        have hki : (k : Int) < (L.length : Int) := by omega
        have HY := Lib.hid (HLE.out L[k] (List.getElem_mem hlt))
        rw [HI.out] at HY
        generalize L[k] = y at *
        have hal := (Below.refl wr.heap.size wr).alloc (Nat.le_refl _) (.cells #[.string (str y.ky), .slice D dn dc, .int .i64 y.pn, .int .i64 y.st] 28)
        have hbk := Blk.new wr 28 [.string (str y.ky), .slice D dn dc, .int .i64 y.pn, .int .i64 y.st]
        have e2 := hbk.cell 2
        have e3 := hbk.cell 3
        simp only [List.getElem?_cons_succ, List.getElem?_cons_zero] at e2 e3
        have j3 := (hal.cell (p := ⟨b, off + i * 4 + 3, none⟩) (cell_lt ic3)).trans ic3
        have hbD := below_step hbel hal
        by_cases hq : y.pn = 0
        · have d1 : (y.pn == 0) = true := by rw [beq_iff_eq]; exact hq
          have d2 : decide (y.st < x.st) = false := by rw [decide_eq_false_iff_not]; have := HY.out hq; omega
          clear hq
          go_wp2_with fail
          go_quiet (fail)
          go_wp2
          go_roundw
          case rel => exact ⟨k + 1, by omega, by go_num, rfl, below_drewN hbD _⟩
          case measure => simp [intOf] <;> omega
        · have d1 : (y.pn == 0) = false := by rw [beq_eq_false_iff_ne]; exact hq
          clear hq
          go_wp2_with fail
          go_quiet (fail)
          go_wp2
          go_roundw
          case rel => exact ⟨k + 1, by omega, by go_num, rfl, below_drewN hbD _⟩
          case measure => simp [intOf] <;> omega
      · have hd2 : decide ((k : Int) < (L.length : Int)) = false := by rw [decide_eq_false_iff_not]; omega
        have hbZ := below_step hbC hbel
        go_wp2
        go_ret
        exact ⟨by simp, hbZ⟩
  · rw [ho] at hO
    have HO := Lib.hid hO
    have HA := Lib.hid hall
    clear hO ho hall
    go_wp2_with fail
    with_reducible refine HO.out.mono ?_
    rintro e w2 ⟨rfl, hb2⟩
    have r2 := r1.below hb2
    have hbA := below_step hb1 hb2
    go_wp2_with fail
    with_reducible refine (H3.out _ _ 3 3 (three_rd w2)).mono ?_
    rintro e w3 ⟨rfl, hb3⟩
    have hbT := below_step ((Below.refl w2.heap.size w2).alloc (Nat.le_refl _) (.cells #[.string ⟨#[]⟩, .slice none 0 0, .int .i64 1, .int .i64 0, .string ⟨#[]⟩, .slice none 0 0, .int .i64 0, .int .i64 5, .string ⟨#[]⟩, .slice none 0 0, .int .i64 0, .int .i64 4] 28)) hb3
    have r3 := r2.below hbT
    have hbC := below_step hbA hbT
    clear hb3 hbT r2 r1
    go_wp2_with fail
    go_loopw [2, 9, 34] (fun s2 _ s34 wr => ∃ k : Nat, k ≤ L.length ∧ s34 = .int .i64 k ∧ s2 = .bool false ∧ Below w3.heap.size w3 wr) (fun _ _ s34 _ => L.length - (intOf s34).toNat)
    case atStart => exact ⟨0, Nat.zero_le _, rfl, rfl, Below.refl _ _⟩
    case round =>
      obtain ⟨k, hk, rfl, rfl, hbel⟩ := hrel
      have rk := r3.below hbel
      by_cases hlt : k < L.length
      · obtain ⟨b', off', D, dn, dc, rfl, hc0, hc1, hc2, hc3, -, -⟩ := rk.entry hlt
        have hki : (k : Int) < (L.length : Int) := by omega
        have hq := HA.out L[k] (List.getElem_mem hlt)
        generalize L[k] = y at *
        have hal := (Below.refl wr.heap.size wr).alloc (Nat.le_refl _) (.cells #[.string (str y.ky), .slice D dn dc, .int .i64 y.pn, .int .i64 y.st] 28)
        have hbk := Blk.new wr 28 [.string (str y.ky), .slice D dn dc, .int .i64 y.pn, .int .i64 y.st]
        have e2 := hbk.cell 2
        have e3 := hbk.cell 3
        simp only [List.getElem?_cons_succ, List.getElem?_cons_zero] at e2 e3
        have hbD := below_step hbel hal
        have d1 : (y.pn == 0) = false := by rw [beq_eq_false_iff_ne]; exact hq
        clear hq
        go_wp2_with fail
        go_quiet (fail)
        go_wp2
        go_roundw
        case rel => exact ⟨k + 1, by omega, by go_num, rfl, below_drewN hbD _⟩
        case measure => simp [intOf] <;> omega
      · have hd2 : decide ((k : Int) < (L.length : Int)) = false := by rw [decide_eq_false_iff_not]; omega
        have hbZ := below_step hbC hbel
        go_wp2
        go_ret
        exact ⟨by simp, hbZ⟩
end Go.Proofs.Ytfleegidlncmjaa

/- The law IndexAges: the walk. -/
import Derived.Test.YtfleegidlncmjaaGZ
import Derived.Test.YtfleegidlncmjaaQIx
import Derived.Test.YtfleegidlncmjaaGS
namespace Go.Proofs.Ytfleegidlncmjaa
open Go.RowKit Go.Shelf
set_option maxRecDepth 100000 in
set_option maxHeartbeats 400000 in
theorem ages1_tells (w : World) : TellsE w 31 #[] (fun x => x.pn == 0) := fun W x hb => by
  obtain ⟨⟨k1, p1, n1, s1⟩, ⟨A1, m1, c1⟩⟩ := x
  show Calls Try.prog 31 #[.agg #[.string (str k1), .slice A1 m1 c1, .int .i64 n1, .int .i64 s1]] W fun e w' => e = .returned (.bool (n1 == 0)) ∧ _
  go_enter Try.func31, Try.ntmps31
  go_wp2
  go_ret
  exact ⟨rfl, hb.alloc hb.size _⟩
theorem xAll_held {l : List En} (h : ∀ y ∈ l, y.pn ≠ 0) : l.any (fun x => x.pn == 0) = false := by
  rw [List.any_eq_false]
  intro x hx q
  exact h x hx (by simpa using q)
set_option maxRecDepth 100000 in
set_option maxHeartbeats 4000000 in
theorem indexAges_walk (A : Option Addr) (n c : Nat) (l : List Rw) (w : World) (hr : Rd w 4 A n c (rcs l)) (hg : ∀ p ∈ l, p.good) (hn : n ≤ 4294967296000) :
    Calls Try.prog 10 #[.slice A n c] w fun e w' => e = .returned (.bool true) ∧ Below w.heap.size w w' := by
  have hfd := store_field1
  go_enter Try.func10, Try.ntmps10
  go_wp2_with fail
  with_reducible refine (store_entries _ _ _ _ _ hr hg hn).mono ?_
  rintro e w1 ⟨A1, c1, L, A2, n2, c2, vr, vk, rfl, hN1, hS, hb1⟩
  have r1 := hN1.rd
  have hX : Hid (xsErr L = 0 ∧ ∀ y ∈ L, y.pn = 0 → -1 ≤ y.st) := ⟨hS.err, fun y hy _ => by have := (hS.fine y hy).2.2.2.2.1; omega⟩
  have hL7 := hS.len
  clear hN1 hr hg hS
  go_wp2_with fail
  go_loopw [3, 4, 5, 6, 7, 8, 12] (fun s3 s4 _ _ _ _ s12 wr => ∃ (k : Nat) (M : List En) (A : Option Addr) (c : Nat) (la : Int), s12 = .int .i64 k ∧ s3 = .slice A M.length c ∧ s4 = .int .i64 la ∧ KRd kEn wr A M.length c M ∧ M.length + k ≤ 7 ∧ Hid (xsErr M = 0 ∧ ∀ y ∈ M, y.pn = 0 → la ≤ y.st) ∧ Below w1.heap.size w1 wr) (fun _ _ _ _ _ _ s12 _ => 12 - (intOf s12).toNat)
  case atStart => exact ⟨0, L, A1, c1, -1, rfl, rfl, rfl, r1, by omega, hX, Below.refl _ _⟩
  case round =>
    obtain ⟨k, M, A, c, la, rfl, rfl, rfl, hrM, hk, HM, hbel⟩ := hrel
    clear r1 hX
    have hk12 : (k : Int) < 12 := by omega
    have hO := iold_any _ _ _ M wr hrM
    rcases xOld_ways M with ⟨i, hi, ho, hp, hle⟩ | ⟨ho, hall⟩
    · rw [ho] at hO
      have HO := Lib.hid hO
      have hla := HM.out.2 M[i] (List.getElem_mem hi) hp
      have hgM : ∀ e ∈ M, e.good := fun e he => fine_good_en ((xsErr_zero.1 HM.out.1).2.1 e he)
      have hD : ∀ W : World, KRd kEn W A M.length c M → Calls Try.prog 18 #[.slice A M.length c, .string (str M[i].ky)] W (GivesEs (M.eraseIdx i) 0 W) := fun W h => by
        have := idrop_any _ _ _ M M[i].ky W h hgM
        rw [xDrop_at HM.out.1 hi hp] at this
        exact this
      have HD := Lib.hid hD
      have hle' : (M.eraseIdx i).length = M.length - 1 := List.length_eraseIdx_of_lt hi
      have HN : Hid (xsErr (M.eraseIdx i) = 0 ∧ ∀ y ∈ M.eraseIdx i, y.pn = 0 → M[i].st ≤ y.st) := ⟨xsErr_erase HM.out.1 i, fun y hy => hle y (List.mem_of_mem_eraseIdx hy)⟩
      have hii : (i : Int) < (M.length : Int) := by omega
      clear hO ho hle HM hD hgM hp
      go_wp2_with fail
      with_reducible refine HO.out.mono ?_
      rintro e w2 ⟨rfl, hb2⟩
      have r2 := hrM.below hb2
      have hbA := below_step hbel hb2
      obtain ⟨b, off, D, dn, dc, rfl, hc0, hc1, hc2, hc3, -, -⟩ := r2.entry hi
      generalize M.eraseIdx i = E at *
      generalize M[i] = x at *
      have d1 : decide (x.st < la) = false := by rw [decide_eq_false_iff_not]; omega
      go_wp2_with fail
      with_reducible refine (HD.out _ r2).mono ?_
      rintro e w3 ⟨A3, n3, c3, rfl, hN3, hb3⟩
      have r3 := hN3.rd
      obtain rfl : n3 = E.length := r3.len
      have hbB := below_step hbA hb3
      have hlen : (E.length : Int) = (M.length : Int) - 1 := by omega
      have d2 : ((E.length : Int) != (M.length : Int) - 1) = false := by simp [hlen]
      clear hN3
      go_wp2
      go_roundw
      case rel => exact ⟨k + 1, E, A3, c3, x.st, by go_num, by rw [hle'], rfl, r3, by omega, HN.out, hbB⟩
      case measure => simp [intOf] <;> omega
    · rw [ho] at hO
      have HO := Lib.hid hO
      have HA := Lib.hid (xAll_held hall)
      clear hO ho hall
      go_wp2_with fail
      with_reducible refine HO.out.mono ?_
      rintro e w2 ⟨rfl, hb2⟩
      have r2 := hrM.below hb2
      have hbA := below_step hb1 (below_step hbel hb2)
      go_wp2_with fail
      with_reducible refine (indexed_ok _).mono ?_
      rintro e w3 ⟨rfl, hb3⟩
      have hbB := below_step hbA hb3
      have r3 := r2.below hb3
      have hC := containsE_any A _ c M _ r3 (fun x => x.pn == 0) _ _ (enters_of Try.func31 (by kernel_rfl) rfl) (ages1_tells w3)
      rw [HA.out] at hC
      have HC := Lib.hid hC
      clear hC
      go_wp2_with fail
      refine HC.out.mono ?_
      rintro e w4 ⟨rfl, hb4⟩
      go_wp2
      go_ret
      exact ⟨by simp, below_step hbB hb4⟩
end Go.Proofs.Ytfleegidlncmjaa

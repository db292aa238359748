/- The law RoomAdds: the walk. -/
import Derived.Test.YtnecgnhhghmkoaaGU
import Derived.Test.YtnecgnhhghmkoaaQUb
import Derived.Test.YtnecgnhhghmkoaaGA
namespace Go.Proofs.Ytnecgnhhghmkoaa
open Go.RowKit
/-- one blob of three bytes, as the walk lays it -/
theorem one_abc (w : World) : KRd kBl ((w.alloc (.cells #[.int .u8 97, .int .u8 98, .int .u8 99] 5 (3, 4))).alloc (.cells #[.string ⟨#[]⟩, .slice (some ⟨w.heap.size, 0, none⟩) 3 3, .int .i64 0, .bool false] 37)) (some ⟨w.heap.size + 1, 0, none⟩) 1 1 [⟨[], [97, 98, 99], 0, false⟩] := by
  have h := one_rd (w.alloc (.cells #[.int .u8 97, .int .u8 98, .int .u8 99] 5 (3, 4))) 37 (g := w.heap.size) (heap_alloc_new w _)
  rw [show (w.alloc (.cells #[.int .u8 97, .int .u8 98, .int .u8 99] 5 (3, 4))).heap.size = w.heap.size + 1 by simp] at h
  exact h
theorem abc_below (w : World) : Below w.heap.size w ((w.alloc (.cells #[.int .u8 97, .int .u8 98, .int .u8 99] 5 (3, 4))).alloc (.cells #[.string ⟨#[]⟩, .slice (some ⟨w.heap.size, 0, none⟩) 3 3, .int .i64 0, .bool false] 37)) :=
  below_step ((Below.refl w.heap.size w).alloc (Nat.le_refl _) _) ((Below.refl _ _).alloc (Nat.le_refl _) _)
set_option maxRecDepth 100000 in
set_option maxHeartbeats 4000000 in
theorem roomAdds_walk (A : Option Addr) (n c : Nat) (l : List Rw) (a b : Int) (w : World) (hr : Rd w 4 A n c (rcs l)) (hg : ∀ p ∈ l, p.good) (hn : n ≤ 4294967296000) (wa : (Lit.int .i64 a).wf = true) (wb : (Lit.int .i64 b).wf = true) :
    Calls Try.prog 5 #[.slice A n c, .int .i64 a, .int .i64 b] w fun e w' => e = .returned (.bool true) ∧ Below w.heap.size w w' := by
  have hfd := store_field
  obtain ⟨ra0, ra1⟩ := i64_range wa
  obtain ⟨rb0, rb1⟩ := i64_range wb
  have kx := pk_range a 4001 (by omega)
  have ky := pk_range b 4001 (by omega)
  obtain ⟨x, hx⟩ : ∃ x : Nat, pk a 4001 = x := ⟨(pk a 4001).toNat, by omega⟩
  obtain ⟨y, hy⟩ : ∃ y : Nat, pk b 4001 = y := ⟨(pk b 4001).toNat, by omega⟩
  rw [hx] at kx
  rw [hy] at ky
  have HX := Lib.hid hx
  have HY := Lib.hid hy
  clear hx hy
  go_enter Try.func5, Try.ntmps5
  go_wp2_with fail
  with_reducible refine (store_blobs _ _ _ _ _ hr hg hn).mono ?_
  rintro e w1 ⟨A1, c1, L, A2, n2, c2, vr, vk, rfl, hN1, hS, hb1⟩
  have hL := hS.len
  have r1 := hN1.rd
  have HU : Hid (0 ≤ uS L ∧ uS L ≤ 100000) := by
    have := uS_le L 300 fun b hb => (hS.fine b hb).2.1
    show _ ∧ _
    omega
  clear hN1 hr hg hS
  go_wp2_with fail
  with_reducible refine (picked_nat a 4001 x _ ra0 ra1 (by omega) (by omega) HX.out).mono ?_
  rintro e w2 ⟨rfl, rfl⟩
  go_wp2_with fail
  with_reducible refine (picked_nat b 4001 y _ rb0 rb1 (by omega) (by omega) HY.out).mono ?_
  rintro e w2 ⟨rfl, rfl⟩
  go_wp2_with fail
  go_loopw [8, 10, 24] (fun s _ i wr => ∃ (k : Nat) (z : Int), k ≤ L.length ∧ i = .int .i64 k ∧ s = .int .i64 z ∧ Hid (z = wrap64 (uS (L.take k))) ∧ Below w1.heap.size w1 wr) (fun _ _ i _ => L.length - (intOf i).toNat)
  case atStart => exact ⟨0, 0, Nat.zero_le _, rfl, rfl, (by show _ = _; simp [uS, wrap64_zero]), Below.refl _ _⟩
  case round =>
    obtain ⟨k, z, hk, rfl, rfl, HZ, hbel⟩ := hrel
    by_cases hlt : k < L.length
    · obtain ⟨b, off, D, dn, dc, rfl, hc0, hc1, hc2, hc3, hrD, -⟩ := (r1.below hbel).blob hlt
      have hki : (k : Int) < (L.length : Int) := by omega
      have hdl : dn = L[k].dt.length := hrD.len
      have HY : Hid (wrap64 (z + (dn : Int)) = wrap64 (uS (L.take (k + 1)))) := by show _ = _; rw [uS_step hlt, HZ.out, wrap64_add, hdl]
      clear hdl hrD
      generalize L[k] = p at *
      have hal := (Below.refl wr.heap.size wr).alloc (Nat.le_refl _) (.cells #[.string (str p.dg), .slice D dn dc, .int .i64 p.pn, .bool p.mr] 37)
      have hbk := Blk.new wr 37 [.string (str p.dg), .slice D dn dc, .int .i64 p.pn, .bool p.mr]
      have e1 := hbk.cell 1
      simp only [List.getElem?_cons_succ, List.getElem?_cons_zero] at e1
      have hbA := below_step hbel hal
      clear hal
      go_wp2
      go_roundw
      case rel => exact ⟨k + 1, _, by omega, by go_num, rfl, HY.out, hbA⟩
      case measure => simp [intOf] <;> omega
    · have hd2 : decide ((k : Int) < (L.length : Int)) = false := by rw [decide_eq_false_iff_not]; omega
      obtain ⟨u, hu⟩ : ∃ u : Nat, uS L = u := ⟨(uS L).toNat, by have := HU.out.1; omega⟩
      have hz : z = u := by rw [HZ.out, List.take_of_length_le (by omega), uS_small HU.out.1 HU.out.2, hu]
      subst hz
      have hu1 : u ≤ 100000 := by have := HU.out.2; omega
      have HUS : Hid (uS L = u) := hu
      have hbZ := below_step hb1 hbel
      have rZ := r1.below hbel
      have HL : Hid (∀ w, KRd kBl w A1 L.length c1 L → _) := fun w h => lacks_any A1 L.length c1 L x y w h
      have HF : Hid (∀ w, KRd kBl w A1 L.length c1 L → _) := fun w h => fits_any A1 L.length c1 L x y w h
      have HS : Hid (∀ w, KRd kBl w A1 L.length c1 L → _) := fun w h => used_any A1 L.length c1 L w h
      rw [uS_small HU.out.1 HU.out.2, hu] at HS
      have hrl := rL_small (l := L) (a := x) (b := y) HU.out.1 HU.out.2 (by omega) (by omega) (by omega) (by omega)
      rw [hu] at hrl
      unfold rF at HF
      rw [hrl] at HL HF
      clear hu hrl HU HUS HZ HX HY
      have e3 : Hid (wrap64 (uS [⟨[], [97, 98, 99], 0, false⟩]) = 3) := by show _ = _; decide +kernel
      have HO : Hid (∀ w A n c, KRd kBl w A n c [⟨[], [97, 98, 99], 0, false⟩] → Calls Try.prog 7 #[.slice A n c] w fun e w' => e = .returned (.int .i64 3) ∧ Below w.heap.size w w') := fun w A n c h => by
        have := used_any A n c _ w h
        rw [e3.out] at this
        exact this
      have kc := head_run
      rcases Int.lt_or_le 0 ((u : Int) + y - x) with hp | hp
      · rw [if_pos hp] at HL HF
        rw [if_pos rfl, if_pos hp] at HF
        obtain ⟨D, hD⟩ : ∃ D : Nat, (u : Int) + y - x = (D : Int) := ⟨((u : Int) + y - x).toNat, by omega⟩
        rw [hD] at HL hp
        have q0 : ((D : Int) == 0) = false := by rw [beq_eq_false_iff_ne]; omega
        have q1 : max 0 (D : Int) = (D : Int) := by omega
        have q2 : (if 0 < (D : Int) then (D : Int) else 0) = (D : Int) := if_pos hp
        go_wp2_with fail
        with_reducible refine (HL.out _ rZ).mono ?_
        rintro e w3 ⟨rfl, hb3⟩
        have hb4 := below_step hbZ hb3
        have r3 := rZ.below hb3
        go_wp2_with fail
        with_reducible refine (HF.out _ r3).mono ?_
        rintro e w4 ⟨rfl, hb5⟩
        have hb6 := below_step hb4 hb5
        have r4 := r3.below hb5
        go_wp2_with fail
        with_reducible refine (HO.out _ _ 1 1 (one_abc w4)).mono ?_
        rintro e w5 ⟨rfl, hb8⟩
        have hb9 := below_step (abc_below w4) hb8
        have r5 := r4.below hb9
        have hbA := below_step hb6 hb9
        go_wp2_with fail
        with_reducible refine (HS.out _ r5).mono ?_
        rintro e w6 ⟨rfl, hbB⟩
        go_wp2
        go_ret
        exact ⟨by simp, below_step hbA hbB⟩
      · have hp' : ¬ 0 < (u : Int) + y - x := by omega
        rw [if_neg hp'] at HL HF
        rw [if_pos rfl, if_neg (by omega)] at HF
        have q1 : max 0 ((u : Int) + y - x) = 0 := by omega
        have q2 : (if 0 < (u : Int) + y - x then (u : Int) + y - x else 0) = 0 := if_neg hp'
        go_wp2_with fail
        with_reducible refine (HL.out _ rZ).mono ?_
        rintro e w3 ⟨rfl, hb3⟩
        have hb4 := below_step hbZ hb3
        have r3 := rZ.below hb3
        go_wp2_with fail
        with_reducible refine (HF.out _ r3).mono ?_
        rintro e w4 ⟨rfl, hb5⟩
        have hb6 := below_step hb4 hb5
        have r4 := r3.below hb5
        go_wp2_with fail
        with_reducible refine (HO.out _ _ 1 1 (one_abc w4)).mono ?_
        rintro e w5 ⟨rfl, hb8⟩
        have hb9 := below_step (abc_below w4) hb8
        have r5 := r4.below hb9
        have hbA := below_step hb6 hb9
        go_wp2_with fail
        with_reducible refine (HS.out _ r5).mono ?_
        rintro e w6 ⟨rfl, hbB⟩
        go_wp2
        go_ret
        exact ⟨by simp, below_step hbA hbB⟩
end Go.Proofs.Ytnecgnhhghmkoaa

/- The law RoomMore: the walk. -/
import Derived.Test.YtnecgnhhghmkoaaGU
import Derived.Test.YtnecgnhhghmkoaaQUb
import Derived.Test.YtnecgnhhghmkoaaGA
namespace Go.Proofs.Ytnecgnhhghmkoaa
open Go.RowKit
/-- what lacks, and what lacks for one byte more -/
theorem rL_more {l : List Bl} {a b : Int} (h0 : 0 ≤ uS l) (h1 : uS l ≤ 100000) (ha : 0 ≤ a) (ha' : a ≤ 4000) (hb : 0 ≤ b) (hb' : b ≤ 3999) :
    (∃ d : Nat, rL l a b = ((d : Int), 0) ∧ rL l a (b + 1) = ((d : Int) + 1, 0) ∧ d ≤ 200000) ∨ (rL l a b = (0, 0) ∧ rL l a (b + 1) = (0, 0)) := by
  rw [rL_small h0 h1 ha ha' hb (by omega), rL_small h0 h1 ha ha' (by omega) (by omega)]
  rcases Int.lt_or_le (uS l + b - a) 0 with h | h
  · refine .inr ⟨by rw [if_neg (by omega)], by rw [if_neg (by omega)]⟩
  · refine .inl ⟨(uS l + b - a).toNat, ?_, ?_, by omega⟩
    · by_cases hz : 0 < uS l + b - a
      · rw [if_pos hz, Int.toNat_of_nonneg h]
      · rw [if_neg hz, Int.toNat_of_nonneg h]
        have : uS l + b - a = 0 := by omega
        rw [this]
    · rw [if_pos (by omega), Int.toNat_of_nonneg h, show uS l + (b + 1) - a = uS l + b - a + 1 by omega]
set_option maxRecDepth 100000 in
set_option maxHeartbeats 4000000 in
theorem roomMore_walk (A : Option Addr) (n c : Nat) (l : List Rw) (a b : Int) (w : World) (hr : Rd w 4 A n c (rcs l)) (hg : ∀ p ∈ l, p.good) (hn : n ≤ 4294967296000) (wa : (Lit.int .i64 a).wf = true) (wb : (Lit.int .i64 b).wf = true) :
    Calls Try.prog 6 #[.slice A n c, .int .i64 a, .int .i64 b] w fun e w' => e = .returned (.bool true) ∧ Below w.heap.size w w' := by
  have hfd := store_field
  obtain ⟨ra0, ra1⟩ := i64_range wa
  obtain ⟨rb0, rb1⟩ := i64_range wb
  have kx := pk_range a 4001 (by omega)
  have ky := pk_range b 4000 (by omega)
  obtain ⟨x, hx⟩ : ∃ x : Nat, pk a 4001 = x := ⟨(pk a 4001).toNat, by omega⟩
  obtain ⟨y, hy⟩ : ∃ y : Nat, pk b 4000 = y := ⟨(pk b 4000).toNat, by omega⟩
  rw [hx] at kx
  rw [hy] at ky
  have HX := Lib.hid hx
  have HY := Lib.hid hy
  clear hx hy
  have e2 : Hid (rL [] 3 5 = (2, 0)) := by show _ = _; decide +kernel
  have H0 : Hid (∀ w, KRd kBl w none 0 0 [] → Calls Try.prog 8 #[.slice none 0 0, .int .i64 3, .int .i64 5] w fun e w' => e = .returned (.tuple #[.int .i64 2, .int .i64 0]) ∧ Below w.heap.size w w') := fun w h => by
    have := lacks_any none 0 0 [] 3 5 w h
    rw [e2.out] at this
    exact this
  clear e2
  go_enter Try.func6, Try.ntmps6
  go_wp2_with fail
  with_reducible refine (store_blobs _ _ _ _ _ hr hg hn).mono ?_
  rintro e w1 ⟨A1, c1, L, A2, n2, c2, vr, vk, rfl, hN1, hS, hb1⟩
  have hL := hS.len
  have r1 := hN1.rd
  have hU := uS_le L 300 fun b hb => (hS.fine b hb).2.1
  have hm := rL_more (l := L) (a := (x : Int)) (b := (y : Int)) hU.1 (by omega) (by omega) (by omega) (by omega) (by omega)
  have HL : Hid (∀ w, KRd kBl w A1 L.length c1 L → _) := fun w h => lacks_any A1 L.length c1 L x y w h
  have HM : Hid (∀ w, KRd kBl w A1 L.length c1 L → _) := fun w h => lacks_any A1 L.length c1 L x (y + 1) w h
  clear hN1 hr hg hS hU
  go_wp2_with fail
  with_reducible refine (picked_nat a 4001 x _ ra0 ra1 (by omega) (by omega) HX.out).mono ?_
  rintro e w2 ⟨rfl, rfl⟩
  go_wp2_with fail
  with_reducible refine (picked_nat b 4000 y _ rb0 rb1 (by omega) (by omega) HY.out).mono ?_
  rintro e w2 ⟨rfl, rfl⟩
  rcases hm with ⟨d, hl, hm, hd⟩ | ⟨hl, hm⟩
  · rw [hl] at HL
    rw [hm] at HM
    clear hl hm
    have q1 : ((d : Int) + 1 == (d : Int) + 1) = true := by simp
    go_wp2_with fail
    with_reducible refine (HL.out _ r1).mono ?_
    rintro e w3 ⟨rfl, hb3⟩
    have hbA := below_step hb1 hb3
    have r3 := r1.below hb3
    go_wp2_with fail
    with_reducible refine (HM.out _ r3).mono ?_
    rintro e w4 ⟨rfl, hb4⟩
    have hbB := below_step hbA hb4
    go_wp2_with fail
    with_reducible refine (H0.out _ (KRd.nil _)).mono ?_
    rintro e w5 ⟨rfl, hb5⟩
    go_wp2
    go_ret
    exact ⟨by simp, below_step hbB hb5⟩
  · rw [hl] at HL
    rw [hm] at HM
    clear hl hm
    go_wp2_with fail
    with_reducible refine (HL.out _ r1).mono ?_
    rintro e w3 ⟨rfl, hb3⟩
    have hbA := below_step hb1 hb3
    have r3 := r1.below hb3
    go_wp2_with fail
    with_reducible refine (HM.out _ r3).mono ?_
    rintro e w4 ⟨rfl, hb4⟩
    have hbB := below_step hbA hb4
    go_wp2_with fail
    with_reducible refine (H0.out _ (KRd.nil _)).mono ?_
    rintro e w5 ⟨rfl, hb5⟩
    go_wp2
    go_ret
    exact ⟨by simp, below_step hbB hb5⟩
end Go.Proofs.Ytnecgnhhghmkoaa

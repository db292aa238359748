/- The law ReachGrows: the walk. -/
import Derived.Test.YtkjgpljkmhjclaaGreatGU
import Derived.Test.YtkjgpljkmhjclaaGreatQRcm
import Derived.Test.YtkjgpljkmhjclaaGreatQTc
import Derived.Test.YtkjgpljkmhjclaaGreatGRB
import Derived.Test.YtkjgpljkmhjclaaGreatQCct
import Derived.Test.YtkjgpljkmhjclaaGreatQSco
import Derived.Test.YtkjgpljkmhjclaaGreatGA
import Derived.BigQuiet
import Derived.Deep.RegionHeldLaw
namespace Go.Proofs.YtkjgpljkmhjclaaGreat
open Go.RowKit
theorem picked_same (n : Int) (m : Int) (a : Nat) (w : World) (h0 : -9223372036854775808 ≤ n) (h1 : n ≤ 9223372036854775807) (hm : 0 < m) (hm2 : m ≤ 4611686018427387904) (ha : pk n m = a) :
    Calls Tryz.prog 15 #[.int .i64 n, .int .i64 m] w fun e w' => e = .returned (.int .i64 (a : Int)) ∧ w' = w :=
  (picked_nat n m a w h0 h1 hm hm2 ha).mono fun _ _ ⟨h1, h2⟩ => ⟨h1, h2.symm⟩
theorem cell_al {w : World} {p : Addr} {v : Value} (h : w.cell? p = some v) (o : Obj) : (w.alloc o).cell? p = some v := (((Below.refl w.heap.size w).alloc (Nat.le_refl _) o).cell (cell_lt h)).trans h
theorem cell_bel {w w' : World} {p : Addr} {v : Value} (h : w.cell? p = some v) (hb : Below w.heap.size w w') : w'.cell? p = some v := (hb.cell (cell_lt h)).trans h
theorem cell_drew {w : World} {p : Addr} {v : Value} (h : w.cell? p = some v) : w.drew.cell? p = some v := h
theorem below_al {a w : World} (h : Below a.heap.size a w) (o : Obj) : Below a.heap.size a (w.alloc o) := h.alloc h.size o
theorem blk_al {w : World} {g : Nat} {t : TypeId} {xs : List Value} (h : Blk w g t xs) (o : Obj) : Blk (w.alloc o) g t xs := h.alloc o
theorem blk_bel {w w' : World} {g : Nat} {t : TypeId} {xs : List Value} (h : Blk w g t xs) (hb : Below w.heap.size w w') : Blk w' g t xs := h.below hb h.lt
theorem blk_one (w : World) (t : TypeId) (v : Value) (g : Nat) (hg : w.heap.size = g) : Blk (w.alloc (.cells #[v] t)) g t [v] := by
  subst hg; exact Blk.new w t [v]
theorem blk_two (w : World) (t : TypeId) (u v : Value) (g : Nat) (hg : w.heap.size = g) : Blk (w.alloc (.cells #[u, v] t)) g t [u, v] := by
  subst hg; exact Blk.new w t [u, v]
theorem own_some {w : World} {base : Nat} {e : TypeId} {v : Value} {n : Nat} {xs : List Value} (h : w.ownsRow base e 1 v n xs) (h0 : 0 < n) : ∃ g cap, v = .slice (some ⟨g, 0, none⟩) n cap := by
  rcases h.2 with ⟨_, q⟩ | ⟨g, cap, _, hv, _⟩
  · omega
  · exact ⟨g, cap, hv⟩
theorem rd_al {w : World} {size n c : Nat} {A : Option Addr} {xs : List Value} (h : Rd w size A n c xs) (o : Obj) : Rd (w.alloc o) size A n c xs := h.below ((Below.refl _ _).alloc (Nat.le_refl _) o)
set_option maxRecDepth 100000 in
set_option maxHeartbeats 4000000 in
theorem reachGrows_walk (A : Option Addr) (n c : Nat) (l : List Rw) (i j : Int) (w : World) (hr : Rd w 4 A n c (rcs l)) (hg : ∀ p ∈ l, p.good) (hn : n ≤ 4294967296000) (hi : (Lit.int .i64 i).wf = true) (hj : (Lit.int .i64 j).wf = true) :
    Calls Tryz.prog 4 #[.slice A n c, .int .i64 i, .int .i64 j] w fun e w' => e = .returned (.bool true) ∧ Below w.heap.size w w' := by
  obtain ⟨i0, i1⟩ := i64_range hi
  obtain ⟨j0, j1⟩ := i64_range hj
  go_enter Tryz.func4, Tryz.ntmps4
  go_wp2_with fail
  with_reducible refine (store_blobs _ _ _ _ _ hr hg hn).mono ?_
  rintro e w1 ⟨A1, c1, L, A2, n2, c2, rm, ck, rfl, hN, hS, hb1⟩
  have hal := (Below.refl w1.heap.size w1).alloc (Nat.le_refl _) (.cells #[.slice A1 L.length c1, .slice A2 n2 c2, .int .i64 rm, .int .i64 ck] 26)
  have hbk := Blk.new w1 26 [.slice A1 L.length c1, .slice A2 n2 c2, .int .i64 rm, .int .i64 ck]
  have r1 := hN.rd.below hal
  have hbA := below_step hb1 hal
  have hL := hS.len
  have HG : Hid (∀ b ∈ L, b.dg.length ≤ maxLen) := fun b hb => (hS.good b hb).1
  clear hN hr hg hb1 hal
  go_wp2_with fail
  with_reducible refine (comes_ok _).mono ?_
  rintro e w2 ⟨rfl, hb2⟩
  have k2 := hbk.below hb2 hbk.lt
  have r2 := r1.below hb2
  have hbB := below_step hbA hb2
  have e0 := k2.cell 0
  simp only [List.getElem?_cons_zero] at e0
  clear hbk r1 hbA hb2
  by_cases hl0 : L.length = 0
  · have d0 : ((L.length : Int) == 0) = true := by rw [hl0]; rfl
    go_wp2_with fail
    with_reducible refine (comes_ok _).mono ?_
    rintro e w3 ⟨rfl, hb3⟩
    go_wp2
    go_ret
    exact ⟨rfl, below_step hbB hb3⟩
  · have d0 : ((L.length : Int) == 0) = false := by rw [beq_eq_false_iff_ne]; omega
    obtain ⟨a, ha, haL⟩ := pk_nat i (L.length : Int) (by omega)
    obtain ⟨b, hb, hbL⟩ := pk_nat j (L.length : Int) (by omega)
    have haN : a < L.length := by omega
    have hbN : b < L.length := by omega
    obtain ⟨g, off, D, dn, dc, rfl, a0, -, -, -, -, -⟩ := r2.blob haN
    obtain ⟨g', off', D', dn', dc', q, b0, -, -, -, -, -⟩ := r2.blob hbN
    injection q with q
    injection q with q1 q2
    subst q1; subst q2
    have HSA : Hid (bAt L L[a].dg < L.length) := bAt_lt.2 ⟨L[a], List.getElem_mem haN, rfl⟩
    have hsa := HG.out L[a] (List.getElem_mem haN)
    have hsb := HG.out L[b] (List.getElem_mem hbN)
    generalize L[a].dg = sa at *
    generalize L[b].dg = sb at *
    have hLi : (0 : Int) < (L.length : Int) := by omega
    have hP1 := fun W => picked_same i (L.length : Int) a W i0 i1 hLi (by omega) ha
    have hP2 := fun W => picked_same j (L.length : Int) b W j0 j1 hLi (by omega) hb
    have HP1 := Lib.hid hP1
    have HP2 := Lib.hid hP2
    clear hP1 hP2 ha hb hi hj hS
    go_upto_region 4 with fail
    go_quiet (first
      | (go_at_call 15; with_reducible exact Calls.quiet_of_same (HP1.out _))
      | (go_at_call 15; with_reducible exact Calls.quiet_of_same (HP2.out _)))
    have k3 := k2.drewN nq
    have r3 : KRd kBl (w2.drewN nq) (some ⟨g, off, none⟩) L.length c1 L := r2.below (below_drewN (Below.refl w2.heap.size w2) nq)
    have hbC := below_drewN hbB nq
    clear k2 r2 hbB a0 b0 e0 HP1 HP2
    generalize w2.drewN nq = w3 at *
    obtain ⟨X, hX⟩ : ∃ X, ris (rFrom L pOf [sa]) = X := ⟨_, rfl⟩
    obtain ⟨Y, hY⟩ : ∃ Y, ris (rFrom L pOf [sb]) = Y := ⟨_, rfl⟩
    obtain ⟨Z, hZ⟩ : ∃ Z, ris (rFrom L pOf [sa, sb]) = Z := ⟨_, rfl⟩
    have HGR := Lib.hid (grows L pOf sa sb)
    rw [hX, hY, hZ] at HGR
    have HIN : Hid (sa ∈ X) := by
      show _ ∈ _
      rw [← hX]
      exact ris_mem.2 ((rFrom_rch _ _).2 (.here (List.mem_singleton.2 rfl) HSA.out))
    have hXl : X.length ≤ 12 := by
      have h1 := ris_length (rFrom L pOf [sa])
      have h2 := (rFrom_met (l := L) (P := pOf) [sa]).len
      rw [hX] at h1; omega
    have hYl : Y.length ≤ 12 := by
      have h1 := ris_length (rFrom L pOf [sb])
      have h2 := (rFrom_met (l := L) (P := pOf) [sb]).len
      rw [hY] at h1; omega
    have hcon : ∀ (W : World) (B k : Nat) (ds R : List (List UInt8)), ris (rFrom L pOf ds) = R → ds.length = k → k ≤ 2 → (∀ d ∈ ds, d.length ≤ maxLen) → KRd kBl W (some ⟨g, off, none⟩) L.length c1 L → Blk W B 9 (ds.map sv) → Blk W w1.heap.size 26 [.slice (some ⟨g, off, none⟩) L.length c1, .slice A2 n2 c2, .int .i64 rm, .int .i64 ck] → Below w.heap.size w W →
        Calls Tryz.prog 11 #[.slice (some ⟨g, off, none⟩) L.length c1, .slice (some ⟨B, 0, none⟩) k k] W fun e w' => ∃ A c, e = .returned (.slice A R.length c) ∧ Rd w' 1 A R.length c (R.map sv) ∧ (A = none → c = 0) ∧ Below W.heap.size W w' ∧ KRd kBl w' (some ⟨g, off, none⟩) L.length c1 L ∧ Blk w' w1.heap.size 26 [.slice (some ⟨g, off, none⟩) L.length c1, .slice A2 n2 c2, .int .i64 rm, .int .i64 ck] ∧ Below w.heap.size w w' := by
      intro W B k ds R hR hk hk2 hds hr hb hs hw
      have hrd : Rd W 1 (some ⟨B, 0, none⟩) k k (ds.map sv) := blk_rd hb (by rw [List.length_map, hk]) (by omega)
      refine (rfrom_any _ _ _ L _ _ _ ds W hr (by omega) hrd (fun q => by cases q) HG.out hds (by omega)).mono ?_
      intro e w' h
      rw [hR] at h
      obtain ⟨A', c', rfl, h1, h2, -, h3⟩ := h.rd
      exact ⟨A', c', rfl, h1, h2, h3, hr.below h3, hs.below h3 hs.lt, below_step hw h3⟩
    have HF1 : Hid (∀ (W : World) (B : Nat), KRd kBl W (some ⟨g, off, none⟩) L.length c1 L → Blk W B 9 [.string (str sa)] → _ → _ → _) := fun W B h1 h2 => hcon W B 1 [sa] X hX rfl (by omega) (fun d hd => by rw [List.mem_singleton.1 hd]; exact hsa) h1 h2
    have HF2 : Hid (∀ (W : World) (B : Nat), KRd kBl W (some ⟨g, off, none⟩) L.length c1 L → Blk W B 9 [.string (str sb)] → _ → _ → _) := fun W B h1 h2 => hcon W B 1 [sb] Y hY rfl (by omega) (fun d hd => by rw [List.mem_singleton.1 hd]; exact hsb) h1 h2
    have HF3 : Hid (∀ (W : World) (B : Nat), KRd kBl W (some ⟨g, off, none⟩) L.length c1 L → Blk W B 9 [.string (str sa), .string (str sb)] → _ → _ → _) := fun W B h1 h2 => hcon W B 2 [sa, sb] Z hZ rfl (by omega) (fun d hd => by
      rcases List.mem_cons.1 hd with rfl | hd
      · exact hsa
      · rw [List.mem_singleton.1 hd]; exact hsb) h1 h2
    have s0 : w3.cell? ⟨w1.heap.size, 0, none⟩ = some (.slice (some ⟨g, off, none⟩) L.length c1) := k3.cell 0
    clear hcon hX hY hZ HSA hsa hsb HG
    go_upto_region 5 with fail
    go_cut [10, 11, 12] from 45 to 60 (fun s10 s11 s12 wx => ∃ A4 c4 A5 c5 A6 c6, s10 = .slice A4 X.length c4 ∧ s11 = .slice A5 Y.length c5 ∧ s12 = .slice A6 Z.length c6 ∧ Rd wx 1 A4 X.length c4 (X.map sv) ∧ (A4 = none → c4 = 0) ∧ Rd wx 1 A5 Y.length c5 (Y.map sv) ∧ (A5 = none → c5 = 0) ∧ Rd wx 1 A6 Z.length c6 (Z.map sv) ∧ Below w.heap.size w wx)
    case first =>
      go_region_held_law (fun W => W.cell? ⟨w1.heap.size, 0, none⟩ = some (.slice (some ⟨g, off, none⟩) L.length c1)) (repeat' (first | with_reducible exact s6 | with_reducible exact s5 | with_reducible exact s4 | with_reducible exact s0 | with_reducible refine cell_al ?_ _ | with_reducible refine cell_drew ?_))
       (first
        | (go_at_call 11; with_reducible refine (HF1.out _ _ ?_ ?_ ?_ ?_).mono ?_; (repeat (first | with_reducible exact r6 | with_reducible exact r5 | with_reducible exact r4 | with_reducible exact r3 | with_reducible refine KRd.alloc ?_ _ | with_reducible refine KRd.drew ?_ | with_reducible exact k6 | with_reducible exact k5 | with_reducible exact k4 | with_reducible exact k3 | (with_reducible refine blk_one _ _ _ _ ?_; focus (simp; done)) | (with_reducible refine blk_two _ _ _ _ _ ?_; focus (simp; done)) | with_reducible refine blk_bel ?_ hb5 | with_reducible refine blk_bel ?_ hb4 | with_reducible refine blk_al ?_ _ | with_reducible refine Blk.drew ?_ | with_reducible exact hbG | with_reducible exact hbF | with_reducible exact hbE | with_reducible exact hbC | with_reducible refine below_al ?_ _ | with_reducible refine Below.drew ?_)); rintro e w4 ⟨A4, c4, rfl, hr4, hA4, hb4, r4, k4, hbE⟩; have s4 := k4.cell 0; simp only [List.getElem?_cons_zero] at s4)
        | (go_at_call 11; with_reducible refine (HF2.out _ _ ?_ ?_ ?_ ?_).mono ?_; (repeat (first | with_reducible exact r6 | with_reducible exact r5 | with_reducible exact r4 | with_reducible exact r3 | with_reducible refine KRd.alloc ?_ _ | with_reducible refine KRd.drew ?_ | with_reducible exact k6 | with_reducible exact k5 | with_reducible exact k4 | with_reducible exact k3 | (with_reducible refine blk_one _ _ _ _ ?_; focus (simp; done)) | (with_reducible refine blk_two _ _ _ _ _ ?_; focus (simp; done)) | with_reducible refine blk_bel ?_ hb5 | with_reducible refine blk_bel ?_ hb4 | with_reducible refine blk_al ?_ _ | with_reducible refine Blk.drew ?_ | with_reducible exact hbG | with_reducible exact hbF | with_reducible exact hbE | with_reducible exact hbC | with_reducible refine below_al ?_ _ | with_reducible refine Below.drew ?_)); rintro e w5 ⟨A5, c5, rfl, hr5, hA5, hb5, r5, k5, hbF⟩; have s5 := k5.cell 0; simp only [List.getElem?_cons_zero] at s5)
        | (go_at_call 11; with_reducible refine (HF3.out _ _ ?_ ?_ ?_ ?_).mono ?_; (repeat (first | with_reducible exact r6 | with_reducible exact r5 | with_reducible exact r4 | with_reducible exact r3 | with_reducible refine KRd.alloc ?_ _ | with_reducible refine KRd.drew ?_ | with_reducible exact k6 | with_reducible exact k5 | with_reducible exact k4 | with_reducible exact k3 | (with_reducible refine blk_one _ _ _ _ ?_; focus (simp; done)) | (with_reducible refine blk_two _ _ _ _ _ ?_; focus (simp; done)) | with_reducible refine blk_bel ?_ hb5 | with_reducible refine blk_bel ?_ hb4 | with_reducible refine blk_al ?_ _ | with_reducible refine Blk.drew ?_ | with_reducible exact hbG | with_reducible exact hbF | with_reducible exact hbE | with_reducible exact hbC | with_reducible refine below_al ?_ _ | with_reducible refine Below.drew ?_)); rintro e w6 ⟨A6, c6, rfl, hr6, hA6, hb6, r6, k6, hbG⟩; have s6 := k6.cell 0; simp only [List.getElem?_cons_zero] at s6))
      all_goals
        go_wp2_with fail
        go_meet
        refine ⟨A4, c4, A5, c5, A6, c6, rfl, rfl, rfl, ?_, ?_, ?_, ?_, ?_, ?_⟩
        (repeat (first | with_reducible exact hr4 | with_reducible exact hr5 | with_reducible exact hr6 | with_reducible exact hA4 | with_reducible exact hA5 | with_reducible refine rd_al ?_ _ | with_reducible refine Rd.drew ?_ | with_reducible refine Rd.below ?_ hb6 | with_reducible refine Rd.below ?_ hb5 | with_reducible exact hbG | with_reducible refine below_al ?_ _ | with_reducible refine Below.drew ?_))
    case rest =>
      obtain ⟨A4, c4, A5, c5, A6, c6, rfl, rfl, rfl, hr4, hA4, hr5, hA5, hr6, hbD⟩ := hcut
      have hXY : 0 < (X ++ Y).length := by
        have : 0 < X.length := List.length_pos_of_mem HIN.out
        rw [List.length_append]; omega
      have hXY2 : (X ++ Y).length ≤ 24 := by rw [List.length_append]; omega
      have hal := (Below.refl wc.heap.size wc).alloc (Nat.le_refl _) (.cells #[.slice A4 X.length c4, .slice A5 Y.length c5] 28)
      have hgB := Blk.new wc 28 [.slice A4 X.length c4, .slice A5 Y.length c5]
      have s4 := hr4.below hal
      have s5 := hr5.below hal
      have s6 := hr6.below hal
      have hbE := below_step hbD hal
      have HC := Lib.hid (concat2T wc.heap.size A4 A5 X.length Y.length c4 c5 X Y _ s4 s5 hA4 hA5 hgB (by omega))
      clear hr4 hr5 hr6 s5 hal hbD hgB HF1 HF2 HF3 s0 r3 k3 hbC
      obtain ⟨N, hN⟩ : ∃ N, (X ++ Y).length = N := ⟨_, rfl⟩
      have HNN := Lib.hid hN
      rw [hN] at hXY hXY2
      clear hN
      go_wp2_with fail
      with_reducible refine HC.out.mono ?_
      rintro e w8 ⟨v8, rfl, hown8, hb8⟩
      rw [HNN.out] at hown8
      obtain ⟨g8, c8, rfl⟩ := own_some hown8 hXY
      have hbz8 := hb8.size
      have HS1 := Lib.hid (sortT_own _ g8 c8 (X ++ Y) w8 (by rw [HNN.out]; exact hown8) hbz8 (by rw [HNN.out]; omega))
      rw [HNN.out] at HS1
      have HSL : Hid (((X ++ Y).mergeSort fun x y => decide (x ≤ y)).length = N) := by show _ = _; rw [List.length_mergeSort, HNN.out]
      generalize ((X ++ Y).mergeSort fun x y => decide (x ≤ y)) = S at *
      clear hown8 HC
      go_wp2_with fail
      with_reducible refine HS1.out.mono ?_
      rintro e w9 ⟨rfl, hown9, hb9⟩
      have HC1 := Lib.hid (compactT_own _ g8 c8 S w9 hown9)
      rw [HSL.out, HGR.out] at HC1
      have hb89 := hb8.trans hb9
      clear hown9 hb8 hb9 HS1
      go_wp2_with fail
      with_reducible refine HC1.out.mono ?_
      rintro e w10 ⟨rfl, hown10, hb10⟩
      have hbAll := hb89.trans hb10
      have rX := s4.below hbAll
      have rZ := s6.below hbAll
      have hbF := below_step hbE hbAll
      have rS := (own_rdK hown10)
      obtain ⟨AS, cS, qS, rS, -, -⟩ := rS
      injection qS with q1 _ q2
      subst q1; subst q2
      clear hb89 hb10 hbAll s4 s6 hown10 hbE HC1
      go_wp2_with fail
      with_reducible refine (equalT_eq _ _ _ _ _ _ Z _ rS rZ).mono ?_
      rintro e w11 ⟨rfl, hb11⟩
      have rX2 := rX.below hb11
      have hbG := below_step hbF hb11
      go_wp2_with fail
      with_reducible refine (containsT_any _ _ _ X sa _ rX2 true ⟨fun _ => HIN.out, fun _ => rfl⟩).mono ?_
      rintro e w12 ⟨rfl, rfl⟩
      go_wp2
      go_ret
      exact ⟨by simp, hbG⟩
end Go.Proofs.YtkjgpljkmhjclaaGreat

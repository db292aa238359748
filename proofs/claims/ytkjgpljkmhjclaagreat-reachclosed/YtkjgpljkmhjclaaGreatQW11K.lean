/- The law ReachClosed: the walk. -/
import Derived.Test.YtkjgpljkmhjclaaGreatQW11R
import Derived.Test.YtkjgpljkmhjclaaGreatGRB
import Derived.Test.YtkjgpljkmhjclaaGreatGU
namespace Go.Proofs.YtkjgpljkmhjclaaGreat
open Go.RowKit
theorem Rch.there {l : List Bl} {P : Bl → List (List UInt8)} {ds : List (List UInt8)} {d : List UInt8} (h : Rch l P ds d) : bAt l d < l.length := by
  cases h with
  | here _ h => exact h
  | next _ _ h => exact h
/-- what is come to comes to nothing more -/
theorem sReach_closed (L : List Bl) (M : List En) : ris (rFrom L pOf (sReach L M)) = sReach L M := by
  refine ris_of (by unfold sReach; exact ris_srt _) fun x => ?_
  rw [rFrom_rch]
  constructor
  · intro h
    induction h with
    | here hd _ => exact hd
    | next _ he hl ih => exact sReach_mem.2 (.next (sReach_mem.1 ih) he hl)
  · intro h
    exact .here h (sReach_mem.1 h).there
theorem sReach_next {L : List Bl} {M : List En} (hs : Srt L) {b : Bl} (hb : b ∈ L) (hd : b.dg ∈ sReach L M) {d : List UInt8} (hp : d ∈ pOf b) (hl : ∃ x ∈ L, x.dg = d) : d ∈ sReach L M := by
  refine sReach_mem.2 (.next (sReach_mem.1 hd) ?_ (bAt_lt.2 hl))
  obtain ⟨i, hi, rfl⟩ := List.mem_iff_getElem.1 hb
  unfold rPar
  rw [bAt_of hs hi, getD_lt hi]
  exact hp
theorem sReach_dgs {L : List Bl} {M : List En} (h : ∀ b ∈ L, b.dg.length ≤ maxLen) {d : List UInt8} (hd : d ∈ sReach L M) : d.length ≤ maxLen := by
  obtain ⟨b, hb, rfl⟩ := bAt_lt.1 (sReach_mem.1 hd).there
  exact h b hb
theorem sReach_len (L : List Bl) (M : List En) : (sReach L M).length ≤ L.length := by
  unfold sReach
  have h1 := ris_length (rFrom L pOf (ris (roots L M)))
  have h2 := (rFrom_met (l := L) (P := pOf) (ris (roots L M))).len
  omega
set_option maxRecDepth 100000 in
set_option maxHeartbeats 4000000 in
theorem reachClosed_walk (A : Option Addr) (n c : Nat) (l : List Rw) (w : World) (hr : Rd w 4 A n c (rcs l)) (hg : ∀ p ∈ l, p.good) (hn : n ≤ 4294967296000) :
    Calls Tryz.prog 3 #[.slice A n c] w fun e w' => e = .returned (.bool true) ∧ Below w.heap.size w w' := by
  go_enter Tryz.func3, Tryz.ntmps3
  go_wp2_with fail
  with_reducible refine (store_both _ _ _ _ _ hr hg hn).mono ?_
  rintro e w1 ⟨A1, c1, L, A2, c2, M, rm, ck, rfl, hN1, hN2, hS, hb1⟩
  have hal := (Below.refl w1.heap.size w1).alloc (Nat.le_refl _) (.cells #[.slice A1 L.length c1, .slice A2 M.length c2, .int .i64 rm, .int .i64 ck] 26)
  have hbk := Blk.new w1 26 [.slice A1 L.length c1, .slice A2 M.length c2, .int .i64 rm, .int .i64 ck]
  have r1 := hN1.rd.below hal
  have s1 := hN2.rd.below hal
  have hbA := below_step hb1 hal
  have hL := hS.b.len
  have HNX : Hid (∀ b ∈ L, b.dg ∈ sReach L M → ∀ d ∈ pOf b, (∃ x ∈ L, x.dg = d) → d ∈ sReach L M) := fun b hb hd d hp hl => sReach_next hS.b.srt hb hd hp hl
  have HALL := Lib.hid (rall_any A1 A2 L.length c1 M.length c2 L M rm ck _ r1 s1 hS.dgs hS.pdg (by omega) (by have := hS.roots_len; have := hS.b.len; omega))
  have HCL := Lib.hid (sReach_closed L M)
  have HSR : Hid (SrT (sReach L M)) := by show SrT _; unfold sReach; exact ris_srt _
  have HDG := Lib.hid hS.dgs
  have HRD : Hid (∀ d ∈ sReach L M, d.length ≤ maxLen) := fun d hd => sReach_dgs hS.dgs hd
  have hRl := sReach_len L M
  have HPL : Hid (∀ b : Bl, (pOf b).length ≤ 8) := fun b => pIn_len _
  generalize sReach L M = R at *
  have e0 := hbk.cell 0
  have e1 := hbk.cell 1
  have e2 := hbk.cell 2
  have e3 := hbk.cell 3
  simp only [List.getElem?_cons_succ, List.getElem?_cons_zero] at e0 e1 e2 e3
  clear hN1 hN2 hr hg hS hb1
  go_wp2_with fail
  with_reducible refine HALL.out.mono ?_
  rintro e w3 h3
  obtain ⟨A3, c3, rfl, hr3, hA3, -, hb3⟩ := h3.rd
  have kS := hbk.below hb3 hbk.lt
  have r3 := r1.below hb3
  have hbB := below_step hbA hb3
  clear hbk r1 s1 hal hbA e0 e1 e2 e3 HALL h3 hb3
  go_wp2_with fail
  with_reducible refine (comes_ok _).mono ?_
  rintro e w4 ⟨rfl, hb4⟩
  have kS4 := kS.below hb4 kS.lt
  have r4 := r3.below hb4
  have hr4 := hr3.below hb4
  have hbC := below_step hbB hb4
  clear kS r3 hr3 hbB hb4
  go_wp2_with fail
  with_reducible refine (sortedT_yes _ _ _ R _ hr4 HSR.out).mono ?_
  rintro e w5 ⟨rfl, hb5⟩
  have kS5 := kS4.below hb5 kS4.lt
  have r5 := r4.below hb5
  have hr5 := hr4.below hb5
  have hbD := below_step hbC hb5
  clear kS4 r4 hr4 hbC hb5
  have f0 := kS5.cell 0
  simp only [List.getElem?_cons_zero] at f0
  have HFR := Lib.hid (rfrom_any _ _ _ L _ _ _ R _ r5 (by omega) hr5 hA3 HDG.out HRD.out (by omega))
  go_wp2_with fail
  with_reducible refine HFR.out.mono ?_
  rintro e w6 h6
  rw [HCL.out] at h6
  obtain ⟨A6, c6, rfl, hr6, -, -, hb6⟩ := h6.rd
  have kS6 := kS5.below hb6 kS5.lt
  have r6 := r5.below hb6
  have hr6' := hr5.below hb6
  have hbE := below_step hbD hb6
  clear kS5 r5 hr5 hbD hb6 h6 f0 HFR HCL
  go_wp2_with fail
  with_reducible refine (equalT_eq _ _ _ _ _ _ R _ hr6 hr6').mono ?_
  rintro e w7 ⟨rfl, hb7⟩
  have kS7 := kS6.below hb7 kS6.lt
  have r7 := r6.below hb7
  have hr7 := hr6'.below hb7
  have hbF := below_step hbE hb7
  clear kS6 r6 hr6 hr6' hbE hb7
  have f0 := kS7.cell 0
  simp only [List.getElem?_cons_zero] at f0
  go_wp2_with fail
  go_loopw [32] (fun s wr => ∃ k : Nat, k ≤ L.length ∧ s = .int .i64 k ∧ Below w7.heap.size w7 wr) (fun s _ => L.length - (intOf s).toNat)
  case atStart => exact ⟨0, Nat.zero_le _, rfl, Below.refl _ _⟩
  case round =>
    obtain ⟨k, hk, rfl, hbel⟩ := hrel
    by_cases hlt : k < L.length
    · obtain ⟨b, off, D, dn, dc, rfl, hc0, hc1, hc2, hc3, hrD, -⟩ := (r7.below hbel).blob hlt
      have hki : (k : Int) < (L.length : Int) := by omega
      have HN1 := Lib.hid (HNX.out L[k] (List.getElem_mem hlt))
      generalize L[k] = x at *
      have hal := (Below.refl wr.heap.size wr).alloc (Nat.le_refl _) (.cells #[.string (str x.dg), .slice D dn dc, .int .i64 x.pn, .bool x.mr] 36)
      have hbk := Blk.new wr 36 [.string (str x.dg), .slice D dn dc, .int .i64 x.pn, .bool x.mr]
      have g0 := hbk.cell 0
      have g1 := hbk.cell 1
      have g2 := hbk.cell 2
      have g3 := hbk.cell 3
      simp only [List.getElem?_cons_succ, List.getElem?_cons_zero] at g0 g1 g2 g3
      have hrR := (hr7.below hbel).below hal
      have hbj := below_step hbel hal
      have hrD2 := hrD.below hal
      by_cases hin : x.dg ∈ R
      · have HC := Lib.hid (containsT_any _ _ _ R x.dg _ hrR true ⟨fun _ => hin, fun _ => rfl⟩)
        have HN2 := Lib.hid (HN1.out hin)
        have HP := Lib.hid (rparts_any x D dn dc _ hrD2)
        have hpl := HPL.out x
        clear hin HN1
        go_wp2_with fail
        with_reducible refine HC.out.mono ?_
        rintro e w8 ⟨rfl, rfl⟩
        go_wp2_with fail
        with_reducible refine HP.out.mono ?_
        rintro e w9 h9
        obtain ⟨A9, c9, rfl, hr9, -, -, hb9⟩ := h9.rd
        have hbJ := below_step hbj hb9
        clear hc0 hc1 hc2 hc3 g0 g1 g2 g3 hbk hal hrD hrD2 hrR hbj h9 hb9 HC HP
        generalize pOf x = ps at *
        have hpc := hr9.2.1
        have hpm := hr9.2.2.1
        unfold maxLen at hpm
        go_wp2_with fail
        rename World => wo
        go_loopw [44] (fun s wr => ∃ j : Nat, j ≤ ps.length ∧ s = .int .i64 j ∧ Below wo.heap.size wo wr) (fun s _ => ps.length - (intOf s).toNat)
        case atStart => exact ⟨0, Nat.zero_le _, rfl, Below.refl _ _⟩
        case round =>
          obtain ⟨j, hj, rfl, hbj⟩ := hrel
          have hbK := below_step hbJ hbj
          by_cases hlt2 : j < ps.length
          · obtain ⟨b2, off2, rfl, p0⟩ := (hr9.below hbj).text hlt2
            have hji : (j : Int) < (ps.length : Int) := by omega
            have HIN : Hid ((∃ x ∈ L, x.dg = ps[j]) → ps[j] ∈ R) := fun h => HN2.out ps[j] (List.getElem_mem hlt2) h
            generalize ps[j] = y at *
            have kSr := kS7.below hbK kS7.lt
            have q0 := kSr.cell 0
            simp only [List.getElem?_cons_zero] at q0
            have rr := r7.below hbK
            have hrr := hr7.below hbK
            cases hq : L.any fun x => x.dg == y with
            | true =>
              have hyR : y ∈ R := HIN.out (by
                obtain ⟨x, hx, e⟩ := List.any_eq_true.1 hq
                exact ⟨x, hx, eq_of_beq e⟩)
              have HH := Lib.hid (has_any _ _ _ L y _ rr true hq)
              clear hq
              go_wp2_with fail
              with_reducible refine HH.out.mono ?_
              rintro e wA ⟨rfl, hbA⟩
              have hrA := hrr.below hbA
              have hbL := below_step hbj hbA
              go_wp2_with fail
              with_reducible refine (containsT_any _ _ _ R y _ hrA true ⟨fun _ => hyR, fun _ => rfl⟩).mono ?_
              rintro e wB ⟨rfl, rfl⟩
              go_wp2
              go_roundw
              case rel => exact ⟨j + 1, by omega, by go_num, hbL⟩
              case measure => simp [intOf] <;> omega
            | false =>
              have HH := Lib.hid (has_any _ _ _ L y _ rr false hq)
              clear hq
              go_wp2_with fail
              with_reducible refine HH.out.mono ?_
              rintro e wA ⟨rfl, hbA⟩
              have hbL := below_step hbj hbA
              go_wp2
              go_roundw
              case rel => exact ⟨j + 1, by omega, by go_num, hbL⟩
              case measure => simp [intOf] <;> omega
          · have hd2 : decide ((j : Int) < (ps.length : Int)) = false := by rw [decide_eq_false_iff_not]; omega
            go_wp2
            go_roundw
            case rel => exact ⟨k + 1, by omega, by go_num, hbK⟩
            case measure => simp [intOf] <;> omega
      · have HC := Lib.hid (containsT_any _ _ _ R x.dg _ hrR false ⟨(fun q => by cases q), fun q => absurd q hin⟩)
        go_wp2_with fail
        with_reducible refine HC.out.mono ?_
        rintro e w8 ⟨rfl, rfl⟩
        go_wp2
        go_roundw
        case rel => exact ⟨k + 1, by omega, by go_num, hbj⟩
        case measure => simp [intOf] <;> omega
    · have hd2 : decide ((k : Int) < (L.length : Int)) = false := by rw [decide_eq_false_iff_not]; omega
      have hbZ := below_step hbF hbel
      go_wp2
      go_ret
      exact ⟨rfl, hbZ⟩
end Go.Proofs.YtkjgpljkmhjclaaGreat

/- The reference's StoreFault. -/
import Derived.Test.YtdbdigcpibmgjaaGreatDoorQZp
import Derived.Test.YtdbdigcpibmgjaaGreatDoorGR
import Derived.Test.YtdbdigcpibmgjaaGreatDoorGY
import Derived.Test.YtdbdigcpibmgjaaGreatDoorGW
import Derived.BigQuiet
import Derived.Deep.CutBlock
import Derived.Deep.CutRange
namespace Go.Proofs.YtdbdigcpibmgjaaGreatDoor
open Go.RowKit
theorem roomUsed_quiet (A : Option Addr) (n c : Nat) (l : List Bl) (w : World) (hr : KRd kBl w A n c l) :
    Calls Tryz.prog 73 #[.slice A n c] w fun e w' => e = .returned (.int .i64 (wrap64 (uS l))) ∧ w' = w :=
  (roomUsed_any A n c l w hr).mono fun _ _ ⟨h1, h2⟩ => ⟨h1, h2.symm⟩
set_option maxRecDepth 100000 in
set_option maxHeartbeats 4000000 in
theorem storeFault_any (A B : Option Addr) (n c m k : Nat) (l : List Bl) (es : List En) (rm ck : Int) (w : World) (hr : KRd kBl w A n c l) (he : KRd kEn w B m k es) (hgl : ∀ p ∈ l, p.good) (hge : ∀ p ∈ es, p.good) :
    Calls Tryz.prog 30 #[.agg #[.slice A n c, .slice B m k, .int .i64 rm, .int .i64 ck]] w fun e w' => e = .returned (.int .i64 (sErr ⟨l, es, rm, ck⟩)) ∧ Below w.heap.size w w' := by
  obtain rfl := hr.len
  obtain rfl := he.len
  have hcap := hr.cap
  have hcap2 := he.cap
  unfold maxLen at hcap hcap2
  obtain ⟨R, hR⟩ : ∃ R, sErr ⟨l, es, rm, ck⟩ = R := ⟨_, rfl⟩
  rw [hR]
  have hR' : (if bsErr l ≠ 0 then bsErr l else if xsErr es ≠ 0 then xsErr es else if rm < 0 ∨ 4000 < rm then 4 else if rm < wrap64 (uS l) then 7
    else if ck < 0 ∨ 1099511627776 < ck then 4 else if es.any (eBad ⟨l, es, rm, ck⟩) then 12 else 0) = R := hR
  have HR := Lib.hid hR'
  clear hR hR'
  have hal := (Below.refl w.heap.size w).alloc (Nat.le_refl _) (.cells #[.slice A l.length c, .slice B es.length k, .int .i64 rm, .int .i64 ck] 25)
  have hbk := Blk.new w 25 [.slice A l.length c, .slice B es.length k, .int .i64 rm, .int .i64 ck]
  have r1 := hr.below hal
  have s1 := he.below hal
  have HB := Lib.hid (blobsFault_any A l.length c l _ r1 hgl)
  have e0 := hbk.cell 0
  have e2 := hbk.cell 2
  simp only [List.getElem?_cons_succ, List.getElem?_cons_zero] at e0 e2
  have HX : Hid (∀ W : World, Below w.heap.size w W → Calls Tryz.prog 72 #[.slice B es.length k] W fun e w' => e = .returned (.int .i64 (xsErr es)) ∧ Below W.heap.size W w') := fun W hW => entriesFault_any B es.length k es W (he.below hW) hge
  clear hgl hge
  go_enter Tryz.func30, Tryz.ntmps30
  go_wp2_with fail
  with_reducible refine HB.out.mono ?_
  rintro e w2 ⟨rfl, hb2⟩
  have k2 := hbk.below hb2 hbk.lt
  have hbB := below_step hal hb2
  have f1 := k2.cell 1
  simp only [List.getElem?_cons_succ, List.getElem?_cons_zero] at f1
  have H1 := Lib.hid (hr.below hbB)
  have H2 := Lib.hid (he.below hbB)
  clear hbk r1 s1 hal e0 e2 hb2 HB
  by_cases p1 : bsErr l = 0
  · have d1 : (bsErr l != 0) = false := by rw [bne_eq_false_iff_eq]; exact p1
    have HR1 := HR.out
    rw [if_neg (by simpa using p1)] at HR1
    have HR := Lib.hid HR1
    clear HR1 p1
    go_wp2_with fail
    with_reducible refine (HX.out _ hbB).mono ?_
    rintro e w3 ⟨rfl, hb3⟩
    have k3 := k2.below hb3 k2.lt
    have r3 := H1.out.below hb3
    have s3 := H2.out.below hb3
    have hbC := below_step hbB hb3
    have g0 := k3.cell 0
    have g1 := k3.cell 1
    have g2 := k3.cell 2
    have g3 := k3.cell 3
    simp only [List.getElem?_cons_succ, List.getElem?_cons_zero] at g0 g1 g2 g3
    clear k2 H1 H2 hbB f1 hb3 HX
    by_cases p2 : xsErr es = 0
    · have d2 : (xsErr es != 0) = false := by rw [bne_eq_false_iff_eq]; exact p2
      have HR1 := HR.out
      rw [if_neg (by simpa using p2)] at HR1
      have HR := Lib.hid HR1
      clear HR1 p2
      have hno : ∀ {P Q : Prop} [Decidable P] [Decidable Q], ¬ (P ∨ Q) → ¬ P ∧ ¬ Q := fun h => ⟨fun q => h (.inl q), fun q => h (.inr q)⟩
      by_cases p3 : rm < 0
      · have d3 : decide (rm < 0) = true := by simpa using p3
        have HF : Hid (R = 4) := by show _ = _; rw [← HR.out, if_pos (.inl p3)]
        clear hno
        go_wp2
        go_ret
        exact ⟨ret_int HF.out.symm, hbC⟩
      · have d3 : decide (rm < 0) = false := by simpa using p3
        by_cases p4 : 4000 < rm
        · have d4 : decide (4000 < rm) = true := by simpa using p4
          have HF : Hid (R = 4) := by show _ = _; rw [← HR.out, if_pos (.inr p4)]
          clear hno
          go_wp2
          go_ret
          exact ⟨ret_int HF.out.symm, hbC⟩
        · have d4 : decide (4000 < rm) = false := by simpa using p4
          have HR1 := HR.out
          rw [if_neg (by omega)] at HR1
          have HR := Lib.hid HR1
          clear HR1 p3 p4 hno
          have HU := Lib.hid (fun W => roomUsed_quiet A l.length c l W)
          obtain ⟨U, hU⟩ : ∃ U, wrap64 (uS l) = U := ⟨_, rfl⟩
          rw [hU] at HR HU
          clear hU
          by_cases p5 : rm < U
          · have d5 : decide (rm < U) = true := by simpa using p5
            have HF : Hid (R = 7) := by show _ = _; rw [← HR.out, if_pos p5]
            clear p5
            go_upto_region 9 with fail
            go_quiet (first | (go_at_call 73; with_reducible exact Calls.quiet_of_same (HU.out _ (r3.below (below_drewN (Below.refl _ _) _)))))
            go_wp2
            go_ret
            exact ⟨ret_int HF.out.symm, below_drewN hbC _⟩
          · have d5 : decide (rm < U) = false := by simpa using p5
            have HR1 := HR.out
            rw [if_neg p5] at HR1
            have HR := Lib.hid HR1
            clear HR1 p5
            go_upto_region 9 with fail
            go_quiet (first | (go_at_call 73; with_reducible exact Calls.quiet_of_same (HU.out _ (r3.below (below_drewN (Below.refl _ _) _)))))
            have k4 := k3.drewN nq
            have r4 := r3.below (below_drewN (Below.refl w3.heap.size w3) nq)
            have s4 := s3.below (below_drewN (Below.refl w3.heap.size w3) nq)
            have hbD := below_drewN hbC nq
            clear k3 r3 s3 hbC g0 g1 g2 g3 HU
            generalize w3.drewN nq = w4 at *
            have g0 := k4.cell 0
            have g1 := k4.cell 1
            have g2 := k4.cell 2
            have g3 := k4.cell 3
            simp only [List.getElem?_cons_succ, List.getElem?_cons_zero] at g0 g1 g2 g3
            by_cases p6 : ck < 0
            · have d6 : decide (ck < 0) = true := by simpa using p6
              have HF : Hid (R = 4) := by show _ = _; rw [← HR.out, if_pos (.inl p6)]
              go_wp2
              go_ret
              exact ⟨ret_int HF.out.symm, hbD⟩
            · have d6 : decide (ck < 0) = false := by simpa using p6
              by_cases p7 : 1099511627776 < ck
              · have d7 : decide (1099511627776 < ck) = true := by simpa using p7
                have HF : Hid (R = 4) := by show _ = _; rw [← HR.out, if_pos (.inr p7)]
                go_wp2
                go_ret
                exact ⟨ret_int HF.out.symm, hbD⟩
              · have d7 : decide (1099511627776 < ck) = false := by simpa using p7
                have HR1 := HR.out
                rw [if_neg (by omega)] at HR1
                have HR := Lib.hid HR1
                clear HR1 p6 p7
                go_wp2_with fail
                go_loopw [44] (fun s wr => ∃ i : Nat, i ≤ es.length ∧ s = .int .i64 i ∧ Hid (∀ j (h : j < es.length), j < i → eBad ⟨l, es, rm, ck⟩ es[j] = false) ∧ Below w4.heap.size w4 wr) (fun s _ => es.length - (intOf s).toNat)
                case atStart => exact ⟨0, Nat.zero_le _, rfl, fun j _ h => absurd h (by omega), Below.refl _ _⟩
                case round =>
                  obtain ⟨i, hi, rfl, HA, hbel⟩ := hrel
                  by_cases hlt : i < es.length
                  · obtain ⟨b, off, D, dn, dc, rfl, hc0, hc1, hc2, hc3, hrD, hDn⟩ := (s4.below hbel).entry hlt
                    have hii : (i : Int) < (es.length : Int) := by omega
                    have HB : Hid (eBad ⟨l, es, rm, ck⟩ es[i] = (decide (ck < es[i].st) || !(pThere l es[i].ps == 0))) := rfl
                    have HAN : Hid (eBad ⟨l, es, rm, ck⟩ es[i] = false → ∀ j (h : j < es.length), j < i + 1 → eBad ⟨l, es, rm, ck⟩ es[j] = false) := fun q j h hj => by
                      rcases Nat.lt_or_eq_of_le (Nat.le_of_lt_succ hj) with p | p
                      · exact HA.out j h p
                      · subst p; exact q
                    have HAY : Hid (eBad ⟨l, es, rm, ck⟩ es[i] = true → R = 12) := fun q => by
                      rw [← HR.out, if_pos (List.any_eq_true.2 ⟨_, List.getElem_mem hlt, q⟩)]
                    obtain ⟨bad, hbad⟩ : ∃ bad, eBad ⟨l, es, rm, ck⟩ es[i] = bad := ⟨_, rfl⟩
                    rw [hbad] at HB HAN HAY
                    clear hbad HA
                    generalize es[i] = x at *
                    obtain ⟨ky, ps, pn, st⟩ := x
                    simp only at hc0 hc1 hc2 hc3 hrD HB
                    obtain rfl : dn = ps.length := hrD.plen
                    have hal2 := (Below.refl wr.heap.size wr).alloc (Nat.le_refl _) (.cells #[.string (str ky), .slice D ps.length dc, .int .i64 pn, .int .i64 st] 74)
                    have hbk2 := Blk.new wr 74 [.string (str ky), .slice D ps.length dc, .int .i64 pn, .int .i64 st]
                    have q1 := hbk2.cell 1
                    have q3 := hbk2.cell 3
                    have hbel2 := below_step hbel hal2
                    have k5 := k4.below hbel2 k4.lt
                    have t0 := k5.cell 0
                    have t3 := k5.cell 3
                    simp only [List.getElem?_cons_succ, List.getElem?_cons_zero] at q1 q3 t0 t3
                    have HPT := Lib.hid (partsThere_any _ _ _ l _ _ _ ps _ (r4.below hbel2) (hrD.below hal2))
                    clear hrD hbk2 k5 hal2
                    by_cases hst : ck < st
                    · have e1 : decide (ck < st) = true := by simpa using hst
                      have HF : Hid (R = 12) := HAY.out (by rw [HB.out, e1]; rfl)
                      go_wp2
                      go_ret
                      exact ⟨ret_int HF.out.symm, below_step hbD hbel2⟩
                    · have e1 : decide (ck < st) = false := by simpa using hst
                      by_cases hpt : pThere l ps = 0
                      · have e2 : (pThere l ps != 0) = false := by rw [bne_eq_false_iff_eq]; exact hpt
                        have HF := Lib.hid (HAN.out (by rw [HB.out, e1, hpt]; rfl))
                        clear hpt
                        go_wp2_with fail
                        with_reducible refine HPT.out.mono ?_
                        rintro e w6 ⟨rfl, hb6⟩
                        go_wp2
                        go_roundw
                        case rel => exact ⟨i + 1, by omega, by go_num, HF.out, below_step hbel2 hb6⟩
                        case measure => simp [intOf] <;> omega
                      · have e2 : (pThere l ps != 0) = true := by rw [bne_iff_ne]; exact hpt
                        have HF : Hid (R = 12) := HAY.out (by rw [HB.out, beq_eq_false_iff_ne.2 hpt]; simp)
                        clear hpt
                        go_wp2_with fail
                        with_reducible refine HPT.out.mono ?_
                        rintro e w6 ⟨rfl, hb6⟩
                        go_wp2
                        go_ret
                        exact ⟨ret_int HF.out.symm, below_step hbD (below_step hbel2 hb6)⟩
                  · have hd2 : decide ((i : Int) < (es.length : Int)) = false := by rw [decide_eq_false_iff_not]; omega
                    have HF : Hid (R = 0) := by
                      show _ = _
                      rw [← HR.out, if_neg]
                      intro q
                      obtain ⟨x, hx, hq⟩ := List.any_eq_true.1 q
                      obtain ⟨j, hj, rfl⟩ := List.mem_iff_getElem.1 hx
                      rw [HA.out j hj (by omega)] at hq
                      cases hq
                    go_wp2
                    go_ret
                    exact ⟨ret_int HF.out.symm, below_step hbD hbel⟩
    · have d2 : (xsErr es != 0) = true := by rw [bne_iff_ne]; exact p2
      have HF : Hid (xsErr es = R) := by show _ = _; rw [← HR.out, if_pos p2]
      go_wp2
      go_ret
      exact ⟨ret_int HF.out, hbC⟩
  · have d1 : (bsErr l != 0) = true := by rw [bne_iff_ne]; exact p1
    have HF : Hid (bsErr l = R) := by show _ = _; rw [← HR.out, if_pos p1]
    go_wp2
    go_ret
    exact ⟨ret_int HF.out, hbB⟩
end Go.Proofs.YtdbdigcpibmgjaaGreatDoor

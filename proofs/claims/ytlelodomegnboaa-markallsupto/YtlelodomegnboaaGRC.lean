/- Texts that belong together: what the functions of the program and of the statements return. -/
import Derived.Test.YtlelodomegnboaaGRB
import Derived.Test.YtlelodomegnboaaGRB
import Derived.Test.YtlelodomegnboaaGR
/- The parts of a blob, as the document has them: a plain function. Nothing of the program. -/
namespace Go.Proofs.Ytlelodomegnboaa
open Go.RowKit
/-- the parts of a blob, as the document has them -/
def pOf (b : Bl) : List (List UInt8) := pIn b.dt
theorem rAdd_no {l : List Bl} {met : List (List UInt8)} {d : List UInt8} (h : ¬ bAt l d < l.length) : rAdd l met d = met := by
  unfold rAdd; rw [if_neg (fun q => h q.1)]
theorem rAdd_has {l : List Bl} {met : List (List UInt8)} {d : List UInt8} (h : (met.any fun t => d == t) = true) : rAdd l met d = met := by
  unfold rAdd; rw [if_neg (fun q => by rw [h] at q; cases q.2)]
theorem rAdd_new {l : List Bl} {met : List (List UInt8)} {d : List UInt8} (h : bAt l d < l.length) (h2 : (met.any fun t => d == t) = false) : rAdd l met d = met ++ [d] := by
  unfold rAdd; rw [if_pos ⟨h, h2⟩]
theorem rAdds_step {l : List Bl} {met ds : List (List UInt8)} {k : Nat} (h : k < ds.length) : rAdds l met (ds.take (k + 1)) = rAdd l (rAdds l met (ds.take k)) ds[k] := by
  unfold rAdds; rw [List.take_succ_eq_append_getElem h, List.foldl_append]; rfl
end Go.Proofs.Ytlelodomegnboaa
/- The reference's ReachFrom. -/
namespace Go.Proofs.Ytlelodomegnboaa
open Go.RowKit
set_option maxRecDepth 100000 in
set_option maxHeartbeats 4000000 in
theorem reachFrom_any (A : Option Addr) (n c : Nat) (l : List Bl) (B : Option Addr) (m q : Nat) (ds : List (List UInt8)) (w : World) (hr : KRd kBl w A n c l) (hz : n * 56 ≤ 140737488351232) (hs : Rd w 1 B m q (ds.map sv)) :
    Calls Try.prog 18 #[.slice A n c, .slice B m q] w fun e w' => ∃ v, e = .returned v ∧ w'.ownsRow w.heap.size 9 1 v (ris (rFrom l pOf ds)).length ((ris (rFrom l pOf ds)).map sv) ∧ Below w.heap.size w w' := by
  obtain rfl := hr.len
  obtain rfl := hs.tlen
  obtain ⟨i0, hi0, hz0, hz1, hz2⟩ := info_parts str_info
  have hcap := hr.cap
  have hcm := hs.2.1
  have hcx := hs.2.2.1
  unfold maxLen at hcap hcx
  go_enter Try.func18, Try.ntmps18
  go_wp2
  go_loopw [5, 13] (fun v s wr => ∃ (k : Nat) (met : List (List UInt8)), k ≤ ds.length ∧ s = .int .i64 k ∧ wr.ownsRow w.heap.size 9 1 v met.length (met.map sv) ∧ Hid (met = rAdds l [] (ds.take k)) ∧ Below w.heap.size w wr) (fun _ s _ => ds.length - (intOf s).toNat)
  case atStart => exact ⟨0, [], Nat.zero_le _, rfl, World.ownsRow_nil _ _ _ _, rfl, Below.refl _ _⟩
  case round =>
    obtain ⟨k, met, hk, rfl, hown, HM, hbel⟩ := hrel
    have hml : met.length ≤ l.length := by rw [HM.out]; exact (Met.nil.adds (ds := ds.take k)).len
    obtain ⟨A1, c1, rfl, hr1, hA1, hF1⟩ := own_rdK hown
    by_cases hlt : k < ds.length
    · obtain ⟨b, off, rfl, hc0⟩ := (hs.below hbel).text hlt
      have hki : (k : Int) < (ds.length : Int) := by omega
      have HS : Hid (rAdds l [] (ds.take (k + 1)) = rAdd l met ds[k]) := by show _ = _; rw [rAdds_step hlt, HM.out]
      have hat := blobAt_any _ _ _ l ds[k] wr (hr.below hbel)
      have hle := bAt_le l ds[k]
      obtain ⟨K, hK⟩ : ∃ K, bAt l ds[k] = K := ⟨_, rfl⟩
      rw [hK] at hat hle
      have HK := Lib.hid hK
      have HAT := Lib.hid hat
      clear hK hat
      generalize ds[k] = d at *
      by_cases hb : K < l.length
      · have hbi : (K : Int) < (l.length : Int) := by omega
        cases hq : met.any fun t => d == t with
        | true =>
          have HI : Hid (met = rAdds l [] (ds.take (k + 1))) := by show _ = _; rw [HS.out, rAdd_has hq]
          have hh := holds_any _ _ _ met d wr hr1
          rw [hq] at hh
          have HH := Lib.hid hh
          clear hq hh
          go_wp2_with fail
          with_reducible refine HAT.out.mono ?_
          rintro e w2 ⟨rfl, rfl⟩
          go_wp2_with fail
          with_reducible refine HH.out.mono ?_
          rintro e w2 ⟨rfl, rfl⟩
          go_wp2
          go_roundw
          case rel => exact ⟨k + 1, met, by omega, by go_num, hown, HI.out, hbel⟩
          case measure => simp [intOf] <;> omega
        | false =>
          have HI : Hid (met ++ [d] = rAdds l [] (ds.take (k + 1))) := by show _ = _; rw [HS.out, rAdd_new (by rw [HK.out]; exact hb) hq]
          have hh := holds_any _ _ _ met d wr hr1
          rw [hq] at hh
          have HH := Lib.hid hh
          have hbz := hbel.size
          clear hq hh
          go_wp2_with fail
          with_reducible refine HAT.out.mono ?_
          rintro e w2 ⟨rfl, rfl⟩
          go_wp2_with fail
          with_reducible refine HH.out.mono ?_
          rintro e w2 ⟨rfl, rfl⟩
          go_wp2_with (at_builtin; refine wpList_append1' rfl (.tmp 29) (.tmp 31) _ rfl Try.underlying23 hi0 hz0 hz1 hz2 rfl (by omega) _ _ _ rfl hown [.string (str d)] rfl (by simp [Value.oneCell']) (by first | rfl | simp [Act.eval]) (by omega) (by unfold maxLen; omega) hbz ?_; rintro v3 w3 ⟨hown3, hb3, hs3, -⟩)
          go_roundw
          case rel => exact ⟨k + 1, met ++ [d], by omega, by go_num, own_snoc hown3, HI.out, hbel.trans hb3⟩
          case measure => simp [intOf] <;> omega
      · have hbi : ¬ (K : Int) < (l.length : Int) := by omega
        have d1 : decide ((K : Int) < (l.length : Int)) = false := by rw [decide_eq_false_iff_not]; exact hbi
        have HI : Hid (met = rAdds l [] (ds.take (k + 1))) := by show _ = _; rw [HS.out, rAdd_no (by rw [HK.out]; exact hb)]
        go_wp2_with fail
        with_reducible refine HAT.out.mono ?_
        rintro e w2 ⟨rfl, rfl⟩
        go_wp2
        go_roundw
        case rel => exact ⟨k + 1, met, by omega, by go_num, hown, HI.out, hbel⟩
        case measure => simp [intOf] <;> omega
    · have hd2 : decide ((k : Int) < (ds.length : Int)) = false := by rw [decide_eq_false_iff_not]; omega
      have HF : Hid (Met l met ∧ rGo l pOf (l.length + 1) met 0 = rFrom l pOf ds) := by
        have e : met = rAdds l [] ds := by rw [HM.out, List.take_of_length_le (by omega)]
        rw [e]
        exact ⟨Met.nil.adds, rfl⟩
      have hml2 : met.length ≤ l.length := HF.out.1.len
      clear HM hr1 hA1 hF1
      go_wp2_with fail
      rename World => wo
      go_loopw [5, 8] (fun v s wr => ∃ (i : Nat) (mt : List (List UInt8)), i ≤ mt.length ∧ s = .int .i64 i ∧ wr.ownsRow w.heap.size 9 1 v mt.length (mt.map sv) ∧ Hid (Met l mt ∧ rGo l pOf (l.length + 1 - i) mt i = rFrom l pOf ds) ∧ Below w.heap.size w wr) (fun _ s _ => l.length + 1 - (intOf s).toNat)
      case atStart => exact ⟨0, met, Nat.zero_le _, rfl, hown, HF.out, hbel⟩
      case round =>
        clear hown HF hml hml2 hbel hk hd2 hlt
        obtain ⟨i, mt, hi, rfl, hown, HR, hbel⟩ := hrel
        have hml : mt.length ≤ l.length := HR.out.1.len
        obtain ⟨A1, c1, rfl, hr1, hA1, hF1⟩ := own_rdK hown
        by_cases hlt : i < mt.length
        · obtain ⟨b, off, rfl, hc0⟩ := hr1.text hlt
          have hii : (i : Int) < (mt.length : Int) := by omega
          have hKl : bAt l mt[i] < l.length := HR.out.1.inl _ (List.getElem_mem hlt)
          obtain ⟨K, hK⟩ : ∃ K, bAt l mt[i] = K := ⟨_, rfl⟩
          rw [hK] at hKl
          have hrr := hr.below hbel
          have hat := blobAt_any _ _ _ l mt[i] wr hrr
          rw [hK] at hat
          have HAT := Lib.hid hat
          obtain ⟨bb, boff, D, dn, dc, rfl, ic0, ic1, ic2, ic3, hrD, -⟩ := hrr.blob hKl
          have HP : Hid (rPar l pOf mt[i] = pIn l[K].dt) := by show _ = _; unfold rPar pOf; rw [hK, getD_lt hKl]
          have HG : Hid (rGo l pOf (l.length + 1 - (i + 1)) (rAdds l mt (pIn l[K].dt)) (i + 1) = rFrom l pOf ds) := by
            show _ = _
            have := HR.out.2
            rw [show l.length + 1 - i = (l.length + 1 - (i + 1)) + 1 by omega, rGo_step hlt, HP.out] at this
            exact this
          have HM := Lib.hid HR.out.1
          have hpl := pIn_len l[K].dt
          have hKi : (K : Int) < (l.length : Int) := by omega
          have hPI := partsIn_any l[K] D dn dc wr hrD
          have HPI := Lib.hid hPI
          clear hK hat hrr hPI HP HR hrD
          obtain ⟨ps, hps⟩ : ∃ ps, pIn l[K].dt = ps := ⟨_, rfl⟩
          rw [hps] at HG HPI hpl
          clear hps
          generalize mt[i] = d at *
          generalize l[K] = x at *
          go_wp2_with fail
          with_reducible refine HAT.out.mono ?_
          rintro e w2 ⟨rfl, rfl⟩
          go_wp2_with fail
          with_reducible refine HPI.out.mono ?_
          rintro e w3 ⟨v3, rfl, hown3, hb3⟩
          obtain ⟨A3, c3, rfl, hr3, hA3, hF3⟩ := own_rdK hown3
          have hownB := own_below hown hb3
          have hbelB := below_step hbel hb3
          have hne3 : ∀ a : Addr, A3 = some a → (Value.slice (some ⟨b, off, none⟩) mt.length c1).ownBlock ≠ some a.block := fun a h q => by
            have h1 := (hF3 a h).1
            have h2 := (hown.lt _ q).2
            omega
          have hcp := hr3.2.1
          have hcq := hr3.2.2.1
          unfold maxLen at hcq
          clear hc0 ic0 ic1 ic2 ic3 HAT HPI hown3 hr1 hA1 hF1 hF3
          go_wp2_with fail
          rename World => wo2
          go_loopw [5, 51] (fun v s wr => ∃ (j : Nat) (m2 : List (List UInt8)), j ≤ ps.length ∧ s = .int .i64 j ∧ wr.ownsRow w.heap.size 9 1 v m2.length (m2.map sv) ∧ Hid (m2 = rAdds l mt (ps.take j)) ∧ Rd wr 1 A3 ps.length c3 (ps.map sv) ∧ Hid (∀ a : Addr, A3 = some a → v.ownBlock ≠ some a.block) ∧ Below w.heap.size w wr) (fun _ s _ => ps.length - (intOf s).toNat)
          case atStart => exact ⟨0, mt, Nat.zero_le _, rfl, hownB, rfl, hr3, hne3, hbelB⟩
          case round =>
            clear hownB hr3 hne3 hbelB hown hbel hb3 hml
            obtain ⟨j, m2, hj, rfl, hown, HI, hr3, HNE, hbel⟩ := hrel
            have hml : m2.length ≤ l.length := by rw [HI.out]; exact (HM.out.adds (ds := ps.take j)).len
            obtain ⟨A1, c1, rfl, hr1, hA1, hF1⟩ := own_rdK hown
            by_cases hlt2 : j < ps.length
            · obtain ⟨b3, off3, rfl, hc0⟩ := hr3.text hlt2
              have hji : (j : Int) < (ps.length : Int) := by omega
              have HS : Hid (rAdds l mt (ps.take (j + 1)) = rAdd l m2 ps[j]) := by show _ = _; rw [rAdds_step hlt2, HI.out]
              have hat := blobAt_any _ _ _ l ps[j] wr (hr.below hbel)
              have hle := bAt_le l ps[j]
              obtain ⟨J, hJ⟩ : ∃ J, bAt l ps[j] = J := ⟨_, rfl⟩
              rw [hJ] at hat hle
              have HJ := Lib.hid hJ
              have HAT := Lib.hid hat
              clear hJ hat
              generalize ps[j] = y at *
              by_cases hb : J < l.length
              · have hbi : (J : Int) < (l.length : Int) := by omega
                cases hq : m2.any fun t => y == t with
                | true =>
                  have HI2 : Hid (m2 = rAdds l mt (ps.take (j + 1))) := by show _ = _; rw [HS.out, rAdd_has hq]
                  have hh := holds_any _ _ _ m2 y wr hr1
                  rw [hq] at hh
                  have HH := Lib.hid hh
                  clear hq hh
                  go_wp2_with fail
                  with_reducible refine HAT.out.mono ?_
                  rintro e w2 ⟨rfl, rfl⟩
                  go_wp2_with fail
                  with_reducible refine HH.out.mono ?_
                  rintro e w2 ⟨rfl, rfl⟩
                  go_wp2
                  go_roundw
                  case rel => exact ⟨j + 1, m2, by omega, by go_num, hown, HI2.out, hr3, HNE.out, hbel⟩
                  case measure => simp [intOf] <;> omega
                | false =>
                  have HI2 : Hid (m2 ++ [y] = rAdds l mt (ps.take (j + 1))) := by show _ = _; rw [HS.out, rAdd_new (by rw [HJ.out]; exact hb) hq]
                  have hh := holds_any _ _ _ m2 y wr hr1
                  rw [hq] at hh
                  have HH := Lib.hid hh
                  have hbz := hbel.size
                  clear hq hh
                  go_wp2_with fail
                  with_reducible refine HAT.out.mono ?_
                  rintro e w2 ⟨rfl, rfl⟩
                  go_wp2_with fail
                  with_reducible refine HH.out.mono ?_
                  rintro e w2 ⟨rfl, rfl⟩
                  go_wp2_with (at_builtin; refine wpList_append1' rfl (.tmp 67) (.tmp 69) _ rfl Try.underlying23 hi0 hz0 hz1 hz2 rfl (by omega) _ _ _ rfl hown [.string (str y)] rfl (by simp [Value.oneCell']) (by first | rfl | simp [Act.eval]) (by omega) (by unfold maxLen; omega) hbz ?_; rintro v4 w4 ⟨hown4, hb4, hs4, hoth⟩)
                  have HO := Lib.hid hoth
                  clear hoth
                  go_roundw
                  case rel =>
                    have hb3l : b3 < wr.heap.size := cell_lt (p := ⟨b3, off3 + j, none⟩) hc0
                    have hlt3 : ∀ a : Addr, some (⟨b3, off3, none⟩ : Addr) = some a → a.block < wr.heap.size := fun a h => by cases h; exact hb3l
                    exact ⟨j + 1, m2 ++ [y], by omega, by go_num, own_snoc hown4, HI2.out, hr3.keepLt fun a e hlt => (HO.out a.block hlt (HNE.out a e)).2, fun a e => (HO.out a.block (hlt3 a e) (HNE.out a e)).1, hbel.trans hb4⟩
                  case measure => simp [intOf] <;> omega
              · have hbi : ¬ (J : Int) < (l.length : Int) := by omega
                have d1 : decide ((J : Int) < (l.length : Int)) = false := by rw [decide_eq_false_iff_not]; exact hbi
                have HI2 : Hid (m2 = rAdds l mt (ps.take (j + 1))) := by show _ = _; rw [HS.out, rAdd_no (by rw [HJ.out]; exact hb)]
                go_wp2_with fail
                with_reducible refine HAT.out.mono ?_
                rintro e w2 ⟨rfl, rfl⟩
                go_wp2
                go_roundw
                case rel => exact ⟨j + 1, m2, by omega, by go_num, hown, HI2.out, hr3, HNE.out, hbel⟩
                case measure => simp [intOf] <;> omega
            · have hd2 : decide ((j : Int) < (ps.length : Int)) = false := by rw [decide_eq_false_iff_not]; omega
              have hfin : m2 = rAdds l mt ps := by rw [HI.out, List.take_of_length_le (by omega)]
              have hpre := (rAdds_pre (l := l) ps mt).length_le
              have HG2 : Hid (Met l m2 ∧ rGo l pOf (l.length + 1 - (i + 1)) m2 (i + 1) = rFrom l pOf ds) := by
                rw [hfin]
                exact ⟨HM.out.adds, HG.out⟩
              have hil : i + 1 ≤ m2.length := by rw [hfin]; omega
              clear hfin hpre HI HM HG
              go_wp2
              go_roundw
              case rel => exact ⟨i + 1, m2, hil, by go_num, hown, HG2.out, hbel⟩
              case measure => simp [intOf] <;> omega
        · have hd2 : decide ((i : Int) < (mt.length : Int)) = false := by rw [decide_eq_false_iff_not]; omega
          have HE : Hid (mt = rFrom l pOf ds) := by show _ = _; rw [← HR.out.2, rGo_end hlt]
          have hri := rising_any _ _ _ mt wr hr1 (by omega)
          have HRI := Lib.hid hri
          have hbz := hbel.size
          clear hri HR
          go_wp2_with fail
          with_reducible refine HRI.out.mono ?_
          rintro e w2 ⟨v2, rfl, hown2, hb2⟩
          go_wp2
          go_ret
          exact ⟨_, rfl, by rw [← HE.out]; exact own_base hown2 hbz, below_step hbel hb2⟩
end Go.Proofs.Ytlelodomegnboaa

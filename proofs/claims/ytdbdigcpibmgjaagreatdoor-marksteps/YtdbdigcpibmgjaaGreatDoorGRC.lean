/- Texts that belong together: what the functions of the program and of the statements return. -/
import Derived.Test.YtdbdigcpibmgjaaGreatDoorGRB
import Derived.Test.YtdbdigcpibmgjaaGreatDoorGRB
import Derived.Test.YtdbdigcpibmgjaaGreatDoorGR
import Derived.Deep.RegionHeldLaw
/- The parts of a blob, as the document has them: a plain function. Nothing of the program. -/
namespace Go.Proofs.YtdbdigcpibmgjaaGreatDoor
open Go.RowKit
/-- the parts of a blob, as the document has them -/
def pOf (b : Bl) : List (List UInt8) := pIn b.dt
theorem rAdd_no {l : List Bl} {met : List (List UInt8)} {d : List UInt8} (h : ¬ bAt l d < l.length) : rAdd l met d = met := by
  unfold rAdd; rw [if_neg (fun q => h q.1)]
theorem rAdd_has {l : List Bl} {met : List (List UInt8)} {d : List UInt8} (h : (met.any fun t => d == t) = true) : rAdd l met d = met := by
  unfold rAdd; rw [if_neg (fun q => by rw [h] at q; cases q.2)]
theorem rAdd_new {l : List Bl} {met : List (List UInt8)} {d : List UInt8} (h : bAt l d < l.length) (h2 : (met.any fun t => d == t) = false) : rAdd l met d = met ++ [d] := by
  unfold rAdd; rw [if_pos ⟨h, h2⟩]
theorem rAdds_step {l : List Bl} {met ds : List (List UInt8)} {k : Nat} (h : k < ds.length) : rAdds l met (ds.take (k + 1)) = rAdd l (rAdds l met (ds.take k)) ds[k] := by
  unfold rAdds; rw [List.take_succ_eq_append_getElem h, List.foldl_append]; rfl
end Go.Proofs.YtdbdigcpibmgjaaGreatDoor
/- The reference's ReachRoots. -/
namespace Go.Proofs.YtdbdigcpibmgjaaGreatDoor
open Go.RowKit
set_option maxRecDepth 100000 in
set_option maxHeartbeats 4000000 in
theorem reachRoots_any (A B : Option Addr) (n c m k : Nat) (l : List Bl) (es : List En) (rm ck : Int) (w : World) (hr : KRd kBl w A n c l) (he : KRd kEn w B m k es) (hT : (roots l es).length * 16 ≤ 140737488351232) :
    Calls Tryz.prog 32 #[.agg #[.slice A n c, .slice B m k, .int .i64 rm, .int .i64 ck]] w fun e w' => ∃ v, e = .returned v ∧ w'.ownsRow w.heap.size 9 1 v (ris (roots l es)).length ((ris (roots l es)).map sv) ∧ Below w.heap.size w w' := by
  obtain rfl := hr.len
  obtain rfl := he.len
  obtain ⟨i0, hi0, hz0, hz1, hz2⟩ := info_parts str_info
  have hcap := hr.cap
  have hcap2 := he.cap
  unfold maxLen at hcap hcap2
  have HT := Lib.hid hT
  clear hT
  have hal := (Below.refl w.heap.size w).alloc (Nat.le_refl _) (.cells #[.slice A l.length c, .slice B es.length k, .int .i64 rm, .int .i64 ck] 25)
  have hbk := Blk.new w 25 [.slice A l.length c, .slice B es.length k, .int .i64 rm, .int .i64 ck]
  have hr0 := hr.below hal
  have he0 := he.below hal
  have e0 := hbk.cell 0
  simp only [List.getElem?_cons_zero] at e0
  clear hr he
  go_enter Tryz.func32, Tryz.ntmps32
  go_wp2
  generalize hWW : w.alloc (.cells [Value.slice A l.length c, Value.slice B es.length k, Value.int .i64 rm, Value.int .i64 ck].toArray 25) = u at *
  clear hWW
  go_loopw [3, 13] (fun v s wr => ∃ i : Nat, i ≤ l.length ∧ s = .int .i64 i ∧ wr.ownsRow u.heap.size 9 1 v (bRoots (l.take i)).length ((bRoots (l.take i)).map sv) ∧ Below u.heap.size u wr) (fun _ s _ => l.length - (intOf s).toNat)
  case atStart => exact ⟨0, Nat.zero_le _, rfl, World.ownsRow_nil _ _ _ _, Below.refl _ _⟩
  case round =>
    obtain ⟨i, hi, rfl, hown, hbel⟩ := hrel
    by_cases hlt : i < l.length
    · obtain ⟨b, off, D, dn, dc, rfl, hc0, hc1, hc2, hc3, -, -⟩ := (hr0.below hbel).blob hlt
      have hii : (i : Int) < (l.length : Int) := by omega
      have HS := Lib.hid (bRoots_step hlt)
      have hpre := bRoots_pre l i
      have hll : (bRoots l).length ≤ (roots l es).length := by unfold roots; rw [List.length_append]; omega
      have hlen : (bRoots (l.take i)).length * 16 ≤ 140737488351232 := by have := HT.out; omega
      clear hpre hll
      generalize bRoots (l.take i) = out at *
      generalize l[i] = x at *
      have hal2 := (Below.refl wr.heap.size wr).alloc (Nat.le_refl _) (.cells #[.string (str x.dg), .slice D dn dc, .int .i64 x.pn, .bool x.mr] 45)
      have hbk2 := Blk.new wr 45 [.string (str x.dg), .slice D dn dc, .int .i64 x.pn, .bool x.mr]
      have f0 := hbk2.cell 0
      have f2 := hbk2.cell 2
      simp only [List.getElem?_cons_succ, List.getElem?_cons_zero] at f0 f2
      have hown2 := own_below hown hal2
      have hbel2 := below_step hbel hal2
      have hbz := hbel2.size
      by_cases hp : 0 < x.pn
      · have HI : Hid (bRoots (l.take (i + 1)) = out ++ [x.dg]) := by show _ = _; rw [HS.out, if_pos hp]
        go_wp2_with (at_builtin; refine wpList_append1' rfl (.tmp 20) (.tmp 23) _ rfl Tryz.underlying26 hi0 hz0 hz1 hz2 rfl (by omega) _ _ _ rfl hown2 [.string (str x.dg)] rfl (by simp [Value.oneCell']) (by first | rfl | simp [Act.eval]) (by omega) (by unfold maxLen; omega) hbz ?_; rintro v3 w3 ⟨hown3, hb3, hs3, -⟩)
        go_roundw
        case rel => exact ⟨i + 1, by omega, by go_num, by rw [HI.out]; exact own_snoc hown3, hbel2.trans hb3⟩
        case measure => simp [intOf] <;> omega
      · have HI : Hid (bRoots (l.take (i + 1)) = out) := by show _ = _; rw [HS.out, if_neg hp, List.append_nil]
        have d1 : decide (0 < x.pn) = false := by rw [decide_eq_false_iff_not]; exact hp
        go_wp2
        go_roundw
        case rel => exact ⟨i + 1, by omega, by go_num, by rw [HI.out]; exact hown2, hbel2⟩
        case measure => simp [intOf] <;> omega
    · have hd2 : decide ((i : Int) < (l.length : Int)) = false := by rw [decide_eq_false_iff_not]; omega
      rw [List.take_of_length_le (by omega)] at hown
      have hbkr := hbk.below hbel hbk.lt
      have e1 := hbkr.cell 1
      simp only [List.getElem?_cons_succ, List.getElem?_cons_zero] at e1
      go_wp2_with fail
      clear hi hd2 hlt e0
      rename World => wo
      go_loopw [3, 29] (fun v s wr => ∃ i : Nat, i ≤ es.length ∧ s = .int .i64 i ∧ wr.ownsRow u.heap.size 9 1 v (bRoots l ++ eRoots (es.take i)).length ((bRoots l ++ eRoots (es.take i)).map sv) ∧ Below u.heap.size u wr) (fun _ s _ => es.length - (intOf s).toNat)
      case atStart => exact ⟨0, Nat.zero_le _, rfl, by rw [List.take_zero, show eRoots [] = [] from rfl, List.append_nil]; exact hown, hbel⟩
      case round =>
        clear hown hbel hbkr e1
        obtain ⟨i, hi, rfl, hown, hbel⟩ := hrel
        by_cases hlt : i < es.length
        · obtain ⟨b, off, D, dn, dc, rfl, uc0, uc1, uc2, uc3, hrD, hDn⟩ := he0.entry hlt
          have hc0 := (hbel.cell (p := ⟨b, off + i * 4, none⟩) (cell_lt uc0)).trans uc0
          have hc1 := (hbel.cell (p := ⟨b, off + i * 4 + 1, none⟩) (cell_lt uc1)).trans uc1
          have hc2 := (hbel.cell (p := ⟨b, off + i * 4 + 2, none⟩) (cell_lt uc2)).trans uc2
          have hc3 := (hbel.cell (p := ⟨b, off + i * 4 + 3, none⟩) (cell_lt uc3)).trans uc3
          clear uc0 uc1 uc2 uc3
          have hii : (i : Int) < (es.length : Int) := by omega
          have HS := Lib.hid (eRoots_step hlt)
          have hpre := eRoots_pre es (i + 1)
          have hlen : (bRoots l ++ eRoots (es.take i)).length + es[i].ps.length ≤ (roots l es).length := by
            rw [eRoots_step hlt, List.length_append, List.length_map] at hpre
            unfold roots
            rw [List.length_append, List.length_append]; omega
          have hlen2 : ((bRoots l ++ eRoots (es.take i)).length + es[i].ps.length) * 16 ≤ 140737488351232 := by have := HT.out; omega
          have HF : Hid (bRoots l ++ eRoots (es.take (i + 1)) = (bRoots l ++ eRoots (es.take i)) ++ es[i].ps.map Prt.dg) := by show _ = _; rw [HS.out, List.append_assoc]
          clear hpre hlen HS
          generalize bRoots l ++ eRoots (es.take i) = out at *
          generalize es[i] = x at *
          obtain ⟨ky, ps, pn, st⟩ := x
          simp only at hc0 hc1 hc2 hc3 hrD hlen2 HF
          obtain rfl : dn = ps.length := hrD.plen
          have hpc := hrD.2.1
          have hpm := hrD.2.2.1
          unfold maxLen at hpm
          have hal2 := (Below.refl wr.heap.size wr).alloc (Nat.le_refl _) (.cells #[.string (str ky), .slice D ps.length dc, .int .i64 pn, .int .i64 st] 74)
          have hbk2 := Blk.new wr 74 [.string (str ky), .slice D ps.length dc, .int .i64 pn, .int .i64 st]
          have f1 := hbk2.cell 1
          simp only [List.getElem?_cons_succ, List.getElem?_cons_zero] at f1
          have hown2 := own_below hown hal2
          have hbel2 := below_step hbel hal2
          go_wp2_with fail
          rename World => wo2
          clear hc0 hc1 hc2 hc3 f1 hbk2 hown
          go_loopw [3, 36] (fun v s wr => ∃ j : Nat, j ≤ ps.length ∧ s = .int .i64 j ∧ wr.ownsRow u.heap.size 9 1 v (out ++ (ps.take j).map Prt.dg).length ((out ++ (ps.take j).map Prt.dg).map sv) ∧ Below u.heap.size u wr) (fun _ s _ => ps.length - (intOf s).toNat)
          case atStart => exact ⟨0, Nat.zero_le _, rfl, by rw [List.take_zero, List.map_nil, List.append_nil]; exact hown2, hbel2⟩
          case round =>
            clear hown2 hbel2 hbel hal2
            obtain ⟨j, hj, rfl, hown, hbel⟩ := hrel
            by_cases hlt2 : j < ps.length
            · obtain ⟨b2, off2, rfl, c0, c1, c2⟩ := (hrD.below hbel).part hlt2
              have hji : (j : Int) < (ps.length : Int) := by omega
              have HS : Hid (out ++ (ps.take (j + 1)).map Prt.dg = (out ++ (ps.take j).map Prt.dg) ++ [ps[j].dg]) := by
                show _ = _
                rw [List.take_succ_eq_append_getElem hlt2, List.map_append, List.append_assoc]; rfl
              have hlo : (out ++ (ps.take j).map Prt.dg).length < out.length + ps.length := by rw [List.length_append, List.length_map, List.length_take]; omega
              generalize out ++ (ps.take j).map Prt.dg = o2 at *
              generalize ps[j] = y at *
              have hal3 := (Below.refl wr.heap.size wr).alloc (Nat.le_refl _) (.cells #[.string (str y.nm), .string (str y.dg), .int .i64 y.sz] 97)
              have g1 := (Blk.new wr 97 [.string (str y.nm), .string (str y.dg), .int .i64 y.sz]).cell 1
              simp only [List.getElem?_cons_succ, List.getElem?_cons_zero] at g1
              have hown2 := own_below hown hal3
              have hbel2 := below_step hbel hal3
              have hbz := hbel2.size
              go_wp2_with (at_builtin; refine wpList_append1' rfl (.tmp 40) (.tmp 43) _ rfl Tryz.underlying26 hi0 hz0 hz1 hz2 rfl (by omega) _ _ _ rfl hown2 [.string (str y.dg)] rfl (by simp [Value.oneCell']) (by first | rfl | simp [Act.eval]) (by omega) (by unfold maxLen; omega) hbz ?_; rintro v3 w3 ⟨hown3, hb3, hs3, -⟩)
              go_roundw
              case rel => exact ⟨j + 1, by omega, by go_num, by rw [HS.out]; exact own_snoc hown3, hbel2.trans hb3⟩
              case measure => simp [intOf] <;> omega
            · have hd2 : decide ((j : Int) < (ps.length : Int)) = false := by rw [decide_eq_false_iff_not]; omega
              rw [List.take_of_length_le (by omega), ← HF.out] at hown
              go_wp2
              go_roundw
              case rel => exact ⟨i + 1, by omega, by go_num, hown, hbel⟩
              case measure => simp [intOf] <;> omega
        · have hd2 : decide ((i : Int) < (es.length : Int)) = false := by rw [decide_eq_false_iff_not]; omega
          rw [List.take_of_length_le (by omega)] at hown
          obtain ⟨R, hR⟩ : ∃ R, roots l es = R := ⟨_, rfl⟩
          have hown1 : wr.ownsRow u.heap.size 9 1 u3 R.length (R.map sv) := by rw [← hR]; exact hown
          have hTR : R.length * 16 ≤ 140737488351232 := by rw [← hR]; exact HT.out
          have HRR := Lib.hid hR
          obtain ⟨A1, c1, rfl, hr1, hA1, hF1⟩ := own_rdK hown1
          have HRI := Lib.hid (rising_any _ _ _ R wr hr1 (by omega))
          clear hown hown1 hTR hR
          have hbz := Nat.le_trans hal.size hbel.size
          have hbZ := below_step hal hbel
          go_wp2_with fail
          with_reducible refine HRI.out.mono ?_
          rintro e w2 ⟨v2, rfl, hown2, hb2⟩
          go_wp2
          go_ret
          exact ⟨_, rfl, by rw [HRR.out]; exact own_base hown2 hbz, below_step hbZ hb2⟩
end Go.Proofs.YtdbdigcpibmgjaaGreatDoor

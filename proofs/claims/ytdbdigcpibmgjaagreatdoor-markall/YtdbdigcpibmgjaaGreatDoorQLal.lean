/- The landed mark: All. -/
import Derived.Test.YtdbdigcpibmgjaaGreatDoorGRD
import Derived.Test.YtdbdigcpibmgjaaGreatDoorQMfd
import Derived.Test.YtdbdigcpibmgjaaGreatDoorGMA
import Derived.Test.YtdbdigcpibmgjaaGreatDoorGQ
namespace Go.Proofs.YtdbdigcpibmgjaaGreatDoor
open Go.RowKit Go.Maps
theorem metF_cut (M : List (List UInt8)) (d s : List UInt8) {M' : List (List UInt8)} (h : ∀ s, s ∈ M' ↔ s ∈ M ∧ ¬ (s = d)) : (if s = d then none else metF M s) = metF M' s := by
  unfold metF
  by_cases q : s = d
  · rw [if_pos q, if_neg (fun r => ((h s).1 r).2 q)]
  · rw [if_neg q]
    by_cases r : s ∈ M
    · rw [if_pos r, if_pos ((h s).2 ⟨r, q⟩)]
    · rw [if_neg r, if_neg (fun z => r ((h s).1 z).1)]
theorem metF_same {M M' : List (List UInt8)} (h : ∀ s, s ∈ M' ↔ s ∈ M) (s : List UInt8) : metF M s = metF M' s := by
  unfold metF
  by_cases r : s ∈ M
  · rw [if_pos r, if_pos ((h s).2 r)]
  · rw [if_neg r, if_neg (fun z => r ((h s).1 z))]
theorem rd_grown {w w' : World} {b size n c : Nat} {A : Option Addr} {xs : List Value} (h : Rd w size A n c xs) (hg : w.grownBy w' (some b)) (hb : ∀ a : Addr, A = some a → a.block ≠ b) : Rd w' size A n c xs :=
  h.keepLt fun a e hlt => hg.block a.block hlt (fun q => hb a e (by injection q))
theorem KOwn.grown {α η : Type} {K : Kin α η} {w w' : World} {base b : Nat} {e : TypeId} {v : Value} {l : List α} (h : KOwn K w base e v l) (hg : w.grownBy w' (some b)) (hb : b < base) : KOwn K w' base e v l := by
  obtain ⟨hs, rfl, hk⟩ := h.kh
  exact (hk.keep hg.size fun k hr => hg.block k (hk.ge hr).2 (fun q => by
    have e : k = b := by injection q
    have := (hk.ge hr).1
    omega)).own
theorem map_len4 {α β : Type} {f : α → β} {l : List α} {m : List β} (h : l.map f = m) : l.length = m.length := by rw [← h, List.length_map]
/-- digests that are come to are those of blobs -/
theorem from_dgs {l : List Bl} (h : ∀ b ∈ l, b.dg.length ≤ maxLen) {ds : List (List UInt8)} : ∀ d ∈ ris (rFrom l pOf ds), d.length ≤ maxLen := fun d hd => by
  have hr : Rch l pOf ds d := (rFrom_rch _ _).1 (ris_mem.1 hd)
  have hb : bAt l d < l.length := by
    cases hr with
    | here _ h => exact h
    | next _ _ h => exact h
  obtain ⟨b, hb', rfl⟩ := bAt_lt.1 hb
  exact h b hb'
theorem from_len (l : List Bl) (ds : List (List UInt8)) : (ris (rFrom l pOf ds)).length ≤ l.length := by
  have h1 := ris_length (rFrom l pOf ds)
  have h2 := (rFrom_met (l := l) (P := pOf) ds).len
  omega
set_option maxRecDepth 100000 in
set_option maxHeartbeats 4000000 in
theorem lMAll_any (A : Option Addr) (n c : Nat) (l : List Bl) (B : Option Addr) (m q : Nat) (ds : List (List UInt8)) (w : World) (hr : KRd kBl w A n c l) (hz : n * 56 ≤ 140737488351232) (hg : ∀ p ∈ l, p.good) (hs : Rd w 1 B m q (ds.map sv)) (hB : B = none → q = 0)
    (hgd : ∀ d ∈ ds, d.length ≤ maxLen) (hroom : (ds.length + 8 * l.length) * 16 ≤ 140737488351232) :
    Calls Tryz.prog 21 #[.slice A n c, .slice B m q] w fun e w' => ∃ v, e = .returned v ∧ KOwn kBl w' w.heap.size 45 v (mAll l ds) ∧ Below w.heap.size w w' := by
  obtain rfl := hr.len
  have hcap := hr.cap
  unfold maxLen at hcap
  have hgl : ∀ b ∈ l, b.dg.length ≤ maxLen := fun b hb => (hg b hb).1
  have hal := (Below.refl w.heap.size w).alloc (Nat.le_refl _) (.map #[] 0)
  have hm0 := (MapF.made w).congr (g := metF []) fun s => rfl
  have hmk := @run_makeMap Tryz.prog
  have HF := Lib.hid (gives_ex (rfrom_any A l.length c l B m q ds _ (hr.below hal) hz (hs.below hal) hB hgl hgd hroom))
  have HC := Lib.hid (fun (W : World) (hb : Below w.heap.size w W) => bcopy_any A l.length c l W (hr.below hb) hg hz)
  have hVd := from_dgs hgl (ds := ds)
  have hVl := from_len l ds
  have HX : Hid (mAll l ds = mOn (ris (rFrom l pOf ds)) l l.length) := rfl
  generalize ris (rFrom l pOf ds) = V at *
  generalize mAll l ds = X at *
  have HVD := Lib.hid hVd
  have HGL := Lib.hid hgl
  obtain ⟨bm, hbm⟩ : ∃ bm, w.heap.size = bm := ⟨_, rfl⟩
  clear hr hs hB hgd hroom hg hVd hgl
  go_enter Tryz.func21, Tryz.ntmps21
  go_wp2_with fail
  with_reducible refine HF.out.mono ?_
  rintro e w1 ⟨v1, rfl, hown1, hb1⟩
  clear hmk HF
  obtain ⟨A1, c1, rfl, hr1, hA1, hF1⟩ := own_rdK hown1
  have hm1 := hm0.below hb1
  have hbA := below_step hal hb1
  have hz1 := hb1.size
  simp only [World.size_alloc] at hz1
  have hne1 : ∀ a : Addr, A1 = some a → a.block ≠ bm := fun a e => by
    have := (hF1 a e).1
    simp only [World.size_alloc] at this
    omega
  have hV16 := hr1.2.2.1
  rw [hbm] at hm1
  clear hown1 hF1 hm0 hal hb1
  go_wp2_with fail
  go_loopw [16] (fun s wr => ∃ i : Nat, i ≤ V.length ∧ s = .int .i64 i ∧ MapF wr bm i (metF (V.take i)) ∧ Rd wr 1 A1 V.length c1 (V.map sv) ∧ Below w.heap.size w wr) (fun s _ => V.length - (intOf s).toNat)
  case atStart => exact ⟨0, Nat.zero_le _, rfl, hm1, hr1, hbA⟩
  case round =>
    clear hm1 hr1 hbA
    obtain ⟨i, hi, rfl, hm, hrV, hbel⟩ := hrel
    by_cases hlt : i < V.length
    · obtain ⟨b1, off1, rfl, hd0⟩ := hrV.text hlt
      have hii : (i : Int) < (V.length : Int) := by omega
      have HS : Hid (V.take (i + 1) = V.take i ++ [V[i]]) := List.take_succ_eq_append_getElem hlt
      have hvd := HVD.out _ (List.getElem_mem hlt)
      have hi16 : i < 140737488355328 := by omega
      generalize V[i] = d at *
      obtain ⟨w4, hupd, hm4, hg4⟩ := hm.update Tryz.underlying84 (by unfold maxLen; omega) hvd (.bool true)
      have hm5 := hm4.congr fun s => metF_add (V.take i) d s
      have hb5 := hbel.grown hg4 hbel.size (fun q e => by injection e with e; omega)
      have hr5 := rd_grown hrV hg4 hne1
      clear hm4 hg4 hm hbel hrV
      go_wp2
      go_roundw
      case rel => exact ⟨i + 1, by omega, by go_num, by rw [HS.out]; exact hm5, hr5, hb5⟩
      case measure => simp [intOf] <;> omega
    · have hd2 : decide ((i : Int) < (V.length : Int)) = false := by rw [decide_eq_false_iff_not]; omega
      rw [List.take_of_length_le (by omega)] at hm
      have hm' := (hm.mono hi).congr fun s => metF_same (M' := mLeft V l 0) (by intro s; rw [mLeft_zero]) s
      clear hrV hm
      have hbml := hm'.lt
      go_wp2_with fail
      with_reducible refine (HC.out _ hbel).mono ?_
      rintro e w3 ⟨g, hs3, rfl, hmap3, hkb3, hb3⟩
      have hm3 := hm'.below hb3
      have hO3 := (hkb3.kh (by have := map_len4 hmap3; unfold maxLen; omega)).own
      rw [hmap3, map_len4 hmap3] at hO3
      have hbB := below_step hbel hb3
      have hgb := hkb3.ge
      clear hkb3 hm' hbel hb3 HC
      go_wp2_with fail
      clear hi hd2 hlt
      rename World => wo
      generalize wr.heap.size = base at *
      have hm3' := hm3
      have hO3' := hO3
      go_loopw [27] (fun s wx => ∃ i : Nat, i ≤ l.length ∧ s = .int .i64 i ∧ MapF wx bm V.length (metF (mLeft V l i)) ∧ KOwn kBl wx base 45 (.slice (some ⟨g, 0, none⟩) l.length l.length) (mOn V l i) ∧ Below w.heap.size w wx) (fun s _ => l.length - (intOf s).toNat)
      case atStart => exact ⟨0, Nat.zero_le _, rfl, hm3, by rw [mOn_zero]; exact hO3, hbB⟩
      case round =>
        clear hm3 hO3 hbB hm3' hO3'
        obtain ⟨i, hi, rfl, hm, hO, hbel⟩ := hrel
        by_cases hlt : i < l.length
        · have hol := mOn_len V l i
          have hil : i < (mOn V l i).length := by omega
          have hget : (mOn V l i)[i] = l[i] := by rw [mOn_get hlt, if_neg (fun q => Nat.lt_irrefl _ q.1)]
          obtain ⟨A5, c5, qv, hN⟩ := hO.new
          injection qv with q1 q2 q3
          subst q1; subst q3
          clear q2
          obtain ⟨b, off, D, dn, dc, hbo, hc0, hc1, hc2, hc3, -, -⟩ := hN.rd.blob hil
          injection hbo with hbo
          injection hbo with hb' ho'
          subst hb'; subst ho'
          rw [hget] at hc0 hc2 hc3
          rw [Nat.zero_add] at hc0 hc1 hc2 hc3
          have hii : (i : Int) < (l.length : Int) := by omega
          have hgx := HGL.out _ (List.getElem_mem hlt)
          have hbw := hm.lt
          have hal2 := (Below.refl wr.heap.size wr).alloc (Nat.le_refl _) (.cells #[.string (str l[i].dg), .slice D dn dc, .int .i64 l[i].pn, .bool l[i].mr] 45)
          have hbk2 := Blk.new wr 45 [.string (str l[i].dg), .slice D dn dc, .int .i64 l[i].pn, .bool l[i].mr]
          have f0 := hbk2.cell 0
          simp only [List.getElem?_cons_zero] at f0
          have hm2 := hm.alloc (.cells #[.string (str l[i].dg), .slice D dn dc, .int .i64 l[i].pn, .bool l[i].mr] 45)
          have hO2 := hO.below hal2
          have hbel2 := below_step hbel hal2
          have hlk := hm2.look Tryz.underlying84 (Tryz.zeroValue4 _) hgx
          obtain ⟨g0, c0, qz, -, hgl3, -, -, -⟩ := hO.markB hil true
          injection qz with q1 qq q2
          injection q1 with q1
          injection q1 with q1
          subst q1
          clear qq q2
          obtain ⟨g', c', qw, hgB, hg4, hcl, hfr, hO7⟩ := hO2.markB hil true
          injection qw with q1 qq q2
          injection q1 with q1
          injection q1 with q1
          subst q1
          clear qq q2
          rw [hget] at hcl
          by_cases hit : l[i].dg ∈ V ∧ bAt l l[i].dg = i
          · have hin := (mLeft_mem (V := V) hlt).2 hit
            rw [metF_in hin] at hlk
            simp only [Option.getD_some] at hlk
            have HST := Lib.hid (mOn_hit hlt hit.1 hit.2)
            have HCUT : Hid (∀ s, s ∈ mLeft V l (i + 1) ↔ s ∈ mLeft V l i ∧ ¬ (s = l[i].dg)) := mLeft_step hlt
            rw [HST.out] at hO7
            have hbk3 := hbk2.far (p := ⟨g, i * 4 + 3, none⟩) (by show wr.heap.size ≠ g; omega) (.bool true)
            have hm3 := hm2.belowB ((Below.refl base _).setCell (p := ⟨g, i * 4 + 3, none⟩) hgb (.bool true)) (by omega)
            have hbel3 := hbel2.setCell (p := ⟨g, i * 4 + 3, none⟩) (by show w.heap.size ≤ g; omega) (.bool true)
            have f3 := hbk3.cell 0
            simp only [List.getElem?_cons_zero] at f3
            clear hol hil hit hin hget hbk2 hbk3 hm hO hN hbel hal2 hO2 hm2 hbel2
            generalize l[i] = x at *
            go_upto_region 11 with fail
            generalize hw4 : wr.alloc (.cells [Value.string (str x.dg), Value.slice D dn dc, Value.int .i64 x.pn, Value.bool x.mr].toArray 45) = w4 at *
            clear hw4 hc0 hc1 hc2 hc3
            go_wp2_with (at_delete; refine wpList_delete_mapF _ rfl _ _ 84 rfl 4 Tryz.underlying84 bm _ _ rfl hm3 x.dg rfl hgx ?_; intro w6 hm6 hg6)
            go_roundw
            case rel => exact ⟨i + 1, by omega, by go_num, hm6.congr fun s => metF_cut _ _ _ HCUT.out, hO7.grown hg6 (by omega), hbel3.grown hg6 hbel3.size (fun q e => by injection e with e; omega)⟩
            case measure => simp [intOf] <;> omega
          · have hin : ¬ l[i].dg ∈ mLeft V l i := fun q => hit ((mLeft_mem hlt).1 q)
            rw [metF_out hin] at hlk
            simp only [Option.getD_none] at hlk
            have HST := Lib.hid (mOn_miss hlt hit)
            have HCUT : Hid (∀ s, s ∈ mLeft V l (i + 1) ↔ s ∈ mLeft V l i) := fun s => by
              rw [mLeft_step hlt]
              exact ⟨fun q => q.1, fun q => ⟨q, fun e => hin (e ▸ q)⟩⟩
            clear hol hil hit hin hget hm hO hN hbel hal2 hO7
            generalize l[i] = x at *
            go_wp2
            go_roundw
            case rel => exact ⟨i + 1, by omega, by go_num, hm2.congr fun s => metF_same HCUT.out s, by rw [HST.out]; exact hO2, hbel2⟩
            case measure => simp [intOf] <;> omega
        · have hd2 : decide ((i : Int) < (l.length : Int)) = false := by rw [decide_eq_false_iff_not]; omega
          obtain rfl : i = l.length := by omega
          go_wp2
          go_ret
          rw [HX.out]
          exact ⟨_, rfl, hO.rebase (by omega), hbel⟩
end Go.Proofs.YtdbdigcpibmgjaaGreatDoor

/- The statements' own sameEntries, of entries that are the same. -/
import Derived.Test.YtdbdigcpibmgjaaGreatDoorGN
import Derived.Test.YtdbdigcpibmgjaaGreatDoorGE
namespace Go.Proofs.YtdbdigcpibmgjaaGreatDoor
open Go.RowKit
set_option maxRecDepth 100000 in
set_option maxHeartbeats 400000 in
theorem sameParts_eq (A B : Option Addr) (n m c d : Nat) (l : List Prt) (w : World) (ha : Rd w 3 A n c (pcs l)) (hb : Rd w 3 B m d (pcs l)) :
    Calls Tryz.prog 81 #[.slice A n c, .slice B m d] w fun e w' => e = .returned (.bool true) ∧ Below w.heap.size w w' := by
  go_enter Tryz.func81, Tryz.ntmps81
  go_wp2_with fail
  refine (equalParts_any _ _ _ _ _ _ _ _ _ ha hb).mono ?_
  intro e w' h
  obtain ⟨rfl, hb'⟩ := h.yes rfl
  go_wp2
  go_ret
  exact ⟨rfl, hb'⟩
set_option maxRecDepth 100000 in
set_option maxHeartbeats 1000000 in
theorem sameEntry_eq (x : En) (h k : Hd) (w : World) (ha : kEn.deep w x h) (hb : kEn.deep w x k) :
    Calls Tryz.prog 80 #[.agg #[.string (str x.ky), .slice h.A h.n h.c, .int .i64 x.pn, .int .i64 x.st], .agg #[.string (str x.ky), .slice k.A k.n k.c, .int .i64 x.pn, .int .i64 x.st]] w fun e w' => e = .returned (.bool true) ∧ Below w.heap.size w w' := by
  obtain ⟨d, t, p, m⟩ := x
  obtain ⟨A, n, c⟩ := h
  obtain ⟨B, j, q⟩ := k
  have ha1 : Rd w 3 A n c (pcs t) := ha.1
  have hb1 : Rd w 3 B j q (pcs t) := hb.1
  clear ha hb
  have hal := (Below.refl w.heap.size w).alloc (Nat.le_refl _) (.cells #[.string (str d), .slice A n c, .int .i64 p, .int .i64 m] 74)
  have hal2 := (Below.refl (w.alloc (.cells #[.string (str d), .slice A n c, .int .i64 p, .int .i64 m] 74)).heap.size (w.alloc (.cells #[.string (str d), .slice A n c, .int .i64 p, .int .i64 m] 74))).alloc (Nat.le_refl _) (.cells #[.string (str d), .slice B j q, .int .i64 p, .int .i64 m] 74)
  have hbb := below_step hal hal2
  have hk1 := (Blk.new w 74 [.string (str d), .slice A n c, .int .i64 p, .int .i64 m]).below hal2 (Blk.new w 74 [.string (str d), .slice A n c, .int .i64 p, .int .i64 m]).lt
  have hk2 := Blk.new (w.alloc (.cells #[.string (str d), .slice A n c, .int .i64 p, .int .i64 m] 74)) 74 [.string (str d), .slice B j q, .int .i64 p, .int .i64 m]
  rw [show (w.alloc (.cells #[.string (str d), .slice A n c, .int .i64 p, .int .i64 m] 74)).heap.size = w.heap.size + 1 by simp] at hk2
  have ha2 := ha1.below hbb
  have hb2 := hb1.below hbb
  show Calls Tryz.prog 80 #[.agg #[.string (str d), .slice A n c, .int .i64 p, .int .i64 m], .agg #[.string (str d), .slice B j q, .int .i64 p, .int .i64 m]] w _
  have q1 : (d == d) = true := by simp
  have q2 : (p == p) = true := by simp
  have q3 : (m == m) = true := by simp
  go_enter Tryz.func80, Tryz.ntmps80
  go_wp2_with fail
  with_reducible refine (sameParts_eq _ _ _ _ _ _ _ _ ha2 hb2).mono ?_
  rintro e w' ⟨rfl, hb'⟩
  have f0 := (hk1.below hb' hk1.lt).cell 2
  have f1 := (hk1.below hb' hk1.lt).cell 3
  have f2 := (hk2.below hb' hk2.lt).cell 2
  have f3 := (hk2.below hb' hk2.lt).cell 3
  simp only [List.getElem?_cons_succ, List.getElem?_cons_zero] at f0 f1 f2 f3
  go_wp2
  go_ret
  exact ⟨by simp, below_step hbb hb'⟩
set_option maxRecDepth 100000 in
set_option maxHeartbeats 1000000 in
theorem equalE_eq (A B : Option Addr) (n m c d : Nat) (l : List En) (w : World) (ha : KRd kEn w A n c l) (hb : KRd kEn w B m d l) :
    Calls Tryz.prog 79 #[.slice A n c, .slice B m d, .func (.func 80) #[] #[]] w fun e w' => e = .returned (.bool true) ∧ Below w.heap.size w w' := by
  obtain rfl := ha.len
  obtain rfl := hb.len
  have hcap := ha.cap
  unfold maxLen at hcap
  go_enter Tryz.func79, Tryz.ntmps79
  go_wp2
  go_loopw [7, 8, 9, 17] (fun _ _ _ i wr => ∃ k : Nat, k ≤ l.length ∧ i = .int .i64 k ∧ Below w.heap.size w wr) (fun _ _ _ i _ => l.length - (intOf i).toNat)
  case atStart => exact ⟨0, Nat.zero_le _, rfl, Below.refl _ _⟩
  case round =>
    obtain ⟨k, hk, rfl, hbel⟩ := hrel
    by_cases hlt : k < l.length
    · have hki : (k : Int) < (l.length : Int) := by omega
      obtain ⟨b, off, D, dn, dc, rfl, hc0, hc1, hc2, hc3, hrD, hDn⟩ := (ha.below hbel).entry hlt
      obtain ⟨b', off', D', dn', dc', rfl, ic0, ic1, ic2, ic3, irD, iDn⟩ := (hb.below hbel).entry hlt
      generalize l[k] = x at *
      obtain ⟨dg, dt, pn, mr⟩ := x
      simp only at hc0 hc1 hc2 hc3 ic0 ic1 ic2 ic3 hrD irD
      have hal := (Below.refl wr.heap.size wr).alloc (Nat.le_refl _) (.cells #[.string (str dg), .slice D dn dc, .int .i64 pn, .int .i64 mr] 74)
      have hs1 : (wr.alloc (.cells #[.string (str dg), .slice D dn dc, .int .i64 pn, .int .i64 mr] 74)).heap.size = wr.heap.size + 1 := by simp
      have hal2 := (Below.refl (wr.alloc (.cells #[.string (str dg), .slice D dn dc, .int .i64 pn, .int .i64 mr] 74)).heap.size (wr.alloc (.cells #[.string (str dg), .slice D dn dc, .int .i64 pn, .int .i64 mr] 74))).alloc (Nat.le_refl _) (.cells #[.string (str dg), .slice D' dn' dc', .int .i64 pn, .int .i64 mr] 74)
      have hbb := below_step hal hal2
      have i0 := (hal.cell (p := ⟨b', off' + k * 4, none⟩) (cell_lt ic0)).trans ic0
      have i1 := (hal.cell (p := ⟨b', off' + k * 4 + 1, none⟩) (cell_lt ic1)).trans ic1
      have i2 := (hal.cell (p := ⟨b', off' + k * 4 + 2, none⟩) (cell_lt ic2)).trans ic2
      have i3 := (hal.cell (p := ⟨b', off' + k * 4 + 3, none⟩) (cell_lt ic3)).trans ic3
      have hdA : kEn.deep _ ⟨dg, dt, pn, mr⟩ ⟨D, dn, dc⟩ := ⟨hrD.below hbb, hDn⟩
      have hdB : kEn.deep _ ⟨dg, dt, pn, mr⟩ ⟨D', dn', dc'⟩ := ⟨irD.below hbb, iDn⟩
      go_wp2_with fail
      refine (sameEntry_eq ⟨dg, dt, pn, mr⟩ ⟨D, dn, dc⟩ ⟨D', dn', dc'⟩ _ hdA hdB).mono ?_
      rintro e w' ⟨rfl, hb'⟩
      have hbZ := below_step (below_step hbel hbb) hb'
      clear hdA hdB hal hal2 hbb hb'
      go_wp2
      go_roundw
      case rel => exact ⟨k + 1, by omega, by go_num, hbZ⟩
      case measure => simp [intOf] <;> omega
    · have hd2 : decide ((k : Int) < (l.length : Int)) = false := by rw [decide_eq_false_iff_not]; omega
      go_wp2
      go_ret
      exact ⟨rfl, hbel⟩
set_option maxRecDepth 100000 in
set_option maxHeartbeats 400000 in
theorem sameEntries_eq (A B : Option Addr) (n m c d : Nat) (l : List En) (w : World) (ha : KRd kEn w A n c l) (hb : KRd kEn w B m d l) :
    Calls Tryz.prog 35 #[.slice A n c, .slice B m d] w fun e w' => e = .returned (.bool true) ∧ Below w.heap.size w w' := by
  go_enter Tryz.func35, Tryz.ntmps35
  go_wp2_with fail
  with_reducible refine (equalE_eq _ _ _ _ _ _ _ _ ha hb).mono ?_
  rintro e w' ⟨rfl, hb'⟩
  go_wp2
  go_ret
  exact ⟨rfl, hb'⟩
end Go.Proofs.YtdbdigcpibmgjaaGreatDoor

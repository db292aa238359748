/- The statements' own SameStore: true just where blobs are alike but for marks, and all else is the same. -/
import Derived.Test.YtekbgopdeancpaaGreatDoorQYe
namespace Go.Proofs.YtekbgopdeancpaaGreatDoor
open Go.RowKit
instance : DecidableEq Prt := fun a b => decidable_of_iff (a.nm = b.nm ∧ a.dg = b.dg ∧ a.sz = b.sz) (by cases a; cases b; simp)
def exE (x y : En) : Bool := x.ky == y.ky && (decide (x.ps = y.ps) && (x.pn == y.pn && x.st == y.st))
theorem exE_iff {x y : En} : exE x y = true ↔ x = y := by
  obtain ⟨a, b, c, d⟩ := x
  obtain ⟨a', b', c', d'⟩ := y
  simp [exE]
set_option maxRecDepth 100000 in
set_option maxHeartbeats 2000000 in
theorem ksameEntry_any (x y : En) (h k : Hd) (w : World) (ha : kEn.deep w x h) (hb : kEn.deep w y k) :
    Calls Tryz.prog 75 #[.agg #[.string (str x.ky), .slice h.A h.n h.c, .int .i64 x.pn, .int .i64 x.st], .agg #[.string (str y.ky), .slice k.A k.n k.c, .int .i64 y.pn, .int .i64 y.st]] w fun e w' => e = .returned (.bool (exE x y)) ∧ Below w.heap.size w w' := by
  obtain ⟨d, t, p, m⟩ := x
  obtain ⟨d2, t2, p2, m2⟩ := y
  obtain ⟨A, n, c⟩ := h
  obtain ⟨B, j, q⟩ := k
  have ha1 : Rd w 3 A n c (pcs t) := ha.1
  have hb1 : Rd w 3 B j q (pcs t2) := hb.1
  clear ha hb
  have hal := (Below.refl w.heap.size w).alloc (Nat.le_refl _) (.cells #[.string (str d), .slice A n c, .int .i64 p, .int .i64 m] 54)
  have hal2 := (Below.refl (w.alloc (.cells #[.string (str d), .slice A n c, .int .i64 p, .int .i64 m] 54)).heap.size (w.alloc (.cells #[.string (str d), .slice A n c, .int .i64 p, .int .i64 m] 54))).alloc (Nat.le_refl _) (.cells #[.string (str d2), .slice B j q, .int .i64 p2, .int .i64 m2] 54)
  have hbb := below_step hal hal2
  have hk1 := (Blk.new w 54 [.string (str d), .slice A n c, .int .i64 p, .int .i64 m]).below hal2 (Blk.new w 54 [.string (str d), .slice A n c, .int .i64 p, .int .i64 m]).lt
  have hk2 := Blk.new (w.alloc (.cells #[.string (str d), .slice A n c, .int .i64 p, .int .i64 m] 54)) 54 [.string (str d2), .slice B j q, .int .i64 p2, .int .i64 m2]
  rw [show (w.alloc (.cells #[.string (str d), .slice A n c, .int .i64 p, .int .i64 m] 54)).heap.size = w.heap.size + 1 by simp] at hk2
  have ha2 := ha1.below hbb
  have hb2 := hb1.below hbb
  clear ha1 hb1
  show Calls Tryz.prog 75 #[.agg #[.string (str d), .slice A n c, .int .i64 p, .int .i64 m], .agg #[.string (str d2), .slice B j q, .int .i64 p2, .int .i64 m2]] w _
  cases q1 : d == d2 with
  | false =>
    have HF : Hid (exE ⟨d, t, p, m⟩ ⟨d2, t2, p2, m2⟩ = false) := by show _ = _; simp [exE, q1]
    go_enter Tryz.func75, Tryz.ntmps75
    go_wp2
    go_ret
    rw [HF.out]
    exact ⟨by simp, hbb⟩
  | true =>
    by_cases q2 : t = t2
    · subst q2
      cases q3 : p == p2 with
      | false =>
        have HF : Hid (exE ⟨d, t, p, m⟩ ⟨d2, t, p2, m2⟩ = false) := by show _ = _; simp [exE, q3]
        go_enter Tryz.func75, Tryz.ntmps75
        go_wp2_with fail
        refine (equalParts_any _ _ _ _ _ _ _ _ _ ha2 hb2).mono ?_
        intro e w' h
        obtain ⟨rfl, hb'⟩ := h.yes rfl
        have f0 := (hk1.below hb' hk1.lt).cell 2
        have f1 := (hk1.below hb' hk1.lt).cell 3
        have f2 := (hk2.below hb' hk2.lt).cell 2
        have f3 := (hk2.below hb' hk2.lt).cell 3
        simp only [List.getElem?_cons_succ, List.getElem?_cons_zero] at f0 f1 f2 f3
        go_wp2
        go_ret
        rw [HF.out]
        exact ⟨by simp, below_step hbb hb'⟩
      | true =>
        cases q4 : m == m2 with
        | false =>
          have HF : Hid (exE ⟨d, t, p, m⟩ ⟨d2, t, p2, m2⟩ = false) := by show _ = _; simp [exE, q4]
          go_enter Tryz.func75, Tryz.ntmps75
          go_wp2_with fail
          refine (equalParts_any _ _ _ _ _ _ _ _ _ ha2 hb2).mono ?_
          intro e w' h
          obtain ⟨rfl, hb'⟩ := h.yes rfl
          have f0 := (hk1.below hb' hk1.lt).cell 2
          have f1 := (hk1.below hb' hk1.lt).cell 3
          have f2 := (hk2.below hb' hk2.lt).cell 2
          have f3 := (hk2.below hb' hk2.lt).cell 3
          simp only [List.getElem?_cons_succ, List.getElem?_cons_zero] at f0 f1 f2 f3
          go_wp2
          go_ret
          rw [HF.out]
          exact ⟨by simp, below_step hbb hb'⟩
        | true =>
          have HF : Hid (exE ⟨d, t, p, m⟩ ⟨d2, t, p2, m2⟩ = true) := by show _ = _; simp [exE, q1, q3, q4]
          go_enter Tryz.func75, Tryz.ntmps75
          go_wp2_with fail
          refine (equalParts_any _ _ _ _ _ _ _ _ _ ha2 hb2).mono ?_
          intro e w' h
          obtain ⟨rfl, hb'⟩ := h.yes rfl
          have f0 := (hk1.below hb' hk1.lt).cell 2
          have f1 := (hk1.below hb' hk1.lt).cell 3
          have f2 := (hk2.below hb' hk2.lt).cell 2
          have f3 := (hk2.below hb' hk2.lt).cell 3
          simp only [List.getElem?_cons_succ, List.getElem?_cons_zero] at f0 f1 f2 f3
          go_wp2
          go_ret
          rw [HF.out]
          exact ⟨by simp, below_step hbb hb'⟩
    · have HF : Hid (exE ⟨d, t, p, m⟩ ⟨d2, t2, p2, m2⟩ = false) := by show _ = _; simp [exE, q2]
      have HT := Lib.hid q2
      clear q2
      go_enter Tryz.func75, Tryz.ntmps75
      go_wp2_with fail
      refine (equalParts_any _ _ _ _ _ _ _ _ _ ha2 hb2).mono ?_
      intro e w' h
      obtain ⟨rfl, hb'⟩ := h.no HT.out
      have f0 := (hk1.below hb' hk1.lt).cell 2
      have f1 := (hk1.below hb' hk1.lt).cell 3
      have f2 := (hk2.below hb' hk2.lt).cell 2
      have f3 := (hk2.below hb' hk2.lt).cell 3
      simp only [List.getElem?_cons_succ, List.getElem?_cons_zero] at f0 f1 f2 f3
      go_wp2
      go_ret
      rw [HF.out]
      exact ⟨by simp, below_step hbb hb'⟩
set_option maxRecDepth 100000 in
set_option maxHeartbeats 2000000 in
theorem kequalE_any (A B : Option Addr) (n m c d : Nat) (l l2 : List En) (w : World) (ha : KRd kEn w A n c l) (hb : KRd kEn w B m d l2) (res : Bool) (hres : res = true ↔ l = l2) :
    Calls Tryz.prog 74 #[.slice A n c, .slice B m d, .func (.func 75) #[] #[]] w fun e w' => e = .returned (.bool res) ∧ Below w.heap.size w w' := by
  obtain rfl := ha.len
  obtain rfl := hb.len
  have hcap := ha.cap
  have hcap2 := hb.cap
  unfold maxLen at hcap hcap2
  by_cases hll : l.length = l2.length
  · have HR : Hid ((∀ j (h1 : j < l.length) (h2 : j < l2.length), l[j] = l2[j]) ↔ res = true) := by
      show _ ↔ _
      rw [hres]
      exact ⟨fun h => List.ext_getElem hll h, fun h j h1 h2 => by subst h; rfl⟩
    clear hres
    have HLL := Lib.hid hll
    have d0 : ((l.length : Int) != (l2.length : Int)) = false := by simp [hll]
    clear hll
    go_enter Tryz.func74, Tryz.ntmps74
    go_wp2
    go_loopw [7, 8, 9, 17] (fun _ _ _ i wr => ∃ k : Nat, k ≤ l.length ∧ i = .int .i64 k ∧ Hid (∀ j (h1 : j < l.length) (h2 : j < l2.length), j < k → l[j] = l2[j]) ∧ Below w.heap.size w wr) (fun _ _ _ i _ => l.length - (intOf i).toNat)
    case atStart => exact ⟨0, Nat.zero_le _, rfl, fun j _ _ h => absurd h (by omega), Below.refl _ _⟩
    case round =>
      obtain ⟨k, hk, rfl, HA, hbel⟩ := hrel
      by_cases hlt : k < l.length
      · have hki : (k : Int) < (l.length : Int) := by omega
        have hlt2 : k < l2.length := by rw [← HLL.out]; exact hlt
        have hki2 : (k : Int) < (l2.length : Int) := by omega
        obtain ⟨b, off, D, dn, dc, rfl, hc0, hc1, hc2, hc3, hrD, hDn⟩ := (ha.below hbel).entry hlt
        obtain ⟨b', off', D', dn', dc', rfl, ic0, ic1, ic2, ic3, irD, iDn⟩ := (hb.below hbel).entry hlt2
        have HX : Hid (∀ r, exE l[k] l2[k] = r → (r = true → ∀ j (h1 : j < l.length) (h2 : j < l2.length), j < k + 1 → l[j] = l2[j]) ∧ (r = false → res = false)) := fun r hr => by
          refine ⟨fun q j h1 h2 hj => ?_, fun q => ?_⟩
          · rcases Nat.lt_or_eq_of_le (Nat.le_of_lt_succ hj) with p | p
            · exact HA.out j h1 h2 p
            · subst p; exact exE_iff.1 (hr.trans q)
          · cases res with
            | false => rfl
            | true => have := exE_iff.2 (HR.out.2 rfl k hlt hlt2); rw [hr, q] at this; cases this
        generalize l[k] = x at *
        generalize l2[k] = y at *
        obtain ⟨dg, dt, pn, mr⟩ := x
        obtain ⟨dg2, dt2, pn2, mr2⟩ := y
        simp only at hc0 hc1 hc2 hc3 ic0 ic1 ic2 ic3 hrD irD
        have hal := (Below.refl wr.heap.size wr).alloc (Nat.le_refl _) (.cells #[.string (str dg), .slice D dn dc, .int .i64 pn, .int .i64 mr] 54)
        have hs1 : (wr.alloc (.cells #[.string (str dg), .slice D dn dc, .int .i64 pn, .int .i64 mr] 54)).heap.size = wr.heap.size + 1 := by simp
        have hal2 := (Below.refl (wr.alloc (.cells #[.string (str dg), .slice D dn dc, .int .i64 pn, .int .i64 mr] 54)).heap.size (wr.alloc (.cells #[.string (str dg), .slice D dn dc, .int .i64 pn, .int .i64 mr] 54))).alloc (Nat.le_refl _) (.cells #[.string (str dg2), .slice D' dn' dc', .int .i64 pn2, .int .i64 mr2] 54)
        have hbb := below_step hal hal2
        have i0 := (hal.cell (p := ⟨b', off' + k * 4, none⟩) (cell_lt ic0)).trans ic0
        have i1 := (hal.cell (p := ⟨b', off' + k * 4 + 1, none⟩) (cell_lt ic1)).trans ic1
        have i2 := (hal.cell (p := ⟨b', off' + k * 4 + 2, none⟩) (cell_lt ic2)).trans ic2
        have i3 := (hal.cell (p := ⟨b', off' + k * 4 + 3, none⟩) (cell_lt ic3)).trans ic3
        have hdA : kEn.deep _ ⟨dg, dt, pn, mr⟩ ⟨D, dn, dc⟩ := ⟨hrD.below hbb, hDn⟩
        have hdB : kEn.deep _ ⟨dg2, dt2, pn2, mr2⟩ ⟨D', dn', dc'⟩ := ⟨irD.below hbb, iDn⟩
        have HC := Lib.hid (ksameEntry_any ⟨dg, dt, pn, mr⟩ ⟨dg2, dt2, pn2, mr2⟩ ⟨D, dn, dc⟩ ⟨D', dn', dc'⟩ _ hdA hdB)
        clear hdA hdB
        obtain ⟨r, hr⟩ : ∃ r, exE ⟨dg, dt, pn, mr⟩ ⟨dg2, dt2, pn2, mr2⟩ = r := ⟨_, rfl⟩
        have HX2 := HX.out r hr
        rw [hr] at HC
        clear hr HX
        cases r with
        | true =>
          have HN := Lib.hid (HX2.1 rfl)
          clear HX2
          go_wp2_with fail
          refine HC.out.mono ?_
          rintro e w' ⟨rfl, hb'⟩
          have hbZ := below_step (below_step hbel hbb) hb'
          clear hal hal2 hbb hb'
          go_wp2
          go_roundw
          case rel => exact ⟨k + 1, by omega, by go_num, HN.out, hbZ⟩
          case measure => simp [intOf] <;> omega
        | false =>
          have HF := Lib.hid (HX2.2 rfl)
          clear HX2
          go_wp2_with fail
          refine HC.out.mono ?_
          rintro e w' ⟨rfl, hb'⟩
          have hbZ := below_step (below_step hbel hbb) hb'
          clear hal hal2 hbb hb'
          go_wp2
          go_ret
          rw [HF.out]
          exact ⟨rfl, hbZ⟩
      · have hd2 : decide ((k : Int) < (l.length : Int)) = false := by rw [decide_eq_false_iff_not]; omega
        have HF : Hid (res = true) := HR.out.1 fun j h1 h2 => HA.out j h1 h2 (by omega)
        go_wp2
        go_ret
        rw [HF.out]
        exact ⟨rfl, hbel⟩
  · have HF : Hid (res = false) := by
      show _ = _
      rw [Bool.eq_false_iff]
      exact fun h => hll (by rw [hres.1 h])
    have d0 : ((l.length : Int) != (l2.length : Int)) = true := by rw [bne_iff_ne]; omega
    clear hres
    go_enter Tryz.func74, Tryz.ntmps74
    go_wp2
    go_ret
    rw [HF.out]
    exact ⟨rfl, Below.refl _ _⟩
set_option maxRecDepth 100000 in
set_option maxHeartbeats 2000000 in
theorem ksameStore_any (A B A' B' : Option Addr) (n m c d n' m' c' d' : Nat) (l l' : List Bl) (es es' : List En) (r k : Int) (w : World) (ha : KRd kBl w A n c l) (hb : KRd kEn w B m d es) (ha' : KRd kBl w A' n' c' l') (hb' : KRd kEn w B' m' d' es') (b : Bool) (hr : b = true ↔ alks l l' = true ∧ es = es') :
    Calls Tryz.prog 26 #[.agg #[.slice A n c, .slice B m d, .int .i64 r, .int .i64 k], .agg #[.slice A' n' c', .slice B' m' d', .int .i64 r, .int .i64 k]] w fun e w' => e = .returned (.bool b) ∧ Below w.heap.size w w' := by
  have q1 : (r == r) = true := by simp
  have q2 : (k == k) = true := by simp
  have hal := (Below.refl w.heap.size w).alloc (Nat.le_refl _) (.cells #[.slice A n c, .slice B m d, .int .i64 r, .int .i64 k] 25)
  have hal2 := (Below.refl (w.alloc (.cells #[.slice A n c, .slice B m d, .int .i64 r, .int .i64 k] 25)).heap.size (w.alloc (.cells #[.slice A n c, .slice B m d, .int .i64 r, .int .i64 k] 25))).alloc (Nat.le_refl _) (.cells #[.slice A' n' c', .slice B' m' d', .int .i64 r, .int .i64 k] 25)
  have hbb := below_step hal hal2
  have hk1 := (Blk.new w 25 [.slice A n c, .slice B m d, .int .i64 r, .int .i64 k]).below hal2 (Blk.new w 25 [.slice A n c, .slice B m d, .int .i64 r, .int .i64 k]).lt
  have hk2 := Blk.new (w.alloc (.cells #[.slice A n c, .slice B m d, .int .i64 r, .int .i64 k] 25)) 25 [.slice A' n' c', .slice B' m' d', .int .i64 r, .int .i64 k]
  rw [show (w.alloc (.cells #[.slice A n c, .slice B m d, .int .i64 r, .int .i64 k] 25)).heap.size = w.heap.size + 1 by simp] at hk2
  have ha2 := ha.below hbb
  have ha2' := ha'.below hbb
  have hb2 := hb.below hbb
  have hb2' := hb'.below hbb
  obtain ⟨b1, hb1⟩ : ∃ b1, alks l l' = b1 := ⟨_, rfl⟩
  have HC := Lib.hid (ksameBlobs_any _ _ _ _ _ _ _ _ _ ha2 ha2' b1 hb1)
  rw [hb1] at hr
  clear ha ha' hb hb' ha2 ha2' hal hb1
  cases b1 with
  | false =>
    have HF : Hid (b = false) := by show _ = _; cases b with | false => rfl | true => exact absurd (hr.1 rfl).1 (by simp)
    clear hr
    go_enter Tryz.func26, Tryz.ntmps26
    go_wp2_with fail
    with_reducible refine HC.out.mono ?_
    rintro e w3 ⟨rfl, hb3⟩
    go_wp2
    go_ret
    rw [HF.out]
    exact ⟨by simp, below_step hbb hb3⟩
  | true =>
    have hr' : b = true ↔ es = es' := by rw [hr]; simp
    have HE := Lib.hid hr'
    clear hr hr'
    go_enter Tryz.func26, Tryz.ntmps26
    go_wp2_with fail
    with_reducible refine HC.out.mono ?_
    rintro e w3 ⟨rfl, hb3⟩
    have hbC := below_step hbb hb3
    have hk3 := hk1.below hb3 hk1.lt
    have hk4 := hk2.below hb3 hk2.lt
    have f1 := hk3.cell 1
    have f2 := hk3.cell 2
    have f3 := hk3.cell 3
    have g1 := hk4.cell 1
    have g2 := hk4.cell 2
    have g3 := hk4.cell 3
    simp only [List.getElem?_cons_succ, List.getElem?_cons_zero] at f1 f2 f3 g1 g2 g3
    have r3 := hb2.below hb3
    have r4 := hb2'.below hb3
    go_wp2_with fail
    with_reducible refine (kequalE_any _ _ _ _ _ _ _ _ _ r3 r4 b HE.out).mono ?_
    rintro e w4 ⟨rfl, hb4⟩
    go_wp2
    go_ret
    exact ⟨by simp, below_step hbC hb4⟩
end Go.Proofs.YtekbgopdeancpaaGreatDoor

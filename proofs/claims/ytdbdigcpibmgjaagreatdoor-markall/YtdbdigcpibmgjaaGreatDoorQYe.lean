/- The statements' own SameBlobs and SameStore: true just where blobs are alike but for marks, and all else is the same. -/
import Derived.Test.YtdbdigcpibmgjaaGreatDoorGN
import Derived.Test.YtdbdigcpibmgjaaGreatDoorGE
namespace Go.Proofs.YtdbdigcpibmgjaaGreatDoor
open Go.RowKit
/-- blobs that are alike, but for marks -/
def alk (x y : Bl) : Bool := x.dg == y.dg && (x.dt == y.dt && x.pn == y.pn)
def alks : List Bl → List Bl → Bool
  | [], [] => true
  | x :: l, y :: m => alk x y && alks l m
  | _, _ => false
theorem alk_refl (x : Bl) : alk x x = true := by simp [alk]
theorem alks_refl : ∀ l : List Bl, alks l l = true
  | [] => rfl
  | x :: r => by rw [alks, alk_refl, alks_refl r]; rfl
theorem alks_len : ∀ {l m : List Bl}, alks l m = true → l.length = m.length
  | [], [], _ => rfl
  | x :: l, y :: m, h => by
    rw [alks, Bool.and_eq_true] at h
    rw [List.length_cons, List.length_cons, alks_len h.2]
  | [], _ :: _, h => by cases h
  | _ :: _, [], h => by cases h
theorem alks_iff : ∀ {l m : List Bl}, alks l m = true ↔ l.length = m.length ∧ ∀ j (h1 : j < l.length) (h2 : j < m.length), alk l[j] m[j] = true
  | [], [] => by simp [alks]
  | x :: l, y :: m => by
    rw [alks, Bool.and_eq_true, alks_iff]
    constructor
    · rintro ⟨h1, h2, h3⟩
      refine ⟨by simp [h2], fun j j1 j2 => ?_⟩
      cases j with
      | zero => exact h1
      | succ j => exact h3 j (by simpa using j1) (by simpa using j2)
    · rintro ⟨h1, h2⟩
      refine ⟨h2 0 (by simp) (by simp), by simpa using h1, fun j j1 j2 => ?_⟩
      exact h2 (j + 1) (by simpa using j1) (by simpa using j2)
  | [], _ :: _ => by simp [alks]
  | _ :: _, [] => by simp [alks]
set_option maxRecDepth 100000 in
set_option maxHeartbeats 2000000 in
theorem ksameBlob_any (x y : Bl) (h k : Hd) (w : World) (ha : kBl.deep w x h) (hb : kBl.deep w y k) :
    Calls Tryz.prog 62 #[.agg #[.string (str x.dg), .slice h.A h.n h.c, .int .i64 x.pn, .bool x.mr], .agg #[.string (str y.dg), .slice k.A k.n k.c, .int .i64 y.pn, .bool y.mr]] w fun e w' => e = .returned (.bool (alk x y)) ∧ Below w.heap.size w w' := by
  obtain ⟨d, t, p, m⟩ := x
  obtain ⟨d2, t2, p2, m2⟩ := y
  obtain ⟨A, n, c⟩ := h
  obtain ⟨B, j, q⟩ := k
  have ha1 : Rd w 1 A n c (t.map bv8) := ha.1
  have hb1 : Rd w 1 B j q (t2.map bv8) := hb.1
  clear ha hb
  obtain rfl := ha1.len
  obtain rfl := hb1.len
  have hal := (Below.refl w.heap.size w).alloc (Nat.le_refl _) (.cells #[.string (str d), .slice A t.length c, .int .i64 p, .bool m] 45)
  have hal2 := (Below.refl (w.alloc (.cells #[.string (str d), .slice A t.length c, .int .i64 p, .bool m] 45)).heap.size (w.alloc (.cells #[.string (str d), .slice A t.length c, .int .i64 p, .bool m] 45))).alloc (Nat.le_refl _) (.cells #[.string (str d2), .slice B t2.length q, .int .i64 p2, .bool m2] 45)
  have hbb := below_step hal hal2
  have k1 := run_bytes_str (P := Tryz.prog) Tryz.underlying43 Tryz.underlying5 Tryz.underlying9 (ha1.below hbb)
  have k2 := run_bytes_str (P := Tryz.prog) Tryz.underlying43 Tryz.underlying5 Tryz.underlying9 (hb1.below hbb)
  show Calls Tryz.prog 62 #[.agg #[.string (str d), .slice A t.length c, .int .i64 p, .bool m], .agg #[.string (str d2), .slice B t2.length q, .int .i64 p2, .bool m2]] w _
  cases q1 : d == d2 with
  | false =>
    have HF : Hid (alk ⟨d, t, p, m⟩ ⟨d2, t2, p2, m2⟩ = false) := by show _ = _; simp [alk, q1]
    go_enter Tryz.func62, Tryz.ntmps62
    go_wp2
    go_ret
    rw [HF.out]
    exact ⟨by simp, hbb⟩
  | true =>
    cases q2 : t == t2 with
    | false =>
      have HF : Hid (alk ⟨d, t, p, m⟩ ⟨d2, t2, p2, m2⟩ = false) := by show _ = _; simp [alk, q2]
      go_enter Tryz.func62, Tryz.ntmps62
      go_wp2
      go_ret
      rw [HF.out]
      exact ⟨by simp, hbb⟩
    | true =>
      cases q3 : p == p2 with
      | false =>
        have HF : Hid (alk ⟨d, t, p, m⟩ ⟨d2, t2, p2, m2⟩ = false) := by show _ = _; simp [alk, q3]
        go_enter Tryz.func62, Tryz.ntmps62
        go_wp2
        go_ret
        rw [HF.out]
        exact ⟨by simp, hbb⟩
      | true =>
        have HF : Hid (alk ⟨d, t, p, m⟩ ⟨d2, t2, p2, m2⟩ = true) := by show _ = _; simp [alk, q1, q2, q3]
        go_enter Tryz.func62, Tryz.ntmps62
        go_wp2
        go_ret
        rw [HF.out]
        exact ⟨by simp, hbb⟩
set_option maxRecDepth 100000 in
set_option maxHeartbeats 2000000 in
theorem kequalB_any (A B : Option Addr) (n m c d : Nat) (l l2 : List Bl) (w : World) (ha : KRd kBl w A n c l) (hb : KRd kBl w B m d l2) :
    Calls Tryz.prog 61 #[.slice A n c, .slice B m d, .func (.func 62) #[] #[]] w fun e w' => e = .returned (.bool (alks l l2)) ∧ Below w.heap.size w w' := by
  obtain rfl := ha.len
  obtain rfl := hb.len
  have hcap := ha.cap
  have hcap2 := hb.cap
  unfold maxLen at hcap hcap2
  by_cases hll : l.length = l2.length
  · obtain ⟨res, hres⟩ : ∃ res, alks l l2 = res := ⟨_, rfl⟩
    have HR : Hid ((∀ j (h1 : j < l.length) (h2 : j < l2.length), alk l[j] l2[j] = true) ↔ res = true) := by
      show _ ↔ _
      rw [← hres, alks_iff]
      exact ⟨fun h => ⟨hll, h⟩, fun h => h.2⟩
    rw [hres]
    clear hres
    have HLL := Lib.hid hll
    have d0 : ((l.length : Int) != (l2.length : Int)) = false := by simp [hll]
    clear hll
    go_enter Tryz.func61, Tryz.ntmps61
    go_wp2
    go_loopw [7, 8, 9, 17] (fun _ _ _ i wr => ∃ k : Nat, k ≤ l.length ∧ i = .int .i64 k ∧ Hid (∀ j (h1 : j < l.length) (h2 : j < l2.length), j < k → alk l[j] l2[j] = true) ∧ Below w.heap.size w wr) (fun _ _ _ i _ => l.length - (intOf i).toNat)
    case atStart => exact ⟨0, Nat.zero_le _, rfl, fun j _ _ h => absurd h (by omega), Below.refl _ _⟩
    case round =>
      obtain ⟨k, hk, rfl, HA, hbel⟩ := hrel
      by_cases hlt : k < l.length
      · have hki : (k : Int) < (l.length : Int) := by omega
        have hlt2 : k < l2.length := by rw [← HLL.out]; exact hlt
        have hki2 : (k : Int) < (l2.length : Int) := by omega
        obtain ⟨b, off, D, dn, dc, rfl, hc0, hc1, hc2, hc3, hrD, hDn⟩ := (ha.below hbel).blob hlt
        obtain ⟨b', off', D', dn', dc', rfl, ic0, ic1, ic2, ic3, irD, iDn⟩ := (hb.below hbel).blob hlt2
        have HX : Hid (∀ r, alk l[k] l2[k] = r → (r = true → ∀ j (h1 : j < l.length) (h2 : j < l2.length), j < k + 1 → alk l[j] l2[j] = true) ∧ (r = false → res = false)) := fun r hr => by
          refine ⟨fun q j h1 h2 hj => ?_, fun q => ?_⟩
          · rcases Nat.lt_or_eq_of_le (Nat.le_of_lt_succ hj) with p | p
            · exact HA.out j h1 h2 p
            · subst p; rw [hr]; exact q
          · cases res with
            | false => rfl
            | true => have := HR.out.2 rfl k hlt hlt2; rw [hr, q] at this; cases this
        generalize l[k] = x at *
        generalize l2[k] = y at *
        obtain ⟨dg, dt, pn, mr⟩ := x
        obtain ⟨dg2, dt2, pn2, mr2⟩ := y
        simp only at hc0 hc1 hc2 hc3 ic0 ic1 ic2 ic3 hrD irD
        have hal := (Below.refl wr.heap.size wr).alloc (Nat.le_refl _) (.cells #[.string (str dg), .slice D dn dc, .int .i64 pn, .bool mr] 45)
        have hs1 : (wr.alloc (.cells #[.string (str dg), .slice D dn dc, .int .i64 pn, .bool mr] 45)).heap.size = wr.heap.size + 1 := by simp
        have hal2 := (Below.refl (wr.alloc (.cells #[.string (str dg), .slice D dn dc, .int .i64 pn, .bool mr] 45)).heap.size (wr.alloc (.cells #[.string (str dg), .slice D dn dc, .int .i64 pn, .bool mr] 45))).alloc (Nat.le_refl _) (.cells #[.string (str dg2), .slice D' dn' dc', .int .i64 pn2, .bool mr2] 45)
        have hbb := below_step hal hal2
        have i0 := (hal.cell (p := ⟨b', off' + k * 4, none⟩) (cell_lt ic0)).trans ic0
        have i1 := (hal.cell (p := ⟨b', off' + k * 4 + 1, none⟩) (cell_lt ic1)).trans ic1
        have i2 := (hal.cell (p := ⟨b', off' + k * 4 + 2, none⟩) (cell_lt ic2)).trans ic2
        have i3 := (hal.cell (p := ⟨b', off' + k * 4 + 3, none⟩) (cell_lt ic3)).trans ic3
        have hdA : kBl.deep _ ⟨dg, dt, pn, mr⟩ ⟨D, dn, dc⟩ := ⟨hrD.below hbb, hDn⟩
        have hdB : kBl.deep _ ⟨dg2, dt2, pn2, mr2⟩ ⟨D', dn', dc'⟩ := ⟨irD.below hbb, iDn⟩
        have HC := Lib.hid (ksameBlob_any ⟨dg, dt, pn, mr⟩ ⟨dg2, dt2, pn2, mr2⟩ ⟨D, dn, dc⟩ ⟨D', dn', dc'⟩ _ hdA hdB)
        clear hdA hdB
        obtain ⟨r, hr⟩ : ∃ r, alk ⟨dg, dt, pn, mr⟩ ⟨dg2, dt2, pn2, mr2⟩ = r := ⟨_, rfl⟩
        have HX2 := HX.out r hr
        rw [hr] at HC
        clear hr HX
        cases r with
        | true =>
          have HN := Lib.hid (HX2.1 rfl)
          clear HX2
          go_wp2_with fail
          refine HC.out.mono ?_
          rintro e w' ⟨rfl, hb'⟩
          have hbZ := below_step (below_step hbel hbb) hb'
          clear hal hal2 hbb hb'
          go_wp2
          go_roundw
          case rel => exact ⟨k + 1, by omega, by go_num, HN.out, hbZ⟩
          case measure => simp [intOf] <;> omega
        | false =>
          have HF := Lib.hid (HX2.2 rfl)
          clear HX2
          go_wp2_with fail
          refine HC.out.mono ?_
          rintro e w' ⟨rfl, hb'⟩
          have hbZ := below_step (below_step hbel hbb) hb'
          clear hal hal2 hbb hb'
          go_wp2
          go_ret
          rw [HF.out]
          exact ⟨rfl, hbZ⟩
      · have hd2 : decide ((k : Int) < (l.length : Int)) = false := by rw [decide_eq_false_iff_not]; omega
        have HF : Hid (res = true) := HR.out.1 fun j h1 h2 => HA.out j h1 h2 (by omega)
        go_wp2
        go_ret
        rw [HF.out]
        exact ⟨rfl, hbel⟩
  · have HF : Hid (alks l l2 = false) := by
      show _ = _
      rw [Bool.eq_false_iff]
      exact fun h => hll (alks_len h)
    have d0 : ((l.length : Int) != (l2.length : Int)) = true := by rw [bne_iff_ne]; omega
    go_enter Tryz.func61, Tryz.ntmps61
    go_wp2
    go_ret
    rw [HF.out]
    exact ⟨rfl, Below.refl _ _⟩
set_option maxRecDepth 100000 in
set_option maxHeartbeats 400000 in
theorem ksameBlobs_any (A B : Option Addr) (n m c d : Nat) (l l2 : List Bl) (w : World) (ha : KRd kBl w A n c l) (hb : KRd kBl w B m d l2) (b : Bool) (hr : alks l l2 = b) :
    Calls Tryz.prog 23 #[.slice A n c, .slice B m d] w fun e w' => e = .returned (.bool b) ∧ Below w.heap.size w w' := by
  have HC := kequalB_any _ _ _ _ _ _ _ _ _ ha hb
  rw [hr] at HC
  clear hr ha hb
  go_enter Tryz.func23, Tryz.ntmps23
  go_wp2_with fail
  with_reducible refine HC.mono ?_
  rintro e w' ⟨rfl, hb'⟩
  go_wp2
  go_ret
  exact ⟨rfl, hb'⟩
end Go.Proofs.YtdbdigcpibmgjaaGreatDoor

/- slices.Equal of parts. -/
import Derived.Test.YtnadgdjaldemhaaDoorRows
import Derived.Test.YtnadgdjaldemhaaDoorGX
import Derived.Lib.Hide
import Derived.IntWalk
import Derived.Deep.QuietTactic
import Derived.BigQuiet
namespace Go.Proofs.YtnadgdjaldemhaaDoor
open Go.RowKit
/-- the call answers whether Q holds -/
def GivesT (Q : Prop) (w : World) (e : Ending) (w' : World) : Prop := ∃ b, e = .returned (.bool b) ∧ Hid (b = true ↔ Q) ∧ Below w.heap.size w w'
/-- .. and nothing is done but drawn -/
def GivesQ (Q : Prop) (w : World) (e : Ending) (w' : World) : Prop := ∃ b, e = .returned (.bool b) ∧ Hid (b = true ↔ Q) ∧ ∃ nn, w' = w.drewN nn
theorem GivesT.yes {Q : Prop} {w : World} {e : Ending} {w' : World} (h : GivesT Q w e w') (hq : Q) : e = .returned (.bool true) ∧ Below w.heap.size w w' := by
  obtain ⟨b, rfl, hb, hw⟩ := h
  exact ⟨by rw [hb.out.2 hq], hw⟩
theorem GivesT.no {Q : Prop} {w : World} {e : Ending} {w' : World} (h : GivesT Q w e w') (hq : ¬ Q) : e = .returned (.bool false) ∧ Below w.heap.size w w' := by
  obtain ⟨b, rfl, hb, hw⟩ := h
  cases b
  · exact ⟨rfl, hw⟩
  · exact absurd (hb.out.1 rfl) hq
set_option maxRecDepth 100000 in
set_option maxHeartbeats 1000000 in
theorem equalParts_q (A B : Option Addr) (n0 m0 c d : Nat) (l m : List Prt) (w : World) (hr : Rd w 3 A n0 c (pcs l)) (hs : Rd w 3 B m0 d (pcs m)) :
    Calls Tryd.prog 58 #[.slice A n0 c, .slice B m0 d] w (GivesQ (l = m) w) := by
  obtain rfl := hr.plen
  obtain rfl := hs.plen
  have hcx := hr.2.2.1
  have hcm := hr.2.1
  unfold maxLen at hcx
  by_cases hlen : l.length = m.length
  · have hne : ((l.length : Int) != (m.length : Int)) = false := by rw [bne_eq_false_iff_eq]; omega
    have Hlen := Lib.hid hlen
    have hle1 : l.length ≤ m.length := by omega
    have hle2 : m.length ≤ l.length := by omega
    clear hlen
    go_enter Tryd.func58, Tryd.ntmps58
    go_wp2
    go_loopw [5, 13] (fun _ i wr => ∃ k nn : Nat, k ≤ l.length ∧ i = .int .i64 k ∧ Hid (l.take k = m.take k) ∧ wr = w.drewN nn) (fun _ i _ => l.length - (intOf i).toNat)
    case atStart => exact ⟨0, 0, by omega, rfl, rfl, rfl⟩
    case round =>
      obtain ⟨k, nn, hk, rfl, HE, rfl⟩ := hrel
      by_cases hlt : k < l.length
      · have hltm : k < m.length := by omega
        obtain ⟨b, off, rfl, a0, a1, a2⟩ := hr.part hlt
        obtain ⟨b2, off2, rfl, d0, d1, d2⟩ := hs.part hltm
        have i0 : (k : Int) < l.length := by omega
        have i1 : (k : Int) < m.length := by omega
        have HP : Hid (l.take (k + 1) = m.take (k + 1) ↔ l[k] = m[k]) := by
          show _ ↔ _
          rw [List.take_succ_eq_append_getElem hlt, List.take_succ_eq_append_getElem (l := m) hltm, HE.out, List.append_right_inj, List.cons.injEq]
          exact ⟨fun h => h.1, fun h => ⟨h, rfl⟩⟩
        have HQ : Hid (l = m → l[k] = m[k]) := by
          show _ → _
          intro q; subst q; rfl
        generalize l[k] = p at *
        generalize m[k] = q at *
        have HN0 : Hid (p ≠ q → Hid (false = true ↔ l = m)) := fun hpq => ⟨fun h => (by cases h), fun h => absurd (HQ.out h) hpq⟩
        by_cases e1 : p.nm = q.nm
        · have f1 : (p.nm == q.nm) = true := by rw [beq_iff_eq]; exact e1
          by_cases e2 : p.dg = q.dg
          · have f2 : (p.dg == q.dg) = true := by rw [beq_iff_eq]; exact e2
            by_cases e3 : p.sz = q.sz
            · have f3 : (p.sz == q.sz) = true := by rw [beq_iff_eq]; exact e3
              have HPQ : Hid (p = q) := by show _ = _; cases p; cases q; simp_all
              clear e1 e2 e3 HN0 HQ
              go_wp2
              go_quiet (fail)
              go_wp2
              go_roundw
              case rel => exact ⟨k + 1, nn + nq, by omega, by go_num, HP.out.2 HPQ.out, rfl⟩
              case measure => simp [intOf] <;> omega
            · have f3 : (p.sz == q.sz) = false := by rw [beq_eq_false_iff_ne]; exact e3
              have HN := HN0.out (fun h => e3 (by rw [h]))
              clear e1 e2 e3 HN0 HQ HP
              go_wp2
              go_quiet (fail)
              go_wp2
              go_ret
              exact ⟨_, rfl, HN, _, World.drewN_drewN _ _ _⟩
          · have f2 : (p.dg == q.dg) = false := by rw [beq_eq_false_iff_ne]; exact e2
            have HN := HN0.out (fun h => e2 (by rw [h]))
            clear e1 e2 HN0 HQ HP
            go_wp2
            go_quiet (fail)
            go_wp2
            go_ret
            exact ⟨_, rfl, HN, _, World.drewN_drewN _ _ _⟩
        · have f1 : (p.nm == q.nm) = false := by rw [beq_eq_false_iff_ne]; exact e1
          have HN := HN0.out (fun h => e1 (by rw [h]))
          clear e1 HN0 HQ HP
          go_wp2
          go_quiet (fail)
          go_wp2
          go_ret
          exact ⟨_, rfl, HN, _, World.drewN_drewN _ _ _⟩
      · have hd : decide ((k : Int) < (l.length : Int)) = false := by simp; omega
        have HN : Hid (l = m) := by
          show _ = _
          have := HE.out
          rwa [List.take_of_length_le (by omega), List.take_of_length_le (by omega)] at this
        go_wp2
        go_ret
        exact ⟨_, rfl, ⟨fun _ => HN.out, fun _ => rfl⟩, _, rfl⟩
  · have hne : ((l.length : Int) != (m.length : Int)) = true := by rw [bne_iff_ne]; omega
    have HN : Hid (false = true ↔ l = m) := by
      show _ ↔ _
      refine ⟨fun h => (by cases h), fun h => ?_⟩
      subst h
      exact absurd rfl hlen
    clear hlen
    go_enter Tryd.func58, Tryd.ntmps58
    go_wp2
    go_ret
    exact ⟨_, rfl, HN, 0, rfl⟩
theorem equalParts_any (A B : Option Addr) (n0 m0 c d : Nat) (l m : List Prt) (w : World) (hr : Rd w 3 A n0 c (pcs l)) (hs : Rd w 3 B m0 d (pcs m)) :
    Calls Tryd.prog 58 #[.slice A n0 c, .slice B m0 d] w (GivesT (l = m) w) :=
  (equalParts_q A B n0 m0 c d l m w hr hs).mono fun _ _ ⟨b, h1, h2, nn, h3⟩ => ⟨b, h1, h2, by rw [h3]; exact below_drewN (Below.refl _ _) nn⟩
/-- of parts that are the same, as a quiet call -/
theorem equalParts_quiet (A B : Option Addr) (n0 m0 c d : Nat) (l : List Prt) (w : World) (hr : Rd w 3 A n0 c (pcs l)) (hs : Rd w 3 B m0 d (pcs l)) (nn : Nat) :
    Calls Tryd.prog 58 #[.slice A n0 c, .slice B m0 d] (w.drewN nn) fun e w' => e = .returned (.bool true) ∧ ∃ m, w' = w.drewN m :=
  (equalParts_q A B n0 m0 c d l l (w.drewN nn) (hr.drewN nn) (hs.drewN nn)).mono fun _ _ ⟨b, h1, h2, k, h3⟩ => ⟨by rw [h1, h2.out.2 rfl], nn + k, by rw [h3, World.drewN_drewN]⟩
end Go.Proofs.YtnadgdjaldemhaaDoor

/- The program's Name, checkPart and Check. -/
import Derived.Test.YtnadgdjaldemhaaGreatDoorGX
import Derived.Test.YtnadgdjaldemhaaGreatDoorGB
namespace Go.Proofs.YtnadgdjaldemhaaGreatDoor
open Go.RowKit
set_option maxRecDepth 100000 in
set_option maxHeartbeats 400000 in
theorem mname_size (m : List UInt8) (w : World) (h : m.length = 0 ∨ 12 < m.length) (hm : m.length ≤ maxLen) :
    Calls Tryz.prog 118 #[.string (str m)] w fun e w' => e = .returned (.int .i64 1) ∧ w = w' := by
  unfold maxLen at hm
  by_cases h0 : m.length = 0
  · obtain rfl : m = [] := List.eq_nil_of_length_eq_zero h0
    go_enter Tryz.func118, Tryz.ntmps118
    go_wp2
    go_ret
    exact ⟨rfl, rfl⟩
  · have hd0 : decide ((m.length : Int) < 1) = false := by simp; omega
    have hd : decide (12 < (m.length : Int)) = true := by simp; omega
    go_enter Tryz.func118, Tryz.ntmps118
    go_wp2
    go_ret
    exact ⟨rfl, rfl⟩
set_option maxRecDepth 100000 in
set_option maxHeartbeats 400000 in
theorem mname_in (m : List UInt8) (w : World) (h1 : 1 ≤ m.length) (h2 : m.length ≤ 12) :
    Calls Tryz.prog 118 #[.string (str m)] w fun e w' => e = .returned (.int .i64 (nmErr m)) ∧ w = w' := by
  have HQ : Hid (nmErr m = if m.all okN then 0 else 3) := if_neg (by omega)
  have hd0 : decide ((m.length : Int) < 1) = false := by simp; omega
  have hd : decide (12 < (m.length : Int)) = false := by simp; omega
  go_enter Tryz.func118, Tryz.ntmps118
  go_wp2
  go_loop [3, 14] (fun _ i => ∃ k : Nat, k ≤ m.length ∧ i = .int .i64 k ∧ Hid ((m.take k).all okN = true)) (fun _ i => m.length - (intOf i).toNat)
  case atStart => exact ⟨0, Nat.zero_le _, rfl, rfl⟩
  case round =>
    obtain ⟨k, hk, rfl, HA⟩ := hrel
    by_cases hlt : k < m.length
    · have hs := all_step (f := okN) hlt
      rw [HA.out, Bool.true_and] at hs
      have HS := Lib.hid hs
      have hfail : okN m[k] = false → Hid (m.all okN = false) := fun hf => by
        show _ = _
        rw [Bool.eq_false_iff]
        intro h
        rw [List.all_eq_true.1 h _ (List.getElem_mem hlt)] at hf
        cases hf
      have HF := Lib.hid hfail
      clear hs hfail
      by_cases hlo : y8 m[k] < 33
      · have d1 : decide (y8 m[k] < 33) = true := by simpa using hlo
        have HE := HF.out (by unfold okN; simp; omega)
        clear hlo HF
        go_wp2
        go_ret
        exact ⟨ret_int (by rw [HQ.out, HE.out]; rfl), rfl⟩
      · have d1 : decide (y8 m[k] < 33) = false := by simpa using hlo
        by_cases hhi : 126 < y8 m[k]
        · have d2 : decide (126 < y8 m[k]) = true := by simpa using hhi
          have HE := HF.out (by unfold okN; simp; omega)
          go_wp2
          go_ret
          exact ⟨ret_int (by rw [HQ.out, HE.out]; rfl), rfl⟩
        · have d2 : decide (126 < y8 m[k]) = false := by simpa using hhi
          have HO : Hid (okN m[k] = true) := by show _ = _; unfold okN; simp; omega
          go_wp2
          go_round
          case rel => exact ⟨k + 1, by omega, by go_num, HS.out.trans HO.out⟩
          case measure => simp [intOf] <;> omega
    · have hd2 : decide ((k : Int) < (m.length : Int)) = false := by simp; omega
      have HE : Hid (m.all okN = true) := by
        show _ = _
        have := HA.out
        rwa [List.take_of_length_le (by omega)] at this
      go_wp2
      go_ret
      exact ⟨ret_int (by rw [HQ.out, HE.out]; rfl), rfl⟩
theorem mname_eq (m : List UInt8) (w : World) (hm : m.length ≤ maxLen) :
    Calls Tryz.prog 118 #[.string (str m)] w fun e w' => e = .returned (.int .i64 (nmErr m)) ∧ w = w' := by
  by_cases h : m.length = 0 ∨ 12 < m.length
  · rw [show nmErr m = 1 from if_pos h]
    exact mname_size m w h hm
  · exact mname_in m w (by omega) (by omega)
theorem mname_any (m : List UInt8) (w : World) (hm : m.length ≤ maxLen) :
    Calls Tryz.prog 118 #[.string (str m)] w fun e w' => e = .returned (.int .i64 (nmErr m)) ∧ Below w.heap.size w w' := by
  refine (mname_eq m w hm).mono ?_
  rintro e w' ⟨rfl, rfl⟩
  exact ⟨rfl, Below.refl _ _⟩
/-- the error of one part behind the name 'm' -/
def kErr (m : List UInt8) (p : Prt) : Int :=
  if nmErr p.nm ≠ 0 then nmErr p.nm else if nle p.nm m = true then 6 else if cErr p.dg ≠ 0 then cErr p.dg else if p.sz < 0 ∨ 300 < p.sz then 4 else 0
theorem pErr_k (m : List UInt8) (p : Prt) (r : List Prt) : pErr m (p :: r) = if kErr m p ≠ 0 then kErr m p else pErr p.nm r := by
  rw [pErr, kErr]
  split
  · rfl
  · split
    · rw [if_pos (by omega)]
    · split
      · rfl
      · split
        · rw [if_pos (by omega)]
        · rw [if_neg (by omega)]
set_option maxRecDepth 100000 in
set_option maxHeartbeats 1000000 in
theorem checkPart_any (nm dg : List UInt8) (sz : Int) (m : List UInt8) (w : World) (g0 : nm.length ≤ maxLen) (g1 : dg.length ≤ maxLen) :
    Calls Tryz.prog 82 #[.agg #[.string (str nm), .string (str dg), .int .i64 sz], .string (str m)] w fun e w' => e = .returned (.int .i64 (kErr m ⟨nm, dg, sz⟩)) ∧ Below w.heap.size w w' := by
  obtain ⟨er, her⟩ : ∃ er, Hid (kErr m ⟨nm, dg, sz⟩ = er) := ⟨_, rfl⟩
  rw [her.out]
  have hal := (Below.refl w.heap.size w).alloc (Nat.le_refl _) (.cells #[.string (str nm), .string (str dg), .int .i64 sz] 55)
  have hbk := Blk.new w 55 [.string (str nm), .string (str dg), .int .i64 sz]
  have e0 := hbk.cell 0
  have e1 := hbk.cell 1
  have e2 := hbk.cell 2
  simp only [List.getElem?_cons_succ, List.getElem?_cons_zero] at e0 e1 e2
  go_enter Tryz.func82, Tryz.ntmps82
  go_wp2_with fail
  with_reducible refine (mname_eq _ _ g0).mono ?_
  rintro e w1 ⟨rfl, rfl⟩
  by_cases hn : nmErr nm = 0
  · have n1 : (nmErr nm != 0) = false := by rw [bne_eq_false_iff_eq]; exact hn
    have HN := Lib.hid hn
    clear hn hbk
    by_cases hle : Op.bytesLess nm m = true
    · have HF : Hid (er = 6) := by show _ = _; rw [← her.out, kErr, if_neg (by rw [HN.out]; omega), if_pos (by unfold nle; rw [hle]; rfl)]
      go_wp2
      go_ret
      exact ⟨ret_int HF.out.symm, hal⟩
    · have hle' : Op.bytesLess nm m = false := by simpa using hle
      clear hle
      by_cases heq : (nm == m) = true
      · have HF : Hid (er = 6) := by show _ = _; rw [← her.out, kErr, if_neg (by rw [HN.out]; omega), if_pos (by unfold nle; rw [hle', heq]; rfl)]
        go_wp2
        go_ret
        exact ⟨ret_int HF.out.symm, hal⟩
      · have heq' : (nm == m) = false := by simpa using heq
        have HL : Hid (¬ nle nm m = true) := by show ¬ _; unfold nle; rw [hle', heq']; decide
        clear heq
        go_wp2_with fail
        with_reducible refine (hcheck_all _ _ g1).mono ?_
        rintro e w2 ⟨rfl, rfl⟩
        by_cases hc : cErr dg = 0
        · have c1 : (cErr dg != 0) = false := by rw [bne_eq_false_iff_eq]; exact hc
          have HC := Lib.hid hc
          clear hc
          by_cases hlo : sz < 0
          · have s1 : decide (sz < 0) = true := by simpa using hlo
            have HF : Hid (er = 4) := by show _ = _; rw [← her.out, kErr, if_neg (by rw [HN.out]; omega), if_neg HL.out, if_neg (by rw [HC.out]; omega), if_pos (.inl hlo)]
            go_wp2
            go_ret
            exact ⟨ret_int HF.out.symm, hal⟩
          · have s1 : decide (sz < 0) = false := by simpa using hlo
            by_cases hhi : 300 < sz
            · have s2 : decide (300 < sz) = true := by simpa using hhi
              have HF : Hid (er = 4) := by show _ = _; rw [← her.out, kErr, if_neg (by rw [HN.out]; omega), if_neg HL.out, if_neg (by rw [HC.out]; omega), if_pos (.inr hhi)]
              go_wp2
              go_ret
              exact ⟨ret_int HF.out.symm, hal⟩
            · have s2 : decide (300 < sz) = false := by simpa using hhi
              have HF : Hid (er = 0) := by show _ = _; rw [← her.out, kErr, if_neg (by rw [HN.out]; omega), if_neg HL.out, if_neg (by rw [HC.out]; omega), if_neg (by simp only; omega)]
              go_wp2
              go_ret
              exact ⟨ret_int HF.out.symm, hal⟩
        · have c1 : (cErr dg != 0) = true := by rw [bne_iff_ne]; exact hc
          have HF : Hid (er = cErr dg) := by show _ = _; rw [← her.out, kErr, if_neg (by rw [HN.out]; omega), if_neg HL.out, if_pos hc]
          clear hc
          go_wp2
          go_ret
          exact ⟨ret_int HF.out.symm, hal⟩
  · have n1 : (nmErr nm != 0) = true := by rw [bne_iff_ne]; exact hn
    have HF : Hid (er = nmErr nm) := by show _ = _; rw [← her.out, kErr, if_pos hn]
    clear hn hbk
    go_wp2
    go_ret
    exact ⟨ret_int HF.out.symm, hal⟩
set_option maxRecDepth 100000 in
set_option maxHeartbeats 400000 in
theorem mcheck_big (A : Option Addr) (n c : Nat) (w : World) (h : 8 < n) (hn : n ≤ 9223372036854775807) :
    Calls Tryz.prog 48 #[.slice A n c] w fun e w' => e = .returned (.int .i64 1) ∧ w = w' := by
  go_enter Tryz.func48, Tryz.ntmps48
  go_wp2
  go_ret
  exact ⟨rfl, rfl⟩
set_option maxRecDepth 100000 in
set_option maxHeartbeats 2000000 in
theorem mcheck_in (A : Option Addr) (n c : Nat) (l : List Prt) (w : World) (hr : Rd w 3 A n c (pcs l)) (hg : ∀ p ∈ l, p.good) (h8 : n ≤ 8) :
    Calls Tryz.prog 48 #[.slice A n c] w fun e w' => e = .returned (.int .i64 (pErr [] l)) ∧ Below w.heap.size w w' := by
  obtain rfl := hr.plen
  have hd : decide (8 < (l.length : Int)) = false := by simp; omega
  have HG := Lib.hid hg
  obtain ⟨er, her⟩ : ∃ er, Hid (pErr [] l = er) := ⟨_, rfl⟩
  rw [her.out]
  clear hg
  go_enter Tryz.func48, Tryz.ntmps48
  go_wp2
  go_loopw [3, 5, 6, 12] (fun s _ _ i wr => ∃ (k : Nat) (m : List UInt8), k ≤ l.length ∧ i = .int .i64 k ∧ s = .string (str m) ∧ Hid (er = pErr m (l.drop k)) ∧ Below w.heap.size w wr) (fun _ _ _ i _ => l.length - (intOf i).toNat)
  case atStart => exact ⟨0, [], Nat.zero_le _, rfl, rfl, her.out.symm, Below.refl _ _⟩
  case round =>
    obtain ⟨k, m, hk, rfl, rfl, HE, hbel⟩ := hrel
    by_cases hlt : k < l.length
    · obtain ⟨b, off, rfl, hc0, hc1, hc2⟩ := (hr.below hbel).part hlt
      obtain ⟨g0, g1, g2⟩ := HG.out l[k] (List.getElem_mem hlt)
      have hdk : l.drop k = l[k] :: l.drop (k + 1) := List.drop_eq_getElem_cons hlt
      have HP : Hid (er = pErr m (l[k] :: l.drop (k + 1))) := by show _ = _; rw [← hdk]; exact HE.out
      have hki : (k : Int) < (l.length : Int) := by omega
      clear hdk HE
      generalize l[k] = p at *
      obtain ⟨nm, dg, sz⟩ := p
      simp only at g0 g1 g2 hc0 hc1 hc2
      have hal := (Below.refl wr.heap.size wr).alloc (Nat.le_refl _) (.cells #[.string (str nm), .string (str dg), .int .i64 sz] 55)
      have hbk := Blk.new wr 55 [.string (str nm), .string (str dg), .int .i64 sz]
      go_wp2_with fail
      with_reducible refine (checkPart_any _ _ _ _ _ g0 g1).mono ?_
      rintro e w1 ⟨rfl, hb1⟩
      have hbk1 := hbk.below hb1 hbk.lt
      have hbA := below_step hbel (hal.trans (hb1.mono (by simp)))
      have e0 : w1.cell? ⟨wr.heap.size, 0, none⟩ = some (.string (str nm)) := hbk1.cell 0
      clear hbk hal hc0 hc1 hc2
      by_cases hn : kErr m ⟨nm, dg, sz⟩ = 0
      · have n1 : (kErr m ⟨nm, dg, sz⟩ != 0) = false := by rw [bne_eq_false_iff_eq]; exact hn
        have HF : Hid (er = pErr nm (l.drop (k + 1))) := by show _ = _; rw [HP.out, pErr_k, if_neg (by rw [hn]; omega)]
        clear hn
        go_wp2
        go_roundw
        case rel => exact ⟨k + 1, nm, by omega, by go_num, rfl, HF.out, hbA⟩
        case measure => simp [intOf] <;> omega
      · have n1 : (kErr m ⟨nm, dg, sz⟩ != 0) = true := by rw [bne_iff_ne]; exact hn
        have HF : Hid (er = kErr m ⟨nm, dg, sz⟩) := by show _ = _; rw [HP.out, pErr_k, if_pos hn]
        clear hn
        go_wp2
        go_ret
        exact ⟨ret_int HF.out.symm, hbA⟩
    · have hd2 : decide ((k : Int) < (l.length : Int)) = false := by simp; omega
      have HF : Hid (er = 0) := by show _ = _; rw [HE.out, List.drop_of_length_le (by omega)]; rfl
      go_wp2
      go_ret
      exact ⟨ret_int HF.out.symm, hbel⟩
theorem mcheck_any (A : Option Addr) (n c : Nat) (l : List Prt) (w : World) (hr : Rd w 3 A n c (pcs l)) (hg : ∀ p ∈ l, p.good) :
    Calls Tryz.prog 48 #[.slice A n c] w fun e w' => e = .returned (.int .i64 (psErr l)) ∧ Below w.heap.size w w' := by
  have hn := hr.plen
  by_cases h : 8 < n
  · rw [show psErr l = 1 from if_pos (by omega)]
    have h1 := hr.2.1
    have h2 := hr.2.2.1
    unfold maxLen at h2
    refine (mcheck_big A n c w h (by omega)).mono ?_
    rintro e w' ⟨rfl, rfl⟩
    exact ⟨rfl, Below.refl _ _⟩
  · rw [show psErr l = pErr [] l from if_neg (by omega)]
    exact mcheck_in A n c l w hr hg (by omega)
end Go.Proofs.YtnadgdjaldemhaaGreatDoor

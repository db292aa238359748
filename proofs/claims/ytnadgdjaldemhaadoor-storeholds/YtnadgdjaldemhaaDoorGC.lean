/- Texts that belong together: what the functions of the program and of the statements return. -/
import Derived.Test.YtnadgdjaldemhaaDoorRows
import Derived.Test.YtnadgdjaldemhaaDoorGX
import Derived.Lib.Hide
import Derived.IntWalk
import Derived.Test.YtnadgdjaldemhaaDoorGB
import Derived.Test.YtnadgdjaldemhaaDoorGA
/- The reference's NameFault. -/
namespace Go.Proofs.YtnadgdjaldemhaaDoor
open Go.RowKit
set_option maxRecDepth 100000 in
set_option maxHeartbeats 400000 in
theorem nameFault_size (m : List UInt8) (w : World) (h : m.length = 0 ∨ 12 < m.length) (hm : m.length ≤ maxLen) :
    Calls Tryd.prog 81 #[.string (str m)] w fun e w' => e = .returned (.int .i64 1) ∧ w = w' := by
  unfold maxLen at hm
  by_cases h0 : m.length = 0
  · obtain rfl : m = [] := List.eq_nil_of_length_eq_zero h0
    go_enter Tryd.func81, Tryd.ntmps81
    go_wp2
    go_ret
    exact ⟨rfl, rfl⟩
  · have hne : (m == []) = false := by rw [beq_eq_false_iff_ne]; rintro rfl; exact h0 rfl
    have hd : decide (12 < (m.length : Int)) = true := by simp; omega
    go_enter Tryd.func81, Tryd.ntmps81
    go_wp2
    go_ret
    exact ⟨rfl, rfl⟩
set_option maxRecDepth 100000 in
set_option maxHeartbeats 400000 in
theorem nameFault_in (m : List UInt8) (w : World) (h1 : 1 ≤ m.length) (h2 : m.length ≤ 12) :
    Calls Tryd.prog 81 #[.string (str m)] w fun e w' => e = .returned (.int .i64 (nmErr m)) ∧ Below w.heap.size w w' := by
  have HQ : Hid (nmErr m = if m.all okN then 0 else 3) := if_neg (by omega)
  have hne : (m == []) = false := by rw [beq_eq_false_iff_ne]; rintro rfl; simp at h1
  have hd : decide (12 < (m.length : Int)) = false := by simp; omega
  obtain ⟨c1, w1, hcv, hr, hb1, hs1⟩ := run_str_bytes (P := Tryd.prog) Tryd.underlying9 Tryd.underlying31 Tryd.underlying5 w m (by unfold maxLen; omega)
  clear hs1
  go_enter Tryd.func81, Tryd.ntmps81
  go_wp2
  go_loop [4, 15] (fun _ i => ∃ k : Nat, k ≤ m.length ∧ i = .int .i64 k ∧ Hid ((m.take k).all okN = true)) (fun _ i => m.length - (intOf i).toNat)
  case atStart => exact ⟨0, Nat.zero_le _, rfl, rfl⟩
  case round =>
    obtain ⟨k, hk, rfl, HA⟩ := hrel
    by_cases hlt : k < m.length
    · obtain ⟨b, off, hA0, hcell⟩ := hr.at (k := k) (v := .int .u8 (y8 m[k])) (by rw [List.getElem?_map, List.getElem?_eq_getElem hlt]; rfl)
      obtain ⟨rfl, rfl⟩ : w.heap.size = b ∧ 0 = off := by injection hA0 with hA0; injection hA0 with q1 q2; exact ⟨q1, q2⟩
      rw [Nat.zero_add] at hcell
      have hs := all_step (f := okN) hlt
      rw [HA.out, Bool.true_and] at hs
      have HS := Lib.hid hs
      have hfail : okN m[k] = false → Hid (m.all okN = false) := fun hf => by
        show _ = _
        rw [Bool.eq_false_iff]
        intro h
        rw [List.all_eq_true.1 h _ (List.getElem_mem hlt)] at hf
        cases hf
      have HF := Lib.hid hfail
      clear hs hA0 hfail
      by_cases hlo : y8 m[k] < 33
      · have d1 : decide (y8 m[k] < 33) = true := by simpa using hlo
        have HE := HF.out (by unfold okN; simp; omega)
        clear hlo HF
        go_wp2
        go_ret
        exact ⟨ret_int (by rw [HQ.out, HE.out]; rfl), hb1⟩
      · have d1 : decide (y8 m[k] < 33) = false := by simpa using hlo
        by_cases hhi : 126 < y8 m[k]
        · have d2 : decide (126 < y8 m[k]) = true := by simpa using hhi
          have HE := HF.out (by unfold okN; simp; omega)
          go_wp2
          go_ret
          exact ⟨ret_int (by rw [HQ.out, HE.out]; rfl), hb1⟩
        · have d2 : decide (126 < y8 m[k]) = false := by simpa using hhi
          have HO : Hid (okN m[k] = true) := by show _ = _; unfold okN; simp; omega
          go_wp2
          go_round
          case rel => exact ⟨k + 1, by omega, by go_num, HS.out.trans HO.out⟩
          case measure => simp [intOf] <;> omega
    · have hd2 : decide ((k : Int) < (m.length : Int)) = false := by simp; omega
      have HE : Hid (m.all okN = true) := by
        show _ = _
        have := HA.out
        rwa [List.take_of_length_le (by omega)] at this
      go_wp2
      go_ret
      exact ⟨ret_int (by rw [HQ.out, HE.out]; rfl), hb1⟩
theorem nameFault_any (m : List UInt8) (w : World) (hm : m.length ≤ maxLen) :
    Calls Tryd.prog 81 #[.string (str m)] w fun e w' => e = .returned (.int .i64 (nmErr m)) ∧ Below w.heap.size w w' := by
  by_cases h : m.length = 0 ∨ 12 < m.length
  · rw [show nmErr m = 1 from if_pos h]
    refine (nameFault_size m w h hm).mono ?_
    rintro e w' ⟨rfl, rfl⟩
    exact ⟨rfl, Below.refl _ _⟩
  · exact nameFault_in m w (by omega) (by omega)
end Go.Proofs.YtnadgdjaldemhaaDoor
/- The reference's PartsFault. -/
namespace Go.Proofs.YtnadgdjaldemhaaDoor
open Go.RowKit
set_option maxRecDepth 100000 in
set_option maxHeartbeats 400000 in
theorem partsFault_big (A : Option Addr) (n c : Nat) (w : World) (h : 8 < n) (hn : n ≤ 9223372036854775807) :
    Calls Tryd.prog 53 #[.slice A n c] w fun e w' => e = .returned (.int .i64 1) ∧ w = w' := by
  go_enter Tryd.func53, Tryd.ntmps53
  go_wp2
  go_ret
  exact ⟨rfl, rfl⟩
set_option maxRecDepth 100000 in
set_option maxHeartbeats 2000000 in
theorem partsFault_in (A : Option Addr) (n c : Nat) (l : List Prt) (w : World) (hr : Rd w 3 A n c (pcs l)) (hg : ∀ p ∈ l, p.good) (h8 : n ≤ 8) :
    Calls Tryd.prog 53 #[.slice A n c] w fun e w' => e = .returned (.int .i64 (pErr [] l)) ∧ Below w.heap.size w w' := by
  obtain rfl := hr.plen
  have hd : decide (8 < (l.length : Int)) = false := by simp; omega
  have HG := Lib.hid hg
  obtain ⟨er, her⟩ : ∃ er, Hid (pErr [] l = er) := ⟨_, rfl⟩
  rw [her.out]
  clear hg
  go_enter Tryd.func53, Tryd.ntmps53
  go_wp2
  go_loopw [3, 5, 6, 7, 13] (fun s _ _ _ i wr => ∃ (k : Nat) (m : List UInt8), k ≤ l.length ∧ i = .int .i64 k ∧ s = .string (str m) ∧ Hid (er = pErr m (l.drop k)) ∧ Below w.heap.size w wr) (fun _ _ _ _ i _ => l.length - (intOf i).toNat)
  case atStart => exact ⟨0, [], Nat.zero_le _, rfl, rfl, her.out.symm, Below.refl _ _⟩
  case round =>
    obtain ⟨k, m, hk, rfl, rfl, HE, hbel⟩ := hrel
    by_cases hlt : k < l.length
    · obtain ⟨b, off, rfl, hc0, hc1, hc2⟩ := (hr.below hbel).part hlt
      obtain ⟨g0, g1, g2⟩ := HG.out l[k] (List.getElem_mem hlt)
      have hdk : l.drop k = l[k] :: l.drop (k + 1) := List.drop_eq_getElem_cons hlt
      have HP : Hid (er = pErr m (l[k] :: l.drop (k + 1))) := by show _ = _; rw [← hdk]; exact HE.out
      have hki : (k : Int) < (l.length : Int) := by omega
      clear hdk HE
      generalize l[k] = p at *
      have hal := (Below.refl wr.heap.size wr).alloc (Nat.le_refl _) (.cells #[.string (str p.nm), .string (str p.dg), .int .i64 p.sz] 75)
      have hbk := Blk.new wr 75 p.cells
      go_wp2_with fail
      with_reducible refine (nameFault_any _ _ g0).mono ?_
      rintro e w1 ⟨rfl, hb1⟩
      have hbk1 : Blk w1 wr.heap.size 75 p.cells := hbk.below hb1 hbk.lt
      have hbA := below_step hbel (hal.trans (hb1.mono (by simp)))
      have e0 : w1.cell? ⟨wr.heap.size, 0, none⟩ = some (.string (str p.nm)) := hbk1.cell 0
      have e1 : w1.cell? ⟨wr.heap.size, 1, none⟩ = some (.string (str p.dg)) := hbk1.cell 1
      have e2 : w1.cell? ⟨wr.heap.size, 2, none⟩ = some (.int .i64 p.sz) := hbk1.cell 2
      by_cases hn : nmErr p.nm = 0
      · have n1 : (nmErr p.nm != 0) = false := by rw [bne_eq_false_iff_eq]; exact hn
        have HN := Lib.hid hn
        clear hn hbk hal hc0 hc1 hc2
        by_cases hle : Op.bytesLess p.nm m = true
        · have HF : Hid (er = 6) := by show _ = _; rw [HP.out, pErr, HN.out, if_neg (by omega), if_pos (by unfold nle; rw [hle]; rfl)]
          go_wp2
          go_ret
          exact ⟨ret_int HF.out.symm, hbA⟩
        · have hle' : Op.bytesLess p.nm m = false := by simpa using hle
          clear hle
          by_cases heq : (p.nm == m) = true
          · have HF : Hid (er = 6) := by show _ = _; rw [HP.out, pErr, HN.out, if_neg (by omega), if_pos (by unfold nle; rw [hle', heq]; rfl)]
            go_wp2
            go_ret
            exact ⟨ret_int HF.out.symm, hbA⟩
          · have heq' : (p.nm == m) = false := by simpa using heq
            have HL : Hid (¬ nle p.nm m = true) := by show ¬ _; unfold nle; rw [hle', heq']; decide
            clear heq
            go_wp2_with fail
            with_reducible refine (hexFault_all _ _ g1).mono ?_
            rintro e w2 ⟨rfl, hb2⟩
            have hbB := below_step hbA hb2
            have hw1 : wr.heap.size < w1.heap.size := hbk1.lt
            have d0 : w2.cell? ⟨wr.heap.size, 0, none⟩ = some (.string (str p.nm)) := (hb2.cell (p := ⟨wr.heap.size, 0, none⟩) hw1).trans e0
            have d2 : w2.cell? ⟨wr.heap.size, 2, none⟩ = some (.int .i64 p.sz) := (hb2.cell (p := ⟨wr.heap.size, 2, none⟩) hw1).trans e2
            clear e0 e1 e2 hb1 hbk1 hbA
            by_cases hc : cErr p.dg = 0
            · have c1 : (cErr p.dg != 0) = false := by rw [bne_eq_false_iff_eq]; exact hc
              have HC := Lib.hid hc
              clear hc
              by_cases hlo : p.sz < 0
              · have s1 : decide (p.sz < 0) = true := by simpa using hlo
                have HF : Hid (er = 4) := by show _ = _; rw [HP.out, pErr, HN.out, if_neg (by omega), if_neg HL.out, HC.out, if_neg (by omega), if_pos (.inl hlo)]
                go_wp2
                go_ret
                exact ⟨ret_int HF.out.symm, hbB⟩
              · have s1 : decide (p.sz < 0) = false := by simpa using hlo
                by_cases hhi : 300 < p.sz
                · have s2 : decide (300 < p.sz) = true := by simpa using hhi
                  have HF : Hid (er = 4) := by show _ = _; rw [HP.out, pErr, HN.out, if_neg (by omega), if_neg HL.out, HC.out, if_neg (by omega), if_pos (.inr hhi)]
                  go_wp2
                  go_ret
                  exact ⟨ret_int HF.out.symm, hbB⟩
                · have s2 : decide (300 < p.sz) = false := by simpa using hhi
                  have HF : Hid (er = pErr p.nm (l.drop (k + 1))) := by show _ = _; rw [HP.out, pErr, HN.out, if_neg (by omega), if_neg HL.out, HC.out, if_neg (by omega), if_neg (by omega)]
                  go_wp2
                  go_roundw
                  case rel => exact ⟨k + 1, p.nm, by omega, by go_num, rfl, HF.out, hbB⟩
                  case measure => simp [intOf] <;> omega
            · have c1 : (cErr p.dg != 0) = true := by rw [bne_iff_ne]; exact hc
              have HF : Hid (er = cErr p.dg) := by show _ = _; rw [HP.out, pErr, HN.out, if_neg (by omega), if_neg HL.out, if_pos hc]
              clear hc
              go_wp2
              go_ret
              exact ⟨ret_int HF.out.symm, hbB⟩
      · have n1 : (nmErr p.nm != 0) = true := by rw [bne_iff_ne]; exact hn
        have HN := Lib.hid hn
        have HF : Hid (er = nmErr p.nm) := by show _ = _; rw [HP.out, pErr, if_pos hn]
        clear hn hbk hal hc0 hc1 hc2
        go_wp2
        go_ret
        exact ⟨ret_int HF.out.symm, hbA⟩
    · have hd2 : decide ((k : Int) < (l.length : Int)) = false := by simp; omega
      have HF : Hid (er = 0) := by show _ = _; rw [HE.out, List.drop_of_length_le (by omega)]; rfl
      go_wp2
      go_ret
      exact ⟨ret_int HF.out.symm, hbel⟩
theorem partsFault_any (A : Option Addr) (n c : Nat) (l : List Prt) (w : World) (hr : Rd w 3 A n c (pcs l)) (hg : ∀ p ∈ l, p.good) :
    Calls Tryd.prog 53 #[.slice A n c] w fun e w' => e = .returned (.int .i64 (psErr l)) ∧ Below w.heap.size w w' := by
  have hn := hr.plen
  by_cases h : 8 < n
  · rw [show psErr l = 1 from if_pos (by omega)]
    have h1 := hr.2.1
    have h2 := hr.2.2.1
    unfold maxLen at h2
    refine (partsFault_big A n c w h (by omega)).mono ?_
    rintro e w' ⟨rfl, rfl⟩
    exact ⟨rfl, Below.refl _ _⟩
  · rw [show psErr l = pErr [] l from if_neg (by omega)]
    exact partsFault_in A n c l w hr hg (by omega)
end Go.Proofs.YtnadgdjaldemhaaDoor

/- Texts that belong together: what the functions of the program and of the statements return. -/
import Derived.Test.YtdbdigcpibmgjaaGreatDoorRows
import Derived.Test.YtdbdigcpibmgjaaGreatDoorGX
import Derived.Lib.Hide
import Derived.IntWalk
import Derived.Test.YtdbdigcpibmgjaaGreatDoorGB
import Derived.Test.YtdbdigcpibmgjaaGreatDoorGA
import Derived.OneCell
/- The reference's NameFault. -/
namespace Go.Proofs.YtdbdigcpibmgjaaGreatDoor
open Go.RowKit
set_option maxRecDepth 100000 in
set_option maxHeartbeats 400000 in
theorem nameFault_size (m : List UInt8) (w : World) (h : m.length = 0 ∨ 12 < m.length) (hm : m.length ≤ maxLen) :
    Calls Tryz.prog 159 #[.string (str m)] w fun e w' => e = .returned (.int .i64 1) ∧ w = w' := by
  unfold maxLen at hm
  by_cases h0 : m.length = 0
  · obtain rfl : m = [] := List.eq_nil_of_length_eq_zero h0
    go_enter Tryz.func159, Tryz.ntmps159
    go_wp2
    go_ret
    exact ⟨rfl, rfl⟩
  · have hne : (m == []) = false := by rw [beq_eq_false_iff_ne]; rintro rfl; exact h0 rfl
    have hd : decide (12 < (m.length : Int)) = true := by simp; omega
    go_enter Tryz.func159, Tryz.ntmps159
    go_wp2
    go_ret
    exact ⟨rfl, rfl⟩
set_option maxRecDepth 100000 in
set_option maxHeartbeats 400000 in
theorem nameFault_in (m : List UInt8) (w : World) (h1 : 1 ≤ m.length) (h2 : m.length ≤ 12) :
    Calls Tryz.prog 159 #[.string (str m)] w fun e w' => e = .returned (.int .i64 (nmErr m)) ∧ Below w.heap.size w w' := by
  have HQ : Hid (nmErr m = if m.all okN then 0 else 3) := if_neg (by omega)
  have hne : (m == []) = false := by rw [beq_eq_false_iff_ne]; rintro rfl; simp at h1
  have hd : decide (12 < (m.length : Int)) = false := by simp; omega
  obtain ⟨c1, w1, hcv, hr, hb1, hs1⟩ := run_str_bytes (P := Tryz.prog) Tryz.underlying9 Tryz.underlying43 Tryz.underlying5 w m (by unfold maxLen; omega)
  clear hs1
  go_enter Tryz.func159, Tryz.ntmps159
  go_wp2
  go_loop [4, 15] (fun _ i => ∃ k : Nat, k ≤ m.length ∧ i = .int .i64 k ∧ Hid ((m.take k).all okN = true)) (fun _ i => m.length - (intOf i).toNat)
  case atStart => exact ⟨0, Nat.zero_le _, rfl, rfl⟩
  case round =>
    obtain ⟨k, hk, rfl, HA⟩ := hrel
    by_cases hlt : k < m.length
    · obtain ⟨b, off, hA0, hcell⟩ := hr.at (k := k) (v := .int .u8 (y8 m[k])) (by rw [List.getElem?_map, List.getElem?_eq_getElem hlt]; rfl)
      obtain ⟨rfl, rfl⟩ : w.heap.size = b ∧ 0 = off := by injection hA0 with hA0; injection hA0 with q1 q2; exact ⟨q1, q2⟩
      rw [Nat.zero_add] at hcell
      have hs := all_step (f := okN) hlt
      rw [HA.out, Bool.true_and] at hs
      have HS := Lib.hid hs
      have hfail : okN m[k] = false → Hid (m.all okN = false) := fun hf => by
        show _ = _
        rw [Bool.eq_false_iff]
        intro h
        rw [List.all_eq_true.1 h _ (List.getElem_mem hlt)] at hf
        cases hf
      have HF := Lib.hid hfail
      clear hs hA0 hfail
      by_cases hlo : y8 m[k] < 33
      · have d1 : decide (y8 m[k] < 33) = true := by simpa using hlo
        have HE := HF.out (by unfold okN; simp; omega)
        clear hlo HF
        go_wp2
        go_ret
        exact ⟨ret_int (by rw [HQ.out, HE.out]; rfl), hb1⟩
      · have d1 : decide (y8 m[k] < 33) = false := by simpa using hlo
        by_cases hhi : 126 < y8 m[k]
        · have d2 : decide (126 < y8 m[k]) = true := by simpa using hhi
          have HE := HF.out (by unfold okN; simp; omega)
          go_wp2
          go_ret
          exact ⟨ret_int (by rw [HQ.out, HE.out]; rfl), hb1⟩
        · have d2 : decide (126 < y8 m[k]) = false := by simpa using hhi
          have HO : Hid (okN m[k] = true) := by show _ = _; unfold okN; simp; omega
          go_wp2
          go_round
          case rel => exact ⟨k + 1, by omega, by go_num, HS.out.trans HO.out⟩
          case measure => simp [intOf] <;> omega
    · have hd2 : decide ((k : Int) < (m.length : Int)) = false := by simp; omega
      have HE : Hid (m.all okN = true) := by
        show _ = _
        have := HA.out
        rwa [List.take_of_length_le (by omega)] at this
      go_wp2
      go_ret
      exact ⟨ret_int (by rw [HQ.out, HE.out]; rfl), hb1⟩
theorem nameFault_any (m : List UInt8) (w : World) (hm : m.length ≤ maxLen) :
    Calls Tryz.prog 159 #[.string (str m)] w fun e w' => e = .returned (.int .i64 (nmErr m)) ∧ Below w.heap.size w w' := by
  by_cases h : m.length = 0 ∨ 12 < m.length
  · rw [show nmErr m = 1 from if_pos h]
    refine (nameFault_size m w h hm).mono ?_
    rintro e w' ⟨rfl, rfl⟩
    exact ⟨rfl, Below.refl _ _⟩
  · exact nameFault_in m w (by omega) (by omega)
end Go.Proofs.YtdbdigcpibmgjaaGreatDoor
/- The reference's PartsFault. -/
namespace Go.Proofs.YtdbdigcpibmgjaaGreatDoor
open Go.RowKit
set_option maxRecDepth 100000 in
set_option maxHeartbeats 400000 in
theorem partsFault_big (A : Option Addr) (n c : Nat) (w : World) (h : 8 < n) (hn : n ≤ 9223372036854775807) :
    Calls Tryz.prog 116 #[.slice A n c] w fun e w' => e = .returned (.int .i64 1) ∧ w = w' := by
  go_enter Tryz.func116, Tryz.ntmps116
  go_wp2
  go_ret
  exact ⟨rfl, rfl⟩
set_option maxRecDepth 100000 in
set_option maxHeartbeats 2000000 in
theorem partsFault_in (A : Option Addr) (n c : Nat) (l : List Prt) (w : World) (hr : Rd w 3 A n c (pcs l)) (hg : ∀ p ∈ l, p.good) (h8 : n ≤ 8) :
    Calls Tryz.prog 116 #[.slice A n c] w fun e w' => e = .returned (.int .i64 (pErr [] l)) ∧ Below w.heap.size w w' := by
  obtain rfl := hr.plen
  have hd : decide (8 < (l.length : Int)) = false := by simp; omega
  have HG := Lib.hid hg
  obtain ⟨er, her⟩ : ∃ er, Hid (pErr [] l = er) := ⟨_, rfl⟩
  rw [her.out]
  clear hg
  go_enter Tryz.func116, Tryz.ntmps116
  go_wp2
  go_loopw [3, 5, 6, 7, 13] (fun s _ _ _ i wr => ∃ (k : Nat) (m : List UInt8), k ≤ l.length ∧ i = .int .i64 k ∧ s = .string (str m) ∧ Hid (er = pErr m (l.drop k)) ∧ Below w.heap.size w wr) (fun _ _ _ _ i _ => l.length - (intOf i).toNat)
  case atStart => exact ⟨0, [], Nat.zero_le _, rfl, rfl, her.out.symm, Below.refl _ _⟩
  case round =>
    obtain ⟨k, m, hk, rfl, rfl, HE, hbel⟩ := hrel
    by_cases hlt : k < l.length
    · obtain ⟨b, off, rfl, hc0, hc1, hc2⟩ := (hr.below hbel).part hlt
      obtain ⟨g0, g1, g2⟩ := HG.out l[k] (List.getElem_mem hlt)
      have hdk : l.drop k = l[k] :: l.drop (k + 1) := List.drop_eq_getElem_cons hlt
      have HP : Hid (er = pErr m (l[k] :: l.drop (k + 1))) := by show _ = _; rw [← hdk]; exact HE.out
      have hki : (k : Int) < (l.length : Int) := by omega
      clear hdk HE
      generalize l[k] = p at *
      have hal := (Below.refl wr.heap.size wr).alloc (Nat.le_refl _) (.cells #[.string (str p.nm), .string (str p.dg), .int .i64 p.sz] 97)
      have hbk := Blk.new wr 97 p.cells
      go_wp2_with fail
      with_reducible refine (nameFault_any _ _ g0).mono ?_
      rintro e w1 ⟨rfl, hb1⟩
      have hbk1 : Blk w1 wr.heap.size 97 p.cells := hbk.below hb1 hbk.lt
      have hbA := below_step hbel (hal.trans (hb1.mono (by simp)))
      have e0 : w1.cell? ⟨wr.heap.size, 0, none⟩ = some (.string (str p.nm)) := hbk1.cell 0
      have e1 : w1.cell? ⟨wr.heap.size, 1, none⟩ = some (.string (str p.dg)) := hbk1.cell 1
      have e2 : w1.cell? ⟨wr.heap.size, 2, none⟩ = some (.int .i64 p.sz) := hbk1.cell 2
      by_cases hn : nmErr p.nm = 0
      · have n1 : (nmErr p.nm != 0) = false := by rw [bne_eq_false_iff_eq]; exact hn
        have HN := Lib.hid hn
        clear hn hbk hal hc0 hc1 hc2
        by_cases hle : Op.bytesLess p.nm m = true
        · have HF : Hid (er = 6) := by show _ = _; rw [HP.out, pErr, HN.out, if_neg (by omega), if_pos (by unfold nle; rw [hle]; rfl)]
          go_wp2
          go_ret
          exact ⟨ret_int HF.out.symm, hbA⟩
        · have hle' : Op.bytesLess p.nm m = false := by simpa using hle
          clear hle
          by_cases heq : (p.nm == m) = true
          · have HF : Hid (er = 6) := by show _ = _; rw [HP.out, pErr, HN.out, if_neg (by omega), if_pos (by unfold nle; rw [hle', heq]; rfl)]
            go_wp2
            go_ret
            exact ⟨ret_int HF.out.symm, hbA⟩
          · have heq' : (p.nm == m) = false := by simpa using heq
            have HL : Hid (¬ nle p.nm m = true) := by show ¬ _; unfold nle; rw [hle', heq']; decide
            clear heq
            go_wp2_with fail
            with_reducible refine (hexFault_all _ _ g1).mono ?_
            rintro e w2 ⟨rfl, hb2⟩
            have hbB := below_step hbA hb2
            have hw1 : wr.heap.size < w1.heap.size := hbk1.lt
            have d0 : w2.cell? ⟨wr.heap.size, 0, none⟩ = some (.string (str p.nm)) := (hb2.cell (p := ⟨wr.heap.size, 0, none⟩) hw1).trans e0
            have d2 : w2.cell? ⟨wr.heap.size, 2, none⟩ = some (.int .i64 p.sz) := (hb2.cell (p := ⟨wr.heap.size, 2, none⟩) hw1).trans e2
            clear e0 e1 e2 hb1 hbk1 hbA
            by_cases hc : cErr p.dg = 0
            · have c1 : (cErr p.dg != 0) = false := by rw [bne_eq_false_iff_eq]; exact hc
              have HC := Lib.hid hc
              clear hc
              by_cases hlo : p.sz < 0
              · have s1 : decide (p.sz < 0) = true := by simpa using hlo
                have HF : Hid (er = 4) := by show _ = _; rw [HP.out, pErr, HN.out, if_neg (by omega), if_neg HL.out, HC.out, if_neg (by omega), if_pos (.inl hlo)]
                go_wp2
                go_ret
                exact ⟨ret_int HF.out.symm, hbB⟩
              · have s1 : decide (p.sz < 0) = false := by simpa using hlo
                by_cases hhi : 300 < p.sz
                · have s2 : decide (300 < p.sz) = true := by simpa using hhi
                  have HF : Hid (er = 4) := by show _ = _; rw [HP.out, pErr, HN.out, if_neg (by omega), if_neg HL.out, HC.out, if_neg (by omega), if_pos (.inr hhi)]
                  go_wp2
                  go_ret
                  exact ⟨ret_int HF.out.symm, hbB⟩
                · have s2 : decide (300 < p.sz) = false := by simpa using hhi
                  have HF : Hid (er = pErr p.nm (l.drop (k + 1))) := by show _ = _; rw [HP.out, pErr, HN.out, if_neg (by omega), if_neg HL.out, HC.out, if_neg (by omega), if_neg (by omega)]
                  go_wp2
                  go_roundw
                  case rel => exact ⟨k + 1, p.nm, by omega, by go_num, rfl, HF.out, hbB⟩
                  case measure => simp [intOf] <;> omega
            · have c1 : (cErr p.dg != 0) = true := by rw [bne_iff_ne]; exact hc
              have HF : Hid (er = cErr p.dg) := by show _ = _; rw [HP.out, pErr, HN.out, if_neg (by omega), if_neg HL.out, if_pos hc]
              clear hc
              go_wp2
              go_ret
              exact ⟨ret_int HF.out.symm, hbB⟩
      · have n1 : (nmErr p.nm != 0) = true := by rw [bne_iff_ne]; exact hn
        have HN := Lib.hid hn
        have HF : Hid (er = nmErr p.nm) := by show _ = _; rw [HP.out, pErr, if_pos hn]
        clear hn hbk hal hc0 hc1 hc2
        go_wp2
        go_ret
        exact ⟨ret_int HF.out.symm, hbA⟩
    · have hd2 : decide ((k : Int) < (l.length : Int)) = false := by simp; omega
      have HF : Hid (er = 0) := by show _ = _; rw [HE.out, List.drop_of_length_le (by omega)]; rfl
      go_wp2
      go_ret
      exact ⟨ret_int HF.out.symm, hbel⟩
theorem partsFault_any (A : Option Addr) (n c : Nat) (l : List Prt) (w : World) (hr : Rd w 3 A n c (pcs l)) (hg : ∀ p ∈ l, p.good) :
    Calls Tryz.prog 116 #[.slice A n c] w fun e w' => e = .returned (.int .i64 (psErr l)) ∧ Below w.heap.size w w' := by
  have hn := hr.plen
  by_cases h : 8 < n
  · rw [show psErr l = 1 from if_pos (by omega)]
    have h1 := hr.2.1
    have h2 := hr.2.2.1
    unfold maxLen at h2
    refine (partsFault_big A n c w h (by omega)).mono ?_
    rintro e w' ⟨rfl, rfl⟩
    exact ⟨rfl, Below.refl _ _⟩
  · rw [show psErr l = pErr [] l from if_neg (by omega)]
    exact partsFault_in A n c l w hr hg (by omega)
end Go.Proofs.YtdbdigcpibmgjaaGreatDoor
/- Reading a manifest: plain functions; what is kept beside a struct variable. -/
namespace Go.Proofs.YtdbdigcpibmgjaaGreatDoor
open Go.RowKit
/-- reading k parts more, behind those that are read, and the end -/
def rdTail : Nat → List Prt → List UInt8 → Int × List Prt
  | 0, acc, r => if 0 < r.length then (3, []) else if psErr acc ≠ 0 then (psErr acc, []) else (0, acc)
  | k + 1, acc, r =>
    if tErr r ≠ 0 then (tErr r, []) else if (tRest r).length < 32 then (8, [])
    else if rErr ((tRest r).drop 32) ≠ 0 then (rErr ((tRest r).drop 32), [])
    else rdTail k (acc ++ [⟨tStr r, hexT ((tRest r).take 32), (rVal ((tRest r).drop 32) : Int)⟩]) (rRest ((tRest r).drop 32))
/-- reading a manifest: the error and the parts -/
def dec (l : List UInt8) : Int × List Prt :=
  if 2000 < l.length then (1, []) else if l.length < 3 ∨ l.take 3 ≠ [65, 77, 49] then (3, [])
  else if rErr (l.drop 3) ≠ 0 then (rErr (l.drop 3), []) else if 8 < rVal (l.drop 3) then (1, [])
  else rdTail (rVal (l.drop 3)) [] (rRest (l.drop 3))
theorem rRest_le (l : List UInt8) : (rRest l).length ≤ l.length := by
  unfold rRest; split
  · rw [List.length_drop]; omega
  · simp
theorem tRest_le (l : List UInt8) : (tRest l).length ≤ l.length := by
  unfold tRest; split
  · rw [List.length_drop]; have := rRest_le l; omega
  · simp
theorem tStr_le (l : List UInt8) : (tStr l).length ≤ l.length := by
  unfold tStr; split
  · rw [List.length_take]; have := rRest_le l; omega
  · simp
/-- bytes are kept where a cell of a block that holds no byte is written -/
theorem Rd.put_other {w : World} {A : Option Addr} {n c : Nat} {l : List UInt8} (h : Rd w 1 A n c (l.map bv8)) {g : Nat} {t : TypeId} {xs : List Value} (hg : Blk w g t xs) (hx : ∀ v ∈ xs, ∀ y, v ≠ bv8 y) (i : Nat) (u : Value) :
    Rd (w.setCell ⟨g, i, none⟩ u) 1 A n c (l.map bv8) := by
  obtain ⟨h1, h2, h3, h4⟩ := h
  refine ⟨h1, h2, h3, fun hp => ?_⟩
  obtain ⟨b, off, rfl, hc⟩ := h4 hp
  refine ⟨b, off, rfl, fun j v hv => ?_⟩
  have hcj := hc j v hv
  have hne : b ≠ g := by
    rintro rfl
    rw [hg.cell] at hcj
    have hm : v ∈ xs := List.mem_of_getElem? hcj
    rw [List.getElem?_map] at hv
    obtain ⟨y, _, rfl⟩ := Option.map_eq_some_iff.1 hv
    exact hx _ hm y rfl
  have ho : (⟨g, i, none⟩ : Addr) ≠ ⟨b, off + j, none⟩ := by
    intro e
    injection e with e1 _
    exact hne e1.symm
  exact (World.cell?_setCell_other _ _ _ _ ho).trans hcj
/-- a slice is kept where its own block is kept -/
theorem Rd.keepAt {w w' : World} {size n c : Nat} {A : Option Addr} {xs : List Value} (h : Rd w size A n c xs) (hk : ∀ a : Addr, A = some a → w'.heap[a.block]? = w.heap[a.block]?) : Rd w' size A n c xs := by
  obtain ⟨h1, h2, h3, h4⟩ := h
  refine ⟨h1, h2, h3, fun hp => ?_⟩
  obtain ⟨b, off, rfl, hc⟩ := h4 hp
  refine ⟨b, off, rfl, fun j v hv => ?_⟩
  have hcj := hc j v hv
  have hb := hk _ rfl
  unfold World.cell? at hcj ⊢
  simp only at hcj hb ⊢
  rw [hb]; exact hcj
/-- a manifest's parts, or none, and an error -/
def GivesP (l : List Prt) (err : Int) (w : World) (e : Ending) (w' : World) : Prop :=
  ∃ A n c, e = .returned (.tuple #[.slice A n c, .int .i64 err]) ∧ Rd w' 3 A n c (pcs l) ∧ (A = none → c = 0) ∧ Below w.heap.size w w'
theorem givesP_nil {w : World} {err : Int} {e : Ending} {w' : World} (h : e = .returned (.tuple #[.slice none 0 0, .int .i64 err]) ∧ Below w.heap.size w w') : GivesP [] err w e w' := by
  obtain ⟨rfl, hb⟩ := h
  exact ⟨none, 0, 0, rfl, Rd.nil _ _, fun _ => rfl, hb⟩
theorem part_info : (Tryz.prog.info? 97).map (fun i => (i.zero, i.size, i.bytes)) = some (some (.agg #[.string ByteArray.empty, .string ByteArray.empty, .int .i64 0]), 3, 40) := by kernel_rfl
end Go.Proofs.YtdbdigcpibmgjaaGreatDoor
/- Reading a manifest: the reference's PartsOf. -/
namespace Go.Proofs.YtdbdigcpibmgjaaGreatDoor
open Go.RowKit
set_option maxRecDepth 100000 in
set_option maxHeartbeats 400000 in
theorem partsOf_big (A : Option Addr) (n c : Nat) (w : World) (h : 2000 < n) (hn : n ≤ 9223372036854775807) :
    Calls Tryz.prog 85 #[.slice A n c] w fun e w' => e = .returned (.tuple #[.slice none 0 0, .int .i64 1]) ∧ Below w.heap.size w w' := by
  go_enter Tryz.func85, Tryz.ntmps85
  go_wp2
  go_ret2
  exact ⟨rfl, Below.refl _ _⟩
set_option maxRecDepth 100000 in
set_option maxHeartbeats 400000 in
theorem partsOf_short (A : Option Addr) (n c : Nat) (w : World) (h : n < 3) :
    Calls Tryz.prog 85 #[.slice A n c] w fun e w' => e = .returned (.tuple #[.slice none 0 0, .int .i64 3]) ∧ Below w.heap.size w w' := by
  have hd : decide (2000 < (n : Int)) = false := by simp; omega
  have hd2 : decide ((n : Int) < 3) = true := by simp; omega
  go_enter Tryz.func85, Tryz.ntmps85
  go_wp2
  go_ret2
  exact ⟨rfl, Below.refl _ _⟩
set_option maxRecDepth 100000 in
set_option maxHeartbeats 400000 in
theorem partsOf_form (A : Option Addr) (n c : Nat) (l : List UInt8) (w : World) (hr : Rd w 1 A n c (l.map bv8)) (h : 3 ≤ n) (h2 : n ≤ 2000) (hne : l.take 3 ≠ [65, 77, 49]) :
    Calls Tryz.prog 85 #[.slice A n c] w fun e w' => e = .returned (.tuple #[.slice none 0 0, .int .i64 3]) ∧ Below w.heap.size w w' := by
  have hd : decide (2000 < (n : Int)) = false := by simp; omega
  have hd2 : decide ((n : Int) < 3) = false := by simp; omega
  have hcm := hr.2.1
  have hci : (3 : Int) ≤ (c : Int) := by omega
  have ht := hr.take 3 h
  rw [← List.map_take] at ht
  have htl : (l.take 3).length = 3 := by have := hr.len; rw [List.length_take]; omega
  have k1 := run_bytes_str (P := Tryz.prog) Tryz.underlying43 Tryz.underlying5 Tryz.underlying9 ht.as
  rw [htl] at k1
  have f5 : (l.take 3 == [65, 77, 49]) = false := by rw [beq_eq_false_iff_ne]; exact hne
  clear hne htl
  go_enter Tryz.func85, Tryz.ntmps85
  go_wp2
  go_ret2
  exact ⟨rfl, Below.refl _ _⟩
set_option maxRecDepth 100000 in
set_option maxHeartbeats 4000000 in
theorem partsOf_in (b off n c : Nat) (l : List UInt8) (w : World) (hr : Rd w 1 (some ⟨b, off, none⟩) n c (l.map bv8)) (h : 3 ≤ n) (h2 : n ≤ 2000) (heq : l.take 3 = [65, 77, 49]) (hc3 : ¬ c = 3) (er : Int) (ps : List Prt) (hdec : Hid ((if rErr (l.drop 3) ≠ 0 then (rErr (l.drop 3), []) else if 8 < rVal (l.drop 3) then (1, []) else rdTail (rVal (l.drop 3)) [] (rRest (l.drop 3))) = (er, ps))) :
    Calls Tryz.prog 85 #[.slice (some ⟨b, off, none⟩) n c] w (GivesP ps er w) := by
  have hd : decide (2000 < (n : Int)) = false := by simp; omega
  have hd2 : decide ((n : Int) < 3) = false := by simp; omega
  have hcm := hr.2.1
  have hci : (3 : Int) ≤ (c : Int) := by omega
  have hni : (3 : Int) ≤ (n : Int) := by omega
  have ht := hr.take 3 h
  rw [← List.map_take, heq] at ht
  have k1 : (convert 43 9 (.slice (some ⟨b, off, none⟩) 3 c)).run Tryz.prog w = .ok (.string (str [65, 77, 49])) w := run_bytes_str (P := Tryz.prog) Tryz.underlying43 Tryz.underlying5 Tryz.underlying9 (l := [65, 77, 49]) ht
  have f5 : (([65, 77, 49] : List UInt8) == [65, 77, 49]) = true := rfl
  have hr3 := hr.drop 3 h
  rw [← List.map_drop] at hr3
  clear heq ht
  obtain ⟨i0, hi0, hz0, hz1, hz2⟩ := info_parts part_info
  go_enter Tryz.func85, Tryz.ntmps85
  go_wp2_with fail
  with_reducible refine (rof_any _ _ _ _ _ hr3 (by omega)).mono ?_
  rintro e w1 ⟨A1, n1, c1, rfl, hr1, hA1, hn1, hF1, hb1⟩
  have hl1 : n1 ≤ 2000 := by have h5 := hr1.len; have h6 := rRest_le (l.drop 3); have h7 := hr3.len; omega
  have hvx := rVal_lt (l.drop 3)
  clear hr3 k1 hr hc3 hcm hci hni hd hd2
  generalize l.drop 3 = r3 at *
  by_cases he : rErr r3 = 0
  · have n1' : (rErr r3 != 0) = false := by rw [bne_eq_false_iff_eq]; exact he
    have HD := hdec.out
    rw [if_neg (by omega)] at HD
    obtain ⟨v, hv⟩ : ∃ v, rVal r3 = v := ⟨_, rfl⟩
    rw [hv] at HD hvx ⊢
    clear hdec hv
    by_cases h8 : 8 < v
    · have d8 : decide (8 < (v : Int)) = true := by simp; omega
      rw [if_pos h8] at HD
      have HD := Lib.hid HD
      clear he
      go_wp2
      go_ret2
      have e1 := congrArg Prod.fst HD.out
      have e2 := congrArg Prod.snd HD.out
      simp only at e1 e2
      rw [← e1, ← e2]
      exact givesP_nil ⟨rfl, hb1⟩
    · have d8 : decide (8 < (v : Int)) = false := by simp; omega
      rw [if_neg h8] at HD
      have HD := Lib.hid HD
      clear he
      generalize rRest r3 = r1 at *
      go_wp2
      go_loopw [5, 6, 7, 8, 9] (fun rest _ out i _ wr => ∃ (k n' c' : Nat) (A' : Option Addr) (acc : List Prt) (r : List UInt8), k ≤ v ∧ i = .int .i64 k ∧ rest = .slice A' n' c' ∧ n' ≤ 2000 ∧ Rd wr 1 A' n' c' (r.map bv8) ∧ wr.ownsRow w.heap.size 97 3 out k (pcs acc) ∧ Hid (∀ p ∈ acc, p.good) ∧ Hid (rdTail (v - k) acc r = (er, ps)) ∧ Below w.heap.size w wr) (fun _ _ _ i _ _ => v - (intOf i).toNat)
      case atStart => exact ⟨0, _, _, _, [], r1, Nat.zero_le _, rfl, rfl, hl1, hr1, World.ownsRow_nil _ _ _ _, fun _ h => (by cases h), HD.out, hb1⟩
      case round =>
        clear hr1 hA1 hn1 hb1 hl1 HD
        obtain ⟨k, n', c', A', acc, r, hk, rfl, rfl, hn', hr, hown, HG, HD, hbel⟩ := hrel
        by_cases hlt : k < v
        · have hki : (k : Int) < (v : Int) := by omega
          have hal := (Below.refl wr.heap.size wr).alloc (Nat.le_refl _) (.cells #[.string ⟨#[]⟩, .string ⟨#[]⟩, .int .i64 0] 97)
          have hbk := Blk.new wr 97 [.string ⟨#[]⟩, .string ⟨#[]⟩, .int .i64 0]
          have hX : ∀ (s t : ByteArray) (i : Int), ∀ u ∈ ([.string s, .string t, .int .i64 i] : List Value), ∀ y, u ≠ bv8 y := fun s t i u hu y => by
            simp only [List.mem_cons, List.not_mem_nil, or_false] at hu
            rcases hu with rfl | rfl | rfl <;> (unfold bv8; intro q; cases q)
          have HXX := Lib.hid hX
          obtain ⟨k', hk1, hk2⟩ : ∃ k', v - k = k' + 1 ∧ v - (k + 1) = k' := ⟨v - k - 1, by omega, by omega⟩
          have HR : Hid (rdTail (k' + 1) acc r = (er, ps)) := by show _ = _; rw [← hk1]; exact HD.out
          have HK2 := Lib.hid hk2
          have hob : u7.ownBlock ≠ some wr.heap.size := fun q => by have := (hown.lt _ q).2; omega
          have hown0 := own_alloc hown (.cells #[.string ⟨#[]⟩, .string ⟨#[]⟩, .int .i64 0] 97)
          have hra := hr.below hal
          have Hrl := Lib.hid hr.len
          clear hX hk1 hk2 HD
          go_wp2_with fail
          with_reducible refine (rtextOf_any _ _ _ _ _ hra (by omega)).mono ?_
          rintro e w2 ⟨A2, n2, c2, rfl, hr2, hA2, hn2, hF2, hb2⟩
          have hl2 : n2 ≤ 2000 := by have h5 := hr2.len; have h6 := tRest_le r; have := Hrl.out; omega
          have hts : (tStr r).length ≤ 2000 := by have h6 := tStr_le r; have := Hrl.out; omega
          have hbk2 := hbk.below hb2 hbk.lt
          have hown2 := own_below hown0 hb2
          have hbA := below_step hbel (hal.trans (hb2.mono (by simp)))
          have hcA := hbk2.cell 0
          have hfA := hbk2.frozen 0
          simp only [List.getElem?_cons_zero] at hcA
          have hbkB := hbk2.put 0 (.string (str (tStr r)))
          have hrB := hr2.put_other hbk2 (HXX.out _ _ _) 0 (.string (str (tStr r)))
          have hownB := ownsRow_setCell_other hown2 (a := ⟨wr.heap.size, 0, none⟩) hob (.string (str (tStr r)))
          have hbelB := hbA.setCell (p := ⟨wr.heap.size, 0, none⟩) hbel.size (.string (str (tStr r)))
          simp only [List.set_cons_zero] at hbkB
          clear hbk hal hown0 hra hr2 hown2 hbA
          have HNL := Lib.hid hrB.len
          by_cases he1 : tErr r = 0
          · have t1 : (tErr r != 0) = false := by rw [bne_eq_false_iff_eq]; exact he1
            have HR1 := HR.out
            rw [rdTail, if_neg (by omega)] at HR1
            by_cases hs : n2 < 32
            · have s1 : decide ((n2 : Int) < 32) = true := by simp; omega
              rw [if_pos (by have := HNL.out; omega)] at HR1
              have HR2 := Lib.hid HR1
              clear HR1 HR he1
              go_wp2
              go_ret2
              have e1 := congrArg Prod.fst HR2.out
              have e2 := congrArg Prod.snd HR2.out
              simp only at e1 e2
              rw [← e1, ← e2]
              exact givesP_nil ⟨rfl, hbelB⟩
            · have s1 : decide ((n2 : Int) < 32) = false := by simp; omega
              rw [if_neg (by have := HNL.out; omega)] at HR1
              have HR2 := Lib.hid HR1
              clear HR1 HR he1
              have hrt := hrB.take 32 (by omega)
              rw [← List.map_take] at hrt
              have hc2 := hrB.2.1
              have hi2 : (32 : Int) ≤ (c2 : Int) := by omega
              have hi3 : (32 : Int) ≤ (n2 : Int) := by omega
              obtain ⟨b2, o2, rfl, _⟩ := hrB.2.2.2 (by rw [List.length_map]; have := HNL.out; omega)
              go_wp2_with fail
              clear hbk2 hcA hfA hb2 hA2
              generalize w2.setCell ⟨wr.heap.size, 0, none⟩ (.string (str (tStr r))) = w2' at *
              have HT : Hid (str (tStr r) = str (tStr r)) := rfl
              with_reducible refine (hexText_any _ _ _ _ _ hrt (by omega)).mono ?_
              rintro e w3 ⟨rfl, hb3⟩
              have hbk3 := hbkB.below hb3 hbkB.lt
              have hcC := hbk3.cell 1
              have hfC := hbk3.frozen 1
              simp only [List.getElem?_cons_succ, List.getElem?_cons_zero] at hcC
              have hbkC := hbk3.put 1 (.string (str (hexT ((tRest r).take 32))))
              have hrC := (hrB.below hb3).put_other hbk3 (HXX.out _ _ _) 1 (.string (str (hexT ((tRest r).take 32))))
              have hownC := ownsRow_setCell_other (own_below hownB hb3) (a := ⟨wr.heap.size, 1, none⟩) hob (.string (str (hexT ((tRest r).take 32))))
              have hbelC := (below_step hbelB hb3).setCell (p := ⟨wr.heap.size, 1, none⟩) hbel.size (.string (str (hexT ((tRest r).take 32))))
              simp only [List.set_cons_succ, List.set_cons_zero] at hbkC
              clear hbkB hrB hownB hbelB hrt
              have hdl : (hexT ((tRest r).take 32)).length ≤ maxLen := by rw [hexT_length, List.length_take]; unfold maxLen; omega
              by_cases hc32 : c2 = 32
              · obtain rfl : n2 = 32 := by omega
                subst hc32
                have hr4 : Rd (w3.setCell ⟨wr.heap.size, 1, none⟩ (.string (str (hexT ((tRest r).take 32))))) 1 (some ⟨b2, o2, none⟩) 0 0 (([] : List UInt8).map bv8) := Rd.none0 _ _ 0 (by unfold maxLen; omega)
                have hd32 : (tRest r).drop 32 = [] := List.drop_of_length_le (by have := HNL.out; omega)
                have R8 : rErr [] = 8 := (read_short (l := []) (by decide) rfl).1
                have HR3 := HR2.out
                rw [hd32, R8, if_pos (by omega)] at HR3
                have HR4 := Lib.hid HR3
                clear HR3 HR2 hd32
                go_wp2_with fail
                generalize w3.setCell ⟨wr.heap.size, 1, none⟩ (.string (str (hexT ((tRest r).take 32)))) = w3' at *
                with_reducible refine (rof_at _ _ _ _ _ hr4 (by omega) _ 8 rfl R8).mono ?_
                rintro e w4 ⟨A4, n4, c4, rfl, hr5, hA4, hn4, hF4, hb4⟩
                have hbk4 := hbkC.below hb4 hbkC.lt
                have hcD := hbk4.cell 2
                have hfD := hbk4.frozen 2
                simp only [List.getElem?_cons_succ, List.getElem?_cons_zero] at hcD
                have hbelD := below_step hbelC hb4
                go_wp2
                go_ret2
                have e1 := congrArg Prod.fst HR4.out
                have e2 := congrArg Prod.snd HR4.out
                simp only at e1 e2
                rw [← e1, ← e2]
                exact givesP_nil ⟨rfl, hbelD.setCell (p := ⟨wr.heap.size, 2, none⟩) hbel.size _⟩
              · have hr4 := hrC.drop 32 (by omega)
                rw [← List.map_drop] at hr4
                go_wp2_with fail
                generalize w3.setCell ⟨wr.heap.size, 1, none⟩ (.string (str (hexT ((tRest r).take 32)))) = w3' at *
                generalize (tRest r).drop 32 = r4 at *
                with_reducible refine (rof_any _ _ _ _ _ hr4 (by omega)).mono ?_
                rintro e w4 ⟨A4, n4, c4, rfl, hr5, hA4, hn4, hF4, hb4⟩
                have hl4 : n4 ≤ 2000 := by have h5 := hr5.len; have h6 := rRest_le r4; have h7 := hr4.len; omega
                have hbk4 := hbkC.below hb4 hbkC.lt
                have hcD := hbk4.cell 2
                have hfD := hbk4.frozen 2
                simp only [List.getElem?_cons_succ, List.getElem?_cons_zero] at hcD
                have hbkD := hbk4.put 2 (.int .i64 (rVal r4))
                have hrD := hr5.put_other hbk4 (HXX.out _ _ _) 2 (.int .i64 (rVal r4))
                have hownD := ownsRow_setCell_other (own_below hownC hb4) (a := ⟨wr.heap.size, 2, none⟩) hob (.int .i64 (rVal r4))
                have hbelD := (below_step hbelC hb4).setCell (p := ⟨wr.heap.size, 2, none⟩) hbel.size (.int .i64 (rVal r4))
                simp only [List.set_cons_succ, List.set_cons_zero] at hbkD
                have hw3 : wr.heap.size < w3'.heap.size := hbkC.lt
                clear hbkC hrC hownC hbelC hr4
                by_cases he4 : rErr r4 = 0
                · have t4 : (rErr r4 != 0) = false := by rw [bne_eq_false_iff_eq]; exact he4
                  have HR3 := HR2.out
                  rw [if_neg (by omega)] at HR3
                  have HR4 := Lib.hid HR3
                  clear HR3 HR2 he4
                  have m0 := hbkD.cell 0
                  have m1 := hbkD.cell 1
                  have m2 := hbkD.cell 2
                  simp only [List.getElem?_cons_succ, List.getElem?_cons_zero] at m0 m1 m2
                  have hbDs := hbelD.size
                  have hvr := rVal_lt r4
                  go_wp2_with (at_builtin; refine wpList_append1 rfl (.tmp 69) (.tmp 71) _ rfl Tryz.underlying67 hi0 hz0 hz1 hz2 rfl (by omega) _ _ _ rfl hownD [.string (str (tStr r)), .string (str (hexT ((tRest r).take 32))), .int .i64 (rVal r4)] rfl (by simp [Value.oneCell']) (by simp [Act.eval]) (by omega) (by omega) hbDs ?_; rintro v5 w5 ⟨hown5, hb5, hsz5, hfar5⟩)
                  have hr6 : Rd w5 1 A4 n4 c4 ((rRest r4).map bv8) := by
                    rcases Nat.eq_zero_or_pos (rRest r4).length with hz' | hz'
                    · exact ⟨hrD.1, hrD.2.1, hrD.2.2.1, fun hp => absurd hp (by rw [List.length_map, hz']; omega)⟩
                    · obtain ⟨b', o', q', hlt', _⟩ := hrD.addr (by rw [List.length_map]; exact hz')
                      refine hrD.keepAt fun a q => ?_
                      have ha := hF4.out a q
                      rw [q] at q'
                      injection q' with q'
                      subst q'
                      exact (hfar5 b' hlt' (fun o => by have := (hown.lt _ o).2; simp only at ha; omega)).2
                  go_roundw
                  case rel =>
                    refine ⟨k + 1, _, _, _, acc ++ [⟨tStr r, hexT ((tRest r).take 32), (rVal r4 : Int)⟩], rRest r4, by omega, by go_num, rfl, hl4, hr6, ?_, ?_, ?_, hbelD.trans hb5⟩
                    · rw [pcs_append]; exact hown5
                    · intro p hp
                      rcases List.mem_append.1 hp with hp | hp
                      · exact HG.out p hp
                      · simp only [List.mem_cons, List.not_mem_nil, or_false] at hp
                        subst hp
                        refine ⟨by unfold maxLen; simp only; omega, hdl, ?_⟩
                        simp [Lit.wf, IntKind.min, IntKind.max, IntKind.bits, IntKind.signed]
                        omega
                    · show _ = _
                      rw [HK2.out]; exact HR4.out
                  case measure => simp [intOf] <;> omega
                · have t4 : (rErr r4 != 0) = true := by rw [bne_iff_ne]; exact he4
                  have HR3 := HR2.out
                  rw [if_pos he4] at HR3
                  have HR4 := Lib.hid HR3
                  clear HR3 HR2 he4
                  go_wp2
                  go_ret2
                  have e1 := congrArg Prod.fst HR4.out
                  have e2 := congrArg Prod.snd HR4.out
                  simp only at e1 e2
                  rw [← e1, ← e2]
                  exact givesP_nil ⟨rfl, hbelD⟩
          · have t1 : (tErr r != 0) = true := by rw [bne_iff_ne]; exact he1
            have HR1 := HR.out
            rw [rdTail, if_pos he1] at HR1
            have HR2 := Lib.hid HR1
            clear HR1 HR he1
            go_wp2
            go_ret2
            have e1 := congrArg Prod.fst HR2.out
            have e2 := congrArg Prod.snd HR2.out
            simp only at e1 e2
            rw [← e1, ← e2]
            exact givesP_nil ⟨rfl, hbelB⟩
        · have hkv : k = v := by omega
          have hki : decide ((k : Int) < (v : Int)) = false := by simp; omega
          have HR : Hid (rdTail 0 acc r = (er, ps)) := by
            show _ = _
            have := HD.out
            rwa [show v - k = 0 from by omega] at this
          have hrl := hr.len
          have Hrl := Lib.hid hrl
          clear HD hkv hrl
          by_cases hz : 0 < n'
          · have z1 : decide (0 < (n' : Int)) = true := by simp; omega
            have HR1 := HR.out
            rw [rdTail, if_pos (by rw [← Hrl.out]; exact hz)] at HR1
            have HR2 := Lib.hid HR1
            clear HR1 HR
            go_wp2
            go_ret2
            have e1 := congrArg Prod.fst HR2.out
            have e2 := congrArg Prod.snd HR2.out
            simp only at e1 e2
            rw [← e1, ← e2]
            exact givesP_nil ⟨rfl, hbel⟩
          · have z1 : decide (0 < (n' : Int)) = false := by simp; omega
            have HR1 := HR.out
            rw [rdTail, if_neg (by rw [← Hrl.out]; exact hz)] at HR1
            have hrp : ∃ A c, u7 = .slice A k c ∧ Rd wr 3 A k c (pcs acc) ∧ (A = none → c = 0) := by
              rcases hown.2 with ⟨q1, q2⟩ | ⟨g, cap, cur, q1, _, _, q3, q4, _⟩
              · subst q2
                have : pcs acc = [] := List.eq_nil_of_length_eq_zero (by simpa using hown.1)
                rw [this]
                exact ⟨none, 0, q1, Rd.nil _ _, fun _ => rfl⟩
              · subst q1
                exact ⟨_, _, rfl, Rd.of_own hown q4 q3, fun q => by cases q⟩
            obtain ⟨A7, c7, rfl, hr7, hA7⟩ := hrp
            have HR2 := Lib.hid HR1
            clear HR1 HR hown
            go_wp2_with fail
            with_reducible refine (partsFault_any _ _ _ _ _ hr7 HG.out).mono ?_
            rintro e w8 ⟨rfl, hb8⟩
            have hbC := below_step hbel hb8
            by_cases hp0 : psErr acc = 0
            · have p1 : (psErr acc != 0) = false := by rw [bne_eq_false_iff_eq]; exact hp0
              have HR3 := HR2.out
              rw [if_neg (by omega)] at HR3
              have HR4 := Lib.hid HR3
              clear HR3 HR2 hp0
              go_wp2
              go_ret2
              have e1 := congrArg Prod.fst HR4.out
              have e2 := congrArg Prod.snd HR4.out
              simp only at e1 e2
              rw [← e1, ← e2]
              exact ⟨_, _, _, rfl, hr7.below hb8, hA7, hbC⟩
            · have p1 : (psErr acc != 0) = true := by rw [bne_iff_ne]; exact hp0
              have HR3 := HR2.out
              rw [if_pos hp0] at HR3
              have HR4 := Lib.hid HR3
              clear HR3 HR2 hp0
              go_wp2
              go_ret2
              have e1 := congrArg Prod.fst HR4.out
              have e2 := congrArg Prod.snd HR4.out
              simp only at e1 e2
              rw [← e1, ← e2]
              exact givesP_nil ⟨rfl, hbC⟩
  · have n1' : (rErr r3 != 0) = true := by rw [bne_iff_ne]; exact he
    have HD := hdec.out
    rw [if_pos he] at HD
    have HD := Lib.hid HD
    clear he hdec
    go_wp2
    go_ret2
    have e1 := congrArg Prod.fst HD.out
    have e2 := congrArg Prod.snd HD.out
    simp only at e1 e2
    rw [← e1, ← e2]
    exact givesP_nil ⟨rfl, hb1⟩
set_option maxRecDepth 100000 in
set_option maxHeartbeats 400000 in
theorem partsOf_full (b off n : Nat) (l : List UInt8) (w : World) (hr : Rd w 1 (some ⟨b, off, none⟩) n 3 (l.map bv8)) (h : 3 ≤ n) (heq : l.take 3 = [65, 77, 49]) :
    Calls Tryz.prog 85 #[.slice (some ⟨b, off, none⟩) n 3] w fun e w' => e = .returned (.tuple #[.slice none 0 0, .int .i64 8]) ∧ Below w.heap.size w w' := by
  obtain rfl : n = 3 := by have := hr.2.1; omega
  have ht := hr.take 3 h
  rw [← List.map_take, heq] at ht
  have k1 : (convert 43 9 (.slice (some ⟨b, off, none⟩) 3 3)).run Tryz.prog w = .ok (.string (str [65, 77, 49])) w := run_bytes_str (P := Tryz.prog) Tryz.underlying43 Tryz.underlying5 Tryz.underlying9 (l := [65, 77, 49]) ht
  have f5 : (([65, 77, 49] : List UInt8) == [65, 77, 49]) = true := rfl
  have hr4 : Rd w 1 (some ⟨b, off, none⟩) 0 0 (([] : List UInt8).map bv8) := Rd.none0 _ _ 0 (by unfold maxLen; omega)
  have R8 : rErr [] = 8 := (read_short (l := []) (by decide) rfl).1
  clear heq ht h
  go_enter Tryz.func85, Tryz.ntmps85
  go_wp2_with fail
  with_reducible refine (rof_at _ _ _ _ _ hr4 (by omega) _ 8 rfl R8).mono ?_
  rintro e w1 ⟨A1, n1, c1, rfl, hr1, hA1, hn1, -, hb1⟩
  go_wp2
  go_ret2
  exact ⟨rfl, hb1⟩
theorem partsOf_any (A : Option Addr) (n c : Nat) (l : List UInt8) (w : World) (hr : Rd w 1 A n c (l.map bv8)) :
    Calls Tryz.prog 85 #[.slice A n c] w (GivesP (dec l).2 (dec l).1 w) := by
  have hn := hr.len
  have hcm := hr.2.1
  have hcx := hr.2.2.1
  unfold maxLen at hcx
  by_cases h1 : 2000 < n
  · rw [show dec l = (1, []) from if_pos (by omega)]
    exact (partsOf_big A n c w h1 (by omega)).mono fun _ _ k => givesP_nil k
  · by_cases h2 : n < 3
    · rw [show dec l = (3, []) by unfold dec; rw [if_neg (by omega), if_pos (.inl (by omega))]]
      exact (partsOf_short A n c w h2).mono fun _ _ k => givesP_nil k
    · by_cases h3 : l.take 3 = [65, 77, 49]
      · obtain ⟨b, off, rfl, _⟩ := hr.2.2.2 (by simp; omega)
        have hd : dec l = if rErr (l.drop 3) ≠ 0 then (rErr (l.drop 3), []) else if 8 < rVal (l.drop 3) then (1, []) else rdTail (rVal (l.drop 3)) [] (rRest (l.drop 3)) := by
          unfold dec
          rw [if_neg (by omega), if_neg]
          rintro (q | q)
          · omega
          · exact q h3
        by_cases h4 : c = 3
        · subst h4
          have h0 : l.drop 3 = [] := List.drop_of_length_le (by omega)
          have R8 : rErr [] = 8 := (read_short (l := []) (by decide) rfl).1
          rw [hd, h0, R8, if_pos (by omega)]
          exact (partsOf_full b off n l w hr (by omega) h3).mono fun _ _ k => givesP_nil k
        · exact partsOf_in b off n c l w hr (by omega) (by omega) h3 h4 _ _ hd.symm
      · rw [show dec l = (3, []) by unfold dec; rw [if_neg (by omega), if_pos (.inr h3)]]
        exact (partsOf_form A n c l w hr (by omega) (by omega) h3).mono fun _ _ k => givesP_nil k
end Go.Proofs.YtdbdigcpibmgjaaGreatDoor
/- A manifest's bytes and back: plain facts. -/
namespace Go.Proofs.YtdbdigcpibmgjaaGreatDoor
open Go.RowKit
theorem mB_parts (p : Prt) (r : List UInt8) : mB p ++ r = txt p.nm ++ (unh p.dg ++ (enc p.sz.toNat ++ r)) := by
  unfold mB txt; simp only [List.append_assoc]
theorem rdTail_succ (k : Nat) (acc : List Prt) (r : List UInt8) : rdTail (k + 1) acc r = if tErr r ≠ 0 then (tErr r, []) else if (tRest r).length < 32 then (8, [])
    else if rErr ((tRest r).drop 32) ≠ 0 then (rErr ((tRest r).drop 32), [])
    else rdTail k (acc ++ [⟨tStr r, hexT ((tRest r).take 32), (rVal ((tRest r).drop 32) : Int)⟩]) (rRest ((tRest r).drop 32)) := rfl
/-- reading parts that were written -/
theorem rdTail_back : ∀ (l acc : List Prt) (r : List UInt8), (∀ p ∈ l, p.fine) → rdTail l.length acc (mBs l ++ r) = rdTail 0 (acc ++ l) r
  | [], acc, r, _ => by rw [List.append_nil]; rfl
  | p :: l, acc, r, h => by
    obtain ⟨_, h1, h2, h3, h4, h5, h6⟩ := h p (by simp)
    have hu : (unh p.dg).length = 32 := by rw [unh_length, h3]
    rw [mBs_cons, List.append_assoc, mB_parts, List.length_cons, rdTail_succ]
    obtain ⟨t0, t1, t2⟩ := text_read p.nm (unh p.dg ++ (enc p.sz.toNat ++ (mBs l ++ r))) (by omega)
    rw [t0, t1, t2, if_neg (by omega), if_neg (by rw [List.length_append]; omega), List.drop_left' hu, List.take_left' hu]
    obtain ⟨r0, r1, _, r3⟩ := read_enc (n := p.sz.toNat) (by omega) (mBs l ++ r)
    rw [r0, r1, r3, if_neg (by omega), hexT_unh _ (by omega) h4, show ((p.sz.toNat : Nat) : Int) = p.sz from by omega]
    rw [rdTail_back l (acc ++ [p]) r (fun q hq => h q (by simp [hq])), List.append_assoc]
    rfl
/-- reading a manifest that was written, and bytes behind it -/
theorem dec_man {l : List Prt} (h : psErr l = 0) (r : List UInt8) (hr : r.length ≤ 1000) : dec (man l ++ r) = if 0 < r.length then (3, []) else (0, l) := by
  obtain ⟨h1, h2⟩ := psErr_zero h
  obtain ⟨h3, h4⟩ := man_length h
  have e : man l ++ r = [65, 77, 49] ++ (enc l.length ++ (mBs l ++ r)) := by unfold man; simp only [List.append_assoc]
  have hlen : (man l ++ r).length ≤ 1500 := by rw [List.length_append]; omega
  have hlen3 : 3 ≤ (man l ++ r).length := by rw [List.length_append]; omega
  obtain ⟨r0, r1, _, r3⟩ := read_enc (n := l.length) (by omega) (mBs l ++ r)
  unfold dec
  rw [if_neg (by omega)]
  rw [if_neg (by rintro (q | q); · omega
                 · exact q (by rw [e]; rfl))]
  have ed : (man l ++ r).drop 3 = enc l.length ++ (mBs l ++ r) := by rw [e]; rfl
  rw [ed, r0, r1, r3, if_neg (by omega), if_neg (by omega), rdTail_back l [] r h2, List.nil_append, rdTail]
  split
  · rfl
  · rw [h, if_neg (by omega)]
/-- what is read was written so -/
theorem rdTail_turn : ∀ (k : Nat) (acc : List Prt) (r : List UInt8), (rdTail k acc r).1 = 0 → ∃ l : List Prt, l.length = k ∧ (rdTail k acc r).2 = acc ++ l ∧ mBs l = r ∧ psErr (acc ++ l) = 0
  | 0, acc, r, h => by
    rw [rdTail] at h ⊢
    split at h
    · simp at h
    · rename_i h1
      split at h
      · rename_i h2; exact absurd h h2
      · rename_i h2
        have h3 : psErr acc = 0 := Classical.byContradiction h2
        have h4 : r = [] := List.eq_nil_of_length_eq_zero (by omega)
        refine ⟨[], rfl, ?_, ?_, ?_⟩
        · rw [if_neg h1, if_neg h2, List.append_nil]
        · rw [h4]; rfl
        · rw [List.append_nil]; exact h3
  | k + 1, acc, r, h => by
    rw [rdTail] at h ⊢
    split at h
    · rename_i h1; exact absurd h h1
    · rename_i h1
      split at h
      · simp at h
      · rename_i h2
        split at h
        · rename_i h3; exact absurd h h3
        · rename_i h3
          obtain ⟨l, hl, h4, h5, h6⟩ := rdTail_turn k _ _ h
          have t0 : tErr r = 0 := Classical.byContradiction h1
          have r0 : rErr ((tRest r).drop 32) = 0 := Classical.byContradiction h3
          refine ⟨⟨tStr r, hexT ((tRest r).take 32), (rVal ((tRest r).drop 32) : Int)⟩ :: l, by rw [List.length_cons, hl], ?_, ?_, ?_⟩
          · rw [if_neg h1, if_neg h2, if_neg h3, h4, List.append_assoc]; rfl
          · rw [mBs_cons, mB_parts, h5]
            simp only [unh_hexT, Int.toNat_natCast]
            rw [read_turn r0, List.take_append_drop, text_turn t0]
          · rw [List.append_assoc] at h6; exact h6
theorem dec_turn {b : List UInt8} (h : (dec b).1 = 0) : man (dec b).2 = b ∧ psErr (dec b).2 = 0 := by
  unfold dec at h ⊢
  split at h
  · simp at h
  · rename_i h1
    split at h
    · simp at h
    · rename_i h2
      split at h
      · rename_i h3; exact absurd h h3
      · rename_i h3
        split at h
        · simp at h
        · rename_i h4
          obtain ⟨l, hl, h5, h6, h7⟩ := rdTail_turn _ _ _ h
          rw [if_neg h1, if_neg h2, if_neg h3, if_neg h4, h5, List.nil_append]
          rw [List.nil_append] at h7
          have r0 : rErr (b.drop 3) = 0 := Classical.byContradiction h3
          have h8 : b.take 3 = [65, 77, 49] := Classical.byContradiction fun q => h2 (.inr q)
          refine ⟨?_, h7⟩
          unfold man
          rw [hl, h6, List.append_assoc, read_turn r0, ← h8, List.take_append_drop]
/-- no beginning of a manifest is one -/
theorem dec_torn {l : List Prt} (h : psErr l = 0) {p : Nat} (hp : p < (man l).length) : (dec ((man l).take p)).1 ≠ 0 := by
  intro h0
  obtain ⟨h1, h2⟩ := dec_turn h0
  have e : man l = man (dec ((man l).take p)).2 ++ (man l).drop p := by rw [h1, List.take_append_drop]
  have h3 := man_length h
  have h4 := dec_man h2 ((man l).drop p) (by rw [List.length_drop]; omega)
  rw [← e, if_pos (by rw [List.length_drop]; omega)] at h4
  have h5 := dec_man h [] (by simp)
  rw [List.append_nil, h4] at h5
  simp at h5
end Go.Proofs.YtdbdigcpibmgjaaGreatDoor
/- Bytes that are no manifest have no parts: a plain fact. Nothing of the program. -/
namespace Go.Proofs.YtdbdigcpibmgjaaGreatDoor
open Go.RowKit
theorem rdTail_no : ∀ (k : Nat) (acc : List Prt) (r : List UInt8), (rdTail k acc r).1 ≠ 0 → (rdTail k acc r).2 = []
  | 0, acc, r, h => by
    rw [rdTail] at h ⊢
    split
    · rfl
    · rename_i h1
      rw [if_neg h1] at h
      split
      · rfl
      · rename_i h2
        rw [if_neg h2] at h
        exact absurd rfl h
  | k + 1, acc, r, h => by
    rw [rdTail_succ] at h ⊢
    split
    · rfl
    · rename_i h1
      rw [if_neg h1] at h
      split
      · rfl
      · rename_i h2
        rw [if_neg h2] at h
        split
        · rfl
        · rename_i h3
          rw [if_neg h3] at h
          exact rdTail_no k _ _ h
theorem dec_no {b : List UInt8} (h : (dec b).1 ≠ 0) : (dec b).2 = [] := by
  unfold dec at h ⊢
  split
  · rfl
  · rename_i h1
    rw [if_neg h1] at h
    split
    · rfl
    · rename_i h2
      rw [if_neg h2] at h
      split
      · rfl
      · rename_i h3
        rw [if_neg h3] at h
        split
        · rfl
        · rename_i h4
          rw [if_neg h4] at h
          exact rdTail_no _ _ _ h
end Go.Proofs.YtdbdigcpibmgjaaGreatDoor

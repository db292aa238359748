/- Texts that belong together: what the functions of the program and of the statements return. -/
import Derived.Test.YtfleegidlncmjaaRows
import Derived.Test.YtfleegidlncmjaaGX
import Derived.Lib.Hide
import Derived.IntWalk
import Derived.Test.YtfleegidlncmjaaGB
import Derived.Test.YtfleegidlncmjaaGA
import Derived.OneCell
/- The reference's NameFault. -/
namespace Go.Proofs.Ytfleegidlncmjaa
open Go.RowKit
set_option maxRecDepth 100000 in
set_option maxHeartbeats 400000 in
theorem nameFault_size (m : List UInt8) (w : World) (h : m.length = 0 ∨ 12 < m.length) (hm : m.length ≤ maxLen) :
    Calls Try.prog 66 #[.string (str m)] w fun e w' => e = .returned (.int .i64 1) ∧ w = w' := by
  unfold maxLen at hm
  by_cases h0 : m.length = 0
  · obtain rfl : m = [] := List.eq_nil_of_length_eq_zero h0
    go_enter Try.func66, Try.ntmps66
    go_wp2
    go_ret
    exact ⟨rfl, rfl⟩
  · have hne : (m == []) = false := by rw [beq_eq_false_iff_ne]; rintro rfl; exact h0 rfl
    have hd : decide (12 < (m.length : Int)) = true := by simp; omega
    go_enter Try.func66, Try.ntmps66
    go_wp2
    go_ret
    exact ⟨rfl, rfl⟩
set_option maxRecDepth 100000 in
set_option maxHeartbeats 400000 in
theorem nameFault_in (m : List UInt8) (w : World) (h1 : 1 ≤ m.length) (h2 : m.length ≤ 12) :
    Calls Try.prog 66 #[.string (str m)] w fun e w' => e = .returned (.int .i64 (nmErr m)) ∧ Below w.heap.size w w' := by
  have HQ : Hid (nmErr m = if m.all okN then 0 else 3) := if_neg (by omega)
  have hne : (m == []) = false := by rw [beq_eq_false_iff_ne]; rintro rfl; simp at h1
  have hd : decide (12 < (m.length : Int)) = false := by simp; omega
  obtain ⟨c1, w1, hcv, hr, hb1, hs1⟩ := run_str_bytes (P := Try.prog) Try.underlying9 Try.underlying55 Try.underlying5 w m (by unfold maxLen; omega)
  clear hs1
  go_enter Try.func66, Try.ntmps66
  go_wp2
  go_loop [4, 15] (fun _ i => ∃ k : Nat, k ≤ m.length ∧ i = .int .i64 k ∧ Hid ((m.take k).all okN = true)) (fun _ i => m.length - (intOf i).toNat)
  case atStart => exact ⟨0, Nat.zero_le _, rfl, rfl⟩
  case round =>
    obtain ⟨k, hk, rfl, HA⟩ := hrel
    by_cases hlt : k < m.length
    · obtain ⟨b, off, hA0, hcell⟩ := hr.at (k := k) (v := .int .u8 (y8 m[k])) (by rw [List.getElem?_map, List.getElem?_eq_getElem hlt]; rfl)
      obtain ⟨rfl, rfl⟩ : w.heap.size = b ∧ 0 = off := by injection hA0 with hA0; injection hA0 with q1 q2; exact ⟨q1, q2⟩
      rw [Nat.zero_add] at hcell
      have hs := all_step (f := okN) hlt
      rw [HA.out, Bool.true_and] at hs
      have HS := Lib.hid hs
      have hfail : okN m[k] = false → Hid (m.all okN = false) := fun hf => by
        show _ = _
        rw [Bool.eq_false_iff]
        intro h
        rw [List.all_eq_true.1 h _ (List.getElem_mem hlt)] at hf
        cases hf
      have HF := Lib.hid hfail
      clear hs hA0 hfail
      by_cases hlo : y8 m[k] < 33
      · have d1 : decide (y8 m[k] < 33) = true := by simpa using hlo
        have HE := HF.out (by unfold okN; simp; omega)
        clear hlo HF
        go_wp2
        go_ret
        exact ⟨ret_int (by rw [HQ.out, HE.out]; rfl), hb1⟩
      · have d1 : decide (y8 m[k] < 33) = false := by simpa using hlo
        by_cases hhi : 126 < y8 m[k]
        · have d2 : decide (126 < y8 m[k]) = true := by simpa using hhi
          have HE := HF.out (by unfold okN; simp; omega)
          go_wp2
          go_ret
          exact ⟨ret_int (by rw [HQ.out, HE.out]; rfl), hb1⟩
        · have d2 : decide (126 < y8 m[k]) = false := by simpa using hhi
          have HO : Hid (okN m[k] = true) := by show _ = _; unfold okN; simp; omega
          go_wp2
          go_round
          case rel => exact ⟨k + 1, by omega, by go_num, HS.out.trans HO.out⟩
          case measure => simp [intOf] <;> omega
    · have hd2 : decide ((k : Int) < (m.length : Int)) = false := by simp; omega
      have HE : Hid (m.all okN = true) := by
        show _ = _
        have := HA.out
        rwa [List.take_of_length_le (by omega)] at this
      go_wp2
      go_ret
      exact ⟨ret_int (by rw [HQ.out, HE.out]; rfl), hb1⟩
theorem nameFault_any (m : List UInt8) (w : World) (hm : m.length ≤ maxLen) :
    Calls Try.prog 66 #[.string (str m)] w fun e w' => e = .returned (.int .i64 (nmErr m)) ∧ Below w.heap.size w w' := by
  by_cases h : m.length = 0 ∨ 12 < m.length
  · rw [show nmErr m = 1 from if_pos h]
    refine (nameFault_size m w h hm).mono ?_
    rintro e w' ⟨rfl, rfl⟩
    exact ⟨rfl, Below.refl _ _⟩
  · exact nameFault_in m w (by omega) (by omega)
end Go.Proofs.Ytfleegidlncmjaa
/- The reference's PartsFault. -/
namespace Go.Proofs.Ytfleegidlncmjaa
open Go.RowKit
set_option maxRecDepth 100000 in
set_option maxHeartbeats 400000 in
theorem partsFault_big (A : Option Addr) (n c : Nat) (w : World) (h : 8 < n) (hn : n ≤ 9223372036854775807) :
    Calls Try.prog 34 #[.slice A n c] w fun e w' => e = .returned (.int .i64 1) ∧ w = w' := by
  go_enter Try.func34, Try.ntmps34
  go_wp2
  go_ret
  exact ⟨rfl, rfl⟩
set_option maxRecDepth 100000 in
set_option maxHeartbeats 2000000 in
theorem partsFault_in (A : Option Addr) (n c : Nat) (l : List Prt) (w : World) (hr : Rd w 3 A n c (pcs l)) (hg : ∀ p ∈ l, p.good) (h8 : n ≤ 8) :
    Calls Try.prog 34 #[.slice A n c] w fun e w' => e = .returned (.int .i64 (pErr [] l)) ∧ Below w.heap.size w w' := by
  obtain rfl := hr.plen
  have hd : decide (8 < (l.length : Int)) = false := by simp; omega
  have HG := Lib.hid hg
  obtain ⟨er, her⟩ : ∃ er, Hid (pErr [] l = er) := ⟨_, rfl⟩
  rw [her.out]
  clear hg
  go_enter Try.func34, Try.ntmps34
  go_wp2
  go_loopw [3, 5, 6, 7, 13] (fun s _ _ _ i wr => ∃ (k : Nat) (m : List UInt8), k ≤ l.length ∧ i = .int .i64 k ∧ s = .string (str m) ∧ Hid (er = pErr m (l.drop k)) ∧ Below w.heap.size w wr) (fun _ _ _ _ i _ => l.length - (intOf i).toNat)
  case atStart => exact ⟨0, [], Nat.zero_le _, rfl, rfl, her.out.symm, Below.refl _ _⟩
  case round =>
    obtain ⟨k, m, hk, rfl, rfl, HE, hbel⟩ := hrel
    by_cases hlt : k < l.length
    · obtain ⟨b, off, rfl, hc0, hc1, hc2⟩ := (hr.below hbel).part hlt
      obtain ⟨g0, g1, g2⟩ := HG.out l[k] (List.getElem_mem hlt)
      have hdk : l.drop k = l[k] :: l.drop (k + 1) := List.drop_eq_getElem_cons hlt
      have HP : Hid (er = pErr m (l[k] :: l.drop (k + 1))) := by show _ = _; rw [← hdk]; exact HE.out
      have hki : (k : Int) < (l.length : Int) := by omega
      clear hdk HE
      generalize l[k] = p at *
      have hal := (Below.refl wr.heap.size wr).alloc (Nat.le_refl _) (.cells #[.string (str p.nm), .string (str p.dg), .int .i64 p.sz] 52)
      have hbk := Blk.new wr 52 p.cells
      go_wp2_with fail
      with_reducible refine (nameFault_any _ _ g0).mono ?_
      rintro e w1 ⟨rfl, hb1⟩
      have hbk1 : Blk w1 wr.heap.size 52 p.cells := hbk.below hb1 hbk.lt
      have hbA := below_step hbel (hal.trans (hb1.mono (by simp)))
      have e0 : w1.cell? ⟨wr.heap.size, 0, none⟩ = some (.string (str p.nm)) := hbk1.cell 0
      have e1 : w1.cell? ⟨wr.heap.size, 1, none⟩ = some (.string (str p.dg)) := hbk1.cell 1
      have e2 : w1.cell? ⟨wr.heap.size, 2, none⟩ = some (.int .i64 p.sz) := hbk1.cell 2
      by_cases hn : nmErr p.nm = 0
      · have n1 : (nmErr p.nm != 0) = false := by rw [bne_eq_false_iff_eq]; exact hn
        have HN := Lib.hid hn
        clear hn hbk hal hc0 hc1 hc2
        by_cases hle : Op.bytesLess p.nm m = true
        · have HF : Hid (er = 6) := by show _ = _; rw [HP.out, pErr, HN.out, if_neg (by omega), if_pos (by unfold nle; rw [hle]; rfl)]
          go_wp2
          go_ret
          exact ⟨ret_int HF.out.symm, hbA⟩
        · have hle' : Op.bytesLess p.nm m = false := by simpa using hle
          clear hle
          by_cases heq : (p.nm == m) = true
          · have HF : Hid (er = 6) := by show _ = _; rw [HP.out, pErr, HN.out, if_neg (by omega), if_pos (by unfold nle; rw [hle', heq]; rfl)]
            go_wp2
            go_ret
            exact ⟨ret_int HF.out.symm, hbA⟩
          · have heq' : (p.nm == m) = false := by simpa using heq
            have HL : Hid (¬ nle p.nm m = true) := by show ¬ _; unfold nle; rw [hle', heq']; decide
            clear heq
            go_wp2_with fail
            with_reducible refine (hexFault_all _ _ g1).mono ?_
            rintro e w2 ⟨rfl, hb2⟩
            have hbB := below_step hbA hb2
            have hw1 : wr.heap.size < w1.heap.size := hbk1.lt
            have d0 : w2.cell? ⟨wr.heap.size, 0, none⟩ = some (.string (str p.nm)) := (hb2.cell (p := ⟨wr.heap.size, 0, none⟩) hw1).trans e0
            have d2 : w2.cell? ⟨wr.heap.size, 2, none⟩ = some (.int .i64 p.sz) := (hb2.cell (p := ⟨wr.heap.size, 2, none⟩) hw1).trans e2
            clear e0 e1 e2 hb1 hbk1 hbA
            by_cases hc : cErr p.dg = 0
            · have c1 : (cErr p.dg != 0) = false := by rw [bne_eq_false_iff_eq]; exact hc
              have HC := Lib.hid hc
              clear hc
              by_cases hlo : p.sz < 0
              · have s1 : decide (p.sz < 0) = true := by simpa using hlo
                have HF : Hid (er = 4) := by show _ = _; rw [HP.out, pErr, HN.out, if_neg (by omega), if_neg HL.out, HC.out, if_neg (by omega), if_pos (.inl hlo)]
                go_wp2
                go_ret
                exact ⟨ret_int HF.out.symm, hbB⟩
              · have s1 : decide (p.sz < 0) = false := by simpa using hlo
                by_cases hhi : 300 < p.sz
                · have s2 : decide (300 < p.sz) = true := by simpa using hhi
                  have HF : Hid (er = 4) := by show _ = _; rw [HP.out, pErr, HN.out, if_neg (by omega), if_neg HL.out, HC.out, if_neg (by omega), if_pos (.inr hhi)]
                  go_wp2
                  go_ret
                  exact ⟨ret_int HF.out.symm, hbB⟩
                · have s2 : decide (300 < p.sz) = false := by simpa using hhi
                  have HF : Hid (er = pErr p.nm (l.drop (k + 1))) := by show _ = _; rw [HP.out, pErr, HN.out, if_neg (by omega), if_neg HL.out, HC.out, if_neg (by omega), if_neg (by omega)]
                  go_wp2
                  go_roundw
                  case rel => exact ⟨k + 1, p.nm, by omega, by go_num, rfl, HF.out, hbB⟩
                  case measure => simp [intOf] <;> omega
            · have c1 : (cErr p.dg != 0) = true := by rw [bne_iff_ne]; exact hc
              have HF : Hid (er = cErr p.dg) := by show _ = _; rw [HP.out, pErr, HN.out, if_neg (by omega), if_neg HL.out, if_pos hc]
              clear hc
              go_wp2
              go_ret
              exact ⟨ret_int HF.out.symm, hbB⟩
      · have n1 : (nmErr p.nm != 0) = true := by rw [bne_iff_ne]; exact hn
        have HN := Lib.hid hn
        have HF : Hid (er = nmErr p.nm) := by show _ = _; rw [HP.out, pErr, if_pos hn]
        clear hn hbk hal hc0 hc1 hc2
        go_wp2
        go_ret
        exact ⟨ret_int HF.out.symm, hbA⟩
    · have hd2 : decide ((k : Int) < (l.length : Int)) = false := by simp; omega
      have HF : Hid (er = 0) := by show _ = _; rw [HE.out, List.drop_of_length_le (by omega)]; rfl
      go_wp2
      go_ret
      exact ⟨ret_int HF.out.symm, hbel⟩
theorem partsFault_any (A : Option Addr) (n c : Nat) (l : List Prt) (w : World) (hr : Rd w 3 A n c (pcs l)) (hg : ∀ p ∈ l, p.good) :
    Calls Try.prog 34 #[.slice A n c] w fun e w' => e = .returned (.int .i64 (psErr l)) ∧ Below w.heap.size w w' := by
  have hn := hr.plen
  by_cases h : 8 < n
  · rw [show psErr l = 1 from if_pos (by omega)]
    have h1 := hr.2.1
    have h2 := hr.2.2.1
    unfold maxLen at h2
    refine (partsFault_big A n c w h (by omega)).mono ?_
    rintro e w' ⟨rfl, rfl⟩
    exact ⟨rfl, Below.refl _ _⟩
  · rw [show psErr l = pErr [] l from if_neg (by omega)]
    exact partsFault_in A n c l w hr hg (by omega)
end Go.Proofs.Ytfleegidlncmjaa
/- Reading a manifest: plain functions; what is kept beside a struct variable. -/
namespace Go.Proofs.Ytfleegidlncmjaa
open Go.RowKit
/-- reading k parts more, behind those that are read, and the end -/
def rdTail : Nat → List Prt → List UInt8 → Int × List Prt
  | 0, acc, r => if 0 < r.length then (3, []) else if psErr acc ≠ 0 then (psErr acc, []) else (0, acc)
  | k + 1, acc, r =>
    if tErr r ≠ 0 then (tErr r, []) else if (tRest r).length < 32 then (8, [])
    else if rErr ((tRest r).drop 32) ≠ 0 then (rErr ((tRest r).drop 32), [])
    else rdTail k (acc ++ [⟨tStr r, hexT ((tRest r).take 32), (rVal ((tRest r).drop 32) : Int)⟩]) (rRest ((tRest r).drop 32))
/-- reading a manifest: the error and the parts -/
def dec (l : List UInt8) : Int × List Prt :=
  if 2000 < l.length then (1, []) else if l.length < 3 ∨ l.take 3 ≠ [65, 77, 49] then (3, [])
  else if rErr (l.drop 3) ≠ 0 then (rErr (l.drop 3), []) else if 8 < rVal (l.drop 3) then (1, [])
  else rdTail (rVal (l.drop 3)) [] (rRest (l.drop 3))
theorem rRest_le (l : List UInt8) : (rRest l).length ≤ l.length := by
  unfold rRest; split
  · rw [List.length_drop]; omega
  · simp
theorem tRest_le (l : List UInt8) : (tRest l).length ≤ l.length := by
  unfold tRest; split
  · rw [List.length_drop]; have := rRest_le l; omega
  · simp
theorem tStr_le (l : List UInt8) : (tStr l).length ≤ l.length := by
  unfold tStr; split
  · rw [List.length_take]; have := rRest_le l; omega
  · simp
/-- bytes are kept where a cell of a block that holds no byte is written -/
theorem Rd.put_other {w : World} {A : Option Addr} {n c : Nat} {l : List UInt8} (h : Rd w 1 A n c (l.map bv8)) {g : Nat} {t : TypeId} {xs : List Value} (hg : Blk w g t xs) (hx : ∀ v ∈ xs, ∀ y, v ≠ bv8 y) (i : Nat) (u : Value) :
    Rd (w.setCell ⟨g, i, none⟩ u) 1 A n c (l.map bv8) := by
  obtain ⟨h1, h2, h3, h4⟩ := h
  refine ⟨h1, h2, h3, fun hp => ?_⟩
  obtain ⟨b, off, rfl, hc⟩ := h4 hp
  refine ⟨b, off, rfl, fun j v hv => ?_⟩
  have hcj := hc j v hv
  have hne : b ≠ g := by
    rintro rfl
    rw [hg.cell] at hcj
    have hm : v ∈ xs := List.mem_of_getElem? hcj
    rw [List.getElem?_map] at hv
    obtain ⟨y, _, rfl⟩ := Option.map_eq_some_iff.1 hv
    exact hx _ hm y rfl
  have ho : (⟨g, i, none⟩ : Addr) ≠ ⟨b, off + j, none⟩ := by
    intro e
    injection e with e1 _
    exact hne e1.symm
  exact (World.cell?_setCell_other _ _ _ _ ho).trans hcj
/-- a slice is kept where its own block is kept -/
theorem Rd.keepAt {w w' : World} {size n c : Nat} {A : Option Addr} {xs : List Value} (h : Rd w size A n c xs) (hk : ∀ a : Addr, A = some a → w'.heap[a.block]? = w.heap[a.block]?) : Rd w' size A n c xs := by
  obtain ⟨h1, h2, h3, h4⟩ := h
  refine ⟨h1, h2, h3, fun hp => ?_⟩
  obtain ⟨b, off, rfl, hc⟩ := h4 hp
  refine ⟨b, off, rfl, fun j v hv => ?_⟩
  have hcj := hc j v hv
  have hb := hk _ rfl
  unfold World.cell? at hcj ⊢
  simp only at hcj hb ⊢
  rw [hb]; exact hcj
/-- a manifest's parts, or none, and an error -/
def GivesP (l : List Prt) (err : Int) (w : World) (e : Ending) (w' : World) : Prop :=
  ∃ A n c, e = .returned (.tuple #[.slice A n c, .int .i64 err]) ∧ Rd w' 3 A n c (pcs l) ∧ (A = none → c = 0) ∧ Below w.heap.size w w'
theorem givesP_nil {w : World} {err : Int} {e : Ending} {w' : World} (h : e = .returned (.tuple #[.slice none 0 0, .int .i64 err]) ∧ Below w.heap.size w w') : GivesP [] err w e w' := by
  obtain ⟨rfl, hb⟩ := h
  exact ⟨none, 0, 0, rfl, Rd.nil _ _, fun _ => rfl, hb⟩
theorem part_info : (Try.prog.info? 52).map (fun i => (i.zero, i.size, i.bytes)) = some (some (.agg #[.string ByteArray.empty, .string ByteArray.empty, .int .i64 0]), 3, 40) := by kernel_rfl
end Go.Proofs.Ytfleegidlncmjaa
/- A manifest's bytes and back: plain facts. -/
namespace Go.Proofs.Ytfleegidlncmjaa
open Go.RowKit
theorem mB_parts (p : Prt) (r : List UInt8) : mB p ++ r = txt p.nm ++ (unh p.dg ++ (enc p.sz.toNat ++ r)) := by
  unfold mB txt; simp only [List.append_assoc]
theorem rdTail_succ (k : Nat) (acc : List Prt) (r : List UInt8) : rdTail (k + 1) acc r = if tErr r ≠ 0 then (tErr r, []) else if (tRest r).length < 32 then (8, [])
    else if rErr ((tRest r).drop 32) ≠ 0 then (rErr ((tRest r).drop 32), [])
    else rdTail k (acc ++ [⟨tStr r, hexT ((tRest r).take 32), (rVal ((tRest r).drop 32) : Int)⟩]) (rRest ((tRest r).drop 32)) := rfl
/-- reading parts that were written -/
theorem rdTail_back : ∀ (l acc : List Prt) (r : List UInt8), (∀ p ∈ l, p.fine) → rdTail l.length acc (mBs l ++ r) = rdTail 0 (acc ++ l) r
  | [], acc, r, _ => by rw [List.append_nil]; rfl
  | p :: l, acc, r, h => by
    obtain ⟨_, h1, h2, h3, h4, h5, h6⟩ := h p (by simp)
    have hu : (unh p.dg).length = 32 := by rw [unh_length, h3]
    rw [mBs_cons, List.append_assoc, mB_parts, List.length_cons, rdTail_succ]
    obtain ⟨t0, t1, t2⟩ := text_read p.nm (unh p.dg ++ (enc p.sz.toNat ++ (mBs l ++ r))) (by omega)
    rw [t0, t1, t2, if_neg (by omega), if_neg (by rw [List.length_append]; omega), List.drop_left' hu, List.take_left' hu]
    obtain ⟨r0, r1, _, r3⟩ := read_enc (n := p.sz.toNat) (by omega) (mBs l ++ r)
    rw [r0, r1, r3, if_neg (by omega), hexT_unh _ (by omega) h4, show ((p.sz.toNat : Nat) : Int) = p.sz from by omega]
    rw [rdTail_back l (acc ++ [p]) r (fun q hq => h q (by simp [hq])), List.append_assoc]
    rfl
/-- reading a manifest that was written, and bytes behind it -/
theorem dec_man {l : List Prt} (h : psErr l = 0) (r : List UInt8) (hr : r.length ≤ 1000) : dec (man l ++ r) = if 0 < r.length then (3, []) else (0, l) := by
  obtain ⟨h1, h2⟩ := psErr_zero h
  obtain ⟨h3, h4⟩ := man_length h
  have e : man l ++ r = [65, 77, 49] ++ (enc l.length ++ (mBs l ++ r)) := by unfold man; simp only [List.append_assoc]
  have hlen : (man l ++ r).length ≤ 1500 := by rw [List.length_append]; omega
  have hlen3 : 3 ≤ (man l ++ r).length := by rw [List.length_append]; omega
  obtain ⟨r0, r1, _, r3⟩ := read_enc (n := l.length) (by omega) (mBs l ++ r)
  unfold dec
  rw [if_neg (by omega)]
  rw [if_neg (by rintro (q | q); · omega
                 · exact q (by rw [e]; rfl))]
  have ed : (man l ++ r).drop 3 = enc l.length ++ (mBs l ++ r) := by rw [e]; rfl
  rw [ed, r0, r1, r3, if_neg (by omega), if_neg (by omega), rdTail_back l [] r h2, List.nil_append, rdTail]
  split
  · rfl
  · rw [h, if_neg (by omega)]
/-- what is read was written so -/
theorem rdTail_turn : ∀ (k : Nat) (acc : List Prt) (r : List UInt8), (rdTail k acc r).1 = 0 → ∃ l : List Prt, l.length = k ∧ (rdTail k acc r).2 = acc ++ l ∧ mBs l = r ∧ psErr (acc ++ l) = 0
  | 0, acc, r, h => by
    rw [rdTail] at h ⊢
    split at h
    · simp at h
    · rename_i h1
      split at h
      · rename_i h2; exact absurd h h2
      · rename_i h2
        have h3 : psErr acc = 0 := Classical.byContradiction h2
        have h4 : r = [] := List.eq_nil_of_length_eq_zero (by omega)
        refine ⟨[], rfl, ?_, ?_, ?_⟩
        · rw [if_neg h1, if_neg h2, List.append_nil]
        · rw [h4]; rfl
        · rw [List.append_nil]; exact h3
  | k + 1, acc, r, h => by
    rw [rdTail] at h ⊢
    split at h
    · rename_i h1; exact absurd h h1
    · rename_i h1
      split at h
      · simp at h
      · rename_i h2
        split at h
        · rename_i h3; exact absurd h h3
        · rename_i h3
          obtain ⟨l, hl, h4, h5, h6⟩ := rdTail_turn k _ _ h
          have t0 : tErr r = 0 := Classical.byContradiction h1
          have r0 : rErr ((tRest r).drop 32) = 0 := Classical.byContradiction h3
          refine ⟨⟨tStr r, hexT ((tRest r).take 32), (rVal ((tRest r).drop 32) : Int)⟩ :: l, by rw [List.length_cons, hl], ?_, ?_, ?_⟩
          · rw [if_neg h1, if_neg h2, if_neg h3, h4, List.append_assoc]; rfl
          · rw [mBs_cons, mB_parts, h5]
            simp only [unh_hexT, Int.toNat_natCast]
            rw [read_turn r0, List.take_append_drop, text_turn t0]
          · rw [List.append_assoc] at h6; exact h6
theorem dec_turn {b : List UInt8} (h : (dec b).1 = 0) : man (dec b).2 = b ∧ psErr (dec b).2 = 0 := by
  unfold dec at h ⊢
  split at h
  · simp at h
  · rename_i h1
    split at h
    · simp at h
    · rename_i h2
      split at h
      · rename_i h3; exact absurd h h3
      · rename_i h3
        split at h
        · simp at h
        · rename_i h4
          obtain ⟨l, hl, h5, h6, h7⟩ := rdTail_turn _ _ _ h
          rw [if_neg h1, if_neg h2, if_neg h3, if_neg h4, h5, List.nil_append]
          rw [List.nil_append] at h7
          have r0 : rErr (b.drop 3) = 0 := Classical.byContradiction h3
          have h8 : b.take 3 = [65, 77, 49] := Classical.byContradiction fun q => h2 (.inr q)
          refine ⟨?_, h7⟩
          unfold man
          rw [hl, h6, List.append_assoc, read_turn r0, ← h8, List.take_append_drop]
/-- no beginning of a manifest is one -/
theorem dec_torn {l : List Prt} (h : psErr l = 0) {p : Nat} (hp : p < (man l).length) : (dec ((man l).take p)).1 ≠ 0 := by
  intro h0
  obtain ⟨h1, h2⟩ := dec_turn h0
  have e : man l = man (dec ((man l).take p)).2 ++ (man l).drop p := by rw [h1, List.take_append_drop]
  have h3 := man_length h
  have h4 := dec_man h2 ((man l).drop p) (by rw [List.length_drop]; omega)
  rw [← e, if_pos (by rw [List.length_drop]; omega)] at h4
  have h5 := dec_man h [] (by simp)
  rw [List.append_nil, h4] at h5
  simp at h5
end Go.Proofs.Ytfleegidlncmjaa

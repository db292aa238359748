/- Texts that belong together: what the functions of the program and of the statements return. -/
import Derived.Test.YtdbdigcpibmgjaaGreatDoorGX
import Derived.Test.YtdbdigcpibmgjaaGreatDoorGB
import Derived.Test.YtdbdigcpibmgjaaGreatDoorGC
import Derived.Test.YtdbdigcpibmgjaaGreatDoorQMr3
import Derived.Laws.Rows
import Derived.Test.YtdbdigcpibmgjaaGreatDoorGO
/- The program's Name, checkPart and Check. -/
namespace Go.Proofs.YtdbdigcpibmgjaaGreatDoor
open Go.RowKit
set_option maxRecDepth 100000 in
set_option maxHeartbeats 400000 in
theorem mname_size (m : List UInt8) (w : World) (h : m.length = 0 ∨ 12 < m.length) (hm : m.length ≤ maxLen) :
    Calls Tryz.prog 185 #[.string (str m)] w fun e w' => e = .returned (.int .i64 1) ∧ w = w' := by
  unfold maxLen at hm
  by_cases h0 : m.length = 0
  · obtain rfl : m = [] := List.eq_nil_of_length_eq_zero h0
    go_enter Tryz.func185, Tryz.ntmps185
    go_wp2
    go_ret
    exact ⟨rfl, rfl⟩
  · have hd0 : decide ((m.length : Int) < 1) = false := by simp; omega
    have hd : decide (12 < (m.length : Int)) = true := by simp; omega
    go_enter Tryz.func185, Tryz.ntmps185
    go_wp2
    go_ret
    exact ⟨rfl, rfl⟩
set_option maxRecDepth 100000 in
set_option maxHeartbeats 400000 in
theorem mname_in (m : List UInt8) (w : World) (h1 : 1 ≤ m.length) (h2 : m.length ≤ 12) :
    Calls Tryz.prog 185 #[.string (str m)] w fun e w' => e = .returned (.int .i64 (nmErr m)) ∧ w = w' := by
  have HQ : Hid (nmErr m = if m.all okN then 0 else 3) := if_neg (by omega)
  have hd0 : decide ((m.length : Int) < 1) = false := by simp; omega
  have hd : decide (12 < (m.length : Int)) = false := by simp; omega
  go_enter Tryz.func185, Tryz.ntmps185
  go_wp2
  go_loop [3, 14] (fun _ i => ∃ k : Nat, k ≤ m.length ∧ i = .int .i64 k ∧ Hid ((m.take k).all okN = true)) (fun _ i => m.length - (intOf i).toNat)
  case atStart => exact ⟨0, Nat.zero_le _, rfl, rfl⟩
  case round =>
    obtain ⟨k, hk, rfl, HA⟩ := hrel
    by_cases hlt : k < m.length
    · have hs := all_step (f := okN) hlt
      rw [HA.out, Bool.true_and] at hs
      have HS := Lib.hid hs
      have hfail : okN m[k] = false → Hid (m.all okN = false) := fun hf => by
        show _ = _
        rw [Bool.eq_false_iff]
        intro h
        rw [List.all_eq_true.1 h _ (List.getElem_mem hlt)] at hf
        cases hf
      have HF := Lib.hid hfail
      clear hs hfail
      by_cases hlo : y8 m[k] < 33
      · have d1 : decide (y8 m[k] < 33) = true := by simpa using hlo
        have HE := HF.out (by unfold okN; simp; omega)
        clear hlo HF
        go_wp2
        go_ret
        exact ⟨ret_int (by rw [HQ.out, HE.out]; rfl), rfl⟩
      · have d1 : decide (y8 m[k] < 33) = false := by simpa using hlo
        by_cases hhi : 126 < y8 m[k]
        · have d2 : decide (126 < y8 m[k]) = true := by simpa using hhi
          have HE := HF.out (by unfold okN; simp; omega)
          go_wp2
          go_ret
          exact ⟨ret_int (by rw [HQ.out, HE.out]; rfl), rfl⟩
        · have d2 : decide (126 < y8 m[k]) = false := by simpa using hhi
          have HO : Hid (okN m[k] = true) := by show _ = _; unfold okN; simp; omega
          go_wp2
          go_round
          case rel => exact ⟨k + 1, by omega, by go_num, HS.out.trans HO.out⟩
          case measure => simp [intOf] <;> omega
    · have hd2 : decide ((k : Int) < (m.length : Int)) = false := by simp; omega
      have HE : Hid (m.all okN = true) := by
        show _ = _
        have := HA.out
        rwa [List.take_of_length_le (by omega)] at this
      go_wp2
      go_ret
      exact ⟨ret_int (by rw [HQ.out, HE.out]; rfl), rfl⟩
theorem mname_eq (m : List UInt8) (w : World) (hm : m.length ≤ maxLen) :
    Calls Tryz.prog 185 #[.string (str m)] w fun e w' => e = .returned (.int .i64 (nmErr m)) ∧ w = w' := by
  by_cases h : m.length = 0 ∨ 12 < m.length
  · rw [show nmErr m = 1 from if_pos h]
    exact mname_size m w h hm
  · exact mname_in m w (by omega) (by omega)
theorem mname_any (m : List UInt8) (w : World) (hm : m.length ≤ maxLen) :
    Calls Tryz.prog 185 #[.string (str m)] w fun e w' => e = .returned (.int .i64 (nmErr m)) ∧ Below w.heap.size w w' := by
  refine (mname_eq m w hm).mono ?_
  rintro e w' ⟨rfl, rfl⟩
  exact ⟨rfl, Below.refl _ _⟩
/-- the error of one part behind the name 'm' -/
def kErr (m : List UInt8) (p : Prt) : Int :=
  if nmErr p.nm ≠ 0 then nmErr p.nm else if nle p.nm m = true then 6 else if cErr p.dg ≠ 0 then cErr p.dg else if p.sz < 0 ∨ 300 < p.sz then 4 else 0
theorem pErr_k (m : List UInt8) (p : Prt) (r : List Prt) : pErr m (p :: r) = if kErr m p ≠ 0 then kErr m p else pErr p.nm r := by
  rw [pErr, kErr]
  split
  · rfl
  · split
    · rw [if_pos (by omega)]
    · split
      · rfl
      · split
        · rw [if_pos (by omega)]
        · rw [if_neg (by omega)]
set_option maxRecDepth 100000 in
set_option maxHeartbeats 1000000 in
theorem checkPart_any (nm dg : List UInt8) (sz : Int) (m : List UInt8) (w : World) (g0 : nm.length ≤ maxLen) (g1 : dg.length ≤ maxLen) :
    Calls Tryz.prog 163 #[.agg #[.string (str nm), .string (str dg), .int .i64 sz], .string (str m)] w fun e w' => e = .returned (.int .i64 (kErr m ⟨nm, dg, sz⟩)) ∧ Below w.heap.size w w' := by
  obtain ⟨er, her⟩ : ∃ er, Hid (kErr m ⟨nm, dg, sz⟩ = er) := ⟨_, rfl⟩
  rw [her.out]
  have hal := (Below.refl w.heap.size w).alloc (Nat.le_refl _) (.cells #[.string (str nm), .string (str dg), .int .i64 sz] 97)
  have hbk := Blk.new w 97 [.string (str nm), .string (str dg), .int .i64 sz]
  have e0 := hbk.cell 0
  have e1 := hbk.cell 1
  have e2 := hbk.cell 2
  simp only [List.getElem?_cons_succ, List.getElem?_cons_zero] at e0 e1 e2
  go_enter Tryz.func163, Tryz.ntmps163
  go_wp2_with fail
  with_reducible refine (mname_eq _ _ g0).mono ?_
  rintro e w1 ⟨rfl, rfl⟩
  by_cases hn : nmErr nm = 0
  · have n1 : (nmErr nm != 0) = false := by rw [bne_eq_false_iff_eq]; exact hn
    have HN := Lib.hid hn
    clear hn hbk
    by_cases hle : Op.bytesLess nm m = true
    · have HF : Hid (er = 6) := by show _ = _; rw [← her.out, kErr, if_neg (by rw [HN.out]; omega), if_pos (by unfold nle; rw [hle]; rfl)]
      go_wp2
      go_ret
      exact ⟨ret_int HF.out.symm, hal⟩
    · have hle' : Op.bytesLess nm m = false := by simpa using hle
      clear hle
      by_cases heq : (nm == m) = true
      · have HF : Hid (er = 6) := by show _ = _; rw [← her.out, kErr, if_neg (by rw [HN.out]; omega), if_pos (by unfold nle; rw [hle', heq]; rfl)]
        go_wp2
        go_ret
        exact ⟨ret_int HF.out.symm, hal⟩
      · have heq' : (nm == m) = false := by simpa using heq
        have HL : Hid (¬ nle nm m = true) := by show ¬ _; unfold nle; rw [hle', heq']; decide
        clear heq
        go_wp2_with fail
        with_reducible refine (hcheck_all _ _ g1).mono ?_
        rintro e w2 ⟨rfl, rfl⟩
        by_cases hc : cErr dg = 0
        · have c1 : (cErr dg != 0) = false := by rw [bne_eq_false_iff_eq]; exact hc
          have HC := Lib.hid hc
          clear hc
          by_cases hlo : sz < 0
          · have s1 : decide (sz < 0) = true := by simpa using hlo
            have HF : Hid (er = 4) := by show _ = _; rw [← her.out, kErr, if_neg (by rw [HN.out]; omega), if_neg HL.out, if_neg (by rw [HC.out]; omega), if_pos (.inl hlo)]
            go_wp2
            go_ret
            exact ⟨ret_int HF.out.symm, hal⟩
          · have s1 : decide (sz < 0) = false := by simpa using hlo
            by_cases hhi : 300 < sz
            · have s2 : decide (300 < sz) = true := by simpa using hhi
              have HF : Hid (er = 4) := by show _ = _; rw [← her.out, kErr, if_neg (by rw [HN.out]; omega), if_neg HL.out, if_neg (by rw [HC.out]; omega), if_pos (.inr hhi)]
              go_wp2
              go_ret
              exact ⟨ret_int HF.out.symm, hal⟩
            · have s2 : decide (300 < sz) = false := by simpa using hhi
              have HF : Hid (er = 0) := by show _ = _; rw [← her.out, kErr, if_neg (by rw [HN.out]; omega), if_neg HL.out, if_neg (by rw [HC.out]; omega), if_neg (by simp only; omega)]
              go_wp2
              go_ret
              exact ⟨ret_int HF.out.symm, hal⟩
        · have c1 : (cErr dg != 0) = true := by rw [bne_iff_ne]; exact hc
          have HF : Hid (er = cErr dg) := by show _ = _; rw [← her.out, kErr, if_neg (by rw [HN.out]; omega), if_neg HL.out, if_pos hc]
          clear hc
          go_wp2
          go_ret
          exact ⟨ret_int HF.out.symm, hal⟩
  · have n1 : (nmErr nm != 0) = true := by rw [bne_iff_ne]; exact hn
    have HF : Hid (er = nmErr nm) := by show _ = _; rw [← her.out, kErr, if_pos hn]
    clear hn hbk
    go_wp2
    go_ret
    exact ⟨ret_int HF.out.symm, hal⟩
set_option maxRecDepth 100000 in
set_option maxHeartbeats 400000 in
theorem mcheck_big (A : Option Addr) (n c : Nat) (w : World) (h : 8 < n) (hn : n ≤ 9223372036854775807) :
    Calls Tryz.prog 120 #[.slice A n c] w fun e w' => e = .returned (.int .i64 1) ∧ w = w' := by
  go_enter Tryz.func120, Tryz.ntmps120
  go_wp2
  go_ret
  exact ⟨rfl, rfl⟩
set_option maxRecDepth 100000 in
set_option maxHeartbeats 2000000 in
theorem mcheck_in (A : Option Addr) (n c : Nat) (l : List Prt) (w : World) (hr : Rd w 3 A n c (pcs l)) (hg : ∀ p ∈ l, p.good) (h8 : n ≤ 8) :
    Calls Tryz.prog 120 #[.slice A n c] w fun e w' => e = .returned (.int .i64 (pErr [] l)) ∧ Below w.heap.size w w' := by
  obtain rfl := hr.plen
  have hd : decide (8 < (l.length : Int)) = false := by simp; omega
  have HG := Lib.hid hg
  obtain ⟨er, her⟩ : ∃ er, Hid (pErr [] l = er) := ⟨_, rfl⟩
  rw [her.out]
  clear hg
  go_enter Tryz.func120, Tryz.ntmps120
  go_wp2
  go_loopw [3, 5, 6, 12] (fun s _ _ i wr => ∃ (k : Nat) (m : List UInt8), k ≤ l.length ∧ i = .int .i64 k ∧ s = .string (str m) ∧ Hid (er = pErr m (l.drop k)) ∧ Below w.heap.size w wr) (fun _ _ _ i _ => l.length - (intOf i).toNat)
  case atStart => exact ⟨0, [], Nat.zero_le _, rfl, rfl, her.out.symm, Below.refl _ _⟩
  case round =>
    obtain ⟨k, m, hk, rfl, rfl, HE, hbel⟩ := hrel
    by_cases hlt : k < l.length
    · obtain ⟨b, off, rfl, hc0, hc1, hc2⟩ := (hr.below hbel).part hlt
      obtain ⟨g0, g1, g2⟩ := HG.out l[k] (List.getElem_mem hlt)
      have hdk : l.drop k = l[k] :: l.drop (k + 1) := List.drop_eq_getElem_cons hlt
      have HP : Hid (er = pErr m (l[k] :: l.drop (k + 1))) := by show _ = _; rw [← hdk]; exact HE.out
      have hki : (k : Int) < (l.length : Int) := by omega
      clear hdk HE
      generalize l[k] = p at *
      obtain ⟨nm, dg, sz⟩ := p
      simp only at g0 g1 g2 hc0 hc1 hc2
      have hal := (Below.refl wr.heap.size wr).alloc (Nat.le_refl _) (.cells #[.string (str nm), .string (str dg), .int .i64 sz] 97)
      have hbk := Blk.new wr 97 [.string (str nm), .string (str dg), .int .i64 sz]
      go_wp2_with fail
      with_reducible refine (checkPart_any _ _ _ _ _ g0 g1).mono ?_
      rintro e w1 ⟨rfl, hb1⟩
      have hbk1 := hbk.below hb1 hbk.lt
      have hbA := below_step hbel (hal.trans (hb1.mono (by simp)))
      have e0 : w1.cell? ⟨wr.heap.size, 0, none⟩ = some (.string (str nm)) := hbk1.cell 0
      clear hbk hal hc0 hc1 hc2
      by_cases hn : kErr m ⟨nm, dg, sz⟩ = 0
      · have n1 : (kErr m ⟨nm, dg, sz⟩ != 0) = false := by rw [bne_eq_false_iff_eq]; exact hn
        have HF : Hid (er = pErr nm (l.drop (k + 1))) := by show _ = _; rw [HP.out, pErr_k, if_neg (by rw [hn]; omega)]
        clear hn
        go_wp2
        go_roundw
        case rel => exact ⟨k + 1, nm, by omega, by go_num, rfl, HF.out, hbA⟩
        case measure => simp [intOf] <;> omega
      · have n1 : (kErr m ⟨nm, dg, sz⟩ != 0) = true := by rw [bne_iff_ne]; exact hn
        have HF : Hid (er = kErr m ⟨nm, dg, sz⟩) := by show _ = _; rw [HP.out, pErr_k, if_pos hn]
        clear hn
        go_wp2
        go_ret
        exact ⟨ret_int HF.out.symm, hbA⟩
    · have hd2 : decide ((k : Int) < (l.length : Int)) = false := by simp; omega
      have HF : Hid (er = 0) := by show _ = _; rw [HE.out, List.drop_of_length_le (by omega)]; rfl
      go_wp2
      go_ret
      exact ⟨ret_int HF.out.symm, hbel⟩
theorem mcheck_any (A : Option Addr) (n c : Nat) (l : List Prt) (w : World) (hr : Rd w 3 A n c (pcs l)) (hg : ∀ p ∈ l, p.good) :
    Calls Tryz.prog 120 #[.slice A n c] w fun e w' => e = .returned (.int .i64 (psErr l)) ∧ Below w.heap.size w w' := by
  have hn := hr.plen
  by_cases h : 8 < n
  · rw [show psErr l = 1 from if_pos (by omega)]
    have h1 := hr.2.1
    have h2 := hr.2.2.1
    unfold maxLen at h2
    refine (mcheck_big A n c w h (by omega)).mono ?_
    rintro e w' ⟨rfl, rfl⟩
    exact ⟨rfl, Below.refl _ _⟩
  · rw [show psErr l = pErr [] l from if_neg (by omega)]
    exact mcheck_in A n c l w hr hg (by omega)
end Go.Proofs.YtdbdigcpibmgjaaGreatDoor
/- Reading one part: the program's readPart; bytes.HasPrefix. -/
namespace Go.Proofs.YtdbdigcpibmgjaaGreatDoor
open Go.RowKit
/-- the error of one part's bytes; the part; what is behind it -/
def pe (r : List UInt8) : Int := if tErr r ≠ 0 then tErr r else if (tRest r).length < 32 then 8 else rErr ((tRest r).drop 32)
def pp (r : List UInt8) : Prt := if pe r = 0 then ⟨tStr r, hexT ((tRest r).take 32), (rVal ((tRest r).drop 32) : Int)⟩ else ⟨[], [], 0⟩
def pr (r : List UInt8) : List UInt8 := if pe r = 0 then rRest ((tRest r).drop 32) else []
theorem rdTail_pe (k : Nat) (acc : List Prt) (r : List UInt8) : rdTail (k + 1) acc r = if pe r ≠ 0 then (pe r, []) else rdTail k (acc ++ [pp r]) (pr r) := by
  rw [rdTail]
  by_cases h1 : tErr r = 0
  · rw [if_neg (by omega)]
    by_cases h2 : (tRest r).length < 32
    · have : pe r = 8 := by unfold pe; rw [if_neg (by omega), if_pos h2]
      rw [if_pos h2, this, if_pos (by omega)]
    · have : pe r = rErr ((tRest r).drop 32) := by unfold pe; rw [if_neg (by omega), if_neg h2]
      rw [if_neg h2, ← this]
      by_cases h3 : pe r = 0
      · rw [if_neg (by omega), if_neg (by omega)]
        unfold pp pr
        rw [if_pos h3, if_pos h3]
      · rw [if_pos h3, if_pos h3]
  · have : pe r = tErr r := by unfold pe; rw [if_pos h1]
    rw [if_pos h1, this, if_pos h1]
set_option maxRecDepth 100000 in
set_option maxHeartbeats 400000 in
theorem bequal_any (A B : Option Addr) (n c m d : Nat) (a b : List UInt8) (w : World) (hr : Rd w 1 A n c (a.map bv8)) (hs : Rd w 1 B m d (b.map bv8)) :
    Calls Tryz.prog 160 #[.slice A n c, .slice B m d] w fun e w' => e = .returned (.bool (a == b)) ∧ w = w' := by
  have k1 := run_bytes_str (P := Tryz.prog) Tryz.underlying43 Tryz.underlying5 Tryz.underlying9 hr.as
  have k2 := run_bytes_str (P := Tryz.prog) Tryz.underlying43 Tryz.underlying5 Tryz.underlying9 hs.as
  obtain rfl := hr.len
  obtain rfl := hs.len
  go_enter Tryz.func160, Tryz.ntmps160
  go_wp2
  go_ret
  exact ⟨rfl, rfl⟩
set_option maxRecDepth 100000 in
set_option maxHeartbeats 400000 in
theorem hasPrefix_short (A : Option Addr) (n c : Nat) (B : Option Addr) (w : World) (h : n < 3) :
    Calls Tryz.prog 118 #[.slice A n c, .slice B 3 3] w fun e w' => e = .returned (.bool false) ∧ w = w' := by
  have hd : decide ((3 : Int) ≤ (n : Int)) = false := by simp; omega
  go_enter Tryz.func118, Tryz.ntmps118
  go_wp2
  go_ret
  exact ⟨rfl, rfl⟩
set_option maxRecDepth 100000 in
set_option maxHeartbeats 400000 in
theorem hasPrefix_ok (A : Option Addr) (n c : Nat) (l : List UInt8) (B : Option Addr) (m : List UInt8) (w : World) (hr : Rd w 1 A n c (l.map bv8)) (hs : Rd w 1 B 3 3 (m.map bv8)) (h : 3 ≤ n) :
    Calls Tryz.prog 118 #[.slice A n c, .slice B 3 3] w fun e w' => e = .returned (.bool (l.take 3 == m)) ∧ w = w' := by
  have hd : decide ((3 : Int) ≤ (n : Int)) = true := by simp; omega
  have hcm := hr.2.1
  have hci : (3 : Int) ≤ (c : Int) := by omega
  have ht := hr.take 3 h
  rw [← List.map_take] at ht
  obtain ⟨res, hres⟩ : ∃ b : Bool, (l.take 3 == m) = b := ⟨_, rfl⟩
  have HRS := Lib.hid hres
  rw [HRS.out]
  clear hres
  go_enter Tryz.func118, Tryz.ntmps118
  go_wp2_with fail
  with_reducible refine (bequal_any _ _ _ _ _ _ _ _ _ ht hs).mono ?_
  rintro e w' ⟨rfl, rfl⟩
  rw [HRS.out]
  cases res
  all_goals
    go_wp2
    go_ret
    exact ⟨rfl, rfl⟩
/-- one part, bytes of the call's own and an error -/
def GivesR (p : Prt) (l : List UInt8) (err : Int) (w : World) (e : Ending) (w' : World) : Prop :=
  ∃ A n c, e = .returned (.tuple #[.agg #[.string (str p.nm), .string (str p.dg), .int .i64 p.sz], .slice A n c, .int .i64 err]) ∧ Rd w' 1 A n c (l.map bv8) ∧ Below w.heap.size w w'
theorem part_size : (Tryz.prog.info? 97).map (·.size) = some 3 := by kernel_rfl
theorem Blk.put3 {w : World} {g : Nat} {t : TypeId} {x y z : Value} (h : Blk w g t [x, y, z]) (a b c : Value) : Blk (((w.setCell ⟨g, 0, none⟩ a).setCell ⟨g, 1, none⟩ b).setCell ⟨g, 2, none⟩ c) g t [a, b, c] := by
  simpa using ((h.put 0 a).put 1 b).put 2 c
theorem below_set3 {w w1 : World} {g i j k : Nat} (h : Below w.heap.size w w1) (hg : w.heap.size ≤ g) (a b c : Value) : Below w.heap.size w (((w1.setCell ⟨g, i, none⟩ a).setCell ⟨g, j, none⟩ b).setCell ⟨g, k, none⟩ c) :=
  ((h.setCell (p := ⟨g, i, none⟩) hg a).setCell (p := ⟨g, j, none⟩) hg b).setCell (p := ⟨g, k, none⟩) hg c
theorem pe_text {l : List UInt8} (h : tErr l ≠ 0) : pe l = tErr l := if_pos h
theorem pe_short {l : List UInt8} (h : tErr l = 0) (h2 : (tRest l).length < 32) : pe l = 8 := by unfold pe; rw [if_neg (by omega), if_pos h2]
theorem pe_rest {l : List UInt8} (h : tErr l = 0) (h2 : ¬ (tRest l).length < 32) : pe l = rErr ((tRest l).drop 32) := by unfold pe; rw [if_neg (by omega), if_neg h2]
theorem gives_no {l : List UInt8} {er : Int} {w w' : World} {e : Ending} (he : pe l = er) (hne : er ≠ 0) (hb : Below w.heap.size w w') (h : e = .returned (.tuple #[.agg #[.string ⟨#[]⟩, .string ⟨#[]⟩, .int .i64 0], .slice none 0 0, .int .i64 er])) : GivesR (pp l) (pr l) (pe l) w e w' := by
  subst he
  have e1 : pp l = ⟨[], [], 0⟩ := if_neg hne
  have e2 : pr l = [] := if_neg hne
  rw [e1, e2]
  exact ⟨none, 0, 0, h, Rd.nil _ _, hb⟩
set_option maxRecDepth 100000 in
set_option maxHeartbeats 1000000 in
theorem readPart_any (A : Option Addr) (n c : Nat) (l : List UInt8) (w : World) (hr : Rd w 1 A n c (l.map bv8)) (hz : n ≤ 2000) :
    Calls Tryz.prog 162 #[.slice A n c] w (GivesR (pp l) (pr l) (pe l) w) := by
  have hal := (Below.refl w.heap.size w).alloc (Nat.le_refl _) (.cells #[.string ⟨#[]⟩, .string ⟨#[]⟩, .int .i64 0] 97)
  have hbk := Blk.new w 97 [.string ⟨#[]⟩, .string ⟨#[]⟩, .int .i64 0]
  have HL := Lib.hid hr.len
  go_enter Tryz.func162, Tryz.ntmps162
  go_wp2_with fail
  with_reducible refine (readText_any _ _ _ _ _ (hr.below hal) (by omega)).mono ?_
  rintro e w1 ⟨A1, n1, c1, rfl, hr1, hA1, hn1, hF1, hb1⟩
  have hbk1 := hbk.below hb1 hbk.lt
  have hbA := hal.trans (hb1.mono (by simp))
  have e0 := hbk1.cell 0
  have e1 := hbk1.cell 1
  have e2 := hbk1.cell 2
  have f0 := hbk1.frozen 0
  have f1 := hbk1.frozen 1
  have f2 := hbk1.frozen 2
  simp only [List.getElem?_cons_succ, List.getElem?_cons_zero] at e0 e1 e2
  clear hbk hal hb1 hF1 hr
  by_cases he : tErr l = 0
  · have hd : (tErr l != 0) = false := by rw [bne_eq_false_iff_eq]; exact he
    have HE := Lib.hid he
    have HNL := Lib.hid hr1.len
    have HTL := Lib.hid (tRest_le l)
    clear he
    by_cases hs : n1 < 32
    · have s1 : decide ((n1 : Int) < 32) = true := by simp; omega
      go_wp2
      refine bodyPost_ret (results_cell_row3 rfl _ _ w.heap.size 97 _ (0, 0) _ rfl (hbk1.put3 _ _ _) Tryz.underlying97 rfl part_size) rfl ?_
      exact gives_no (pe_short HE.out (by have := HNL.out; omega)) (by omega) (below_set3 hbA (Nat.le_refl _) _ _ _) rfl
    · have s1 : decide ((n1 : Int) < 32) = false := by simp; omega
      have hrt := hr1.take 32 (by omega)
      rw [← List.map_take] at hrt
      have hc2 := hr1.2.1
      have hi2 : (32 : Int) ≤ (c1 : Int) := by omega
      have hi3 : (32 : Int) ≤ (n1 : Int) := by omega
      obtain ⟨b2, o2, rfl, _⟩ := hr1.2.2.2 (by rw [List.length_map]; have := HNL.out; omega)
      go_wp2_with fail
      with_reducible refine (text_any _ _ _ _ _ hrt (by omega)).mono ?_
      rintro e w3 ⟨rfl, hb3⟩
      have hbk3 := hbk1.below hb3 hbk1.lt
      have hbB := below_step hbA hb3
      have hr3 := hr1.below hb3
      clear e0 e1 e2 f0 f1 f2 hbk1 hbA hb3 hr1 hrt
      by_cases hc32 : c1 = 32
      · obtain rfl : n1 = 32 := by omega
        subst hc32
        have hr4 : Rd w3 1 (some ⟨b2, o2, none⟩) 0 0 (([] : List UInt8).map bv8) := Rd.none0 _ _ 0 (by unfold maxLen; omega)
        have hd32 : (tRest l).drop 32 = [] := List.drop_of_length_le (by have := HNL.out; omega)
        have R8 : rErr [] = 8 := (read_short (l := []) (by decide) rfl).1
        have HP : Hid (pe l = 8) := by show _ = _; rw [pe_rest HE.out (by have := HNL.out; omega), hd32, R8]
        clear hd32
        go_wp2_with fail
        with_reducible refine (readNumber_any _ _ _ _ _ hr4 (by omega)).mono ?_
        rintro e w4 ⟨A4, n4, c4, rfl, hr5, hA4, hn4, hF4, hb4⟩
        rw [R8]
        have hbk4 := hbk3.below hb4 hbk3.lt
        have hbC := below_step hbB hb4
        have e0 := hbk4.cell 0
        have e1 := hbk4.cell 1
        have e2 := hbk4.cell 2
        have f0 := hbk4.frozen 0
        have f1 := hbk4.frozen 1
        have f2 := hbk4.frozen 2
        simp only [List.getElem?_cons_succ, List.getElem?_cons_zero] at e0 e1 e2
        clear hbk3 hbB hb4
        go_wp2
        refine bodyPost_ret (results_cell_row3 rfl _ _ w.heap.size 97 _ (0, 0) _ rfl (hbk4.put3 _ _ _) Tryz.underlying97 rfl part_size) rfl ?_
        exact gives_no HP.out (by omega) (below_set3 hbC (Nat.le_refl _) _ _ _) rfl
      · have hr4 := hr3.drop 32 (by omega)
        rw [← List.map_drop] at hr4
        have HP : Hid (pe l = rErr ((tRest l).drop 32)) := pe_rest HE.out (by have := HNL.out; omega)
        obtain ⟨r4, hr4e⟩ : ∃ r4, (tRest l).drop 32 = r4 := ⟨_, rfl⟩
        have HR4 := Lib.hid hr4e
        rw [HR4.out] at HP hr4
        clear hr4e
        go_wp2_with fail
        with_reducible refine (readNumber_any _ _ _ _ _ hr4 (by omega)).mono ?_
        rintro e w4 ⟨A4, n4, c4, rfl, hr5, hA4, hn4, hF4, hb4⟩
        have hbk4 := hbk3.below hb4 hbk3.lt
        have hbC := below_step hbB hb4
        have e0 := hbk4.cell 0
        have e1 := hbk4.cell 1
        have e2 := hbk4.cell 2
        have f0 := hbk4.frozen 0
        have f1 := hbk4.frozen 1
        have f2 := hbk4.frozen 2
        simp only [List.getElem?_cons_succ, List.getElem?_cons_zero] at e0 e1 e2
        have HXX : Hid (∀ v ∈ [Value.string ⟨#[]⟩, .string ⟨#[]⟩, .int .i64 0], ∀ y, v ≠ bv8 y) := by
          intro v hv y
          simp only [List.mem_cons, List.not_mem_nil, or_false] at hv
          rcases hv with rfl | rfl | rfl <;> simp [bv8]
        clear hbk3 hbB hb4 hr4 hr3
        by_cases he4 : rErr r4 = 0
        · have t4 : (rErr r4 != 0) = false := by rw [bne_eq_false_iff_eq]; exact he4
          have HP0 : Hid (pe l = 0) := HP.out.trans he4
          have HPP : Hid (pp l = ⟨tStr l, hexT ((tRest l).take 32), (rVal r4 : Int)⟩) := by show _ = _; rw [← HR4.out]; exact if_pos HP0.out
          have HPR : Hid (pr l = rRest r4) := by show _ = _; rw [← HR4.out]; exact if_pos HP0.out
          clear he4
          go_wp2
          refine bodyPost_ret (results_cell_row3 rfl _ _ w.heap.size 97 _ (0, 0) _ rfl (hbk4.put3 _ _ _) Tryz.underlying97 rfl part_size) rfl ?_
          rw [HPP.out, HPR.out, HP0.out]
          have q1 := hr5.put_other hbk4 HXX.out 0 (.string (str (tStr l)))
          have k1 := hbk4.put 0 (.string (str (tStr l)))
          have q2 := q1.put_other k1 (fun v hv y => by simp only [List.set_cons_zero, List.mem_cons, List.not_mem_nil, or_false] at hv; rcases hv with rfl | rfl | rfl <;> simp [bv8]) 1 (.string (str (hexT ((tRest l).take 32))))
          have k2 := k1.put 1 (.string (str (hexT ((tRest l).take 32))))
          have q3 := q2.put_other k2 (fun v hv y => by simp only [List.set_cons_succ, List.set_cons_zero, List.mem_cons, List.not_mem_nil, or_false] at hv; rcases hv with rfl | rfl | rfl <;> simp [bv8]) 2 (.int .i64 (rVal r4 : Int))
          exact ⟨_, _, _, rfl, q3, below_set3 hbC (Nat.le_refl _) _ _ _⟩
        · have t4 : (rErr r4 != 0) = true := by rw [bne_iff_ne]; exact he4
          have HE4 := Lib.hid he4
          clear he4
          go_wp2
          refine bodyPost_ret (results_cell_row3 rfl _ _ w.heap.size 97 _ (0, 0) _ rfl (hbk4.put3 _ _ _) Tryz.underlying97 rfl part_size) rfl ?_
          exact gives_no HP.out HE4.out (below_set3 hbC (Nat.le_refl _) _ _ _) rfl
  · have hd : (tErr l != 0) = true := by rw [bne_iff_ne]; exact he
    have HE := Lib.hid he
    clear he
    go_wp2
    refine bodyPost_ret (results_cell_row3 rfl _ _ w.heap.size 97 _ (0, 0) _ rfl (hbk1.put3 _ _ _) Tryz.underlying97 rfl part_size) rfl ?_
    exact gives_no (pe_text HE.out) HE.out (below_set3 hbA (Nat.le_refl _) _ _ _) rfl
end Go.Proofs.YtdbdigcpibmgjaaGreatDoor
/- Reading parts: the program's readParts. -/
namespace Go.Proofs.YtdbdigcpibmgjaaGreatDoor
open Go.RowKit
/-- the part that a new row holds -/
def zp : Prt := ⟨[], [], 0⟩
theorem pcs_zp : ∀ n : Nat, pcs (List.replicate n zp) = (List.replicate n [Value.string (str []), .string (str []), .int .i64 0]).flatten
  | 0 => rfl
  | n + 1 => by rw [List.replicate_succ, List.replicate_succ, pcs_cons, pcs_zp n]; rfl
theorem made_parts (n : Nat) : madeCells #[.string ByteArray.empty, .string ByteArray.empty, .int .i64 0] (n * 3) = (pcs (List.replicate n zp)).toArray := by
  apply Array.ext
  · rw [size_madeCells, List.size_toArray, pcs_length, List.length_replicate]
  · intro i h1 h2
    rw [size_madeCells] at h1
    obtain ⟨k, r, hr, rfl⟩ : ∃ k r, r < 3 ∧ i = k * 3 + r := ⟨i / 3, i % 3, by omega, by omega⟩
    have hk : k < (List.replicate n zp).length := by rw [List.length_replicate]; omega
    obtain ⟨p0, p1, p2⟩ := pcs_at _ k hk
    rw [List.getElem_replicate] at p0 p1 p2
    have hm : (k * 3 + r) % 3 = r := by omega
    have hl : (madeCells #[.string ByteArray.empty, .string ByteArray.empty, .int .i64 0] (n * 3))[k * 3 + r]? = some (#[Value.string ByteArray.empty, .string ByteArray.empty, .int .i64 0][r]!) := by
      unfold madeCells
      rw [Array.getElem?_map, Array.getElem?_range, if_pos h1]
      show some (#[Value.string ByteArray.empty, .string ByteArray.empty, .int .i64 0][(k * 3 + r) % 3]!) = _
      rw [hm]
    have hx : ((pcs (List.replicate n zp)).toArray)[k * 3 + r]? = some (#[Value.string ByteArray.empty, .string ByteArray.empty, .int .i64 0][r]!) := by
      rw [List.getElem?_toArray]
      match r, hr with
      | 0, _ => rw [Nat.add_zero, p0]; rfl
      | 1, _ => rw [p1]; rfl
      | 2, _ => rw [p2]; rfl
    rw [Array.getElem?_eq_getElem (by rw [size_madeCells]; exact h1)] at hl
    rw [Array.getElem?_eq_getElem h2] at hx
    injection hl with hl
    injection hx with hx
    rw [hl, hx]
theorem pcs_set3 : ∀ (l : List Prt) (k : Nat) (p : Prt), k < l.length → (((pcs l).set (k * 3) (.string (str p.nm))).set (k * 3 + 1) (.string (str p.dg))).set (k * 3 + 2) (.int .i64 p.sz) = pcs (l.set k p)
  | [], _, _, h => absurd h (by simp)
  | q :: r, 0, p, _ => rfl
  | q :: r, k + 1, p, h => by
    have := pcs_set3 r k p (by simpa using h)
    rw [List.set_cons_succ, pcs_cons, pcs_cons, ← this, show (k + 1) * 3 = k * 3 + 1 + 1 + 1 from by omega]
    simp
theorem set_mid {α : Type} (acc : List α) (z p : α) (n : Nat) (hn : 0 < n) : (acc ++ List.replicate n z).set acc.length p = (acc ++ [p]) ++ List.replicate (n - 1) z := by
  obtain ⟨m, rfl⟩ : ∃ m, n = m + 1 := ⟨n - 1, by omega⟩
  rw [List.set_append_right _ _ (Nat.le_refl _), Nat.sub_self, List.replicate_succ, List.set_cons_zero, List.append_assoc]
  rfl
def noB (xs : List Value) : Prop := ∀ v ∈ xs, ∀ y, v ≠ bv8 y
theorem noB_pcs : ∀ l : List Prt, noB (pcs l)
  | [] => fun v hv => by cases hv
  | p :: r => by
    intro v hv y
    rw [pcs_cons] at hv
    simp only [List.mem_cons] at hv
    rcases hv with rfl | rfl | rfl | hv
    · simp [bv8]
    · simp [bv8]
    · simp [bv8]
    · exact noB_pcs r v hv y
theorem noB_set {xs : List Value} (h : noB xs) (i : Nat) {u : Value} (hu : ∀ y, u ≠ bv8 y) : noB (xs.set i u) := by
  intro v hv y
  rcases List.mem_or_eq_of_mem_set hv with hv | rfl
  · exact h v hv y
  · exact hu y
theorem Rd.put3 {w : World} {A : Option Addr} {n c : Nat} {l : List UInt8} (h : Rd w 1 A n c (l.map bv8)) {g : Nat} {t : TypeId} {L : List Prt} (hg : Blk w g t (pcs L)) (i j k : Nat) (a b : ByteArray) (z : Int) :
    Rd (((w.setCell ⟨g, i, none⟩ (.string a)).setCell ⟨g, j, none⟩ (.string b)).setCell ⟨g, k, none⟩ (.int .i64 z)) 1 A n c (l.map bv8) := by
  have n0 := noB_pcs L
  have n1 := noB_set n0 i (u := .string a) (fun y => by simp [bv8])
  have n2 := noB_set n1 j (u := .string b) (fun y => by simp [bv8])
  exact ((h.put_other hg n0 i _).put_other (hg.put i _) n1 j _).put_other ((hg.put i _).put j _) n2 k _
theorem Blk.putP {w : World} {g : Nat} {t : TypeId} {L : List Prt} (hg : Blk w g t (pcs L)) (k : Nat) (p : Prt) (hk : k < L.length) :
    Blk (((w.setCell ⟨g, k * 3, none⟩ (.string (str p.nm))).setCell ⟨g, k * 3 + 1, none⟩ (.string (str p.dg))).setCell ⟨g, k * 3 + 2, none⟩ (.int .i64 p.sz)) g t (pcs (L.set k p)) := by
  have := ((hg.put (k * 3) (.string (str p.nm))).put (k * 3 + 1) (.string (str p.dg))).put (k * 3 + 2) (.int .i64 p.sz)
  rwa [pcs_set3 L k p hk] at this
/-- reading k parts: the error, the parts, what is behind them -/
def rdP : Nat → List Prt → List UInt8 → Int × List Prt × List UInt8
  | 0, acc, r => (0, acc, r)
  | k + 1, acc, r => if pe r ≠ 0 then (pe r, [], []) else rdP k (acc ++ [pp r]) (pr r)
def rdN (l : List UInt8) : Int × List Prt × List UInt8 := if rErr l ≠ 0 then (rErr l, [], []) else if 8 < rVal l then (1, [], []) else rdP (rVal l) [] (rRest l)
def fin3 (x : Int × List Prt × List UInt8) : Int × List Prt := if x.1 ≠ 0 then (x.1, []) else if 0 < x.2.2.length then (3, []) else if psErr x.2.1 ≠ 0 then (psErr x.2.1, []) else (0, x.2.1)
theorem rdTail_fin : ∀ (k : Nat) (acc : List Prt) (r : List UInt8), rdTail k acc r = fin3 (rdP k acc r)
  | 0, acc, r => by rw [rdTail, rdP, fin3]; simp
  | k + 1, acc, r => by
    rw [rdTail_pe, rdP]
    split
    · rename_i h; rw [fin3, if_pos h]
    · exact rdTail_fin k _ _
theorem dec_fin {l : List UInt8} (h1 : ¬ 2000 < l.length) (h2 : ¬ (l.length < 3 ∨ l.take 3 ≠ [65, 77, 49])) : dec l = fin3 (rdN (l.drop 3)) := by
  unfold dec rdN
  rw [if_neg h1, if_neg h2]
  split
  · rename_i h; rw [fin3, if_pos h]
  · split
    · rw [fin3, if_pos (by simp)]
    · exact rdTail_fin _ _ _
theorem pr_le (r : List UInt8) : (pr r).length ≤ r.length := by
  unfold pr
  split
  · have h1 := rRest_le ((tRest r).drop 32)
    have h2 := tRest_le r
    rw [List.length_drop] at h1
    omega
  · simp
theorem pp_good {r : List UInt8} (h : r.length ≤ 2000) : (pp r).good := by
  unfold pp
  split
  · refine ⟨?_, ?_, ?_⟩
    · have := tStr_le r; unfold maxLen; simp only; omega
    · simp only; rw [hexT_length, List.length_take]; unfold maxLen; omega
    · have := rVal_lt ((tRest r).drop 32)
      simp [Lit.wf, IntKind.min, IntKind.max, IntKind.bits, IntKind.signed]
      omega
  · exact ⟨by simp, by simp, by decide⟩
theorem rdP_good : ∀ (k : Nat) (acc : List Prt) (r : List UInt8), (∀ p ∈ acc, p.good) → r.length ≤ 2000 → ∀ p ∈ (rdP k acc r).2.1, p.good
  | 0, acc, r, h, _ => h
  | k + 1, acc, r, h, hr => by
    rw [rdP]
    split
    · intro p hp; cases hp
    · refine rdP_good k _ _ (fun p hp => ?_) (by have := pr_le r; omega)
      rcases List.mem_append.1 hp with hp | hp
      · exact h p hp
      · simp only [List.mem_cons, List.not_mem_nil, or_false] at hp
        subst hp
        exact pp_good hr
theorem rdN_good {l : List UInt8} (h : l.length ≤ 2000) : ∀ p ∈ (rdN l).2.1, p.good := by
  unfold rdN
  split
  · intro p hp; cases hp
  · split
    · intro p hp; cases hp
    · exact rdP_good _ _ _ (fun p hp => by cases hp) (by have := rRest_le l; omega)
/-- parts, bytes behind them and an error -/
def GivesMd (x : Int × List Prt × List UInt8) (w : World) (e : Ending) (w' : World) : Prop :=
  ∃ A n c B m d, e = .returned (.tuple #[.slice A n c, .slice B m d, .int .i64 x.1]) ∧ Rd w' 3 A n c (pcs x.2.1) ∧ (A = none → c = 0) ∧ Rd w' 1 B m d (x.2.2.map bv8) ∧ Below w.heap.size w w'
theorem givesS_no {x : Int × List Prt × List UInt8} {er : Int} {w w' : World} {e : Ending} (hx : (er, [], []) = x) (hb : Below w.heap.size w w') (h : e = .returned (.tuple #[.slice none 0 0, .slice none 0 0, .int .i64 er])) : GivesMd x w e w' := by
  subst hx
  exact ⟨none, 0, 0, none, 0, 0, h, Rd.nil _ _, fun _ => rfl, Rd.nil _ _, hb⟩
set_option maxRecDepth 100000 in
set_option maxHeartbeats 2000000 in
theorem readParts_at (A : Option Addr) (n c : Nat) (l : List UInt8) (w : World) (hr : Rd w 1 A n c (l.map bv8)) (hz : n ≤ 2000) (x : Int × List Prt × List UInt8) (hx : Hid (rdN l = x)) :
    Calls Tryz.prog 119 #[.slice A n c] w (GivesMd x w) := by
  obtain ⟨i0, hi0, hz0, hz1, hz2⟩ := info_parts part_info
  have HL := Lib.hid hr.len
  go_enter Tryz.func119, Tryz.ntmps119
  go_wp2_with fail
  with_reducible refine (readNumber_any _ _ _ _ _ hr (by omega)).mono ?_
  rintro e w1 ⟨A1, n1, c1, rfl, hr1, hA1, hn1, hF1, hb1⟩
  have hl1 : n1 ≤ 2000 := by have h5 := hr1.len; have h6 := rRest_le l; have h7 := HL.out; omega
  have hvx := rVal_lt l
  clear hr
  by_cases he : rErr l = 0
  · have n1' : (rErr l != 0) = false := by rw [bne_eq_false_iff_eq]; exact he
    have hx1 := hx.out
    rw [rdN, if_neg (by omega)] at hx1
    obtain ⟨v, hv⟩ : ∃ v, rVal l = v := ⟨_, rfl⟩
    rw [hv] at hx1 hvx ⊢
    clear hv hx he
    by_cases h8 : 8 < v
    · have d8 : decide (8 < (v : Int)) = true := by simp; omega
      rw [if_pos h8] at hx1
      have HX := Lib.hid hx1
      clear hx1
      go_wp2
      go_ret3
      exact givesS_no HX.out hb1 rfl
    · have d8 : decide (8 < (v : Int)) = false := by simp; omega
      rw [if_neg h8] at hx1
      have HX := Lib.hid hx1
      clear hx1
      generalize rRest l = r1 at *
      have hmk : ∀ W : World, (Instr.makeSlice 67 (.int .i64 (v : Int)) (.int .i64 (v : Int))).run Tryz.prog W = .ok (.slice (some ⟨W.heap.size, 0, none⟩) v v) (W.alloc (.cells (pcs (List.replicate v zp)).toArray 97)) := fun W => by
        have h := run_make (P := Tryz.prog) W 67 97 i0 _ Tryz.underlying67 hi0 hz0 .i64 .i64 v v (by omega) (by omega) (by rw [hz2]; omega) (by omega)
        simp only [Int.toNat_natCast, hz1] at h
        rw [h]
        congr 3
        exact made_parts v
      have hal := (Below.refl w1.heap.size w1).alloc (Nat.le_refl _) (.cells (pcs (List.replicate v zp)).toArray 97)
      have hbk := Blk.new w1 97 (pcs (List.replicate v zp))
      have hr2 := hr1.below hal
      have hbA := below_step hb1 hal
      have hgs := hb1.size
      obtain ⟨g, hg⟩ : ∃ g, w1.heap.size = g := ⟨_, rfl⟩
      clear hr1 hal hb1 hF1
      rw [hg] at hbk hgs
      go_wp2
      clear hg hmk
      go_loopw [6, 7, 9, 25] (fun rest _ _ i wr => ∃ (k n' c' : Nat) (A' : Option Addr) (acc : List Prt) (r : List UInt8), k ≤ v ∧ i = .int .i64 k ∧ rest = .slice A' n' c' ∧ n' ≤ 2000 ∧ Rd wr 1 A' n' c' (r.map bv8) ∧ Hid (acc.length = k) ∧ Blk wr g 97 (pcs (acc ++ List.replicate (v - k) zp)) ∧ Hid (rdP (v - k) acc r = x) ∧ Below w.heap.size w wr) (fun _ _ _ i _ => v - (intOf i).toNat)
      case atStart => exact ⟨0, _, _, _, [], r1, Nat.zero_le _, rfl, rfl, hl1, hr2, rfl, by simpa using hbk, HX.out, hbA⟩
      case round =>
        clear hr2 hbk hbA HX
        obtain ⟨k, n', c', A', acc, r, hk, rfl, rfl, hn', hr, HA, hbk, HD, hbel⟩ := hrel
        by_cases hlt : k < v
        · have hki : (k : Int) < (v : Int) := by omega
          have HL2 := Lib.hid hr.len
          go_wp2_with fail
          with_reducible refine (readPart_any _ _ _ _ _ hr hn').mono ?_
          rintro e w3 ⟨A3, n3, c3, rfl, hr3, hb3⟩
          have hbk3 := hbk.below hb3 hbk.lt
          have hbB := below_step hbel hb3
          have hl3 : n3 ≤ 2000 := by have h5 := hr3.len; have h6 := pr_le r; have h7 := HL2.out; omega
          have hLl : k < (acc ++ List.replicate (v - k) zp).length := by rw [List.length_append, List.length_replicate]; have := HA.out; omega
          obtain ⟨q0, q1, q2⟩ := pcs_at _ k hLl
          generalize (acc ++ List.replicate (v - k) zp)[k] = zz at q0 q1 q2
          have e0 := hbk3.cell (k * 3)
          have e1 := hbk3.cell (k * 3 + 1)
          have e2 := hbk3.cell (k * 3 + 2)
          rw [q0] at e0
          rw [q1] at e1
          rw [q2] at e2
          have f0 := hbk3.frozen (k * 3)
          have f1 := hbk3.frozen (k * 3 + 1)
          have f2 := hbk3.frozen (k * 3 + 2)
          have hbk4 := hbk3.putP k (pp r) hLl
          have hset : (acc ++ List.replicate (v - k) zp).set k (pp r) = (acc ++ [pp r]) ++ List.replicate (v - (k + 1)) zp := by
            have := set_mid acc zp (pp r) (v - k) (by omega)
            rwa [HA.out, show v - k - 1 = v - (k + 1) by omega] at this
          rw [hset] at hbk4
          have hr4 := hr3.put3 hbk3 (k * 3) (k * 3 + 1) (k * 3 + 2) (str (pp r).nm) (str (pp r).dg) (pp r).sz
          have hbC := below_set3 (i := k * 3) (j := k * 3 + 1) (k := k * 3 + 2) hbB hgs (.string (str (pp r).nm)) (.string (str (pp r).dg)) (.int .i64 (pp r).sz)
          have HB4 := Lib.hid hbk4
          have HD1 := HD.out
          rw [show v - k = (v - (k + 1)) + 1 by omega, rdP] at HD1
          clear hbk3 hbk q0 q1 q2 hset hLl hbk4 hr hr3 hb3 HD
          by_cases hp : pe r = 0
          · have p1 : (pe r != 0) = false := by rw [bne_eq_false_iff_eq]; exact hp
            rw [if_neg (by omega)] at HD1
            have HD2 := Lib.hid HD1
            clear HD1 hp
            go_wp2
            go_roundw
            case rel => exact ⟨k + 1, _, _, _, acc ++ [pp r], pr r, by omega, by go_num, rfl, hl3, hr4, (by show _ = _; rw [List.length_append, HA.out]; rfl), HB4.out, HD2.out, hbC⟩
            case measure => simp [intOf] <;> omega
          · have p1 : (pe r != 0) = true := by rw [bne_iff_ne]; exact hp
            rw [if_pos hp] at HD1
            have HD2 := Lib.hid HD1
            clear HD1 hp
            go_wp2
            go_ret3
            exact givesS_no HD2.out hbC rfl
        · have hkv : k = v := by omega
          have hki : decide ((k : Int) < (v : Int)) = false := by simp; omega
          have HX : Hid ((0, acc, r) = x) := by
            show _ = _
            have := HD.out
            rwa [show v - k = 0 by omega, rdP] at this
          have hbk5 : Blk wr g 97 (pcs acc) := by
            have := hbk
            rwa [show v - k = 0 by omega, List.replicate_zero, List.append_nil] at this
          have hr5 := hbk5.rd (size := 3) (n := v) (c := v) (Nat.le_refl _) (by unfold maxLen; omega) (by rw [pcs_length, HA.out]; omega)
          rw [List.take_of_length_le (by rw [pcs_length, HA.out]; omega)] at hr5
          clear hkv HD hbk
          go_wp2
          go_ret3
          rw [← HX.out]
          exact ⟨_, _, _, _, _, _, rfl, hr5, (fun q => by cases q), hr, hbel⟩
  · have n1' : (rErr l != 0) = true := by rw [bne_iff_ne]; exact he
    have hx1 := hx.out
    rw [rdN, if_pos he] at hx1
    have HX := Lib.hid hx1
    clear hx1 hx he
    go_wp2
    go_ret3
    exact givesS_no HX.out hb1 rfl
end Go.Proofs.YtdbdigcpibmgjaaGreatDoor
/- The program's manifest: Decode. -/
namespace Go.Proofs.YtdbdigcpibmgjaaGreatDoor
open Go.RowKit
set_option maxRecDepth 100000 in
set_option maxHeartbeats 400000 in
theorem mdecode_big (A : Option Addr) (n c : Nat) (w : World) (h : 2000 < n) (hn : n ≤ 9223372036854775807) :
    Calls Tryz.prog 84 #[.slice A n c] w fun e w' => e = .returned (.tuple #[.slice none 0 0, .int .i64 1]) ∧ Below w.heap.size w w' := by
  go_enter Tryz.func84, Tryz.ntmps84
  go_wp2
  go_ret2
  exact ⟨rfl, Below.refl _ _⟩
set_option maxRecDepth 100000 in
set_option maxHeartbeats 400000 in
theorem mdecode_short (A : Option Addr) (n c : Nat) (w : World) (h : n < 3) :
    Calls Tryz.prog 84 #[.slice A n c] w fun e w' => e = .returned (.tuple #[.slice none 0 0, .int .i64 3]) ∧ Below w.heap.size w w' := by
  have hd : decide (2000 < (n : Int)) = false := by simp; omega
  have kc := head_run
  have hal := (Below.refl w.heap.size w).alloc (Nat.le_refl _) (.cells #[.int .u8 65, .int .u8 77, .int .u8 49] 5 (3, 4))
  go_enter Tryz.func84, Tryz.ntmps84
  go_wp2_with fail
  with_reducible refine (hasPrefix_short _ _ _ _ _ h).mono ?_
  rintro e w1 ⟨rfl, rfl⟩
  go_wp2
  go_ret2
  exact ⟨rfl, hal⟩
set_option maxRecDepth 100000 in
set_option maxHeartbeats 400000 in
theorem mdecode_form (A : Option Addr) (n c : Nat) (l : List UInt8) (w : World) (hr : Rd w 1 A n c (l.map bv8)) (h : 3 ≤ n) (h2 : n ≤ 2000) (hne : l.take 3 ≠ [65, 77, 49]) :
    Calls Tryz.prog 84 #[.slice A n c] w fun e w' => e = .returned (.tuple #[.slice none 0 0, .int .i64 3]) ∧ Below w.heap.size w w' := by
  have hd : decide (2000 < (n : Int)) = false := by simp; omega
  have kc := head_run
  have hal := (Below.refl w.heap.size w).alloc (Nat.le_refl _) (.cells #[.int .u8 65, .int .u8 77, .int .u8 49] 5 (3, 4))
  have f5 : (l.take 3 == [65, 77, 49]) = false := by rw [beq_eq_false_iff_ne]; exact hne
  have HF := Lib.hid f5
  clear hne f5
  go_enter Tryz.func84, Tryz.ntmps84
  go_wp2_with fail
  with_reducible refine (hasPrefix_ok _ _ _ _ _ _ _ (hr.below hal) (head_rd w) h).mono ?_
  rintro e w1 ⟨rfl, rfl⟩
  rw [HF.out]
  go_wp2
  go_ret2
  exact ⟨rfl, hal⟩
set_option maxRecDepth 100000 in
set_option maxHeartbeats 400000 in
theorem mdecode_full (b off n : Nat) (l : List UInt8) (w : World) (hr : Rd w 1 (some ⟨b, off, none⟩) n 3 (l.map bv8)) (h : 3 ≤ n) (heq : l.take 3 = [65, 77, 49]) :
    Calls Tryz.prog 84 #[.slice (some ⟨b, off, none⟩) n 3] w fun e w' => e = .returned (.tuple #[.slice none 0 0, .int .i64 8]) ∧ Below w.heap.size w w' := by
  obtain rfl : n = 3 := by have := hr.2.1; omega
  have kc := head_run
  have hal := (Below.refl w.heap.size w).alloc (Nat.le_refl _) (.cells #[.int .u8 65, .int .u8 77, .int .u8 49] 5 (3, 4))
  have HF : Hid ((l.take 3 == [65, 77, 49]) = true) := by show _ = _; rw [beq_iff_eq]; exact heq
  have hr4 : Rd (w.alloc (.cells #[.int .u8 65, .int .u8 77, .int .u8 49] 5 (3, 4))) 1 (some ⟨b, off, none⟩) 0 0 (([] : List UInt8).map bv8) := Rd.none0 _ _ 0 (by unfold maxLen; omega)
  have R8 : rErr [] = 8 := (read_short (l := []) (by decide) rfl).1
  have HX : Hid (rdN [] = (8, [], [])) := by show _ = _; rw [rdN, R8, if_pos (by omega)]
  clear heq R8
  go_enter Tryz.func84, Tryz.ntmps84
  go_wp2_with fail
  with_reducible refine (hasPrefix_ok _ _ _ _ _ _ _ (hr.below hal) (head_rd w) h).mono ?_
  rintro e w1 ⟨rfl, rfl⟩
  rw [HF.out]
  go_wp2_with fail
  with_reducible refine (readParts_at _ _ _ _ _ hr4 (by omega) _ HX).mono ?_
  rintro e w2 ⟨A2, n2, c2, B2, m2, d2, rfl, hr2, hA2, hs2, hb2⟩
  simp only
  go_wp2
  go_ret2
  exact ⟨rfl, below_step hal hb2⟩
set_option maxRecDepth 100000 in
set_option maxHeartbeats 1000000 in
theorem mdecode_in (b off n c : Nat) (l : List UInt8) (w : World) (hr : Rd w 1 (some ⟨b, off, none⟩) n c (l.map bv8)) (h : 3 ≤ n) (h2 : n ≤ 2000) (heq : l.take 3 = [65, 77, 49]) (hc3 : ¬ c = 3) (er : Int) (ps : List Prt) (hdec : Hid (fin3 (rdN (l.drop 3)) = (er, ps))) :
    Calls Tryz.prog 84 #[.slice (some ⟨b, off, none⟩) n c] w (GivesP ps er w) := by
  have hd : decide (2000 < (n : Int)) = false := by simp; omega
  have kc := head_run
  have hcm := hr.2.1
  have hci : (3 : Int) ≤ (c : Int) := by omega
  have hni : (3 : Int) ≤ (n : Int) := by omega
  have hal := (Below.refl w.heap.size w).alloc (Nat.le_refl _) (.cells #[.int .u8 65, .int .u8 77, .int .u8 49] 5 (3, 4))
  have HF : Hid ((l.take 3 == [65, 77, 49]) = true) := by show _ = _; rw [beq_iff_eq]; exact heq
  have hrW := hr.below hal
  have hr3 := hrW.drop 3 h
  rw [← List.map_drop] at hr3
  have HG := Lib.hid (rdN_good (l := l.drop 3) (by have := hr.len; rw [List.length_drop]; omega))
  obtain ⟨x, hx⟩ : ∃ x, rdN (l.drop 3) = x := ⟨_, rfl⟩
  have HX := Lib.hid hx
  rw [HX.out] at HG hdec
  clear heq hx
  go_enter Tryz.func84, Tryz.ntmps84
  go_wp2_with fail
  with_reducible refine (hasPrefix_ok _ _ _ _ _ _ _ hrW (head_rd w) h).mono ?_
  rintro e w1 ⟨rfl, rfl⟩
  rw [HF.out]
  go_wp2_with fail
  with_reducible refine (readParts_at _ _ _ _ _ hr3 (by omega) _ HX).mono ?_
  rintro e w2 ⟨A2, n2, c2, B2, m2, d2, rfl, hr2, hA2, hs2, hb2⟩
  have hbA := below_step hal hb2
  obtain ⟨e1, l1, r1⟩ := x
  simp only at hr2 hs2 HG ⊢
  clear hr hrW hr3 hal hb2 HX hcm hci hni hc3 kc HF hd
  have HM := Lib.hid hs2.len
  by_cases he : e1 = 0
  · have n1 : (e1 != 0) = false := by rw [bne_eq_false_iff_eq]; exact he
    have hd1 := hdec.out
    rw [fin3, if_neg (by simpa using he)] at hd1
    clear hdec he
    by_cases hm : 0 < m2
    · have z1 : decide (0 < (m2 : Int)) = true := by simp; omega
      rw [if_pos (by simp only; rw [← HM.out]; exact hm)] at hd1
      have HD := Lib.hid hd1
      clear hd1
      go_wp2
      go_ret2
      have q1 := congrArg Prod.fst HD.out
      have q2 := congrArg Prod.snd HD.out
      simp only at q1 q2
      rw [← q1, ← q2]
      exact givesP_nil ⟨rfl, hbA⟩
    · rw [if_neg (by simp only; rw [← HM.out]; exact hm)] at hd1
      simp only at hd1
      obtain rfl : m2 = 0 := by omega
      have HD0 := Lib.hid hd1
      clear hd1 hm
      go_wp2_with fail
      with_reducible refine (mcheck_any _ _ _ _ _ hr2 HG.out).mono ?_
      rintro e w3 ⟨rfl, hb3⟩
      have hbB := below_step hbA hb3
      by_cases hp : psErr l1 = 0
      · have p1 : (psErr l1 != 0) = false := by rw [bne_eq_false_iff_eq]; exact hp
        have hd1 := HD0.out
        rw [if_neg (by omega)] at hd1
        have HD := Lib.hid hd1
        clear hd1 hp HD0
        go_wp2
        go_ret2
        have q1 := congrArg Prod.fst HD.out
        have q2 := congrArg Prod.snd HD.out
        simp only at q1 q2
        rw [← q1, ← q2]
        exact ⟨_, _, _, rfl, hr2.below hb3, hA2, hbB⟩
      · have p1 : (psErr l1 != 0) = true := by rw [bne_iff_ne]; exact hp
        have hd1 := HD0.out
        rw [if_pos hp] at hd1
        have HD := Lib.hid hd1
        clear hd1 hp HD0
        go_wp2
        go_ret2
        have q1 := congrArg Prod.fst HD.out
        have q2 := congrArg Prod.snd HD.out
        simp only at q1 q2
        rw [← q1, ← q2]
        exact givesP_nil ⟨rfl, hbB⟩
  · have n1 : (e1 != 0) = true := by rw [bne_iff_ne]; exact he
    have hd1 := hdec.out
    rw [fin3, if_pos he] at hd1
    have HD := Lib.hid hd1
    clear hd1 hdec he
    go_wp2
    go_ret2
    have q1 := congrArg Prod.fst HD.out
    have q2 := congrArg Prod.snd HD.out
    simp only at q1 q2
    rw [← q1, ← q2]
    exact givesP_nil ⟨rfl, hbA⟩
theorem mdecode_of (A : Option Addr) (n c : Nat) (l : List UInt8) (w : World) (hr : Rd w 1 A n c (l.map bv8)) :
    Calls Tryz.prog 84 #[.slice A n c] w (GivesP (dec l).2 (dec l).1 w) := by
  have hn := hr.len
  have hcm := hr.2.1
  have hcx := hr.2.2.1
  unfold maxLen at hcx
  by_cases h1 : 2000 < n
  · rw [show dec l = (1, []) from if_pos (by omega)]
    exact (mdecode_big A n c w h1 (by omega)).mono fun _ _ k => givesP_nil k
  · by_cases h2 : n < 3
    · rw [show dec l = (3, []) by unfold dec; rw [if_neg (by omega), if_pos (.inl (by omega))]]
      exact (mdecode_short A n c w h2).mono fun _ _ k => givesP_nil k
    · by_cases h3 : l.take 3 = [65, 77, 49]
      · obtain ⟨b, off, rfl, _⟩ := hr.2.2.2 (by simp; omega)
        have hd := dec_fin (l := l) (by omega) (by rintro (q | q); · omega
                                                   · exact q h3)
        by_cases h4 : c = 3
        · subst h4
          have h0 : l.drop 3 = [] := List.drop_of_length_le (by omega)
          have R8 : rErr [] = 8 := (read_short (l := []) (by decide) rfl).1
          rw [hd, h0, show rdN [] = (8, [], []) by rw [rdN, R8, if_pos (by omega)]]
          exact (mdecode_full b off n l w hr (by omega) h3).mono fun _ _ k => givesP_nil k
        · exact mdecode_in b off n c l w hr (by omega) (by omega) h3 h4 _ _ hd.symm
      · rw [show dec l = (3, []) by unfold dec; rw [if_neg (by omega), if_pos (.inr h3)]]
        exact (mdecode_form A n c l w hr (by omega) (by omega) h3).mono fun _ _ k => givesP_nil k
theorem mdecode_any (A : Option Addr) (n c : Nat) (l : List UInt8) (w : World) (hr : Rd w 1 A n c (l.map bv8)) (_hz : n ≤ 140737488351232) :
    Calls Tryz.prog 84 #[.slice A n c] w (GivesP (dec l).2 (dec l).1 w) := mdecode_of A n c l w hr
end Go.Proofs.YtdbdigcpibmgjaaGreatDoor

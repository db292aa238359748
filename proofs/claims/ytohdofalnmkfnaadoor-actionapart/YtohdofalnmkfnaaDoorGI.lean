/- Texts that belong together: what the functions of the program and of the statements return. -/
import Derived.Test.YtohdofalnmkfnaaDoorGC
import Derived.Test.YtohdofalnmkfnaaDoorRows
import Derived.Laws.Rows
import Derived.Test.YtohdofalnmkfnaaDoorGD
/- Actions as bytes and back: plain functions. -/
namespace Go.Proofs.YtohdofalnmkfnaaDoor
open Go.RowKit
/-- may the byte stand in a command -/
def okC (c : UInt8) : Bool := decide (32 ≤ y8 c ∧ y8 c ≤ 126)
/-- the error of a command, of an action; an action's bytes -/
def cmErr (m : List UInt8) : Int := if m.length = 0 ∨ 60 < m.length then 1 else if m.all okC then 0 else 3
def aErr (m : List UInt8) (l : List Prt) : Int := if cmErr m ≠ 0 then cmErr m else psErr l
def aB (m : List UInt8) (l : List Prt) : List UInt8 := [65, 65, 49] ++ txt m ++ man l
def aRes (m : List UInt8) (l : List Prt) : List UInt8 := if aErr m l = 0 then aB m l else []
/-- reading an action: the error, the command, the inputs -/
def aEnd (s : List UInt8) (d : Int × List Prt) : Int × List UInt8 × List Prt :=
  if d.1 ≠ 0 then (d.1, [], []) else if aErr s d.2 ≠ 0 then (aErr s d.2, [], []) else (0, s, d.2)
def aMid (r : List UInt8) : Int × List UInt8 × List Prt := if tErr r ≠ 0 then (tErr r, [], []) else aEnd (tStr r) (dec (tRest r))
def aDec (b : List UInt8) : Int × List UInt8 × List Prt :=
  if 2000 < b.length then (1, [], []) else if b.length < 3 ∨ b.take 3 ≠ [65, 65, 49] then (3, [], []) else aMid (b.drop 3)
theorem cmErr_zero {m : List UInt8} (h : cmErr m = 0) : 1 ≤ m.length ∧ m.length ≤ 60 := by
  unfold cmErr at h
  split at h
  · omega
  · omega
theorem aErr_zero {m : List UInt8} {l : List Prt} (h : aErr m l = 0) : cmErr m = 0 ∧ psErr l = 0 := by
  unfold aErr at h
  split at h
  · rename_i q; exact absurd h q
  · rename_i q; exact ⟨Classical.byContradiction q, h⟩
theorem aErr_of {m : List UInt8} {l : List Prt} (h1 : cmErr m = 0) (h2 : psErr l = 0) : aErr m l = 0 := by
  unfold aErr; rw [if_neg (by omega), h2]
theorem aB_length {m : List UInt8} {l : List Prt} (h : aErr m l = 0) : 8 ≤ (aB m l).length ∧ (aB m l).length ≤ 600 := by
  obtain ⟨h1, h2⟩ := aErr_zero h
  obtain ⟨h3, h4⟩ := cmErr_zero h1
  have h5 := man_length h2
  have h6 := enc_len5 (n := m.length) (by omega)
  unfold aB
  rw [List.length_append, List.length_append, txt_length]
  simp only [List.length_cons, List.length_nil]
  have := enc_pos m.length
  omega
theorem aDec_back {m : List UInt8} {l : List Prt} (h : aErr m l = 0) : aDec (aB m l) = (0, m, l) := by
  obtain ⟨h1, h2⟩ := aErr_zero h
  obtain ⟨h3, h4⟩ := cmErr_zero h1
  have hl := aB_length h
  have e : aB m l = [65, 65, 49] ++ (txt m ++ man l) := by unfold aB; rw [List.append_assoc]
  have e1 : (aB m l).drop 3 = txt m ++ man l := by rw [e]; rfl
  have e2 : (aB m l).take 3 = [65, 65, 49] := by rw [e]; rfl
  obtain ⟨t1, t2, t3⟩ := text_read m (man l) (by omega)
  have hd := dec_man h2 [] (by simp)
  rw [List.append_nil, if_neg (by simp)] at hd
  unfold aDec aMid aEnd
  rw [if_neg (by omega), if_neg (by rw [e2]; simp; omega), e1, t1, if_neg (by omega), t2, t3, hd, if_neg (by simp), h, if_neg (by simp)]
theorem aB_inj {m s : List UInt8} {l k : List Prt} (h : aErr m l = 0) (h2 : aErr s k = 0) (he : aB m l = aB s k) : m = s ∧ l = k := by
  have q1 := aDec_back h
  rw [he, aDec_back h2] at q1
  injection q1 with _ q1
  injection q1 with q1 q2
  exact ⟨q1.symm, q2.symm⟩
theorem aEnd_turn {s : List UInt8} {d : Int × List Prt} (h : (aEnd s d).1 = 0) : d.1 = 0 ∧ aErr s d.2 = 0 ∧ aEnd s d = (0, s, d.2) := by
  unfold aEnd at h ⊢
  split at h
  · rename_i q; exact absurd h q
  · rename_i q
    split at h
    · rename_i q2; exact absurd h q2
    · rename_i q2
      exact ⟨Classical.byContradiction q, Classical.byContradiction q2, by rw [if_neg q, if_neg q2]⟩
theorem aDec_turn {b : List UInt8} (h : (aDec b).1 = 0) : aB (aDec b).2.1 (aDec b).2.2 = b ∧ aErr (aDec b).2.1 (aDec b).2.2 = 0 := by
  unfold aDec at h ⊢
  split at h
  · omega
  · rename_i q1
    rw [if_neg q1]
    split at h
    · omega
    · rename_i q2
      rw [if_neg q2]
      unfold aMid at h ⊢
      split at h
      · rename_i q3; exact absurd h q3
      · rename_i q3
        rw [if_neg q3]
        obtain ⟨r1, r2, r3⟩ := aEnd_turn h
        rw [r3]
        refine ⟨?_, r2⟩
        have e1 := (dec_turn r1).1
        have e2 := text_turn (Classical.byContradiction q3)
        have e3 : b.take 3 = [65, 65, 49] := Classical.byContradiction fun q => q2 (.inr q)
        show [65, 65, 49] ++ txt (tStr (b.drop 3)) ++ man (dec (tRest (b.drop 3))).2 = b
        rw [e1, List.append_assoc, e2, ← e3, List.take_append_drop]
theorem aEnd_no {s : List UInt8} {d : Int × List Prt} (h : (aEnd s d).1 ≠ 0) : (aEnd s d).2 = ([], []) := by
  unfold aEnd at h ⊢
  split
  · rfl
  · rename_i q
    rw [if_neg q] at h
    split
    · rfl
    · rename_i q2
      rw [if_neg q2] at h
      exact absurd rfl h
theorem aDec_no {b : List UInt8} (h : (aDec b).1 ≠ 0) : (aDec b).2 = ([], []) := by
  unfold aDec at h ⊢
  split
  · rfl
  · rename_i q
    rw [if_neg q] at h
    split
    · rfl
    · rename_i q2
      rw [if_neg q2] at h
      unfold aMid at h ⊢
      split
      · rfl
      · rename_i q3
        rw [if_neg q3] at h
        exact aEnd_no h
end Go.Proofs.YtohdofalnmkfnaaDoor
/- Actions as struct variables and as results; rows of parts of the call's own. -/
namespace Go.Proofs.YtohdofalnmkfnaaDoor
open Go.RowKit
/-- a row of parts of the call's own reads as parts -/
theorem own_rd3 {w : World} {base : Nat} {e : TypeId} {v : Value} {n : Nat} {xs : List Value} (h : w.ownsRow base e 3 v n xs) : ∃ A c, v = .slice A n c ∧ Rd w 3 A n c xs ∧ (A = none → c = 0) := by
  rcases h.2 with ⟨q1, q2⟩ | ⟨g, cap, cur, q1, _, _, q3, q4, _⟩
  · subst q2
    have : xs = [] := List.eq_nil_of_length_eq_zero (by simpa using h.1)
    subst this
    exact ⟨none, 0, q1, Rd.nil _ _, fun _ => rfl⟩
  · subst q1
    exact ⟨_, _, rfl, Rd.of_own h q4 q3, fun q => by cases q⟩
theorem results_cell_row2 {P : Program} {fn : Func} {p q : Tmp} {ty : TypeId} (h : fn.results = #[.cell p ty, .tmp q]) (tmps : Array Value) (w : World) (g : Nat) (t : TypeId) (cs : Array Value) (fr : Nat × Nat) (d : TypeDesc)
    (hp : tmps.getD p undef = .pointer (some ⟨g, 0, none⟩)) (hg : w.heap[g]? = some (.cells cs t fr))
    (hu : P.underlying ty = some d) (hd : (match d with | .struct _ | .array _ _ => true | _ => false) = true) (hi : (P.info? ty).map (·.size) = some cs.size) :
    (results fn tmps).run P w = .ok (.tuple #[.agg cs, tmps.getD q undef]) w := by
  have hp' : tmps[p]?.getD undef = .pointer (some ⟨g, 0, none⟩) := by simpa using hp
  simp [results, h, hp', asAddr, run_loadVar_row w g t ty cs fr d hg hu hd hi]
/-- an action, or none, and an error -/
def GivesA (m : List UInt8) (l : List Prt) (err : Int) (w : World) (e : Ending) (w' : World) : Prop :=
  ∃ A n c, e = .returned (.tuple #[.agg #[.string (str m), .slice A n c], .int .i64 err]) ∧ Rd w' 3 A n c (pcs l) ∧ (A = none → c = 0) ∧ Below w.heap.size w w'
theorem givesA_nil {w w' : World} {err : Int} {e : Ending} (h : e = .returned (.tuple #[.agg #[.string ⟨#[]⟩, .slice none 0 0], .int .i64 err])) (hb : Below w.heap.size w w') : GivesA [] [] err w e w' :=
  ⟨none, 0, 0, h, Rd.nil _ _, fun _ => rfl, hb⟩
theorem action_size : (Tryd.prog.info? 24).map (·.size) = some 2 := by kernel_rfl
theorem Blk.put2 {w : World} {g : Nat} {t : TypeId} {x y : Value} (h : Blk w g t [x, y]) (a b : Value) : Blk ((w.setCell ⟨g, 0, none⟩ a).setCell ⟨g, 1, none⟩ b) g t [a, b] := by
  simpa using (h.put 0 a).put 1 b
theorem below_set2 {w w1 : World} {g i j : Nat} (h : Below w.heap.size w w1) (hg : w.heap.size ≤ g) (a b : Value) : Below w.heap.size w ((w1.setCell ⟨g, i, none⟩ a).setCell ⟨g, j, none⟩ b) :=
  (h.setCell (p := ⟨g, i, none⟩) hg a).setCell (p := ⟨g, j, none⟩) hg b
/-- parts are kept where a cell of a block of two cells is written -/
theorem Rd.part_far {w : World} {A : Option Addr} {n c : Nat} {l : List Prt} (h : Rd w 3 A n c (pcs l)) {g : Nat} {t : TypeId} {x y : Value} (hg : Blk w g t [x, y]) (i : Nat) (u : Value) :
    Rd (w.setCell ⟨g, i, none⟩ u) 3 A n c (pcs l) := by
  rcases l with _ | ⟨p, r⟩
  · exact ⟨h.1, h.2.1, h.2.2.1, fun q => absurd q (by simp [pcs])⟩
  · obtain ⟨h1, h2, h3, h4⟩ := h
    refine ⟨h1, h2, h3, fun hp => ?_⟩
    obtain ⟨b, off, rfl, hc⟩ := h4 hp
    have hne : b ≠ g := by
      rintro rfl
      have := hc 2 (.int .i64 p.sz) rfl
      rw [hg.cell] at this
      simp at this
    refine ⟨b, off, rfl, fun j v hv => ?_⟩
    have ho : (⟨g, i, none⟩ : Addr) ≠ ⟨b, off + j, none⟩ := by
      intro e
      injection e with e1 _
      exact hne e1.symm
    exact (World.cell?_setCell_other _ _ _ _ ho).trans (hc j v hv)
end Go.Proofs.YtohdofalnmkfnaaDoor
/- The program's action: checkCommand and Check. -/
namespace Go.Proofs.YtohdofalnmkfnaaDoor
open Go.RowKit
set_option maxRecDepth 100000 in
set_option maxHeartbeats 400000 in
theorem command_size (m : List UInt8) (w : World) (h : m.length = 0 ∨ 60 < m.length) (hm : m.length ≤ maxLen) :
    Calls Tryd.prog 30 #[.string (str m)] w fun e w' => e = .returned (.int .i64 1) ∧ w = w' := by
  unfold maxLen at hm
  by_cases h0 : m.length = 0
  · obtain rfl : m = [] := List.eq_nil_of_length_eq_zero h0
    go_enter Tryd.func30, Tryd.ntmps30
    go_wp2
    go_ret
    exact ⟨rfl, rfl⟩
  · have hd0 : decide ((m.length : Int) < 1) = false := by simp; omega
    have hd : decide (60 < (m.length : Int)) = true := by simp; omega
    go_enter Tryd.func30, Tryd.ntmps30
    go_wp2
    go_ret
    exact ⟨rfl, rfl⟩
set_option maxRecDepth 100000 in
set_option maxHeartbeats 400000 in
theorem command_in (m : List UInt8) (w : World) (h1 : 1 ≤ m.length) (h2 : m.length ≤ 60) :
    Calls Tryd.prog 30 #[.string (str m)] w fun e w' => e = .returned (.int .i64 (cmErr m)) ∧ w = w' := by
  have HQ : Hid (cmErr m = if m.all okC then 0 else 3) := if_neg (by omega)
  have hd0 : decide ((m.length : Int) < 1) = false := by simp; omega
  have hd : decide (60 < (m.length : Int)) = false := by simp; omega
  go_enter Tryd.func30, Tryd.ntmps30
  go_wp2
  go_loop [3, 14] (fun _ i => ∃ k : Nat, k ≤ m.length ∧ i = .int .i64 k ∧ Hid ((m.take k).all okC = true)) (fun _ i => m.length - (intOf i).toNat)
  case atStart => exact ⟨0, Nat.zero_le _, rfl, rfl⟩
  case round =>
    obtain ⟨k, hk, rfl, HA⟩ := hrel
    by_cases hlt : k < m.length
    · have hs := all_step (f := okC) hlt
      rw [HA.out, Bool.true_and] at hs
      have HS := Lib.hid hs
      have hfail : okC m[k] = false → Hid (m.all okC = false) := fun hf => by
        show _ = _
        rw [Bool.eq_false_iff]
        intro h
        rw [List.all_eq_true.1 h _ (List.getElem_mem hlt)] at hf
        cases hf
      have HF := Lib.hid hfail
      clear hs hfail
      by_cases hlo : y8 m[k] < 32
      · have d1 : decide (y8 m[k] < 32) = true := by simpa using hlo
        have HE := HF.out (by unfold okC; simp; omega)
        clear hlo HF
        go_wp2
        go_ret
        exact ⟨ret_int (by rw [HQ.out, HE.out]; rfl), rfl⟩
      · have d1 : decide (y8 m[k] < 32) = false := by simpa using hlo
        by_cases hhi : 126 < y8 m[k]
        · have d2 : decide (126 < y8 m[k]) = true := by simpa using hhi
          have HE := HF.out (by unfold okC; simp; omega)
          go_wp2
          go_ret
          exact ⟨ret_int (by rw [HQ.out, HE.out]; rfl), rfl⟩
        · have d2 : decide (126 < y8 m[k]) = false := by simpa using hhi
          have HO : Hid (okC m[k] = true) := by show _ = _; unfold okC; simp; omega
          go_wp2
          go_round
          case rel => exact ⟨k + 1, by omega, by go_num, HS.out.trans HO.out⟩
          case measure => simp [intOf] <;> omega
    · have hd2 : decide ((k : Int) < (m.length : Int)) = false := by simp; omega
      have HE : Hid (m.all okC = true) := by
        show _ = _
        have := HA.out
        rwa [List.take_of_length_le (by omega)] at this
      go_wp2
      go_ret
      exact ⟨ret_int (by rw [HQ.out, HE.out]; rfl), rfl⟩
theorem command_eq (m : List UInt8) (w : World) (hm : m.length ≤ maxLen) :
    Calls Tryd.prog 30 #[.string (str m)] w fun e w' => e = .returned (.int .i64 (cmErr m)) ∧ w = w' := by
  by_cases h : m.length = 0 ∨ 60 < m.length
  · rw [show cmErr m = 1 from if_pos h]
    exact command_size m w h hm
  · exact command_in m w (by omega) (by omega)
set_option maxRecDepth 100000 in
set_option maxHeartbeats 400000 in
theorem acheck_any (m : List UInt8) (A : Option Addr) (n c : Nat) (l : List Prt) (w : World) (hm : m.length ≤ maxLen) (hr : Rd w 3 A n c (pcs l)) (hg : ∀ p ∈ l, p.good) :
    Calls Tryd.prog 14 #[.agg #[.string (str m), .slice A n c]] w fun e w' => e = .returned (.int .i64 (aErr m l)) ∧ Below w.heap.size w w' := by
  obtain ⟨er, her⟩ : ∃ er, Hid (aErr m l = er) := ⟨_, rfl⟩
  rw [her.out]
  have hal := (Below.refl w.heap.size w).alloc (Nat.le_refl _) (.cells #[.string (str m), .slice A n c] 24)
  have hbk := Blk.new w 24 [.string (str m), .slice A n c]
  have e0 := hbk.cell 0
  have e1 := hbk.cell 1
  simp only [List.getElem?_cons_succ, List.getElem?_cons_zero] at e0 e1
  go_enter Tryd.func14, Tryd.ntmps14
  go_wp2_with fail
  with_reducible refine (command_eq _ _ hm).mono ?_
  rintro e w1 ⟨rfl, rfl⟩
  by_cases hn : cmErr m = 0
  · have n1 : (cmErr m != 0) = false := by rw [bne_eq_false_iff_eq]; exact hn
    have HF : Hid (er = psErr l) := by show _ = _; rw [← her.out]; exact if_neg (by omega)
    clear hn hbk
    go_wp2_with fail
    with_reducible refine (mcheck_any _ _ _ _ _ (hr.below hal) hg).mono ?_
    rintro e w2 ⟨rfl, hb2⟩
    go_wp2
    go_ret
    exact ⟨ret_int HF.out.symm, below_step hal hb2⟩
  · have n1 : (cmErr m != 0) = true := by rw [bne_iff_ne]; exact hn
    have HF : Hid (er = cmErr m) := by show _ = _; rw [← her.out]; exact if_pos hn
    clear hn hbk
    go_wp2
    go_ret
    exact ⟨ret_int HF.out.symm, hal⟩
end Go.Proofs.YtohdofalnmkfnaaDoor
/- The program's action: Encode. -/
namespace Go.Proofs.YtohdofalnmkfnaaDoor
open Go.RowKit
set_option maxRecDepth 100000 in
set_option maxHeartbeats 400000 in
theorem aencode_no (m : List UInt8) (A : Option Addr) (n c : Nat) (l : List Prt) (w : World) (hm : m.length ≤ maxLen) (hr : Rd w 3 A n c (pcs l)) (hg : ∀ p ∈ l, p.good) (hne : aErr m l ≠ 0) :
    Calls Tryd.prog 9 #[.agg #[.string (str m), .slice A n c]] w fun e w' => e = .returned (.tuple #[.slice none 0 0, .int .i64 (aErr m l)]) ∧ Below w.heap.size w w' := by
  have hd : (aErr m l != 0) = true := by rw [bne_iff_ne]; exact hne
  have hal := (Below.refl w.heap.size w).alloc (Nat.le_refl _) (.cells #[.string (str m), .slice A n c] 24)
  have hbk := Blk.new w 24 [.string (str m), .slice A n c]
  have e0 := hbk.cell 0
  have e1 := hbk.cell 1
  simp only [List.getElem?_cons_succ, List.getElem?_cons_zero] at e0 e1
  go_enter Tryd.func9, Tryd.ntmps9
  go_wp2_with fail
  with_reducible refine (acheck_any _ _ _ _ _ _ hm (hr.below hal) hg).mono ?_
  rintro e w1 ⟨rfl, hb1⟩
  clear hbk e0 e1 hne
  go_wp2
  go_ret2
  exact ⟨rfl, below_step hal hb1⟩
set_option maxRecDepth 100000 in
set_option maxHeartbeats 1000000 in
theorem aencode_yes (m : List UInt8) (A : Option Addr) (n c : Nat) (l : List Prt) (w : World) (hr : Rd w 3 A n c (pcs l)) (hg : ∀ p ∈ l, p.good) (h0 : aErr m l = 0) :
    Calls Tryd.prog 9 #[.agg #[.string (str m), .slice A n c]] w (GivesO 5 (aB m l) w) := by
  obtain ⟨i0, hi0, hz0, hz1, hz2⟩ := info_parts u8_info
  obtain ⟨hc0, hp0⟩ := aErr_zero h0
  obtain ⟨m1, m60⟩ := cmErr_zero hc0
  have hml := man_length hp0
  have htl : (txt m).length ≤ 70 ∧ 1 ≤ (txt m).length := by have := enc_len5 (n := m.length) (by omega); rw [txt_length]; omega
  have HM : Hid (aB m l = [65, 65, 49] ++ txt m ++ man l) := rfl
  have HC : Hid (mRes l = man l) := if_pos hp0
  have HP := Lib.hid hp0
  have HE := Lib.hid h0
  have hm : m.length ≤ maxLen := by unfold maxLen; omega
  have hal := (Below.refl w.heap.size w).alloc (Nat.le_refl _) (.cells #[.string (str m), .slice A n c] 24)
  have hbk := Blk.new w 24 [.string (str m), .slice A n c]
  have e0 := hbk.cell 0
  have e1 := hbk.cell 1
  simp only [List.getElem?_cons_succ, List.getElem?_cons_zero] at e0 e1
  clear h0 hc0 hp0
  go_enter Tryd.func9, Tryd.ntmps9
  go_wp2_with fail
  with_reducible refine (acheck_any _ _ _ _ _ _ hm (hr.below hal) hg).mono ?_
  rintro e w1 ⟨rfl, hb1⟩
  rw [HE.out]
  have hbk1 := hbk.below hb1 hbk.lt
  have hbA := below_step hal hb1
  have d0 := hbk1.cell 0
  simp only [List.getElem?_cons_zero] at d0
  clear e0 e1 hbk hal hb1
  go_wp2_with fail
  with_reducible refine (text_ok _ _ (by omega)).mono ?_
  rintro e w2 ⟨v2, rfl, hown2, hb2⟩
  obtain ⟨A2, c2, rfl, hr2, hA2⟩ := own_rdN hown2
  have hbk2 := hbk1.below hb2 hbk1.lt
  have hbB := below_step hbA hb2
  have d1 := hbk2.cell 1
  simp only [List.getElem?_cons_succ, List.getElem?_cons_zero] at d1
  clear d0 hbk1 hbA hb2 hown2
  go_wp2_with fail
  with_reducible refine (mencode_any _ _ _ _ _ (hr.below hbB) hg).mono ?_
  rintro e w3 ⟨A3, n3, c3, rfl, hr3, hb3⟩
  rw [HP.out]
  rw [HC.out] at hr3
  obtain rfl := hr3.len
  obtain ⟨b3, o3, rfl, _⟩ := hr3.2.2.2 (by rw [List.length_map]; omega)
  have hbC := below_step hbB hb3
  have hr2' := hr2.below hb3
  have hrK := new_rd w3 5 [65, 65, 49] (3, 4) (by unfold maxLen; simp)
  have hK3 : ([65, 65, 49] : List UInt8).map bv8 = [.int .u8 65, .int .u8 65, .int .u8 49] := by simp [bv8, y8]
  have hK4 : ([65, 65, 49] : List UInt8).length = 3 := rfl
  rw [hK3, hK4] at hrK
  clear hK4
  have halH := (Below.refl w3.heap.size w3).alloc (Nat.le_refl _) (.cells #[.int .u8 65, .int .u8 65, .int .u8 49] 5 (3, 4))
  have hrH := hr2'.below halH
  have hrI := hr3.below halH
  have hbH := below_step hbC halH
  have kc := fun (w : World) (C : Array Value) (n c : Nat) => Lib.run_convert_bytes_const (P := Tryd.prog) w 33 5 C n c Tryd.underlying33 Tryd.underlying5
  have HN : Hid (3 + (txt m).length + (man l).length = (aB m l).length) := by show _ = _; rw [HM.out, List.length_append, List.length_append]; rfl
  have HK : Hid (([Value.int .u8 65, .int .u8 65, .int .u8 49] ++ (txt m).map bv8) ++ (man l).map bv8 = (aB m l).map bv8) := by show _ = _; rw [HM.out, List.map_append, List.map_append, hK3]
  have hsz : w.heap.size ≤ (w3.alloc (.cells #[.int .u8 65, .int .u8 65, .int .u8 49] 5 (3, 4))).heap.size := hbH.size
  clear d1 hbk2 hbB hb3 hr2 hr2' hr3 hbC hK3 hr hg hm
  go_wp2_with (at_builtin; first
    | (refine wpList_appendG rfl (.tmp 32) (.tmp 33) _ rfl Tryd.underlying33 hi0 hz0 hz1 hz2 rfl (by omega) rfl hrK (fun q => by cases q) rfl hrH (bytes_one _) (by omega) (by unfold maxLen; omega) (by omega) ?_; rintro v4 w4 ⟨hown4, hb4⟩; have hr4 := hrI.below hb4; have hown4' := own_base hown4 hsz; have hbD := below_step hbH hb4)
    | (refine wpList_appendM rfl (.tmp 34) (.tmp 35) _ rfl Tryd.underlying33 hi0 hz0 hz1 hz2 rfl (by omega) _ _ _ rfl hown4' hr4 (fun q => by cases q) (bytes_one _) rfl (by omega) (by unfold maxLen; omega) hbD.size ?_; rintro v5 w5 q5; obtain ⟨hown5, hb5, hs5, -⟩ := q5))
  go_ret2
  rw [HK.out, HN.out] at hown5
  exact ⟨_, rfl, hown5, hbD.trans hb5⟩
theorem aencode_any (m : List UInt8) (A : Option Addr) (n c : Nat) (l : List Prt) (w : World) (hm : m.length ≤ maxLen) (hr : Rd w 3 A n c (pcs l)) (hg : ∀ p ∈ l, p.good) :
    Calls Tryd.prog 9 #[.agg #[.string (str m), .slice A n c]] w (GivesB (aRes m l) (aErr m l) w) := by
  by_cases h : aErr m l = 0
  · rw [show aRes m l = aB m l from if_pos h, h]
    refine (aencode_yes m A n c l w hr hg h).mono ?_
    rintro e w' ⟨v, rfl, hown, hb⟩
    obtain ⟨A9, c9, rfl, hr9⟩ := own_rd hown
    exact ⟨_, _, _, rfl, hr9, hb⟩
  · rw [show aRes m l = [] from if_neg h]
    refine (aencode_no m A n c l w hm hr hg h).mono ?_
    rintro e w' ⟨rfl, hb⟩
    exact ⟨none, 0, 0, rfl, Rd.nil _ _, hb⟩
end Go.Proofs.YtohdofalnmkfnaaDoor
/- The reference's ActionFault and ActionBytes. -/
namespace Go.Proofs.YtohdofalnmkfnaaDoor
open Go.RowKit
@[go_sem high] theorem fold_aa1 : (⟨#[65, 65, 49]⟩ : ByteArray) = str [65, 65, 49] := rfl
set_option maxRecDepth 100000 in
set_option maxHeartbeats 400000 in
theorem actionFault_size (m : List UInt8) (A : Option Addr) (n c : Nat) (w : World) (h : m.length = 0 ∨ 60 < m.length) (hm : m.length ≤ maxLen) :
    Calls Tryd.prog 38 #[.agg #[.string (str m), .slice A n c]] w fun e w' => e = .returned (.int .i64 1) ∧ Below w.heap.size w w' := by
  have hal := (Below.refl w.heap.size w).alloc (Nat.le_refl _) (.cells #[.string (str m), .slice A n c] 24)
  have hbk := Blk.new w 24 [.string (str m), .slice A n c]
  have e0 := hbk.cell 0
  simp only [List.getElem?_cons_zero] at e0
  unfold maxLen at hm
  by_cases h0 : m.length = 0
  · have hne : (m == []) = true := by rw [beq_iff_eq]; exact List.eq_nil_of_length_eq_zero h0
    clear hbk
    go_enter Tryd.func38, Tryd.ntmps38
    go_wp2
    go_ret
    exact ⟨rfl, hal⟩
  · have hne : (m == []) = false := by rw [beq_eq_false_iff_ne]; rintro rfl; exact h0 rfl
    have hd : decide (60 < (m.length : Int)) = true := by simp; omega
    clear hbk
    go_enter Tryd.func38, Tryd.ntmps38
    go_wp2
    go_ret
    exact ⟨rfl, hal⟩
set_option maxRecDepth 100000 in
set_option maxHeartbeats 1000000 in
theorem actionFault_in (m : List UInt8) (A : Option Addr) (n c : Nat) (l : List Prt) (w : World) (h1 : 1 ≤ m.length) (h2 : m.length ≤ 60) (hr : Rd w 3 A n c (pcs l)) (hg : ∀ p ∈ l, p.good) :
    Calls Tryd.prog 38 #[.agg #[.string (str m), .slice A n c]] w fun e w' => e = .returned (.int .i64 (aErr m l)) ∧ Below w.heap.size w w' := by
  have HQ : Hid (cmErr m = if m.all okC then 0 else 3) := if_neg (by omega)
  have HY : Hid (m.all okC = true → aErr m l = psErr l) := fun h => by
    unfold aErr; rw [HQ.out, h]; rfl
  have HX : Hid (m.all okC = false → aErr m l = 3) := fun h => by
    unfold aErr; rw [HQ.out, h]; rfl
  obtain ⟨er, her⟩ : ∃ er, aErr m l = er := ⟨_, rfl⟩
  rw [her] at HX HY ⊢
  have hne : (m == []) = false := by rw [beq_eq_false_iff_ne]; rintro rfl; simp at h1
  have hd : decide (60 < (m.length : Int)) = false := by simp; omega
  have hal := (Below.refl w.heap.size w).alloc (Nat.le_refl _) (.cells #[.string (str m), .slice A n c] 24)
  have hbk := Blk.new w 24 [.string (str m), .slice A n c]
  have e0 := hbk.cell 0
  simp only [List.getElem?_cons_zero] at e0
  have hs1 : (w.alloc (.cells #[.string (str m), .slice A n c] 24)).heap.size = w.heap.size + 1 := by simp
  obtain ⟨c1, w1, hcv, hrb, hb1, hs2⟩ := run_str_bytes (P := Tryd.prog) Tryd.underlying9 Tryd.underlying33 Tryd.underlying5 (w.alloc (.cells #[.string (str m), .slice A n c] 24)) m (by unfold maxLen; omega)
  have hbk1 := hbk.below hb1 hbk.lt
  have hbA := hal.trans (hb1.mono hal.size)
  have e1 := hbk1.cell 1
  simp only [List.getElem?_cons_succ, List.getElem?_cons_zero] at e1
  have hr1 := (hr.below hal).below hb1
  rw [hs1] at hcv hrb
  clear hs2 her hs1 hbk hbk1 hal hb1 hr
  go_enter Tryd.func38, Tryd.ntmps38
  go_wp2
  go_loop [4, 18] (fun _ i => ∃ k : Nat, k ≤ m.length ∧ i = .int .i64 k ∧ Hid ((m.take k).all okC = true)) (fun _ i => m.length - (intOf i).toNat)
  case atStart => exact ⟨0, Nat.zero_le _, rfl, rfl⟩
  case round =>
    obtain ⟨k, hk, rfl, HA⟩ := hrel
    by_cases hlt : k < m.length
    · obtain ⟨b, off, hA0, hcell⟩ := hrb.at (k := k) (v := .int .u8 (y8 m[k])) (by rw [List.getElem?_map, List.getElem?_eq_getElem hlt]; rfl)
      obtain ⟨rfl, rfl⟩ : w.heap.size + 1 = b ∧ 0 = off := by injection hA0 with hA0; injection hA0 with q1 q2; exact ⟨q1, q2⟩
      rw [Nat.zero_add] at hcell
      have hs := all_step (f := okC) hlt
      rw [HA.out, Bool.true_and] at hs
      have HS := Lib.hid hs
      have hfail : okC m[k] = false → Hid (m.all okC = false) := fun hf => by
        show _ = _
        rw [Bool.eq_false_iff]
        intro h
        rw [List.all_eq_true.1 h _ (List.getElem_mem hlt)] at hf
        cases hf
      have HF := Lib.hid hfail
      clear hs hA0 hfail
      by_cases hlo : y8 m[k] < 32
      · have d1 : decide (y8 m[k] < 32) = true := by simpa using hlo
        have HE := HF.out (by unfold okC; simp; omega)
        clear hlo HF
        go_wp2
        go_ret
        exact ⟨ret_int (HX.out HE.out).symm, hbA⟩
      · have d1 : decide (y8 m[k] < 32) = false := by simpa using hlo
        by_cases hhi : 126 < y8 m[k]
        · have d2 : decide (126 < y8 m[k]) = true := by simpa using hhi
          have HE := HF.out (by unfold okC; simp; omega)
          go_wp2
          go_ret
          exact ⟨ret_int (HX.out HE.out).symm, hbA⟩
        · have d2 : decide (126 < y8 m[k]) = false := by simpa using hhi
          have HO : Hid (okC m[k] = true) := by show _ = _; unfold okC; simp; omega
          go_wp2
          go_round
          case rel => exact ⟨k + 1, by omega, by go_num, HS.out.trans HO.out⟩
          case measure => simp [intOf] <;> omega
    · have hd2 : decide ((k : Int) < (m.length : Int)) = false := by simp; omega
      have HE : Hid (m.all okC = true) := by
        show _ = _
        have := HA.out
        rwa [List.take_of_length_le (by omega)] at this
      go_wp2_with fail
      with_reducible refine (partsFault_any _ _ _ _ _ hr1 hg).mono ?_
      rintro e w2 ⟨rfl, hb2⟩
      go_wp2
      go_ret
      exact ⟨ret_int (HY.out HE.out).symm, below_step hbA hb2⟩
theorem actionFault_any (m : List UInt8) (A : Option Addr) (n c : Nat) (l : List Prt) (w : World) (hm : m.length ≤ maxLen) (hr : Rd w 3 A n c (pcs l)) (hg : ∀ p ∈ l, p.good) :
    Calls Tryd.prog 38 #[.agg #[.string (str m), .slice A n c]] w fun e w' => e = .returned (.int .i64 (aErr m l)) ∧ Below w.heap.size w w' := by
  by_cases h : m.length = 0 ∨ 60 < m.length
  · have hc : cmErr m = 1 := if_pos h
    rw [show aErr m l = 1 by unfold aErr; rw [hc, if_pos (by omega)]]
    exact actionFault_size m A n c w h hm
  · exact actionFault_in m A n c l w (by omega) (by omega) hr hg
set_option maxRecDepth 100000 in
set_option maxHeartbeats 400000 in
theorem actionBytes_no (m : List UInt8) (A : Option Addr) (n c : Nat) (l : List Prt) (w : World) (hm : m.length ≤ maxLen) (hr : Rd w 3 A n c (pcs l)) (hg : ∀ p ∈ l, p.good) (hne : aErr m l ≠ 0) :
    Calls Tryd.prog 16 #[.agg #[.string (str m), .slice A n c]] w fun e w' => e = .returned (.tuple #[.slice none 0 0, .int .i64 (aErr m l)]) ∧ Below w.heap.size w w' := by
  have hd : (aErr m l != 0) = true := by rw [bne_iff_ne]; exact hne
  have hal := (Below.refl w.heap.size w).alloc (Nat.le_refl _) (.cells #[.string (str m), .slice A n c] 24)
  have hbk := Blk.new w 24 [.string (str m), .slice A n c]
  have e0 := hbk.cell 0
  have e1 := hbk.cell 1
  simp only [List.getElem?_cons_succ, List.getElem?_cons_zero] at e0 e1
  go_enter Tryd.func16, Tryd.ntmps16
  go_wp2_with fail
  with_reducible refine (actionFault_any _ _ _ _ _ _ hm (hr.below hal) hg).mono ?_
  rintro e w1 ⟨rfl, hb1⟩
  clear hbk e0 e1 hne
  go_wp2
  go_ret2
  exact ⟨rfl, below_step hal hb1⟩
set_option maxRecDepth 100000 in
set_option maxHeartbeats 1000000 in
theorem actionBytes_yes (m : List UInt8) (A : Option Addr) (n c : Nat) (l : List Prt) (w : World) (hr : Rd w 3 A n c (pcs l)) (hg : ∀ p ∈ l, p.good) (h0 : aErr m l = 0) :
    Calls Tryd.prog 16 #[.agg #[.string (str m), .slice A n c]] w (GivesB (aB m l) 0 w) := by
  obtain ⟨hc0, hp0⟩ := aErr_zero h0
  obtain ⟨m1, m60⟩ := cmErr_zero hc0
  have hml := man_length hp0
  have HM : Hid (aB m l = [65, 65, 49] ++ [UInt8.ofNat m.length] ++ m ++ man l) := by show _ = _; unfold aB txt; rw [enc_small (by omega)]; simp
  have HC : Hid (mRes l = man l) := if_pos hp0
  have HE := Lib.hid h0
  have hm : m.length ≤ maxLen := by unfold maxLen; omega
  have hu := utf8_small m.length (by omega)
  have hal := (Below.refl w.heap.size w).alloc (Nat.le_refl _) (.cells #[.string (str m), .slice A n c] 24)
  have hbk := Blk.new w 24 [.string (str m), .slice A n c]
  have e0 := hbk.cell 0
  have e1 := hbk.cell 1
  simp only [List.getElem?_cons_succ, List.getElem?_cons_zero] at e0 e1
  clear h0 hc0 hp0
  go_enter Tryd.func16, Tryd.ntmps16
  go_wp2_with fail
  with_reducible refine (actionFault_any _ _ _ _ _ _ hm (hr.below hal) hg).mono ?_
  rintro e w1 ⟨rfl, hb1⟩
  rw [HE.out]
  have hbk1 := hbk.below hb1 hbk.lt
  have hbA := below_step hal hb1
  have d1 := hbk1.cell 1
  simp only [List.getElem?_cons_succ, List.getElem?_cons_zero] at d1
  clear e0 e1 hbk hal hb1
  go_wp2_with fail
  with_reducible refine (partsBytes_any _ _ _ _ _ (hr.below hbA) hg).mono ?_
  rintro e w2 ⟨A2, n2, c2, rfl, hr2, hb2⟩
  rw [HC.out] at hr2
  obtain rfl := hr2.len
  have hbk2 := hbk1.below hb2 hbk1.lt
  have hbB := below_step hbA hb2
  have d0 := hbk2.cell 0
  simp only [List.getElem?_cons_zero] at d0
  have k1 := run_bytes_str (P := Tryd.prog) Tryd.underlying33 Tryd.underlying5 Tryd.underlying9 hr2
  obtain ⟨c9, w9, hcv, hr9, hb9, hs9⟩ := run_str_bytes (P := Tryd.prog) Tryd.underlying9 Tryd.underlying33 Tryd.underlying5 w2 (aB m l) (by have := aB_length HE.out; unfold maxLen; omega)
  rw [HM.out] at hcv
  simp only [List.cons_append, List.nil_append] at hcv
  have HL : Hid ((aB m l).length = m.length + (man l).length + 1 + 1 + 1 + 1) := by show _ = _; rw [HM.out]; simp
  clear d1 hbk1 hbk2 hbA hb2 hs9
  go_wp2
  go_ret2
  rw [HL.out] at hr9
  exact ⟨_, _, _, rfl, hr9, below_step hbB hb9⟩
theorem actionBytes_any (m : List UInt8) (A : Option Addr) (n c : Nat) (l : List Prt) (w : World) (hm : m.length ≤ maxLen) (hr : Rd w 3 A n c (pcs l)) (hg : ∀ p ∈ l, p.good) :
    Calls Tryd.prog 16 #[.agg #[.string (str m), .slice A n c]] w (GivesB (aRes m l) (aErr m l) w) := by
  by_cases h : aErr m l = 0
  · rw [show aRes m l = aB m l from if_pos h, h]
    exact actionBytes_yes m A n c l w hr hg h
  · rw [show aRes m l = [] from if_neg h]
    refine (actionBytes_no m A n c l w hm hr hg h).mono ?_
    rintro e w' ⟨rfl, hb⟩
    exact ⟨none, 0, 0, rfl, Rd.nil _ _, hb⟩
end Go.Proofs.YtohdofalnmkfnaaDoor
/- Encode of an action at what is known. -/
namespace Go.Proofs.YtohdofalnmkfnaaDoor
open Go.RowKit
theorem aencode_ok (m : List UInt8) (A : Option Addr) (n c : Nat) (l : List Prt) (w : World) (hr : Rd w 3 A n c (pcs l)) (hg : ∀ p ∈ l, p.good) (h0 : aErr m l = 0) (b : List UInt8) (hb : aB m l = b) :
    Calls Tryd.prog 9 #[.agg #[.string (str m), .slice A n c]] w (GivesB b 0 w) := by
  refine (aencode_yes m A n c l w hr hg h0).mono ?_
  rw [hb]
  rintro e w' ⟨v, rfl, hown, hb⟩
  obtain ⟨A9, c9, rfl, hr9⟩ := own_rd hown
  exact ⟨_, _, _, rfl, hr9, hb⟩
end Go.Proofs.YtohdofalnmkfnaaDoor

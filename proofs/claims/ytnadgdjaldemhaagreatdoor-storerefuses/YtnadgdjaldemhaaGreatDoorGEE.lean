/- Texts that belong together: what the functions of the program and of the statements return. -/
import Derived.Test.YtnadgdjaldemhaaGreatDoorGY
import Derived.Test.YtnadgdjaldemhaaGreatDoorGB
import Derived.Test.YtnadgdjaldemhaaGreatDoorGD
import Derived.Test.YtnadgdjaldemhaaGreatDoorGP
import Derived.BigQuiet
import Derived.Test.YtnadgdjaldemhaaGreatDoorGS
import Derived.Test.YtnadgdjaldemhaaGreatDoorGO
import Derived.Test.YtnadgdjaldemhaaGreatDoorGN
import Derived.Test.YtnadgdjaldemhaaGreatDoorGO
import Derived.Test.YtnadgdjaldemhaaGreatDoorRows
import Derived.Test.YtnadgdjaldemhaaGreatDoorGA
import Derived.Deep.RegionLaw
import Derived.IntWalk
import Derived.Test.YtnadgdjaldemhaaGreatDoorGX
import Derived.Laws.Rows
import Derived.RegionTactic
import Derived.Deep.RegionHeldLaw
/- The landed index.checkEntry and index.Check. -/
namespace Go.Proofs.YtnadgdjaldemhaaGreatDoor
open Go.RowKit
theorem ck_xOne {last : List UInt8} {x : En} (h1 : cErr x.ky = 0) (h2 : nle x.ky last = false) (h3 : psErr x.ps = 0) {e : Int} (h : Ck x.pn e) :
    xOne last x = if e ≠ 0 then e else if x.st < 0 ∨ 1099511627776 < x.st then 4 else 0 := by
  unfold xOne
  rw [if_neg (by omega), if_neg (by rw [h2]; simp), if_neg (by omega)]
  unfold Ck at h
  by_cases q : x.st < 0 ∨ 1099511627776 < x.st
  · rw [if_pos (by omega), if_pos q]
    split <;> omega
  · rw [if_neg q]
    rcases h with ⟨h, rfl⟩ | ⟨h, rfl⟩ | ⟨ha, hb, rfl⟩
    · rw [if_pos (.inl h)]; simp
    · rw [if_pos (.inr (.inl h))]; simp
    · rw [if_neg (by omega)]; simp
set_option maxRecDepth 100000 in
set_option maxHeartbeats 1000000 in
theorem checkEntry_any (x : En) (D : Option Addr) (dn dc : Nat) (m : List UInt8) (w : World) (hg : x.good) (hr : Rd w 3 D dn dc (pcs x.ps)) :
    Calls Tryz.prog 74 #[.agg #[.string (str x.ky), .slice D dn dc, .int .i64 x.pn, .int .i64 x.st], .string (str m)] w fun e w' => e = .returned (.int .i64 (xOne m x)) ∧ Below w.heap.size w w' := by
  obtain ⟨g0, g1, g2, g3, g4⟩ := hg
  have hal := (Below.refl w.heap.size w).alloc (Nat.le_refl _) (.cells #[.string (str x.ky), .slice D dn dc, .int .i64 x.pn, .int .i64 x.st] 57)
  have hbk := Blk.new w 57 [.string (str x.ky), .slice D dn dc, .int .i64 x.pn, .int .i64 x.st]
  have H1 := Lib.hid (fun W : World => hcheck_all x.ky W g0)
  have H2 := Lib.hid (mcheck_any D dn dc x.ps _ (hr.below hal) g1)
  obtain ⟨ec, hck⟩ := ck_some x.pn
  have H3 := Lib.hid (fun W : World => pcheck_at x.pn ec W hck)
  have HCK := Lib.hid hck
  have HX : Hid (∀ r, (cErr x.ky ≠ 0 → r = cErr x.ky) → (cErr x.ky = 0 → nle x.ky m = true → r = 6) → (cErr x.ky = 0 → nle x.ky m = false → psErr x.ps ≠ 0 → r = psErr x.ps) → (cErr x.ky = 0 → nle x.ky m = false → psErr x.ps = 0 → r = if ec ≠ 0 then ec else if x.st < 0 ∨ 1099511627776 < x.st then 4 else 0) → r = xOne m x) := by
    show ∀ r, _ → _
    intro r q1 q2 q3 q4
    by_cases c1 : cErr x.ky = 0
    · by_cases c2 : nle x.ky m = true
      · rw [q2 c1 c2]; unfold xOne; rw [if_neg (by omega), if_pos c2]
      · have c2' : nle x.ky m = false := by simpa using c2
        by_cases c3 : psErr x.ps = 0
        · rw [q4 c1 c2' c3, ck_xOne c1 c2' c3 hck]
        · rw [q3 c1 c2' c3]; unfold xOne; rw [if_neg (by omega), if_neg c2, if_pos c3]
    · rw [q1 c1]; unfold xOne; rw [if_pos c1]
  obtain ⟨res, hres⟩ : ∃ res, Hid (xOne m x = res) := ⟨_, rfl⟩
  rw [hres.out]
  have HR : Hid (∀ r, (cErr x.ky ≠ 0 → r = cErr x.ky) → (cErr x.ky = 0 → nle x.ky m = true → r = 6) → (cErr x.ky = 0 → nle x.ky m = false → psErr x.ps ≠ 0 → r = psErr x.ps) → (cErr x.ky = 0 → nle x.ky m = false → psErr x.ps = 0 → r = if ec ≠ 0 then ec else if x.st < 0 ∨ 1099511627776 < x.st then 4 else 0) → r = res) := by
    show ∀ r, _ → _
    intro r q1 q2 q3 q4; rw [← hres.out]; exact HX.out r q1 q2 q3 q4
  have e0 := hbk.cell 0
  have e1 := hbk.cell 1
  simp only [List.getElem?_cons_succ, List.getElem?_cons_zero] at e0 e1
  clear hr hck HX hres
  by_cases c1 : cErr x.ky = 0
  · have n1 : (cErr x.ky != 0) = false := by rw [bne_eq_false_iff_eq]; exact c1
    by_cases c2 : nle x.ky m = true
    · have d2 : (Op.bytesLess x.ky m || x.ky == m) = true := c2
      have HF : Hid (6 = res) := HR.out 6 (fun q => absurd c1 q) (fun _ _ => rfl) (fun _ q => by rw [c2] at q; cases q) (fun _ q => by rw [c2] at q; cases q)
      clear c1 c2
      go_enter Tryz.func74, Tryz.ntmps74
      go_wp2_with fail
      with_reducible refine (H1.out _).mono ?_
      rintro e w1 ⟨rfl, rfl⟩
      go_wp2
      go_ret
      exact ⟨ret_int HF.out, hal⟩
    · have d2 : (Op.bytesLess x.ky m || x.ky == m) = false := by simpa [nle] using c2
      have c2' : nle x.ky m = false := by simpa using c2
      by_cases c3 : psErr x.ps = 0
      · have n3 : (psErr x.ps != 0) = false := by rw [bne_eq_false_iff_eq]; exact c3
        have HF : Hid ((if ec ≠ 0 then ec else if x.st < 0 ∨ 1099511627776 < x.st then 4 else 0) = res) := HR.out _ (fun q => absurd c1 q) (fun _ q => absurd q c2) (fun _ _ q => absurd c3 q) (fun _ _ _ => rfl)
        clear c1 c2 c2' c3 HR
        by_cases c4 : ec = 0
        · subst c4
          by_cases c5 : x.st < 0
          · have HG : Hid (4 = res) := by show _ = _; rw [← HF.out, if_neg (by simp), if_pos (.inl c5)]
            have d5 : decide (x.st < 0) = true := by simpa using c5
            clear HF c5
            go_enter Tryz.func74, Tryz.ntmps74
            go_wp2_with fail
            with_reducible refine (H1.out _).mono ?_
            rintro e w1 ⟨rfl, rfl⟩
            go_wp2_with fail
            with_reducible refine H2.out.mono ?_
            rintro e w2 ⟨rfl, hb2⟩
            have hb := hal.trans (hb2.mono hal.size)
            have hbk2 := hbk.below hb2 hbk.lt
            have f2 := hbk2.cell 2
            have f3 := hbk2.cell 3
            simp only [List.getElem?_cons_succ, List.getElem?_cons_zero] at f2 f3
            go_wp2_with fail
            with_reducible refine (H3.out _).mono ?_
            rintro e w3 ⟨rfl, rfl⟩
            go_wp2
            go_ret
            exact ⟨ret_int HG.out, hb⟩
          · have d5 : decide (x.st < 0) = false := by simpa using c5
            by_cases c6 : 1099511627776 < x.st
            · have HG : Hid (4 = res) := by show _ = _; rw [← HF.out, if_neg (by simp), if_pos (.inr c6)]
              have d6 : decide (1099511627776 < x.st) = true := by simpa using c6
              clear HF c5 c6
              go_enter Tryz.func74, Tryz.ntmps74
              go_wp2_with fail
              with_reducible refine (H1.out _).mono ?_
              rintro e w1 ⟨rfl, rfl⟩
              go_wp2_with fail
              with_reducible refine H2.out.mono ?_
              rintro e w2 ⟨rfl, hb2⟩
              have hb := hal.trans (hb2.mono hal.size)
              have hbk2 := hbk.below hb2 hbk.lt
              have f2 := hbk2.cell 2
              have f3 := hbk2.cell 3
              simp only [List.getElem?_cons_succ, List.getElem?_cons_zero] at f2 f3
              go_wp2_with fail
              with_reducible refine (H3.out _).mono ?_
              rintro e w3 ⟨rfl, rfl⟩
              go_wp2
              go_ret
              exact ⟨ret_int HG.out, hb⟩
            · have HG : Hid (0 = res) := by show _ = _; rw [← HF.out, if_neg (by simp), if_neg (by omega)]
              have d6 : decide (1099511627776 < x.st) = false := by simpa using c6
              clear HF c5 c6
              go_enter Tryz.func74, Tryz.ntmps74
              go_wp2_with fail
              with_reducible refine (H1.out _).mono ?_
              rintro e w1 ⟨rfl, rfl⟩
              go_wp2_with fail
              with_reducible refine H2.out.mono ?_
              rintro e w2 ⟨rfl, hb2⟩
              have hb := hal.trans (hb2.mono hal.size)
              have hbk2 := hbk.below hb2 hbk.lt
              have f2 := hbk2.cell 2
              have f3 := hbk2.cell 3
              simp only [List.getElem?_cons_succ, List.getElem?_cons_zero] at f2 f3
              go_wp2_with fail
              with_reducible refine (H3.out _).mono ?_
              rintro e w3 ⟨rfl, rfl⟩
              go_wp2
              go_ret
              exact ⟨ret_int HG.out, hb⟩
        · have n4 : (ec != 0) = true := by rw [bne_iff_ne]; exact c4
          have HG : Hid (ec = res) := by show _ = _; rw [← HF.out, if_pos c4]
          clear HF c4
          go_enter Tryz.func74, Tryz.ntmps74
          go_wp2_with fail
          with_reducible refine (H1.out _).mono ?_
          rintro e w1 ⟨rfl, rfl⟩
          go_wp2_with fail
          with_reducible refine H2.out.mono ?_
          rintro e w2 ⟨rfl, hb2⟩
          have hb := hal.trans (hb2.mono hal.size)
          have hbk2 := hbk.below hb2 hbk.lt
          have f2 := hbk2.cell 2
          simp only [List.getElem?_cons_succ, List.getElem?_cons_zero] at f2
          go_wp2_with fail
          with_reducible refine (H3.out _).mono ?_
          rintro e w3 ⟨rfl, rfl⟩
          go_wp2
          go_ret
          exact ⟨ret_int HG.out, hb⟩
      · have n3 : (psErr x.ps != 0) = true := by rw [bne_iff_ne]; exact c3
        have HF : Hid (psErr x.ps = res) := HR.out _ (fun q => absurd c1 q) (fun _ q => absurd q c2) (fun _ _ _ => rfl) (fun _ _ q => absurd q c3)
        clear c1 c2 c2' c3 HR
        go_enter Tryz.func74, Tryz.ntmps74
        go_wp2_with fail
        with_reducible refine (H1.out _).mono ?_
        rintro e w1 ⟨rfl, rfl⟩
        go_wp2_with fail
        with_reducible refine H2.out.mono ?_
        rintro e w2 ⟨rfl, hb2⟩
        have hb := hal.trans (hb2.mono hal.size)
        go_wp2
        go_ret
        exact ⟨ret_int HF.out, hb⟩
  · have n1 : (cErr x.ky != 0) = true := by rw [bne_iff_ne]; exact c1
    have HF : Hid (cErr x.ky = res) := HR.out _ (fun _ => rfl) (fun q => absurd q c1) (fun q => absurd q c1) (fun q => absurd q c1)
    clear c1 HR
    go_enter Tryz.func74, Tryz.ntmps74
    go_wp2_with fail
    with_reducible refine (H1.out _).mono ?_
    rintro e w1 ⟨rfl, rfl⟩
    go_wp2
    go_ret
    exact ⟨ret_int HF.out, hal⟩
set_option maxRecDepth 100000 in
set_option maxHeartbeats 400000 in
theorem icheck_big (A : Option Addr) (n c : Nat) (w : World) (h : 10 < n) (hn : n ≤ 9223372036854775807) :
    Calls Tryz.prog 42 #[.slice A n c] w fun e w' => e = .returned (.int .i64 1) ∧ w = w' := by
  go_enter Tryz.func42, Tryz.ntmps42
  go_wp2
  go_ret
  exact ⟨rfl, rfl⟩
set_option maxRecDepth 100000 in
set_option maxHeartbeats 2000000 in
theorem icheck_in (A : Option Addr) (n c : Nat) (l : List En) (w : World) (hr : KRd kEn w A n c l) (hg : ∀ p ∈ l, p.good) (h10 : n ≤ 10) :
    Calls Tryz.prog 42 #[.slice A n c] w fun e w' => e = .returned (.int .i64 (xTail [] l)) ∧ Below w.heap.size w w' := by
  obtain rfl := hr.len
  have hd : decide (10 < (l.length : Int)) = false := by simp; omega
  have HG := Lib.hid hg
  obtain ⟨er, her⟩ : ∃ er, Hid (xTail [] l = er) := ⟨_, rfl⟩
  rw [her.out]
  clear hg
  go_enter Tryz.func42, Tryz.ntmps42
  go_wp2
  go_loopw [3, 5, 6, 12] (fun s _ _ i wr => ∃ (k : Nat) (m : List UInt8), k ≤ l.length ∧ i = .int .i64 k ∧ s = .string (str m) ∧ Hid (er = xTail m (l.drop k)) ∧ Below w.heap.size w wr) (fun _ _ _ i _ => l.length - (intOf i).toNat)
  case atStart => exact ⟨0, [], Nat.zero_le _, rfl, rfl, her.out.symm, Below.refl _ _⟩
  case round =>
    obtain ⟨k, m, hk, rfl, rfl, HE, hbel⟩ := hrel
    by_cases hlt : k < l.length
    · obtain ⟨b, off, D, dn, dc, rfl, hc0, hc1, hc2, hc3, hrD, hDn⟩ := (hr.below hbel).entry hlt
      have hgk := HG.out l[k] (List.getElem_mem hlt)
      have hdk : l.drop k = l[k] :: l.drop (k + 1) := List.drop_eq_getElem_cons hlt
      have HP : Hid (er = xTail m (l[k] :: l.drop (k + 1))) := by show _ = _; rw [← hdk]; exact HE.out
      have hki : (k : Int) < (l.length : Int) := by omega
      clear hdk HE
      generalize l[k] = p at *
      have hal := (Below.refl wr.heap.size wr).alloc (Nat.le_refl _) (.cells #[.string (str p.ky), .slice D dn dc, .int .i64 p.pn, .int .i64 p.st] 57)
      have hbk := Blk.new wr 57 [.string (str p.ky), .slice D dn dc, .int .i64 p.pn, .int .i64 p.st]
      have HC := Lib.hid (checkEntry_any p D dn dc m _ hgk (hrD.below hal))
      go_wp2_with fail
      with_reducible refine HC.out.mono ?_
      rintro e w1 ⟨rfl, hb1⟩
      have hbk1 := hbk.below hb1 hbk.lt
      have hbA := below_step hbel (hal.trans (hb1.mono (by simp)))
      have e0 := hbk1.cell 0
      simp only [List.getElem?_cons_zero] at e0
      clear hbk hal hc0 hc1 hc2 hc3 hrD
      by_cases hn : xOne m p = 0
      · have n1 : (xOne m p != 0) = false := by rw [bne_eq_false_iff_eq]; exact hn
        have HF : Hid (er = xTail p.ky (l.drop (k + 1))) := by show _ = _; rw [HP.out]; exact xTail_go hn
        clear hn
        go_wp2
        go_roundw
        case rel => exact ⟨k + 1, p.ky, by omega, by go_num, rfl, HF.out, hbA⟩
        case measure => simp [intOf] <;> omega
      · have n1 : (xOne m p != 0) = true := by rw [bne_iff_ne]; exact hn
        have HF : Hid (er = xOne m p) := by show _ = _; rw [HP.out, xTail, if_pos hn]
        clear hn
        go_wp2
        go_ret
        exact ⟨ret_int HF.out.symm, hbA⟩
    · have hd2 : decide ((k : Int) < (l.length : Int)) = false := by simp; omega
      have HF : Hid (er = 0) := by show _ = _; rw [HE.out, List.drop_of_length_le (by omega)]; rfl
      go_wp2
      go_ret
      exact ⟨ret_int HF.out.symm, hbel⟩
theorem icheck_any (A : Option Addr) (n c : Nat) (l : List En) (w : World) (hr : KRd kEn w A n c l) (hg : ∀ p ∈ l, p.good) :
    Calls Tryz.prog 42 #[.slice A n c] w fun e w' => e = .returned (.int .i64 (xsErr l)) ∧ Below w.heap.size w w' := by
  have hn := hr.len
  have hc := hr.cap
  unfold maxLen at hc
  by_cases h : 10 < n
  · rw [show xsErr l = 1 from if_pos (by omega)]
    refine (icheck_big A n c w h (by omega)).mono ?_
    rintro e w' ⟨rfl, rfl⟩
    exact ⟨rfl, Below.refl _ _⟩
  · rw [show xsErr l = xTail [] l from if_neg (by omega)]
    exact icheck_in A n c l w hr hg (by omega)
end Go.Proofs.YtnadgdjaldemhaaGreatDoor
/- The landed index.Find. -/
namespace Go.Proofs.YtnadgdjaldemhaaGreatDoor
open Go.RowKit Go.Shelf
set_option maxRecDepth 100000 in
set_option maxHeartbeats 400000 in
theorem findE1_tells (d : List UInt8) (g : Nat) (w : World) (hg : g < w.heap.size) (hc : w.cell? ⟨g, 0, none⟩ = some (.string (str d))) : TellsE w 84 #[.pointer (some ⟨g, 0, none⟩)] (fun b => b.ky == d) := fun W x hb => by
  have hcW : W.cell? ⟨g, 0, none⟩ = some (.string (str d)) := (hb.cell (p := ⟨g, 0, none⟩) hg).trans hc
  have hgW : g < W.heap.size := Nat.lt_of_lt_of_le hg hb.size
  have hne : g ≠ W.heap.size := by omega
  obtain ⟨⟨d1, t1, p1, m1⟩, ⟨A1, n1, c1⟩⟩ := x
  show Calls Tryz.prog 84 #[.agg #[.string (str d1), .slice A1 n1 c1, .int .i64 p1, .int .i64 m1], .pointer (some ⟨g, 0, none⟩)] W fun e w' => e = .returned (.bool (d1 == d)) ∧ _
  go_enter Tryz.func84, Tryz.ntmps84
  go_wp2
  go_ret
  exact ⟨rfl, hb.alloc hb.size _⟩
set_option maxRecDepth 100000 in
set_option maxHeartbeats 400000 in
theorem ifind_any (A : Option Addr) (n c : Nat) (l : List En) (d : List UInt8) (w : World) (hr : KRd kEn w A n c l) :
    Calls Tryz.prog 53 #[.slice A n c, .string (str d)] w fun e w' => e = .returned (.tuple #[.int .i64 (xFAt l d : Nat), .int .i64 (xFErr l d)]) ∧ Below w.heap.size w w' := by
  have hal := (Below.refl w.heap.size w).alloc (Nat.le_refl _) (.cells #[.string (str d)] 9)
  have hk := Blk.new w 9 [.string (str d)]
  have k0 := hk.cell 0
  simp only [List.getElem?_cons_zero] at k0
  have hC := indexE_any A n c l _ (hr.below hal) (fun x => x.ky == d) _ _ (enters_of Tryz.func84 (by kernel_rfl) rfl) (findE1_tells d w.heap.size _ hk.lt k0)
  unfold plc at hC
  unfold xFAt xFErr
  by_cases h : xAt l d < l.length
  · rw [if_pos (show l.findIdx (fun x => x.ky == d) < l.length from h)] at hC
    rw [if_pos h, if_pos h]
    have hC' : Calls Tryz.prog _ _ _ fun e w' => e = .returned (.int .i64 ((xAt l d : Nat) : Int)) ∧ Below _ _ w' := hC
    clear hr hC
    have d1 : decide (((xAt l d : Nat) : Int) < 0) = false := by simp
    generalize xAt l d = K at *
    go_enter Tryz.func53, Tryz.ntmps53
    go_wp2_with fail
    refine hC'.mono ?_
    rintro e w' ⟨rfl, hb'⟩
    go_wp2
    go_ret2
    exact ⟨rfl, below_step hal hb'⟩
  · rw [if_neg (show ¬ l.findIdx (fun x => x.ky == d) < l.length from h)] at hC
    rw [if_neg h, if_neg h]
    clear hr
    go_enter Tryz.func53, Tryz.ntmps53
    go_wp2_with fail
    refine hC.mono ?_
    rintro e w' ⟨rfl, hb'⟩
    go_wp2
    go_ret2
    exact ⟨rfl, below_step hal hb'⟩
end Go.Proofs.YtnadgdjaldemhaaGreatDoor
/- A block that holds entries, known whole. Nothing of the program. -/
namespace Go.Proofs.YtnadgdjaldemhaaGreatDoor
open Go.RowKit
/-- no entry -/
def ze : En × Hd := (⟨[], [], 0, 0⟩, ⟨none, 0, 0⟩)
theorem ze_deep (w : World) : kEn.deep w ze.1 ze.2 := ⟨Rd.nil _ _, fun _ => rfl⟩
theorem ze_blocks : kEn.blocks ze.2 = [] := rfl
theorem made_entries (n : Nat) : madeCells #[.string ByteArray.empty, .slice none 0 0, .int .i64 0, .int .i64 0] (n * 4) = (kEn.all (List.replicate n ze)).toArray := by
  apply Array.ext
  · rw [size_madeCells, List.size_toArray, kEn.all_length, List.length_replicate]; rfl
  · intro i h1 h2
    rw [size_madeCells] at h1
    obtain ⟨k, r, hr, rfl⟩ : ∃ k r, r < 4 ∧ i = k * 4 + r := ⟨i / 4, i % 4, by omega, by omega⟩
    have hk : k < (List.replicate n ze).length := by rw [List.length_replicate]; omega
    have ha := kEn.all_at (List.replicate n ze) k hk r hr
    rw [List.getElem_replicate] at ha
    have hm : (k * 4 + r) % 4 = r := by omega
    have hl : (madeCells #[.string ByteArray.empty, .slice none 0 0, .int .i64 0, .int .i64 0] (n * 4))[k * 4 + r]? = some (#[Value.string ByteArray.empty, .slice none 0 0, .int .i64 0, .int .i64 0][r]!) := by
      unfold madeCells
      rw [Array.getElem?_map, Array.getElem?_range, if_pos h1]
      show some (#[Value.string ByteArray.empty, .slice none 0 0, .int .i64 0, .int .i64 0][(k * 4 + r) % 4]!) = _
      rw [hm]
    have hx : ((kEn.all (List.replicate n ze)).toArray)[k * 4 + r]? = some (#[Value.string ByteArray.empty, .slice none 0 0, .int .i64 0, .int .i64 0][r]!) := by
      rw [List.getElem?_toArray]
      refine Eq.trans ha ?_
      match r, hr with
      | 0, _ => rfl
      | 1, _ => rfl
      | 2, _ => rfl
      | 3, _ => rfl
    rw [Array.getElem?_eq_getElem (by rw [size_madeCells]; exact h1)] at hl
    rw [Array.getElem?_eq_getElem h2] at hx
    injection hl with hl
    injection hx with hx
    rw [hl, hx]
theorem all_set4E : ∀ (l : List (En × Hd)) (k : Nat) (x : En × Hd), k < l.length → ((((kEn.all l).set (k * 4) (.string (str x.1.ky))).set (k * 4 + 1) (.slice x.2.A x.2.n x.2.c)).set (k * 4 + 2) (.int .i64 x.1.pn)).set (k * 4 + 3) (.int .i64 x.1.st) = kEn.all (l.set k x)
  | [], _, _, h => absurd h (by simp)
  | q :: r, 0, x, _ => rfl
  | q :: r, k + 1, x, h => by
    have := all_set4E r k x (by simpa using h)
    rw [List.set_cons_succ, Kin.all_cons, Kin.all_cons, ← this, show (k + 1) * 4 = k * 4 + 1 + 1 + 1 + 1 from by omega]
    show (((([_, _, _, _] ++ kEn.all r).set _ _).set _ _).set _ _).set _ _ = [_, _, _, _] ++ _
    simp
theorem ze_mid (acc : List (En × Hd)) (x : En × Hd) (n : Nat) (hn : 0 < n) : (acc ++ List.replicate n ze).set acc.length x = (acc ++ [x]) ++ List.replicate (n - 1) ze := by
  obtain ⟨m, rfl⟩ : ∃ m, n = m + 1 := ⟨n - 1, by omega⟩
  rw [List.set_append_right _ _ (Nat.le_refl _), Nat.sub_self, List.replicate_succ, List.set_cons_zero, List.append_assoc]
  rfl
/-- block g holds the entries hs, and nothing else; what they reach lies elsewhere, at the base or above -/
structure KE (w : World) (base g : Nat) (t : TypeId) (hs : List (En × Hd)) : Prop where
  blk : Blk w g t (kEn.all hs)
  ge : base ≤ g
  deep : ∀ x ∈ hs, kEn.deep w x.1 x.2 ∧ ∀ k ∈ kEn.blocks x.2, base ≤ k ∧ k < w.heap.size ∧ k ≠ g
section
variable {w w' : World} {base g : Nat} {t : TypeId} {hs : List (En × Hd)}
theorem KE.below (h : KE w base g t hs) (hb : Below w.heap.size w w') : KE w' base g t hs :=
  ⟨h.blk.below hb h.blk.lt, h.ge, fun x hx => ⟨kEn.keep (h.deep x hx).1 fun k _ hk => hb.block k hk, fun k hk => by
    obtain ⟨h1, h2, h3⟩ := (h.deep x hx).2 k hk
    exact ⟨h1, Nat.lt_of_lt_of_le h2 hb.size, h3⟩⟩⟩
theorem KE.len4 (hs : List (En × Hd)) : (kEn.all hs).length = hs.length * 4 := kEn.all_length hs
theorem KE.kh (h : KE w base g t hs) (hm : hs.length ≤ maxLen) : KH kEn w base t (.slice (some ⟨g, 0, none⟩) hs.length hs.length) hs := by
  refine ⟨⟨kEn.all_length hs, .inr ⟨g, hs.length, (kEn.all hs).toArray, rfl, h.ge, h.blk, Nat.le_refl _, hm, by rw [List.size_toArray]; exact kEn.all_length hs, ?_⟩⟩, fun x hx => ⟨(h.deep x hx).1, fun k hk => ?_⟩⟩
  · rw [List.take_of_length_le (by rw [List.toList_toArray, kEn.all_length]; exact Nat.le_refl _)]
  · obtain ⟨h1, h2, h3⟩ := (h.deep x hx).2 k hk
    exact ⟨h1, h2, fun q => h3 (by injection q with q; exact q.symm)⟩
theorem KE.rd (h : KE w base g t hs) (hm : hs.length ≤ maxLen) : KRd kEn w (some ⟨g, 0, none⟩) hs.length hs.length (hs.map Prod.fst) := by
  refine ⟨hs, rfl, ?_, fun x hx => (h.deep x hx).1⟩
  have := h.blk.rd (size := 4) (n := hs.length) (c := hs.length) (Nat.le_refl _) hm (by rw [KE.len4]; exact Nat.le_refl _)
  rwa [List.take_of_length_le (by rw [KE.len4]; exact Nat.le_refl _)] at this
/-- the same block with other cells: what lies elsewhere is kept -/
theorem KE.row (h : KE w base g t hs) (ms : List (En × Hd)) (hms : ∀ x ∈ ms, kEn.deep w x.1 x.2 ∧ ∀ k ∈ kEn.blocks x.2, base ≤ k ∧ k < w.heap.size ∧ k ≠ g) : KE (w.setRow g (kEn.all ms).toArray) base g t ms := by
  have hz : (w.setRow g (kEn.all ms).toArray).heap.size = w.heap.size := by simp [World.setRow]
  refine ⟨setRow_heap w g _ _ t _ h.blk, h.ge, fun x hx => ⟨kEn.keep (hms x hx).1 fun k hk _ => setRow_other w g k _ ((hms x hx).2 k hk).2.2, fun k hk => ?_⟩⟩
  rw [hz]
  exact (hms x hx).2 k hk
theorem KE.put (h : KE w base g t hs) (k : Nat) (x : En × Hd) (hk : k < hs.length) (hx : kEn.deep w x.1 x.2 ∧ ∀ j ∈ kEn.blocks x.2, base ≤ j ∧ j < w.heap.size ∧ j ≠ g) :
    KE ((((w.setCell ⟨g, k * 4, none⟩ (.string (str x.1.ky))).setCell ⟨g, k * 4 + 1, none⟩ (.slice x.2.A x.2.n x.2.c)).setCell ⟨g, k * 4 + 2, none⟩ (.int .i64 x.1.pn)).setCell ⟨g, k * 4 + 3, none⟩ (.int .i64 x.1.st)) base g t (hs.set k x) := by
  have hb := (((h.blk.put (k * 4) (.string (str x.1.ky))).put (k * 4 + 1) (.slice x.2.A x.2.n x.2.c)).put (k * 4 + 2) (.int .i64 x.1.pn)).put (k * 4 + 3) (.int .i64 x.1.st)
  rw [all_set4E hs k x hk] at hb
  refine ⟨hb, h.ge, fun y hy => ?_⟩
  have hy' : kEn.deep w y.1 y.2 ∧ ∀ j ∈ kEn.blocks y.2, base ≤ j ∧ j < w.heap.size ∧ j ≠ g := by
    rcases List.mem_or_eq_of_mem_set hy with q | q
    · exact h.deep y q
    · subst q; exact hx
  refine ⟨kEn.keep hy'.1 fun j hj _ => ?_, fun j hj => ?_⟩
  · have hne : j ≠ g := (hy'.2 j hj).2.2
    rw [Below.heap_setCell _ ⟨g, k * 4 + 3, none⟩ _ j hne, Below.heap_setCell _ ⟨g, k * 4 + 2, none⟩ _ j hne, Below.heap_setCell _ ⟨g, k * 4 + 1, none⟩ _ j hne, Below.heap_setCell _ ⟨g, k * 4, none⟩ _ j hne]
  · simpa using hy'.2 j hj
end
end Go.Proofs.YtnadgdjaldemhaaGreatDoor
/- slices.Insert of one entry into a row without room. -/
namespace Go.Proofs.YtnadgdjaldemhaaGreatDoor
open Go.RowKit
theorem kown_newE {w w' : World} {base : Nat} {e : TypeId} {v : Value} {ms : List (En × Hd)} (hB : base ≤ w.heap.size) (ho : w'.ownsRow w.heap.size e 4 v ms.length (kEn.all ms)) (hm : ∀ x ∈ ms, kEn.deep w x.1 x.2 ∧ ∀ k ∈ kEn.blocks x.2, base ≤ k ∧ k < w.heap.size) (hb : Below w.heap.size w w') : KOwn kEn w' base e v (ms.map Prod.fst) := by
  refine ⟨ms, rfl, by rw [List.length_map]; exact own_base ho hB, fun x hx => ⟨kEn.keep (hm x hx).1 fun k _ hk => hb.block k hk, fun k hk => ?_⟩⟩
  obtain ⟨q1, q2⟩ := (hm x hx).2 k hk
  exact ⟨q1, Nat.lt_of_lt_of_le q2 hb.size, fun q => by have := (ho.lt k q).1; omega⟩
theorem ins_memE {ms : List (En × Hd)} {x y : En × Hd} {i : Nat} (h : y ∈ ms.take i ++ x :: ms.drop i) : y = x ∨ y ∈ ms := by
  rcases List.mem_append.1 h with h | h
  · exact .inr (List.mem_of_mem_take h)
  · rcases List.mem_cons.1 h with h | h
    · exact .inl h
    · exact .inr (List.mem_of_mem_drop h)
theorem one_rdE {w : World} {g : Nat} {t : TypeId} {x : En × Hd} (h : Blk w g t (kEn.cells x.1 x.2)) : Rd w 4 (some ⟨g, 0, none⟩) 1 1 (kEn.all [x]) := by
  rw [Kin.all_one]
  have := h.rd (size := 4) (n := 1) (c := 1) (Nat.le_refl _) (by unfold maxLen; omega) (by rw [kEn.len]; decide)
  rwa [List.take_of_length_le (by rw [kEn.len]; decide)] at this
theorem KE.take {w : World} {base g : Nat} {t : TypeId} {hs : List (En × Hd)} (h : KE w base g t hs) {i c : Nat} (hi : i ≤ hs.length) (hc : i ≤ c) (hm : c ≤ maxLen) : Rd w 4 (some ⟨g, 0, none⟩) i c (kEn.all (hs.take i)) := by
  have := h.blk.rd (size := 4) (n := i) (c := c) hc hm (by rw [KE.len4]; omega)
  rwa [show (kEn.all hs).take (i * 4) = kEn.all (hs.take i) from kEn.all_take hs i] at this
theorem KE.drop {w : World} {base g : Nat} {t : TypeId} {hs : List (En × Hd)} (h : KE w base g t hs) {i : Nat} (hm : hs.length ≤ maxLen) : Rd w 4 (some ⟨g, i * 4, none⟩) (hs.length - i) (hs.length - i) (kEn.all (hs.drop i)) := by
  refine ⟨by rw [KE.len4, List.length_drop], Nat.le_refl _, by omega, fun _ => ⟨g, i * 4, rfl, fun j v hv => ?_⟩⟩
  rw [h.blk.cell, ← hv, ← show (kEn.all hs).drop (i * 4) = kEn.all (hs.drop i) from kEn.all_drop hs i, List.getElem?_drop]
set_option maxRecDepth 100000 in
set_option maxHeartbeats 1000000 in
theorem insert_endE (w : World) (base g g2 : Nat) (hs : List (En × Hd)) (x : En × Hd) (L : Nat) (hL : hs.length = L) (hL23 : L ≤ 23) (hB : base ≤ w.heap.size) (h : KE w base g 57 hs) (h2 : Blk w g2 57 (kEn.cells x.1 x.2))
    (hx : kEn.deep w x.1 x.2 ∧ ∀ k ∈ kEn.blocks x.2, base ≤ k ∧ k < w.heap.size) :
    Calls Tryz.prog 120 #[.slice (some ⟨g, 0, none⟩) L L, .int .i64 (L : Int), .slice (some ⟨g2, 0, none⟩) 1 1] w fun e w' => ∃ v, e = .returned v ∧ KOwn kEn w' base 57 v ((hs.take L ++ x :: hs.drop L).map Prod.fst) ∧ Below w.heap.size w w' := by
  obtain ⟨j0, hj0, hw0, hw1, hw2⟩ := info_parts entry_info
  have hr0 : Rd w 4 (some ⟨g, 0, none⟩) L L (kEn.all hs) := by
    have := h.take (i := L) (c := L) (by omega) (Nat.le_refl _) (by unfold maxLen; omega)
    rwa [List.take_of_length_le (by omega)] at this
  have hr2 := one_rdE h2
  have hm : ∀ y ∈ hs ++ [x], kEn.deep w y.1 y.2 ∧ ∀ k ∈ kEn.blocks y.2, base ≤ k ∧ k < w.heap.size := fun y hy => by
    rcases List.mem_append.1 hy with q | q
    · exact ⟨(h.deep y q).1, fun k hk => ⟨((h.deep y q).2 k hk).1, ((h.deep y q).2 k hk).2.1⟩⟩
    · rw [List.mem_singleton] at q; subst q; exact hx
  have HM := Lib.hid hm
  have HE : Hid (hs.take L ++ x :: hs.drop L = hs ++ [x]) := by show _ = _; rw [List.take_of_length_le (by omega), List.drop_of_length_le (by omega)]
  have HLN : Hid ((hs ++ [x]).length = L + 1) := by show _ = _; rw [List.length_append, hL]; rfl
  rw [HE.out]
  clear h h2 hx hm HE hL
  go_enter Tryz.func120, Tryz.ntmps120
  go_wp2_with (at_builtin; refine wpList_appendG rfl (.tmp 23) (.tmp 24) _ rfl Tryz.underlying26 hj0 hw0 hw1 hw2 rfl (by omega) rfl hr0 (fun q => (by cases q)) rfl hr2 (kEn.all_one' [x]) (by omega) (by unfold maxLen; omega) (by omega) ?_; rintro v1 w1 ⟨hown1, hb1⟩)
  have hown2 : w1.ownsRow w.heap.size 57 4 v1 (hs ++ [x]).length (kEn.all (hs ++ [x])) := by rw [HLN.out, Kin.all_append]; exact hown1
  go_ret
  exact ⟨_, rfl, kown_newE hB hown2 HM.out hb1, hb1⟩
theorem ins_doneE {w3 : World} {B g3 cap3 i L M : Nat} {T : TypeId} {CUR xa y xb : List Value} {ms : List (En × Hd)} (hg : B ≤ g3) (hbk4 : Blk w3 g3 T (lay CUR (i * 4) y)) (hc : CUR.length = cap3 * 4) (hMc : M ≤ cap3) (hx : cap3 ≤ 9223372036854775807)
    (hl : Hid (lay (lay CUR (i * 4) y) ((i + 1) * 4) xb = xa ++ y ++ xb ++ CUR.drop (M * 4))) (h1 : xa.length = i * 4) (hy : y.length = 4) (hb : xb.length = (L - i) * 4) (hLM : M = L + 1) (hi : i < L) (hm : ms.length = M) (hal : kEn.all ms = xa ++ y ++ xb) :
    (w3.setRow g3 (lay (lay CUR (i * 4) y) ((i + 1) * 4) xb).toArray).ownsRow B T 4 (.slice (some ⟨g3, 0, none⟩) M cap3) ms.length (kEn.all ms) := by
  have hbk5 : Blk (w3.setRow g3 (lay (lay CUR (i * 4) y) ((i + 1) * 4) xb).toArray) g3 T (lay (lay CUR (i * 4) y) ((i + 1) * 4) xb) := setRow_heap _ g3 _ _ _ _ hbk4
  have hll : (lay CUR (i * 4) y).length = cap3 * 4 := by rw [lay_length _ _ _ (by omega)]; exact hc
  refine ⟨KE.len4 ms, .inr ⟨g3, cap3, _, by rw [hm], hg, hbk5, by rw [hm]; exact hMc, hx, ?_, ?_⟩⟩
  · rw [List.size_toArray, lay_length _ _ _ (by rw [hll, hb]; omega)]; exact hll
  · rw [List.toList_toArray, hl.out, hal, List.take_left' (by rw [List.length_append, List.length_append, h1, hb, hy, hm]; omega)]
set_option maxRecDepth 100000 in
set_option maxHeartbeats 2000000 in
theorem insert_midE (w : World) (base g g2 : Nat) (hs : List (En × Hd)) (x : En × Hd) (L i : Nat) (hL : hs.length = L) (hL23 : L ≤ 23) (hi : i < L) (hB : base ≤ w.heap.size) (h : KE w base g 57 hs) (h2 : Blk w g2 57 (kEn.cells x.1 x.2))
    (hx : kEn.deep w x.1 x.2 ∧ ∀ k ∈ kEn.blocks x.2, base ≤ k ∧ k < w.heap.size) :
    Calls Tryz.prog 120 #[.slice (some ⟨g, 0, none⟩) L L, .int .i64 (i : Int), .slice (some ⟨g2, 0, none⟩) 1 1] w fun e w' => ∃ v, e = .returned v ∧ KOwn kEn w' base 57 v ((hs.take i ++ x :: hs.drop i).map Prod.fst) ∧ Below w.heap.size w w' := by
  obtain ⟨j0, hj0, hw0, hw1, hw2⟩ := info_parts entry_info
  have hr0 := h.take (i := i) (c := L) (by omega) (by omega) (by unfold maxLen; omega)
  have hr1 := h.drop (i := i) (by unfold maxLen; omega)
  rw [hL] at hr1
  have hr2 := one_rdE h2
  have hm : ∀ y ∈ hs.take i ++ x :: hs.drop i, kEn.deep w y.1 y.2 ∧ ∀ k ∈ kEn.blocks y.2, base ≤ k ∧ k < w.heap.size := fun y hy => by
    rcases ins_memE hy with q | q
    · subst q; exact hx
    · exact ⟨(h.deep y q).1, fun k hk => ⟨((h.deep y q).2 k hk).1, ((h.deep y q).2 k hk).2.1⟩⟩
  have HM := Lib.hid hm
  have hl1 : (kEn.all (hs.take i)).length = i * 4 := by rw [KE.len4, List.length_take]; omega
  have hl2 : (kEn.all (hs.drop i)).length = (L - i) * 4 := by rw [KE.len4, List.length_drop, hL]
  have HLN : Hid ((hs.take i ++ x :: hs.drop i).length = L + 1) := by show _ = _; simp; omega
  have HAL : Hid (kEn.all (hs.take i ++ x :: hs.drop i) = kEn.all (hs.take i) ++ kEn.all [x] ++ kEn.all (hs.drop i)) := by
    show _ = _
    rw [Kin.all_append, Kin.all_cons, Kin.all_one, List.append_assoc]
  obtain ⟨K, hK⟩ : ∃ K : Nat, L + 1 - i = K := ⟨_, rfl⟩
  have hkk : (L : Int) + 1 - (i : Int) = (K : Int) := by omega
  have hiL : (i : Int) ≤ (L : Int) := by omega
  have hne : ((i : Int) == (L : Int)) = false := by rw [beq_eq_false_iff_ne]; omega
  have hne2 : ¬ (i : Int) = (L : Int) := by omega
  have hne3 : ¬ i = L := by omega
  have hne4 : ¬ L = i := by omega
  generalize hs.take i ++ x :: hs.drop i = ms at *
  generalize kEn.all (hs.take i) = xa at *
  generalize hxb : kEn.all (hs.drop i) = xb at *
  have ob : ∀ v ∈ xb, v.oneCell' = true := by rw [← hxb]; exact kEn.all_one' _
  have HOB := Lib.hid ob
  have HL1 := Lib.hid hl1
  have HL2 := Lib.hid hl2
  have HCE : Hid (∀ v ∈ kEn.all [x], v.oneCell' = true) := kEn.all_one' [x]
  have hy4 : (kEn.all [x]).length = 4 := by rw [KE.len4]; rfl
  have HY4 := Lib.hid hy4
  generalize kEn.all [x] = y at *
  obtain ⟨M, hM⟩ : ∃ M, i + K = M := ⟨_, rfl⟩
  have hLM : M = L + 1 := by omega
  have HMM := Lib.hid hM
  have HLM := Lib.hid hLM
  have hMi : M ≤ 24 := by omega
  have i2 : (i : Int) ≤ (M : Int) := by omega
  have i6 : (i : Int) + 1 ≤ (M : Int) := by omega
  have i8 : 1 ≤ M - i := by omega
  have i9 : L - i ≤ M - (i + 1) := by omega
  have i11 : L + 1 ≤ M := by omega
  have hi1 : i < M := by omega
  have hwr : IntKind.i64.wrap ((i : Int) + 1) = (i : Int) + 1 := IntWalk.i64_in _ (by omega)
  have htn : ((i : Int) + 1).toNat = i + 1 := by omega
  have hi0 : (0 : Int) ≤ (i : Int) + 1 := by omega
  have hi2 : i + 1 < M := by omega
  have hzl : ∀ z : Value, z.cells.size = 4 → (Builtin.zeroCells z.cells K).toList.length = K * 4 := fun z hz => by rw [Array.length_toList]; simp [Builtin.zeroCells, hz]
  have HZ := Lib.hid hzl
  clear h h2 hx hm hxb ob hl1 hl2 hM hLM hzl hy4
  go_enter Tryz.func120, Tryz.ntmps120
  go_wp2_with (first
    | (at_builtin; refine wpList_appendZ rfl (.tmp 34) (.tmp 39) _ _ rfl Tryz.underlying26 Tryz.underlying3 hj0 hw0 hw1 hw2 rfl (by omega) rfl rfl hr0 (fun q => (by cases q)) (by omega) (by omega) (by omega) (by omega) ?_; rintro v3 w3 ⟨hown3, hb3⟩; obtain ⟨g3, cap3, CUR, rfl, hge3, hblk3, hcl, hMc, hcx3, HLY⟩ := ins_prep hown3 (HZ.out _ rfl) HMM.out HLM.out hi HL1.out HY4.out HL2.out; have i1 : (i : Int) ≤ (cap3 : Int) := (by omega); have i3 : ¬ cap3 = i := (by omega); have i4 : ¬ cap3 = i + 1 := (by omega); have i5 : (i : Int) + 1 ≤ (cap3 : Int) := (by omega); have hr2' := hr2.below hb3; have hf1 : i * 4 + y.length ≤ CUR.length := (by rw [HY4.out, hcl]; omega))
    | (refine at_copy ?_; refine wpList_copyK rfl (.tmp 43) (.tmp 44) _ _ rfl Tryz.underlying26 hj0 hw1 rfl rfl hblk3 hr2' (by rw [HY4.out]; omega) (by omega) hf1 HCE.out ?_; rintro w4 rfl))
  have hbk40 : Blk (w3.setRow g3 (lay CUR (i * 4) y).toArray) g3 57 (lay CUR (i * 4) y) := setRow_heap w3 g3 _ _ _ _ hblk3
  have hbk4 := hbk40.drew
  clear hbk40
  have hb4 := (below_setRow hb3 hge3 (lay CUR (i * 4) y).toArray).drew
  have hr1' := hr1.below hb4
  have hll : (lay CUR (i * 4) y).length = cap3 * 4 := by rw [lay_length _ _ _ hf1]; exact hcl
  have hb5 := below_setRow hb4 hge3 (lay (lay CUR (i * 4) y) ((i + 1) * 4) xb).toArray
  have hown5 := Lib.hid (ins_doneE (ms := ms) hge3 hbk4 hcl hMc hcx3 HLY HL1.out HY4.out HL2.out HLM.out hi (by rw [HLN.out, HLM.out]) HAL.out)
  have hf2 : (i + 1) * 4 + xb.length ≤ (lay CUR (i * 4) y).length := by rw [hll, HL2.out]; omega
  have hf3 : 0 < xb.length := by rw [HL2.out]; omega
  go_region_law (refine step_copyK (g := g3) (q := (i + 1) * 4) (dLen := M - (i + 1)) (dCap := cap3 - (i + 1)) (A := some ⟨g, i * 4, none⟩) (m := L - i) (c := L - i) (by rfl) (.tmp 50) (.tmp 53) _ _ (by rfl) Tryz.underlying26 hj0 hw1 (by go_simp) (by go_simp) hbk4 hr1' hf3 (by omega) hf2 HOB.out ?_; rintro w5 rfl)
  all_goals
    go_wp2
    go_ret
    exact ⟨_, rfl, kown_newE hB hown5.out HM.out hb5, hb5⟩
end Go.Proofs.YtnadgdjaldemhaaGreatDoor
/- slices.Clone of parts; the landed index.copyEntry and index.Copy. -/
namespace Go.Proofs.YtnadgdjaldemhaaGreatDoor
open Go.RowKit
set_option maxRecDepth 100000 in
set_option maxHeartbeats 400000 in
theorem pclone_any (A : Option Addr) (n c : Nat) (l : List Prt) (w : World) (hr : Rd w 3 A n c (pcs l)) (hA : A = none → c = 0) (hz : n * 40 ≤ 140737488351232) :
    Calls Tryz.prog 54 #[.slice A n c] w fun e w' => ∃ v, e = .returned v ∧ w'.ownsRow w.heap.size 55 3 v n (pcs l) ∧ Below w.heap.size w w' := by
  obtain ⟨i0, hi0, hz0, hz1, hz2⟩ := info_parts prt_info
  rcases A with _ | a
  · have hc0 := hA rfl
    subst hc0
    obtain rfl : n = 0 := by have := hr.2.1; omega
    have hl : pcs l = [] := List.eq_nil_of_length_eq_zero (by simpa using hr.1)
    rw [hl]
    have he : ∀ w : World, (binOp .eql 41 (.slice none 0 0) (.slice none 0 0)).run Tryz.prog w = .ok (.bool true) w := fun _ => rfl
    go_enter Tryz.func54, Tryz.ntmps54
    go_wp2
    go_ret
    exact ⟨_, rfl, World.ownsRow_nil _ _ _ _, Below.refl _ _⟩
  · have hown : (w.alloc (.cells #[] 55)).ownsRow w.heap.size 55 3 (.slice (some ⟨w.heap.size, 0, none⟩) 0 0) 0 [] :=
      ⟨rfl, .inr ⟨w.heap.size, 0, #[], rfl, Nat.le_refl _, heap_alloc_new w _, Nat.le_refl _, by simp [maxLen], rfl, rfl⟩⟩
    have hb0 := (Below.refl w.heap.size w).alloc (Nat.le_refl _) (.cells #[] 55)
    have hr1 := hr.below hb0
    have he : ∀ w : World, (binOp .eql 41 (.slice (some a) n c) (.slice none 0 0)).run Tryz.prog w = .ok (.bool false) w := fun _ => rfl
    go_enter Tryz.func54, Tryz.ntmps54
    go_wp2_with (at_builtin; refine wpList_appendR rfl (.tmp 5) (.tmp 6) _ rfl Tryz.underlying41 hi0 hz0 hz1 hz2 rfl (by omega) _ 0 [] rfl hown hr1 (fun q => by (cases q)) (pcs_one l) rfl (by omega) (by unfold maxLen; omega) hb0.size ?_; rintro v1 w1 ⟨hown1, hb1⟩; rw [Nat.zero_add, List.nil_append] at hown1)
    go_ret
    exact ⟨_, rfl, hown1, hb0.trans hb1⟩
/-- an entry whose parts are the call's own -/
def GivesX (x : En) (w : World) (e : Ending) (w' : World) : Prop :=
  ∃ h : Hd, e = .returned (.agg #[.string (str x.ky), .slice h.A h.n h.c, .int .i64 x.pn, .int .i64 x.st]) ∧ kEn.deep w' x h ∧ (∀ k ∈ kEn.blocks h, w.heap.size ≤ k ∧ k < w'.heap.size) ∧ Below w.heap.size w w'
theorem entry_size : (Tryz.prog.info? 57).map (·.size) = some 4 := by kernel_rfl
theorem Blk.put4e {w : World} {g : Nat} {t : TypeId} {x0 x1 x2 x3 : Value} (h : Blk w g t [x0, x1, x2, x3]) (a b c d : Value) : Blk ((((w.setCell ⟨g, 0, none⟩ a).setCell ⟨g, 1, none⟩ b).setCell ⟨g, 2, none⟩ c).setCell ⟨g, 3, none⟩ d) g t [a, b, c, d] := by
  simpa using (((h.put 0 a).put 1 b).put 2 c).put 3 d
set_option maxRecDepth 100000 in
set_option maxHeartbeats 1000000 in
theorem copyEntry_any (x : En) (h : Hd) (w : World) (hd : kEn.deep w x h) (hg : x.good) :
    Calls Tryz.prog 80 #[.agg #[.string (str x.ky), .slice h.A h.n h.c, .int .i64 x.pn, .int .i64 x.st]] w (GivesX x w) := by
  obtain ⟨hr, hA⟩ := hd
  have hz : h.n * 40 ≤ 140737488351232 := by rw [hr.plen]; exact hg.2.2.2.2
  obtain ⟨D, dn, dc⟩ := h
  simp only at hr hA hz
  obtain ⟨ky, ps, pn, st⟩ := x
  simp only at hr
  have hal := ((Below.refl w.heap.size w).alloc (Nat.le_refl _) (.cells #[.string (str ky), .slice D dn dc, .int .i64 pn, .int .i64 st] 57)).alloc (by simp) (.cells #[.string ⟨#[]⟩, .slice none 0 0, .int .i64 0, .int .i64 0] 57)
  have hk1 := (Blk.new w 57 [.string (str ky), .slice D dn dc, .int .i64 pn, .int .i64 st]).alloc (.cells #[.string ⟨#[]⟩, .slice none 0 0, .int .i64 0, .int .i64 0] 57)
  have hk2 := Blk.new (w.alloc (.cells #[.string (str ky), .slice D dn dc, .int .i64 pn, .int .i64 st] 57)) 57 [.string ⟨#[]⟩, .slice none 0 0, .int .i64 0, .int .i64 0]
  have hr' := hr.below hal
  have e1 := hk1.cell 1
  simp only [List.getElem?_cons_succ, List.getElem?_cons_zero] at e1
  have HC := Lib.hid (pclone_any D dn dc ps _ hr' hA hz)
  go_enter Tryz.func80, Tryz.ntmps80
  go_wp2_with fail
  with_reducible refine HC.out.mono ?_
  rintro e w3 ⟨v3, rfl, hown3, hb3⟩
  obtain ⟨A3, c3, rfl, hr3, hA3, hF3⟩ := own_rdK hown3
  have hk1' := hk1.below hb3 hk1.lt
  have hk2' := hk2.below hb3 hk2.lt
  have hne : w.heap.size + 1 ≠ w.heap.size := by omega
  have hne' : w.heap.size ≠ w.heap.size + 1 := by omega
  have hsz : (w.alloc (.cells #[.string (str ky), .slice D dn dc, .int .i64 pn, .int .i64 st] 57)).heap.size = w.heap.size + 1 := by simp
  rw [hsz] at hk2'
  have hbA := below_step hal hb3
  have hk1b := hk1'.put 1 (.slice A3 dn c3)
  simp only [List.set_cons_succ, List.set_cons_zero] at hk1b
  have hk2b := hk2'.far (p := ⟨w.heap.size, 1, none⟩) hne (.slice A3 dn c3)
  have hbB := hbA.setCell (p := ⟨w.heap.size, 1, none⟩) (Nat.le_refl _) (.slice A3 dn c3)
  have hbC := (((hbB.setCell (p := ⟨w.heap.size + 1, 0, none⟩) (by show w.heap.size ≤ w.heap.size + 1; omega) (.string (str ky))).setCell (p := ⟨w.heap.size + 1, 1, none⟩) (by show w.heap.size ≤ w.heap.size + 1; omega) (.slice A3 dn c3)).setCell (p := ⟨w.heap.size + 1, 2, none⟩) (by show w.heap.size ≤ w.heap.size + 1; omega) (.int .i64 pn)).setCell (p := ⟨w.heap.size + 1, 3, none⟩) (by show w.heap.size ≤ w.heap.size + 1; omega) (.int .i64 st)
  have f1 := hk1'.frozen 1
  have q1 := hk1'.cell 1
  have t0 := hk1b.cell 0
  have t1 := hk1b.cell 1
  have t2 := hk1b.cell 2
  have t3 := hk1b.cell 3
  have s0 := hk2b.cell 0
  have s1 := hk2b.cell 1
  have s2 := hk2b.cell 2
  have s3 := hk2b.cell 3
  have n0 := hk2b.frozen 0
  have n1 := hk2b.frozen 1
  have n2 := hk2b.frozen 2
  have n3 := hk2b.frozen 3
  simp only [List.getElem?_cons_succ, List.getElem?_cons_zero] at q1 t0 t1 t2 t3 s0 s1 s2 s3
  have hF : ∀ a : Addr, A3 = some a → w.heap.size ≤ a.block ∧ a.block < w3.heap.size ∧ a.block ≠ w.heap.size ∧ a.block ≠ w.heap.size + 1 := fun a ha => by
    obtain ⟨p1, p2⟩ := hF3 a ha
    simp only [World.size_alloc] at p1
    exact ⟨by omega, p2, by omega, by omega⟩
  have hr4 := hr3.keepLt (w' := ((((w3.setCell ⟨w.heap.size, 1, none⟩ (.slice A3 dn c3)).setCell ⟨w.heap.size + 1, 0, none⟩ (.string (str ky))).setCell ⟨w.heap.size + 1, 1, none⟩ (.slice A3 dn c3)).setCell ⟨w.heap.size + 1, 2, none⟩ (.int .i64 pn)).setCell ⟨w.heap.size + 1, 3, none⟩ (.int .i64 st)) fun a ha _ => by
    obtain ⟨_, _, p3, p4⟩ := hF a ha
    rw [Below.heap_setCell _ ⟨w.heap.size + 1, 3, none⟩ _ _ p4, Below.heap_setCell _ ⟨w.heap.size + 1, 2, none⟩ _ _ p4, Below.heap_setCell _ ⟨w.heap.size + 1, 1, none⟩ _ _ p4, Below.heap_setCell _ ⟨w.heap.size + 1, 0, none⟩ _ _ p4, Below.heap_setCell _ ⟨w.heap.size, 1, none⟩ _ _ p3]
  have HF := Lib.hid hF
  have HB := Lib.hid hbC
  have HR := Lib.hid hr4
  clear hk1 hk1' hk2 hk2' hal hr hr' hr3 hr4 hown3 hb3 hbA hbB hbC hF hF3 e1 hA hz HC
  go_wp2
  refine bodyPost_ret (results_cell_row rfl _ _ (w.heap.size + 1) 57 _ (0, 0) _ rfl (hk2b.put4e _ _ _ _) Tryz.underlying57 rfl entry_size) rfl ?_
  refine ⟨⟨A3, dn, c3⟩, rfl, ⟨HR.out, hA3⟩, fun k hk => ?_, HB.out⟩
  obtain ⟨a, ha, rfl⟩ := mem_blk1.1 hk
  obtain ⟨p1, p2, _⟩ := HF.out a ha
  exact ⟨p1, by simpa using p2⟩
theorem KE.new {w : World} {base g : Nat} {t : TypeId} {hs : List (En × Hd)} {l : List En} (h : KE w base g t hs) (hm : hs.map Prod.fst = l) (hx : l.length ≤ maxLen) : KNew kEn w base (some ⟨g, 0, none⟩) l.length l.length l := by
  subst hm
  rw [List.length_map] at hx ⊢
  have hr := h.blk.rd (size := 4) (n := hs.length) (c := hs.length) (Nat.le_refl _) hx (by rw [KE.len4]; exact Nat.le_refl _)
  rw [List.take_of_length_le (by rw [KE.len4]; exact Nat.le_refl _)] at hr
  exact ⟨hs, rfl, hr, fun q => (by cases q), fun a q => (by cases q; exact ⟨h.ge, h.blk.lt⟩), fun x hx => ⟨(h.deep x hx).1, fun k hk => ⟨((h.deep x hx).2 k hk).1, ((h.deep x hx).2 k hk).2.1⟩⟩⟩
/-- the copy as the call hands it back -/
def GivesCE (l : List En) (w : World) (e : Ending) (w' : World) : Prop :=
  ∃ g hs, e = .returned (.slice (some ⟨g, 0, none⟩) l.length l.length) ∧ hs.map Prod.fst = l ∧ KE w' w.heap.size g 57 hs ∧ Below w.heap.size w w'
set_option maxRecDepth 100000 in
set_option maxHeartbeats 4000000 in
theorem icopy_any (A : Option Addr) (n c : Nat) (l : List En) (w : World) (hr : KRd kEn w A n c l) (hg : ∀ p ∈ l, p.good) (hz : n * 56 ≤ 140737488351232) :
    Calls Tryz.prog 46 #[.slice A n c] w (GivesCE l w) := by
  obtain rfl := hr.len
  obtain ⟨j0, hj0, hw0, hw1, hw2⟩ := info_parts entry_info
  have HG := Lib.hid hg
  clear hg
  have hmk : ∀ W : World, (Instr.makeSlice 26 (.int .i64 (l.length : Int)) (.int .i64 (l.length : Int))).run Tryz.prog W = .ok (.slice (some ⟨W.heap.size, 0, none⟩) l.length l.length) (W.alloc (.cells (kEn.all (List.replicate l.length ze)).toArray 57)) := fun W => by
    have h := run_make (P := Tryz.prog) W 26 57 j0 _ Tryz.underlying26 hj0 hw0 .i64 .i64 l.length l.length (by omega) (by omega) (by rw [hw2]; omega) (by omega)
    simp only [Int.toNat_natCast, hw1] at h
    rw [h]
    congr 3
    exact made_entries l.length
  have hal := (Below.refl w.heap.size w).alloc (Nat.le_refl _) (.cells (kEn.all (List.replicate l.length ze)).toArray 57)
  have hkb : KE (w.alloc (.cells (kEn.all (List.replicate l.length ze)).toArray 57)) w.heap.size w.heap.size 57 (List.replicate l.length ze) :=
    ⟨Blk.new w _ _, Nat.le_refl _, fun x hx => by
      rw [List.mem_replicate] at hx
      rw [hx.2]
      exact ⟨ze_deep _, fun k hk => by rw [ze_blocks] at hk; cases hk⟩⟩
  obtain ⟨g, hgE⟩ : ∃ g, w.heap.size = g := ⟨_, rfl⟩
  have hge : w.heap.size ≤ g := by omega
  go_enter Tryz.func46, Tryz.ntmps46
  go_wp2
  have hkb2 : KE (w.alloc (.cells (kEn.all (List.replicate l.length ze)).toArray 57)) w.heap.size g 57 (List.replicate l.length ze) := by
    rw [← hgE]; exact hkb
  clear hmk hkb
  go_loopw [4, 5, 11] (fun _ _ i wr => ∃ (k : Nat) (acc : List (En × Hd)), k ≤ l.length ∧ i = .int .i64 k ∧ Hid (acc.length = k) ∧ Hid (acc.map Prod.fst = l.take k) ∧ KE wr w.heap.size g 57 (acc ++ List.replicate (l.length - k) ze) ∧ Below w.heap.size w wr) (fun _ _ i _ => l.length - (intOf i).toNat)
  case atStart => exact ⟨0, [], Nat.zero_le _, rfl, rfl, rfl, by simpa using hkb2, hal⟩
  case round =>
    clear hkb2 hal hgE
    obtain ⟨k, acc, hk, rfl, HA, HM, hkb, hbel⟩ := hrel
    by_cases hlt : k < l.length
    · obtain ⟨b, off, D, dn, dc, rfl, hc0, hc1, hc2, hc3, hrD, hDn⟩ := (hr.below hbel).entry hlt
      have hgk := HG.out l[k] (List.getElem_mem hlt)
      have HT : Hid (l.take (k + 1) = l.take k ++ [l[k]]) := List.take_succ_eq_append_getElem hlt
      have hki : (k : Int) < (l.length : Int) := by omega
      generalize l[k] = p at *
      obtain ⟨ky, ps, pn, st⟩ := p
      simp only at hc0 hc1 hc2 hc3 hrD
      have hal := (Below.refl wr.heap.size wr).alloc (Nat.le_refl _) (.cells #[.string (str ky), .slice D dn dc, .int .i64 pn, .int .i64 st] 57)
      have HC := Lib.hid (copyEntry_any ⟨ky, ps, pn, st⟩ ⟨D, dn, dc⟩ _ ⟨hrD.below hal, hDn⟩ hgk)
      go_wp2_with fail
      with_reducible refine HC.out.mono ?_
      rintro e w5 ⟨⟨A5, n5, c5⟩, rfl, hd5, hB5, hb5⟩
      have hbF := hal.trans (hb5.mono hal.size)
      have hkb6 := hkb.below hbF
      have hgl : g < wr.heap.size := hkb.blk.lt
      have hx6 : kEn.deep w5 ⟨ky, ps, pn, st⟩ ⟨A5, n5, c5⟩ ∧ ∀ j ∈ kEn.blocks ⟨A5, n5, c5⟩, w.heap.size ≤ j ∧ j < w5.heap.size ∧ j ≠ g := by
        refine ⟨hd5, fun j hj => ?_⟩
        obtain ⟨q1, q2⟩ := hB5 j hj
        have q3 := hbel.size
        have q4 := hal.size
        exact ⟨by omega, q2, by omega⟩
      have hLl : k < (acc ++ List.replicate (l.length - k) ze).length := by rw [List.length_append, List.length_replicate]; have := HA.out; omega
      have hkb7 := hkb6.put k (⟨ky, ps, pn, st⟩, ⟨A5, n5, c5⟩) hLl hx6
      have hset : (acc ++ List.replicate (l.length - k) ze).set k (⟨ky, ps, pn, st⟩, ⟨A5, n5, c5⟩) = (acc ++ [(⟨ky, ps, pn, st⟩, ⟨A5, n5, c5⟩)]) ++ List.replicate (l.length - (k + 1)) ze := by
        have := ze_mid acc (⟨ky, ps, pn, st⟩, ⟨A5, n5, c5⟩) (l.length - k) (by omega)
        rwa [HA.out, show l.length - k - 1 = l.length - (k + 1) by omega] at this
      rw [hset] at hkb7
      have hbG := below_step hbel hbF
      have hbH := (((hbG.setCell (p := ⟨g, k * 4, none⟩) hge (.string (str ky))).setCell (p := ⟨g, k * 4 + 1, none⟩) hge (.slice A5 n5 c5)).setCell (p := ⟨g, k * 4 + 2, none⟩) hge (.int .i64 pn)).setCell (p := ⟨g, k * 4 + 3, none⟩) hge (.int .i64 st)
      have q0 := kEn.all_at _ k hLl 0 (by decide)
      have q1 := kEn.all_at _ k hLl 1 (by decide)
      have q2 := kEn.all_at _ k hLl 2 (by decide)
      have q3 := kEn.all_at _ k hLl 3 (by decide)
      generalize (acc ++ List.replicate (l.length - k) ze)[k] = zz at q0 q1 q2 q3
      have s0 := hkb6.blk.cell (k * 4)
      have s1 := hkb6.blk.cell (k * 4 + 1)
      have s2 := hkb6.blk.cell (k * 4 + 2)
      have s3 := hkb6.blk.cell (k * 4 + 3)
      have r0 : (kEn.all (acc ++ List.replicate (l.length - k) ze))[k * 4]? = some (.string (str zz.1.ky)) := q0
      have r1 : (kEn.all (acc ++ List.replicate (l.length - k) ze))[k * 4 + 1]? = some (.slice zz.2.A zz.2.n zz.2.c) := q1
      have r2 : (kEn.all (acc ++ List.replicate (l.length - k) ze))[k * 4 + 2]? = some (.int .i64 zz.1.pn) := q2
      have r3 : (kEn.all (acc ++ List.replicate (l.length - k) ze))[k * 4 + 3]? = some (.int .i64 zz.1.st) := q3
      rw [r0] at s0
      rw [r1] at s1
      rw [r2] at s2
      rw [r3] at s3
      have f0 := hkb6.blk.frozen (k * 4)
      have f1 := hkb6.blk.frozen (k * 4 + 1)
      have f2 := hkb6.blk.frozen (k * 4 + 2)
      have f3 := hkb6.blk.frozen (k * 4 + 3)
      have H7 := Lib.hid hkb7
      clear q0 q1 q2 q3 r0 r1 r2 r3 hset hkb6 hkb7 hx6 hd5 hB5 hrD hc0 hc1 hc2 hc3 hal hbF hkb HC
      go_wp2
      go_roundw
      case rel => exact ⟨k + 1, acc ++ [(⟨ky, ps, pn, st⟩, ⟨A5, n5, c5⟩)], by omega, by go_num, (by show _ = _; rw [List.length_append, HA.out]; rfl), (by show _ = _; rw [List.map_append, HM.out, HT.out]; rfl), H7.out, hbH⟩
      case measure => simp [intOf] <;> omega
    · have hkv : k = l.length := by omega
      subst hkv
      have hd2 : decide ((l.length : Int) < (l.length : Int)) = false := by simp
      go_wp2
      go_ret
      refine ⟨g, acc, rfl, ?_, by simpa using hkb, hbel⟩
      rw [HM.out, List.take_length]
end Go.Proofs.YtnadgdjaldemhaaGreatDoor
/- The landed index.place. -/
namespace Go.Proofs.YtnadgdjaldemhaaGreatDoor
open Go.RowKit Go.Shelf
/-- what the closure of the search tells -/
def notAhead (l : List En) (d : List UInt8) (i : Nat) : Bool := match l[i]? with | some x => !Op.bytesLess x.ky d | none => true
theorem notAhead_front {l : List En} {d : List UInt8} {t : Nat} (h : t < xTo l d) : notAhead l d t = false := by
  have hl : t < l.length := Nat.lt_of_lt_of_le h (xTo_le l d)
  unfold notAhead
  rw [List.getElem?_eq_getElem hl]
  simp only
  rw [xTo_front h]
  rfl
theorem notAhead_back {l : List En} (hs : SrE l) {d : List UInt8} {t : Nat} (h : xTo l d ≤ t) (hl : t < l.length) : notAhead l d t = true := by
  unfold notAhead
  rw [List.getElem?_eq_getElem hl]
  have h1 : Op.bytesLess l[t].ky d = false := by
    by_cases hne : l[t].ky = d
    · rw [hne]; exact bl_irrefl _
    · have hb := xTo_back hs hl h hne
      rw [Bool.eq_false_iff]
      intro q
      have := bl_trans hb q
      rw [bl_irrefl] at this
      cases this
  simp only
  rw [h1]
  rfl
set_option maxRecDepth 100000 in
set_option maxHeartbeats 400000 in
theorem place1_tells (A : Option Addr) (n c : Nat) (l : List En) (d : List UInt8) (V P S : Value) (g g8 : Nat) (t8 : TypeId) (w : World) (hg : g < w.heap.size) (hc : w.cell? ⟨g, 0, none⟩ = some (.slice A n c)) (hk8 : Blk w g8 t8 [.string (str d), V, P, S]) (hr : KRd kEn w A n c l) (W : World) (i : Nat) (hb : Below w.heap.size w W) (hi : i < n) :
    Calls Tryz.prog 119 (#[.int .i64 (i : Int)] ++ #[.pointer (some ⟨g, 0, none⟩), .pointer (some ⟨g8, 0, none⟩)]) W fun e w' => e = .returned (.bool (notAhead l d i)) ∧ Below w.heap.size w w' := by
  obtain rfl := hr.len
  have hrW := (hr.below hb).drew
  have hg8 := hk8.lt
  have hc8 := hk8.cell 0
  simp only [List.getElem?_cons_zero] at hc8
  have e0 : W.drew.cell? ⟨g, 0, none⟩ = some (.slice A l.length c) := (hb.cell (p := ⟨g, 0, none⟩) hg).trans hc
  have e8 : W.drew.cell? ⟨g8, 0, none⟩ = some (.string (str d)) := (hb.cell (p := ⟨g8, 0, none⟩) hg8).trans hc8
  obtain ⟨bb, off, D, dn, dc, rfl, q0, -, -, -, -, -⟩ := hrW.entry hi
  have HL : Hid (notAhead l d i = !Op.bytesLess l[i].ky d) := by show _ = _; unfold notAhead; rw [List.getElem?_eq_getElem hi]
  rw [HL.out]
  have hki : (i : Int) < (l.length : Int) := by omega
  generalize l[i].ky = x at *
  clear hr hrW hc hc8 hk8
  show Calls Tryz.prog 119 #[.int .i64 (i : Int), .pointer (some ⟨g, 0, none⟩), .pointer (some ⟨g8, 0, none⟩)] W _
  go_enter Tryz.func119, Tryz.ntmps119
  go_wp2_with fail
  go_region_law (fail)
  all_goals
    go_wp2
    go_ret
    exact ⟨rfl, hb.drew⟩
/-- placing hands back a row of the call's own -/
def GivesPl (OL : List En) (base : Nat) (w : World) (e : Ending) (w' : World) : Prop :=
  ∃ v, e = .returned v ∧ KOwn kEn w' base 57 v OL ∧ Below base w w'
theorem insertE_any (w : World) (base g g2 : Nat) (hs : List (En × Hd)) (x : En × Hd) (L i : Nat) (OL : List En) (hO : (hs.take i ++ x :: hs.drop i).map Prod.fst = OL) (hL : hs.length = L) (hL23 : L ≤ 23) (hi : i ≤ L) (hB : base ≤ w.heap.size) (h : KE w base g 57 hs) (h2 : Blk w g2 57 (kEn.cells x.1 x.2))
    (hx : kEn.deep w x.1 x.2 ∧ ∀ k ∈ kEn.blocks x.2, base ≤ k ∧ k < w.heap.size) :
    Calls Tryz.prog 120 #[.slice (some ⟨g, 0, none⟩) L L, .int .i64 (i : Int), .slice (some ⟨g2, 0, none⟩) 1 1] w fun e w' => ∃ v, e = .returned v ∧ KOwn kEn w' base 57 v OL ∧ Below w.heap.size w w' := by
  rw [← hO]
  rcases Nat.lt_or_eq_of_le hi with q | q
  · exact insert_midE w base g g2 hs x L i hL hL23 q hB h h2 hx
  · subst q
    exact insert_endE w base g g2 hs x _ hL hL23 hB h h2 hx
/-- the worlds behind the two boxes of a placing -/
structure Boxed (w : World) (base g : Nat) (hs : List (En × Hd)) (x : En) (h : Hd) (L : Nat) (W : World) : Prop where
  ke : KE W base g 57 hs
  b2 : Blk W w.heap.size 26 [.slice (some ⟨g, 0, none⟩) L L]
  b3 : Blk W (w.heap.size + 1) 57 [.string (str x.ky), .slice h.A h.n h.c, .int .i64 x.pn, .int .i64 x.st]
  dp : kEn.deep W x h ∧ ∀ k ∈ kEn.blocks h, base ≤ k ∧ k < W.heap.size ∧ k ≠ g
  bl : Below w.heap.size w W
theorem Boxed.below {w : World} {base g : Nat} {hs : List (En × Hd)} {x : En} {h : Hd} {L : Nat} {W W' : World} (H : Boxed w base g hs x h L W) (hb : Below W.heap.size W W') : Boxed w base g hs x h L W' :=
  ⟨H.ke.below hb, H.b2.below hb H.b2.lt, H.b3.below hb H.b3.lt, ⟨kEn.keep H.dp.1 fun k _ hk => hb.block k hk, fun k hk => ⟨(H.dp.2 k hk).1, Nat.lt_of_lt_of_le (H.dp.2 k hk).2.1 hb.size, (H.dp.2 k hk).2.2⟩⟩, below_step H.bl hb⟩
theorem boxed_new {w : World} {base g : Nat} {hs : List (En × Hd)} {x : En} {h : Hd} {L : Nat} (hk : KE w base g 57 hs) (hx : kEn.deep w x h ∧ ∀ k ∈ kEn.blocks h, base ≤ k ∧ k < w.heap.size ∧ k ≠ g) :
    Boxed w base g hs x h L ((w.alloc (.cells #[.slice (some ⟨g, 0, none⟩) L L] 26)).alloc (.cells #[.string (str x.ky), .slice h.A h.n h.c, .int .i64 x.pn, .int .i64 x.st] 57)) := by
  have hb := ((Below.refl w.heap.size w).alloc (Nat.le_refl _) (.cells #[.slice (some ⟨g, 0, none⟩) L L] 26)).alloc (by simp) (.cells #[.string (str x.ky), .slice h.A h.n h.c, .int .i64 x.pn, .int .i64 x.st] 57)
  refine ⟨hk.below hb, (Blk.new w _ _).alloc _, (by have := Blk.new (w.alloc (.cells #[.slice (some ⟨g, 0, none⟩) L L] 26)) 57 [.string (str x.ky), .slice h.A h.n h.c, .int .i64 x.pn, .int .i64 x.st]; simpa using this), ⟨kEn.keep hx.1 fun k _ hk => hb.block k hk, fun k hk => ⟨(hx.2 k hk).1, Nat.lt_of_lt_of_le (hx.2 k hk).2.1 hb.size, (hx.2 k hk).2.2⟩⟩, hb⟩
set_option maxRecDepth 100000 in
set_option maxHeartbeats 2000000 in
theorem place_new (w : World) (base g : Nat) (hs : List (En × Hd)) (l : List En) (x : En) (h : Hd) (hmap : hs.map Prod.fst = l) (hL : l.length ≤ 10) (hsr : SrE l) (hB : base ≤ w.heap.size) (hk : KE w base g 57 hs)
    (hx : kEn.deep w x h ∧ ∀ k ∈ kEn.blocks h, base ≤ k ∧ k < w.heap.size ∧ k ≠ g) (hn : ∀ y ∈ l, y.ky ≠ x.ky) :
    Calls Tryz.prog 83 #[.slice (some ⟨g, 0, none⟩) l.length l.length, .agg #[.string (str x.ky), .slice h.A h.n h.c, .int .i64 x.pn, .int .i64 x.st]] w (GivesPl (xIns false x l) base w) := by
  have HX : Hid (xIns false x l = l.take (xTo l x.ky) ++ x :: l.drop (xTo l x.ky)) := xIns_new hsr hn
  rw [HX.out]
  have H0 := boxed_new (L := l.length) hk hx
  have hlen : hs.length = l.length := by rw [← hmap, List.length_map]
  have hTl := xTo_le l x.ky
  have HS1 : Hid (∀ t, t < xTo l x.ky → notAhead l x.ky t = false) := fun t ht => notAhead_front ht
  have HS2 : Hid (∀ t, xTo l x.ky ≤ t → t < l.length → notAhead l x.ky t = true) := fun t h1 h2 => notAhead_back hsr h1 h2
  have HNK : Hid (∀ (q : xTo l x.ky < l.length), (l[xTo l x.ky].ky == x.ky) = false) := fun q => by rw [beq_eq_false_iff_ne]; exact hn _ (List.getElem_mem q)
  have HO : Hid ((hs.take (xTo l x.ky) ++ (x, h) :: hs.drop (xTo l x.ky)).map Prod.fst = l.take (xTo l x.ky) ++ x :: l.drop (xTo l x.ky)) := by
    show _ = _
    rw [List.map_append, List.map_cons, List.map_take, List.map_drop, hmap]
  generalize l.take (xTo l x.ky) ++ x :: l.drop (xTo l x.ky) = OL at *
  generalize xTo l x.ky = T at *
  have e2 := H0.b2.cell 0
  simp only [List.getElem?_cons_zero] at e2
  have hrd : KRd kEn ((w.alloc (.cells #[.slice (some ⟨g, 0, none⟩) l.length l.length] 26)).alloc (.cells #[.string (str x.ky), .slice h.A h.n h.c, .int .i64 x.pn, .int .i64 x.st] 57)) (some ⟨g, 0, none⟩) l.length l.length l := by
    have := H0.ke.rd (by unfold maxLen; omega)
    rwa [hmap, hlen] at this
  have hSr := search_any l.length 119 #[.pointer (some ⟨w.heap.size, 0, none⟩), .pointer (some ⟨w.heap.size + 1, 0, none⟩)] (notAhead l x.ky) _ (enters_of Tryz.func119 (by kernel_rfl) rfl) (by omega) (fun W i hW hi => place1_tells (some ⟨g, 0, none⟩) _ l.length l x.ky _ _ _ w.heap.size (w.heap.size + 1) _ _ H0.b2.lt e2 H0.b3 hrd W i hW hi) T hTl HS1.out HS2.out
  have HSr := Lib.hid hSr
  have HM := Lib.hid hmap
  clear hSr hrd hk hx hn hmap HX HS1 HS2
  go_enter Tryz.func83, Tryz.ntmps83
  go_wp2_with fail
  with_reducible refine HSr.out.mono ?_
  rintro e w5 ⟨rfl, hb5⟩
  have H5 := H0.below hb5
  clear H0 e2 HSr hb5
  have e0 := H5.b2.cell 0
  have x0 := H5.b3.cell 0
  simp only [List.getElem?_cons_zero] at e0 x0
  by_cases hT : T < l.length
  · have d1 : ((T : Int) == (l.length : Int)) = false := by rw [beq_eq_false_iff_ne]; omega
    have hki : (T : Int) < (l.length : Int) := by omega
    have hrd : KRd kEn w5 (some ⟨g, 0, none⟩) l.length l.length l := by
      have := H5.ke.rd (by unfold maxLen; omega)
      rwa [HM.out, hlen] at this
    obtain ⟨bb, off, D, dn, dc, hAA, c0, -, -, -, -, -⟩ := hrd.entry hT
    injection hAA with hAA
    injection hAA with ha1 ha2
    subst ha1 ha2
    have d2 := HNK.out hT
    rw [Nat.zero_add] at c0
    generalize l[T].ky = y at *
    clear hrd
    go_wp2_with fail
    go_quiet (fail)
    have H6 : Boxed w base g hs x h l.length (w5.drewN nq) := H5.below (below_drewN (Below.refl _ w5) nq)
    generalize w5.drewN nq = w6 at *
    clear H5 e0 x0 c0
    have e0 := H6.b2.cell 0
    have x0 := H6.b3.cell 0
    have x1 := H6.b3.cell 1
    have x2 := H6.b3.cell 2
    have x3 := H6.b3.cell 3
    simp only [List.getElem?_cons_succ, List.getElem?_cons_zero] at e0 x0 x1 x2 x3
    have hal := (Below.refl w6.heap.size w6).alloc (Nat.le_refl _) (.cells #[.string (str x.ky), .slice h.A h.n h.c, .int .i64 x.pn, .int .i64 x.st] 57)
    have H7 := H6.below hal
    have hbz := H7.bl.size
    have HI := Lib.hid (insertE_any _ base g w6.heap.size hs (x, h) l.length T OL HO.out hlen (by omega) hTl (by omega) H7.ke (Blk.new w6 _ _) ⟨H7.dp.1, fun k hk => ⟨(H7.dp.2 k hk).1, (H7.dp.2 k hk).2.1⟩⟩)
    have HB := Lib.hid (H7.bl.mono hB)
    clear H6 H7 hal HO
    go_wp2_with fail
    with_reducible refine HI.out.mono ?_
    rintro e w8 ⟨v8, rfl, hown8, hb8⟩
    go_wp2
    go_ret
    exact ⟨v8, rfl, hown8, HB.out.trans (hb8.mono (Nat.le_trans hB hbz))⟩
  · obtain rfl : T = l.length := by omega
    have d1 : ((l.length : Int) == (l.length : Int)) = true := by simp
    go_wp2_with fail
    go_quiet (fail)
    have H6 : Boxed w base g hs x h l.length (w5.drewN nq) := H5.below (below_drewN (Below.refl _ w5) nq)
    generalize w5.drewN nq = w6 at *
    clear H5 e0 x0
    have e0 := H6.b2.cell 0
    have x0 := H6.b3.cell 0
    have x1 := H6.b3.cell 1
    have x2 := H6.b3.cell 2
    have x3 := H6.b3.cell 3
    simp only [List.getElem?_cons_succ, List.getElem?_cons_zero] at e0 x0 x1 x2 x3
    have hal := (Below.refl w6.heap.size w6).alloc (Nat.le_refl _) (.cells #[.string (str x.ky), .slice h.A h.n h.c, .int .i64 x.pn, .int .i64 x.st] 57)
    have H7 := H6.below hal
    have hbz := H7.bl.size
    have HI := Lib.hid (insertE_any _ base g w6.heap.size hs (x, h) l.length l.length OL HO.out hlen (by omega) hTl (by omega) H7.ke (Blk.new w6 _ _) ⟨H7.dp.1, fun k hk => ⟨(H7.dp.2 k hk).1, (H7.dp.2 k hk).2.1⟩⟩)
    have HB := Lib.hid (H7.bl.mono hB)
    clear H6 H7 hal HO
    go_wp2_with fail
    with_reducible refine HI.out.mono ?_
    rintro e w8 ⟨v8, rfl, hown8, hb8⟩
    go_wp2
    go_ret
    exact ⟨v8, rfl, hown8, HB.out.trans (hb8.mono (Nat.le_trans hB hbz))⟩
theorem xTo_there {l : List En} (hs : SrE l) {d : List UInt8} {k : Nat} (hk : k < l.length) (he : l[k].ky = d) : xTo l d = k := by
  have h1 : xTo l d ≤ k := by
    refine Nat.le_of_not_lt fun q => ?_
    have := xTo_front q
    rw [he, bl_irrefl] at this
    cases this
  rcases Nat.lt_or_eq_of_le h1 with q | q
  · have hq : xTo l d < l.length := by omega
    have h0 : (!Op.bytesLess l[xTo l d].ky d) = true := List.findIdx_getElem (xs := l) (p := fun b : En => !Op.bytesLess b.ky d) (w := hq)
    have h2 := List.pairwise_iff_getElem.1 hs _ _ hq hk q
    rw [he] at h2
    rw [h2] at h0
    cases h0
  · exact q
set_option maxRecDepth 100000 in
set_option maxHeartbeats 2000000 in
theorem place_there (w : World) (base g : Nat) (hs : List (En × Hd)) (l : List En) (x : En) (h : Hd) (hmap : hs.map Prod.fst = l) (hL : l.length ≤ 10) (hsr : SrE l) (hB : base ≤ w.heap.size) (hk : KE w base g 57 hs)
    (hx : kEn.deep w x h ∧ ∀ k ∈ kEn.blocks h, base ≤ k ∧ k < w.heap.size ∧ k ≠ g) (T : Nat) (hT : T < l.length) (he : l[T].ky = x.ky) :
    Calls Tryz.prog 83 #[.slice (some ⟨g, 0, none⟩) l.length l.length, .agg #[.string (str x.ky), .slice h.A h.n h.c, .int .i64 x.pn, .int .i64 x.st]] w (GivesPl (xIns false x l) base w) := by
  have hTT := xTo_there hsr hT he
  have hX := xIns_there hsr hT he
  obtain ⟨y, hy⟩ : ∃ y, l[T] = y := ⟨_, rfl⟩
  rw [hy] at hX he
  have HY := Lib.hid hy
  rw [hX]
  have H0 := boxed_new (L := l.length) hk hx
  have hlen : hs.length = l.length := by rw [← hmap, List.length_map]
  have HS1 : Hid (∀ t, t < T → notAhead l x.ky t = false) := fun t ht => notAhead_front (by rw [hTT]; exact ht)
  have HS2 : Hid (∀ t, T ≤ t → t < l.length → notAhead l x.ky t = true) := fun t h1 h2 => notAhead_back hsr (by rw [hTT]; exact h1) h2
  have e2 := H0.b2.cell 0
  simp only [List.getElem?_cons_zero] at e2
  have hrd : KRd kEn ((w.alloc (.cells #[.slice (some ⟨g, 0, none⟩) l.length l.length] 26)).alloc (.cells #[.string (str x.ky), .slice h.A h.n h.c, .int .i64 x.pn, .int .i64 x.st] 57)) (some ⟨g, 0, none⟩) l.length l.length l := by
    have := H0.ke.rd (by unfold maxLen; omega)
    rwa [hmap, hlen] at this
  have hSr := search_any l.length 119 #[.pointer (some ⟨w.heap.size, 0, none⟩), .pointer (some ⟨w.heap.size + 1, 0, none⟩)] (notAhead l x.ky) _ (enters_of Tryz.func119 (by kernel_rfl) rfl) (by omega) (fun W i hW hi => place1_tells (some ⟨g, 0, none⟩) _ l.length l x.ky _ _ _ w.heap.size (w.heap.size + 1) _ _ H0.b2.lt e2 H0.b3 hrd W i hW hi) T (by omega) HS1.out HS2.out
  have HSr := Lib.hid hSr
  have HM := Lib.hid hmap
  have hgw := hk.blk.lt
  have HK := Lib.hid hk
  have HXD := Lib.hid hx
  clear hSr hrd hk hx hmap hX hy HS1 HS2 hTT
  go_enter Tryz.func83, Tryz.ntmps83
  go_wp2_with fail
  with_reducible refine HSr.out.mono ?_
  rintro e w5 ⟨rfl, hb5⟩
  have H5 := H0.below hb5
  clear H0 e2 HSr hb5
  have e0 := H5.b2.cell 0
  have x0 := H5.b3.cell 0
  simp only [List.getElem?_cons_zero] at e0 x0
  have d1 : ((T : Int) == (l.length : Int)) = false := by rw [beq_eq_false_iff_ne]; omega
  have hki : (T : Int) < (l.length : Int) := by omega
  have hrd : KRd kEn w5 (some ⟨g, 0, none⟩) l.length l.length l := by
    have := H5.ke.rd (by unfold maxLen; omega)
    rwa [HM.out, hlen] at this
  obtain ⟨bb, off, D, dn, dc, hAA, c0, -, -, -, -, -⟩ := hrd.entry hT
  injection hAA with hAA
  injection hAA with ha1 ha2
  subst ha1 ha2
  rw [Nat.zero_add] at c0
  have d2 : (x.ky == x.ky) = true := by simp
  rw [HY.out, he] at c0
  clear hrd
  go_wp2_with fail
  go_quiet (fail)
  have H6 : Boxed w base g hs x h l.length (w5.drewN nq) := H5.below (below_drewN (Below.refl _ w5) nq)
  generalize w5.drewN nq = w6 at *
  clear H5 e0 x0 c0
  have hrd : KRd kEn w6 (some ⟨g, 0, none⟩) l.length l.length l := by
    have := H6.ke.rd (by unfold maxLen; omega)
    rwa [HM.out, hlen] at this
  obtain ⟨bb, off, D, dn, dc, hAA, -, -, c2, -, -, -⟩ := hrd.entry hT
  injection hAA with hAA
  injection hAA with ha1 ha2
  subst ha1 ha2
  rw [Nat.zero_add] at c2
  have HO2 : Hid ((hs.set T (x.held y, h)).map Prod.fst = l.set T (x.held y)) := by
    show _ = _
    rw [List.map_set, HM.out]
  rw [HY.out] at c2
  clear hrd he
  have hne : g ≠ w.heap.size := by omega
  have hne1 : g ≠ w.heap.size + 1 := by omega
  have e0 := H6.b2.cell 0
  have x0 := H6.b3.cell 0
  have x1 := H6.b3.cell 1
  have x2 := H6.b3.cell 2
  have x3 := H6.b3.cell 3
  have f2 := H6.b3.frozen 2
  have hb7 := H6.bl.setCell (p := ⟨w.heap.size + 1, 2, none⟩) (by show w.heap.size ≤ w.heap.size + 1; omega) (.int .i64 y.pn)
  have hk7 := HK.out.below hb7
  have hz7 := hb7.size
  have hx7 : kEn.deep (w6.setCell ⟨w.heap.size + 1, 2, none⟩ (.int .i64 y.pn)) (x.held y) h ∧ ∀ k ∈ kEn.blocks h, base ≤ k ∧ k < (w6.setCell ⟨w.heap.size + 1, 2, none⟩ (.int .i64 y.pn)).heap.size ∧ k ≠ g :=
    ⟨kEn.keep HXD.out.1 fun k _ hk => hb7.block k hk, fun k hk => ⟨(HXD.out.2 k hk).1, Nat.lt_of_lt_of_le (HXD.out.2 k hk).2.1 hz7, (HXD.out.2 k hk).2.2⟩⟩
  have hk8 := hk7.put T (x.held y, h) (by omega) hx7
  have b37 := H6.b3.put 2 (.int .i64 y.pn)
  simp only [List.set_cons_succ, List.set_cons_zero] at b37
  have y0 := b37.cell 0
  have y1 := b37.cell 1
  have y2 := b37.cell 2
  have y3 := b37.cell 3
  have b27 := H6.b2.far (p := ⟨w.heap.size + 1, 2, none⟩) (by show w.heap.size ≠ w.heap.size + 1; omega) (.int .i64 y.pn)
  have e7 := b27.cell 0
  have hTk : T < hs.length := by omega
  have q0 := kEn.all_at hs T hTk 0 (by decide)
  have q1 := kEn.all_at hs T hTk 1 (by decide)
  have q2 := kEn.all_at hs T hTk 2 (by decide)
  have q3 := kEn.all_at hs T hTk 3 (by decide)
  generalize hs[T] = zz at q0 q1 q2 q3
  have s0 := hk7.blk.cell (T * 4)
  have s1 := hk7.blk.cell (T * 4 + 1)
  have s2 := hk7.blk.cell (T * 4 + 2)
  have s3 := hk7.blk.cell (T * 4 + 3)
  have r0 : (kEn.all hs)[T * 4]? = some (.string (str zz.1.ky)) := q0
  have r1 : (kEn.all hs)[T * 4 + 1]? = some (.slice zz.2.A zz.2.n zz.2.c) := q1
  have r2 : (kEn.all hs)[T * 4 + 2]? = some (.int .i64 zz.1.pn) := q2
  have r3 : (kEn.all hs)[T * 4 + 3]? = some (.int .i64 zz.1.st) := q3
  rw [r0] at s0
  rw [r1] at s1
  rw [r2] at s2
  rw [r3] at s3
  have g0 := hk7.blk.frozen (T * 4)
  have g1 := hk7.blk.frozen (T * 4 + 1)
  have g2 := hk7.blk.frozen (T * 4 + 2)
  have g3 := hk7.blk.frozen (T * 4 + 3)
  have b28 := (((b27.far (p := ⟨g, T * 4, none⟩) (Ne.symm hne) (.string (str x.ky))).far (p := ⟨g, T * 4 + 1, none⟩) (Ne.symm hne) (.slice h.A h.n h.c)).far (p := ⟨g, T * 4 + 2, none⟩) (Ne.symm hne) (.int .i64 y.pn)).far (p := ⟨g, T * 4 + 3, none⟩) (Ne.symm hne) (.int .i64 x.st)
  have e8 := b28.cell 0
  simp only [List.getElem?_cons_succ, List.getElem?_cons_zero] at e0 x0 x1 x2 x3 y0 y1 y2 y3 e7 e8
  have hgB := hk7.ge
  have hbF := ((((hb7.mono hB).setCell (p := ⟨g, T * 4, none⟩) hgB (.string (str x.ky))).setCell (p := ⟨g, T * 4 + 1, none⟩) hgB (.slice h.A h.n h.c)).setCell (p := ⟨g, T * 4 + 2, none⟩) hgB (.int .i64 y.pn)).setCell (p := ⟨g, T * 4 + 3, none⟩) hgB (.int .i64 x.st)
  have hkh := (hk8.kh (by rw [List.length_set]; unfold maxLen; omega)).own
  rw [HO2.out, List.length_set, hlen] at hkh
  have H8 := Lib.hid hkh
  clear q0 q1 q2 q3 r0 r1 r2 r3 hk7 hk8 hx7 b37 b27 b28 H6 hkh HO2 hb7
  go_wp2
  go_ret
  exact ⟨_, rfl, H8.out, hbF⟩
theorem place_any (w : World) (base g : Nat) (hs : List (En × Hd)) (l : List En) (x : En) (h : Hd) (hmap : hs.map Prod.fst = l) (hL : l.length ≤ 10) (hsr : SrE l) (hB : base ≤ w.heap.size) (hk : KE w base g 57 hs)
    (hx : kEn.deep w x h ∧ ∀ k ∈ kEn.blocks h, base ≤ k ∧ k < w.heap.size ∧ k ≠ g) :
    Calls Tryz.prog 83 #[.slice (some ⟨g, 0, none⟩) l.length l.length, .agg #[.string (str x.ky), .slice h.A h.n h.c, .int .i64 x.pn, .int .i64 x.st]] w (GivesPl (xIns false x l) base w) := by
  by_cases q : ∃ T, ∃ hT : T < l.length, l[T].ky = x.ky
  · obtain ⟨T, hT, he⟩ := q
    exact place_there w base g hs l x h hmap hL hsr hB hk hx T hT he
  · refine place_new w base g hs l x h hmap hL hsr hB hk hx fun y hy e => q ?_
    obtain ⟨T, hT, rfl⟩ := List.mem_iff_getElem.1 hy
    exact ⟨T, hT, e⟩
theorem xIns_good {x : En} {l : List En} (hsr : SrE l) (hg : ∀ p ∈ l, p.good) (hx : x.good) : ∀ p ∈ xIns false x l, p.good := by
  intro p hp
  by_cases q : ∃ T, ∃ hT : T < l.length, l[T].ky = x.ky
  · obtain ⟨T, hT, he⟩ := q
    rw [xIns_there hsr hT he] at hp
    rcases List.mem_or_eq_of_mem_set hp with h | rfl
    · exact hg p h
    · obtain ⟨g0, g1, g2, g3, g4⟩ := hx
      exact ⟨g0, g1, (hg _ (List.getElem_mem hT)).2.2.1, g3, g4⟩
  · have hn : ∀ y ∈ l, y.ky ≠ x.ky := fun y hy e => q (by
      obtain ⟨T, hT, rfl⟩ := List.mem_iff_getElem.1 hy
      exact ⟨T, hT, e⟩)
    rw [xIns_new hsr hn] at hp
    rcases List.mem_append.1 hp with h | h
    · exact hg p (List.mem_of_mem_take h)
    · rcases List.mem_cons.1 h with h | h
      · rw [h]; exact hx
      · exact hg p (List.mem_of_mem_drop h)
end Go.Proofs.YtnadgdjaldemhaaGreatDoor
/- The program's index: Put. -/
namespace Go.Proofs.YtnadgdjaldemhaaGreatDoor
open Go.RowKit
theorem fine_good_en {x : En} (h : x.fine) : x.good := by
  obtain ⟨h1, h2, h3, h4, h5, h6⟩ := h
  have w : ∀ n : Int, 0 ≤ n → n ≤ 1099511627776 → (Lit.int .i64 n).wf = true := fun n a b => by
    have e : (Lit.int .i64 n).wf = (decide (-9223372036854775808 ≤ n) && decide (n ≤ 9223372036854775807)) := rfl
    rw [e]; simp; omega
  have hp := psErr_zero h2
  refine ⟨?_, fun p hpm => fine_good (hp.2 p hpm), w _ h3 (by omega), w _ h5 h6, by have := hp.1; omega⟩
  have : x.ky.length = 64 := by
    unfold cErr at h1
    split at h1
    · omega
    · rename_i q; exact Classical.byContradiction q
  rw [this]; unfold maxLen; omega
set_option maxRecDepth 100000 in
set_option maxHeartbeats 1000000 in
theorem iput_no (A : Option Addr) (n c : Nat) (l : List En) (x : En) (h : Hd) (w : World) (hr : KRd kEn w A n c l) (hg : ∀ p ∈ l, p.good) (er : Int) (he : xsErr l = er) (hne : er ≠ 0) :
    Calls Tryz.prog 51 #[.slice A n c, .agg #[.string (str x.ky), .slice h.A h.n h.c, .int .i64 x.pn, .int .i64 x.st]] w (GivesEs [] er w) := by
  have hd : (er != 0) = true := by rw [bne_iff_ne]; exact hne
  have hal := (Below.refl w.heap.size w).alloc (Nat.le_refl _) (.cells #[.string (str x.ky), .slice h.A h.n h.c, .int .i64 x.pn, .int .i64 x.st] 57)
  have H := Lib.hid (icheck_any A n c l _ (hr.below hal) hg)
  have HE := Lib.hid he
  clear he hne hr
  go_enter Tryz.func51, Tryz.ntmps51
  go_wp2_with fail
  with_reducible refine H.out.mono ?_
  rw [HE.out]
  rintro e w1 ⟨rfl, hb1⟩
  go_wp2
  go_ret2
  exact givesEs_nil rfl (below_step hal hb1)
/-- the cells of the entry that is put -/
theorem putX {W : World} {g : Nat} {t : TypeId} {a b c d : Value} (h : Blk W g t [a, b, c, d]) : W.cell? ⟨g, 0, none⟩ = some a ∧ W.cell? ⟨g, 1, none⟩ = some b ∧ W.cell? ⟨g, 2, none⟩ = some c ∧ W.cell? ⟨g, 3, none⟩ = some d :=
  ⟨h.cell 0, h.cell 1, h.cell 2, h.cell 3⟩
set_option maxRecDepth 100000 in
set_option maxHeartbeats 2000000 in
theorem iput_go (A : Option Addr) (n c : Nat) (l : List En) (x : En) (h : Hd) (w : World) (hr : KRd kEn w A n c l) (hg : ∀ p ∈ l, p.good) (hx : kEn.deep w x h) (hxg : x.good) (he : xsErr l = 0) (e2 : Int) (OL : List En) (he2 : xsErr (xIns false x l) = e2) (hOL : (if e2 ≠ 0 then [] else xIns false x l) = OL) :
    Calls Tryz.prog 51 #[.slice A n c, .agg #[.string (str x.ky), .slice h.A h.n h.c, .int .i64 x.pn, .int .i64 x.st]] w (GivesEs OL e2 w) := by
  obtain rfl := hr.len
  obtain ⟨h10, -, hsr⟩ := xsErr_zero.1 he
  have hsz56 : l.length * 56 ≤ 140737488351232 := by omega
  have hal := (Below.refl w.heap.size w).alloc (Nat.le_refl _) (.cells #[.string (str x.ky), .slice h.A h.n h.c, .int .i64 x.pn, .int .i64 x.st] 57)
  have hbk := Blk.new w 57 [.string (str x.ky), .slice h.A h.n h.c, .int .i64 x.pn, .int .i64 x.st]
  have hr0 := hr.below hal
  have hx0 := kEn.keep hx fun k _ hk => hal.block k hk
  have H := Lib.hid (icheck_any A _ c l _ hr0 hg)
  have HE := Lib.hid he
  have HG := Lib.hid hg
  have HXG := Lib.hid hxg
  have HSR := Lib.hid hsr
  have HGI := Lib.hid (xIns_good hsr hg hxg)
  have HE2 := Lib.hid he2
  have HOL := Lib.hid hOL
  have HP : Hid (∀ (W : World) (base g : Nat) (hs : List (En × Hd)) (h' : Hd), hs.map Prod.fst = l → base ≤ W.heap.size → KE W base g 57 hs → (kEn.deep W x h' ∧ ∀ k ∈ kEn.blocks h', base ≤ k ∧ k < W.heap.size ∧ k ≠ g) →
      Calls Tryz.prog 83 #[.slice (some ⟨g, 0, none⟩) l.length l.length, .agg #[.string (str x.ky), .slice h'.A h'.n h'.c, .int .i64 x.pn, .int .i64 x.st]] W (GivesPl (xIns false x l) base W)) :=
    fun W base g hs h' q1 q2 q3 q4 => place_any W base g hs l x h' q1 h10 hsr q2 q3 q4
  have HCE : Hid (∀ (W : World) (h' : Hd), kEn.deep W x h' → Calls Tryz.prog 80 #[.agg #[.string (str x.ky), .slice h'.A h'.n h'.c, .int .i64 x.pn, .int .i64 x.st]] W (GivesX x W)) := fun W h' q => copyEntry_any x h' W q hxg
  clear he hr hx hg hxg hsr he2 hOL
  generalize xIns false x l = XL at *
  go_enter Tryz.func51, Tryz.ntmps51
  go_wp2_with fail
  with_reducible refine H.out.mono ?_
  rw [HE.out]
  rintro e w1 ⟨rfl, hb1⟩
  have hbA := (below_step hal hb1).drew
  have hr1 := (hr0.below hb1).drew
  have hx1 := kEn.keep (w' := w1.drew) hx0 fun k _ hk => hb1.drew.block k hk
  have kA := (hbk.below hb1 hbk.lt).drew
  have hgl := kA.lt
  have hcp := icopy_any _ _ _ _ _ hr1 HG.out hsz56
  have HCP := Lib.hid hcp
  clear hr0 hx0 H hbk hal hb1 hcp hr1
  go_wp2_with fail
  go_region_held_law (fun W => W.cell? ⟨w.heap.size, 0, none⟩ = some (.string (str x.ky)) ∧ W.cell? ⟨w.heap.size, 1, none⟩ = some (.slice h.A h.n h.c) ∧ W.cell? ⟨w.heap.size, 2, none⟩ = some (.int .i64 x.pn) ∧ W.cell? ⟨w.heap.size, 3, none⟩ = some (.int .i64 x.st))
    (first | with_reducible exact putX kA | with_reducible exact putX k7 | with_reducible exact putX k8 | with_reducible exact putX k9 | go_keep)
    (first
      | (go_at_call 46; (with_reducible refine HCP.out.mono ?_); rintro e w7 ⟨g7, hs7, rfl, hmap7, hke7, hb7⟩; have k7 := kA.below hb7 kA.lt; have hx7 := kEn.keep (w' := w7) hx1 (fun k _ hk => hb7.block k hk); have HC7 := Lib.hid (HCE.out w7 h hx7))
      | (go_at_call 80; (with_reducible refine HC7.out.mono ?_); rintro e w8 ⟨⟨A8, n8, c8⟩, rfl, hd8, hB8, hb8⟩; have k8 := k7.below hb8 k7.lt; have HP8 := Lib.hid (HP.out w8 w1.drew.heap.size g7 hs7 ⟨A8, n8, c8⟩ hmap7 (Nat.le_trans hb7.size hb8.size) (hke7.below hb8) ⟨hd8, fun k hk => ⟨Nat.le_trans hb7.size (hB8 k hk).1, (hB8 k hk).2, by have := (hB8 k hk).1; have := hke7.blk.lt; omega⟩⟩))
      | (go_at_call 83; (with_reducible refine HP8.out.mono ?_); rintro e w9 ⟨v9, rfl, hown9, hb9⟩; have k9 := k8.below hb9 hgl))
  all_goals
    have hbD := (below_step (below_step hbA hb7) hb8).trans (hb9.mono hbA.size)
    obtain ⟨A9, c9, rfl, hN9⟩ := hown9.new
    have hN := hN9.rebase hbA.size
    have HI := Lib.hid (icheck_any _ _ _ _ _ hN9.rd HGI.out)
    rw [HE2.out] at HI
    by_cases h2 : e2 = 0
    · have hd : (e2 != 0) = false := by rw [bne_eq_false_iff_eq]; exact h2
      have HO : Hid (XL = OL) := by show _ = _; rw [← HOL.out, if_neg (by omega)]
      have H0 := Lib.hid h2
      clear h2
      go_wp2_with fail
      with_reducible refine HI.out.mono ?_
      rintro e wa ⟨rfl, hba⟩
      go_wp2
      go_ret2
      rw [H0.out, ← HO.out]
      exact ⟨_, _, _, rfl, hN.below hba, below_step hbD hba⟩
    · have hd : (e2 != 0) = true := by rw [bne_iff_ne]; exact h2
      have HO : Hid ([] = OL) := by show _ = _; rw [← HOL.out, if_pos h2]
      clear h2
      go_wp2_with fail
      with_reducible refine HI.out.mono ?_
      rintro e wa ⟨rfl, hba⟩
      go_wp2
      go_ret2
      rw [← HO.out]
      exact givesEs_nil rfl (below_step hbD hba)
theorem iput_any (A : Option Addr) (n c : Nat) (l : List En) (x : En) (h : Hd) (w : World) (hr : KRd kEn w A n c l) (hg : ∀ p ∈ l, p.good) (hx : kEn.deep w x h) (hxg : x.good) :
    Calls Tryz.prog 51 #[.slice A n c, .agg #[.string (str x.ky), .slice h.A h.n h.c, .int .i64 x.pn, .int .i64 x.st]] w (GivesEs (xPut l x).2 (xPut l x).1 w) := by
  by_cases he : xsErr l = 0
  · by_cases q : xsErr (xIns false x l) = 0
    · have e : xPut l x = (0, xIns false x l) := by unfold xPut; rw [if_neg (by omega), if_neg (by omega)]
      rw [e]; exact iput_go A n c l x h w hr hg hx hxg he 0 _ q (if_neg (by omega))
    · have e : xPut l x = (xsErr (xIns false x l), []) := by unfold xPut; rw [if_neg (by omega), if_pos q]
      rw [e]; exact iput_go A n c l x h w hr hg hx hxg he _ [] rfl (if_pos q)
  · have e : xPut l x = (xsErr l, []) := by unfold xPut; rw [if_pos he]
    rw [e]; exact iput_no A n c l x h w hr hg _ rfl he
end Go.Proofs.YtnadgdjaldemhaaGreatDoor

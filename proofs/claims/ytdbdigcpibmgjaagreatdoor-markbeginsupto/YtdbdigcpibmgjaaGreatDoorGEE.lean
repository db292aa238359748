/- Texts that belong together: what the functions of the program and of the statements return. -/
import Derived.Test.YtdbdigcpibmgjaaGreatDoorGY
import Derived.Test.YtdbdigcpibmgjaaGreatDoorGX
import Derived.Test.YtdbdigcpibmgjaaGreatDoorGO
import Derived.Test.YtdbdigcpibmgjaaGreatDoorGB
import Derived.Test.YtdbdigcpibmgjaaGreatDoorGD
import Derived.Test.YtdbdigcpibmgjaaGreatDoorGP
import Derived.BigQuiet
import Derived.Test.YtdbdigcpibmgjaaGreatDoorGN
import Derived.Test.YtdbdigcpibmgjaaGreatDoorRows
import Derived.Test.YtdbdigcpibmgjaaGreatDoorGA
import Derived.Deep.RegionLaw
import Derived.IntWalk
import Derived.Laws.Rows
import Derived.RegionTactic
/- A thing that may be is one that can be. Nothing of the program. -/
namespace Go.Proofs.YtdbdigcpibmgjaaGreatDoor
open Go.RowKit
theorem i64_wf {n : Int} (h1 : -9223372036854775808 ≤ n) (h2 : n ≤ 9223372036854775807) : (Lit.int .i64 n).wf = true := by
  have e : (Lit.int .i64 n).wf = (decide (-9223372036854775808 ≤ n) && decide (n ≤ 9223372036854775807)) := rfl
  rw [e]; simp; omega
theorem fine_good_en {x : En} (h : x.fine) : x.good := by
  obtain ⟨h1, h2, h3, h4, h5, h6⟩ := h
  have w : ∀ n : Int, 0 ≤ n → n ≤ 1099511627776 → (Lit.int .i64 n).wf = true := fun n a b => by
    have e : (Lit.int .i64 n).wf = (decide (-9223372036854775808 ≤ n) && decide (n ≤ 9223372036854775807)) := rfl
    rw [e]; simp; omega
  have hp := psErr_zero h2
  refine ⟨?_, fun p hpm => fine_good (hp.2 p hpm), w _ h3 (by omega), w _ h5 h6, by have := hp.1; omega⟩
  have : x.ky.length = 64 := by
    unfold cErr at h1
    split at h1
    · omega
    · rename_i q; exact Classical.byContradiction q
  rw [this]; unfold maxLen; omega
theorem fine_good_bl {b : Bl} (h : b.fine) : b.good := by
  obtain ⟨h1, h2, h3, h4, h5⟩ := h
  refine ⟨?_, i64_wf (by omega) (by omega), by omega⟩
  have : b.dg.length = 64 := by
    unfold cErr at h1
    split at h1
    · omega
    · rename_i q; exact Classical.byContradiction q
  rw [this]; unfold maxLen; omega
end Go.Proofs.YtdbdigcpibmgjaaGreatDoor
/- The landed index.checkEntry and index.Check. -/
namespace Go.Proofs.YtdbdigcpibmgjaaGreatDoor
open Go.RowKit
theorem ck_xOne {last : List UInt8} {x : En} (h1 : cErr x.ky = 0) (h2 : nle x.ky last = false) (h3 : psErr x.ps = 0) {e : Int} (h : Ck x.pn e) :
    xOne last x = if e ≠ 0 then e else if x.st < 0 ∨ 1099511627776 < x.st then 4 else 0 := by
  unfold xOne
  rw [if_neg (by omega), if_neg (by rw [h2]; simp), if_neg (by omega)]
  unfold Ck at h
  by_cases q : x.st < 0 ∨ 1099511627776 < x.st
  · rw [if_pos (by omega), if_pos q]
    split <;> omega
  · rw [if_neg q]
    rcases h with ⟨h, rfl⟩ | ⟨h, rfl⟩ | ⟨ha, hb, rfl⟩
    · rw [if_pos (.inl h)]; simp
    · rw [if_pos (.inr (.inl h))]; simp
    · rw [if_neg (by omega)]; simp
set_option maxRecDepth 100000 in
set_option maxHeartbeats 1000000 in
theorem checkEntry_any (x : En) (D : Option Addr) (dn dc : Nat) (m : List UInt8) (w : World) (hg : x.good) (hr : Rd w 3 D dn dc (pcs x.ps)) :
    Calls Tryz.prog 99 #[.agg #[.string (str x.ky), .slice D dn dc, .int .i64 x.pn, .int .i64 x.st], .string (str m)] w fun e w' => e = .returned (.int .i64 (xOne m x)) ∧ Below w.heap.size w w' := by
  obtain ⟨g0, g1, g2, g3, g4⟩ := hg
  have hal := (Below.refl w.heap.size w).alloc (Nat.le_refl _) (.cells #[.string (str x.ky), .slice D dn dc, .int .i64 x.pn, .int .i64 x.st] 74)
  have hbk := Blk.new w 74 [.string (str x.ky), .slice D dn dc, .int .i64 x.pn, .int .i64 x.st]
  have H1 := Lib.hid (fun W : World => hcheck_all x.ky W g0)
  have H2 := Lib.hid (mcheck_any D dn dc x.ps _ (hr.below hal) g1)
  obtain ⟨ec, hck⟩ := ck_some x.pn
  have H3 := Lib.hid (fun W : World => pcheck_at x.pn ec W hck)
  have HCK := Lib.hid hck
  have HX : Hid (∀ r, (cErr x.ky ≠ 0 → r = cErr x.ky) → (cErr x.ky = 0 → nle x.ky m = true → r = 6) → (cErr x.ky = 0 → nle x.ky m = false → psErr x.ps ≠ 0 → r = psErr x.ps) → (cErr x.ky = 0 → nle x.ky m = false → psErr x.ps = 0 → r = if ec ≠ 0 then ec else if x.st < 0 ∨ 1099511627776 < x.st then 4 else 0) → r = xOne m x) := by
    show ∀ r, _ → _
    intro r q1 q2 q3 q4
    by_cases c1 : cErr x.ky = 0
    · by_cases c2 : nle x.ky m = true
      · rw [q2 c1 c2]; unfold xOne; rw [if_neg (by omega), if_pos c2]
      · have c2' : nle x.ky m = false := by simpa using c2
        by_cases c3 : psErr x.ps = 0
        · rw [q4 c1 c2' c3, ck_xOne c1 c2' c3 hck]
        · rw [q3 c1 c2' c3]; unfold xOne; rw [if_neg (by omega), if_neg c2, if_pos c3]
    · rw [q1 c1]; unfold xOne; rw [if_pos c1]
  obtain ⟨res, hres⟩ : ∃ res, Hid (xOne m x = res) := ⟨_, rfl⟩
  rw [hres.out]
  have HR : Hid (∀ r, (cErr x.ky ≠ 0 → r = cErr x.ky) → (cErr x.ky = 0 → nle x.ky m = true → r = 6) → (cErr x.ky = 0 → nle x.ky m = false → psErr x.ps ≠ 0 → r = psErr x.ps) → (cErr x.ky = 0 → nle x.ky m = false → psErr x.ps = 0 → r = if ec ≠ 0 then ec else if x.st < 0 ∨ 1099511627776 < x.st then 4 else 0) → r = res) := by
    show ∀ r, _ → _
    intro r q1 q2 q3 q4; rw [← hres.out]; exact HX.out r q1 q2 q3 q4
  have e0 := hbk.cell 0
  have e1 := hbk.cell 1
  simp only [List.getElem?_cons_succ, List.getElem?_cons_zero] at e0 e1
  clear hr hck HX hres
  by_cases c1 : cErr x.ky = 0
  · have n1 : (cErr x.ky != 0) = false := by rw [bne_eq_false_iff_eq]; exact c1
    by_cases c2 : nle x.ky m = true
    · have d2 : (Op.bytesLess x.ky m || x.ky == m) = true := c2
      have HF : Hid (6 = res) := HR.out 6 (fun q => absurd c1 q) (fun _ _ => rfl) (fun _ q => by rw [c2] at q; cases q) (fun _ q => by rw [c2] at q; cases q)
      clear c1 c2
      go_enter Tryz.func99, Tryz.ntmps99
      go_wp2_with fail
      with_reducible refine (H1.out _).mono ?_
      rintro e w1 ⟨rfl, rfl⟩
      go_wp2
      go_ret
      exact ⟨ret_int HF.out, hal⟩
    · have d2 : (Op.bytesLess x.ky m || x.ky == m) = false := by simpa [nle] using c2
      have c2' : nle x.ky m = false := by simpa using c2
      by_cases c3 : psErr x.ps = 0
      · have n3 : (psErr x.ps != 0) = false := by rw [bne_eq_false_iff_eq]; exact c3
        have HF : Hid ((if ec ≠ 0 then ec else if x.st < 0 ∨ 1099511627776 < x.st then 4 else 0) = res) := HR.out _ (fun q => absurd c1 q) (fun _ q => absurd q c2) (fun _ _ q => absurd c3 q) (fun _ _ _ => rfl)
        clear c1 c2 c2' c3 HR
        by_cases c4 : ec = 0
        · subst c4
          by_cases c5 : x.st < 0
          · have HG : Hid (4 = res) := by show _ = _; rw [← HF.out, if_neg (by simp), if_pos (.inl c5)]
            have d5 : decide (x.st < 0) = true := by simpa using c5
            clear HF c5
            go_enter Tryz.func99, Tryz.ntmps99
            go_wp2_with fail
            with_reducible refine (H1.out _).mono ?_
            rintro e w1 ⟨rfl, rfl⟩
            go_wp2_with fail
            with_reducible refine H2.out.mono ?_
            rintro e w2 ⟨rfl, hb2⟩
            have hb := hal.trans (hb2.mono hal.size)
            have hbk2 := hbk.below hb2 hbk.lt
            have f2 := hbk2.cell 2
            have f3 := hbk2.cell 3
            simp only [List.getElem?_cons_succ, List.getElem?_cons_zero] at f2 f3
            go_wp2_with fail
            with_reducible refine (H3.out _).mono ?_
            rintro e w3 ⟨rfl, rfl⟩
            go_wp2
            go_ret
            exact ⟨ret_int HG.out, hb⟩
          · have d5 : decide (x.st < 0) = false := by simpa using c5
            by_cases c6 : 1099511627776 < x.st
            · have HG : Hid (4 = res) := by show _ = _; rw [← HF.out, if_neg (by simp), if_pos (.inr c6)]
              have d6 : decide (1099511627776 < x.st) = true := by simpa using c6
              clear HF c5 c6
              go_enter Tryz.func99, Tryz.ntmps99
              go_wp2_with fail
              with_reducible refine (H1.out _).mono ?_
              rintro e w1 ⟨rfl, rfl⟩
              go_wp2_with fail
              with_reducible refine H2.out.mono ?_
              rintro e w2 ⟨rfl, hb2⟩
              have hb := hal.trans (hb2.mono hal.size)
              have hbk2 := hbk.below hb2 hbk.lt
              have f2 := hbk2.cell 2
              have f3 := hbk2.cell 3
              simp only [List.getElem?_cons_succ, List.getElem?_cons_zero] at f2 f3
              go_wp2_with fail
              with_reducible refine (H3.out _).mono ?_
              rintro e w3 ⟨rfl, rfl⟩
              go_wp2
              go_ret
              exact ⟨ret_int HG.out, hb⟩
            · have HG : Hid (0 = res) := by show _ = _; rw [← HF.out, if_neg (by simp), if_neg (by omega)]
              have d6 : decide (1099511627776 < x.st) = false := by simpa using c6
              clear HF c5 c6
              go_enter Tryz.func99, Tryz.ntmps99
              go_wp2_with fail
              with_reducible refine (H1.out _).mono ?_
              rintro e w1 ⟨rfl, rfl⟩
              go_wp2_with fail
              with_reducible refine H2.out.mono ?_
              rintro e w2 ⟨rfl, hb2⟩
              have hb := hal.trans (hb2.mono hal.size)
              have hbk2 := hbk.below hb2 hbk.lt
              have f2 := hbk2.cell 2
              have f3 := hbk2.cell 3
              simp only [List.getElem?_cons_succ, List.getElem?_cons_zero] at f2 f3
              go_wp2_with fail
              with_reducible refine (H3.out _).mono ?_
              rintro e w3 ⟨rfl, rfl⟩
              go_wp2
              go_ret
              exact ⟨ret_int HG.out, hb⟩
        · have n4 : (ec != 0) = true := by rw [bne_iff_ne]; exact c4
          have HG : Hid (ec = res) := by show _ = _; rw [← HF.out, if_pos c4]
          clear HF c4
          go_enter Tryz.func99, Tryz.ntmps99
          go_wp2_with fail
          with_reducible refine (H1.out _).mono ?_
          rintro e w1 ⟨rfl, rfl⟩
          go_wp2_with fail
          with_reducible refine H2.out.mono ?_
          rintro e w2 ⟨rfl, hb2⟩
          have hb := hal.trans (hb2.mono hal.size)
          have hbk2 := hbk.below hb2 hbk.lt
          have f2 := hbk2.cell 2
          simp only [List.getElem?_cons_succ, List.getElem?_cons_zero] at f2
          go_wp2_with fail
          with_reducible refine (H3.out _).mono ?_
          rintro e w3 ⟨rfl, rfl⟩
          go_wp2
          go_ret
          exact ⟨ret_int HG.out, hb⟩
      · have n3 : (psErr x.ps != 0) = true := by rw [bne_iff_ne]; exact c3
        have HF : Hid (psErr x.ps = res) := HR.out _ (fun q => absurd c1 q) (fun _ q => absurd q c2) (fun _ _ _ => rfl) (fun _ _ q => absurd q c3)
        clear c1 c2 c2' c3 HR
        go_enter Tryz.func99, Tryz.ntmps99
        go_wp2_with fail
        with_reducible refine (H1.out _).mono ?_
        rintro e w1 ⟨rfl, rfl⟩
        go_wp2_with fail
        with_reducible refine H2.out.mono ?_
        rintro e w2 ⟨rfl, hb2⟩
        have hb := hal.trans (hb2.mono hal.size)
        go_wp2
        go_ret
        exact ⟨ret_int HF.out, hb⟩
  · have n1 : (cErr x.ky != 0) = true := by rw [bne_iff_ne]; exact c1
    have HF : Hid (cErr x.ky = res) := HR.out _ (fun _ => rfl) (fun q => absurd q c1) (fun q => absurd q c1) (fun q => absurd q c1)
    clear c1 HR
    go_enter Tryz.func99, Tryz.ntmps99
    go_wp2_with fail
    with_reducible refine (H1.out _).mono ?_
    rintro e w1 ⟨rfl, rfl⟩
    go_wp2
    go_ret
    exact ⟨ret_int HF.out, hal⟩
set_option maxRecDepth 100000 in
set_option maxHeartbeats 400000 in
theorem icheck_big (A : Option Addr) (n c : Nat) (w : World) (h : 10 < n) (hn : n ≤ 9223372036854775807) :
    Calls Tryz.prog 64 #[.slice A n c] w fun e w' => e = .returned (.int .i64 1) ∧ w = w' := by
  go_enter Tryz.func64, Tryz.ntmps64
  go_wp2
  go_ret
  exact ⟨rfl, rfl⟩
set_option maxRecDepth 100000 in
set_option maxHeartbeats 2000000 in
theorem icheck_in (A : Option Addr) (n c : Nat) (l : List En) (w : World) (hr : KRd kEn w A n c l) (hg : ∀ p ∈ l, p.good) (h10 : n ≤ 10) :
    Calls Tryz.prog 64 #[.slice A n c] w fun e w' => e = .returned (.int .i64 (xTail [] l)) ∧ Below w.heap.size w w' := by
  obtain rfl := hr.len
  have hd : decide (10 < (l.length : Int)) = false := by simp; omega
  have HG := Lib.hid hg
  obtain ⟨er, her⟩ : ∃ er, Hid (xTail [] l = er) := ⟨_, rfl⟩
  rw [her.out]
  clear hg
  go_enter Tryz.func64, Tryz.ntmps64
  go_wp2
  go_loopw [3, 5, 6, 12] (fun s _ _ i wr => ∃ (k : Nat) (m : List UInt8), k ≤ l.length ∧ i = .int .i64 k ∧ s = .string (str m) ∧ Hid (er = xTail m (l.drop k)) ∧ Below w.heap.size w wr) (fun _ _ _ i _ => l.length - (intOf i).toNat)
  case atStart => exact ⟨0, [], Nat.zero_le _, rfl, rfl, her.out.symm, Below.refl _ _⟩
  case round =>
    obtain ⟨k, m, hk, rfl, rfl, HE, hbel⟩ := hrel
    by_cases hlt : k < l.length
    · obtain ⟨b, off, D, dn, dc, rfl, hc0, hc1, hc2, hc3, hrD, hDn⟩ := (hr.below hbel).entry hlt
      have hgk := HG.out l[k] (List.getElem_mem hlt)
      have hdk : l.drop k = l[k] :: l.drop (k + 1) := List.drop_eq_getElem_cons hlt
      have HP : Hid (er = xTail m (l[k] :: l.drop (k + 1))) := by show _ = _; rw [← hdk]; exact HE.out
      have hki : (k : Int) < (l.length : Int) := by omega
      clear hdk HE
      generalize l[k] = p at *
      have hal := (Below.refl wr.heap.size wr).alloc (Nat.le_refl _) (.cells #[.string (str p.ky), .slice D dn dc, .int .i64 p.pn, .int .i64 p.st] 74)
      have hbk := Blk.new wr 74 [.string (str p.ky), .slice D dn dc, .int .i64 p.pn, .int .i64 p.st]
      have HC := Lib.hid (checkEntry_any p D dn dc m _ hgk (hrD.below hal))
      go_wp2_with fail
      with_reducible refine HC.out.mono ?_
      rintro e w1 ⟨rfl, hb1⟩
      have hbk1 := hbk.below hb1 hbk.lt
      have hbA := below_step hbel (hal.trans (hb1.mono (by simp)))
      have e0 := hbk1.cell 0
      simp only [List.getElem?_cons_zero] at e0
      clear hbk hal hc0 hc1 hc2 hc3 hrD
      by_cases hn : xOne m p = 0
      · have n1 : (xOne m p != 0) = false := by rw [bne_eq_false_iff_eq]; exact hn
        have HF : Hid (er = xTail p.ky (l.drop (k + 1))) := by show _ = _; rw [HP.out]; exact xTail_go hn
        clear hn
        go_wp2
        go_roundw
        case rel => exact ⟨k + 1, p.ky, by omega, by go_num, rfl, HF.out, hbA⟩
        case measure => simp [intOf] <;> omega
      · have n1 : (xOne m p != 0) = true := by rw [bne_iff_ne]; exact hn
        have HF : Hid (er = xOne m p) := by show _ = _; rw [HP.out, xTail, if_pos hn]
        clear hn
        go_wp2
        go_ret
        exact ⟨ret_int HF.out.symm, hbA⟩
    · have hd2 : decide ((k : Int) < (l.length : Int)) = false := by simp; omega
      have HF : Hid (er = 0) := by show _ = _; rw [HE.out, List.drop_of_length_le (by omega)]; rfl
      go_wp2
      go_ret
      exact ⟨ret_int HF.out.symm, hbel⟩
theorem icheck_any (A : Option Addr) (n c : Nat) (l : List En) (w : World) (hr : KRd kEn w A n c l) (hg : ∀ p ∈ l, p.good) :
    Calls Tryz.prog 64 #[.slice A n c] w fun e w' => e = .returned (.int .i64 (xsErr l)) ∧ Below w.heap.size w w' := by
  have hn := hr.len
  have hc := hr.cap
  unfold maxLen at hc
  by_cases h : 10 < n
  · rw [show xsErr l = 1 from if_pos (by omega)]
    refine (icheck_big A n c w h (by omega)).mono ?_
    rintro e w' ⟨rfl, rfl⟩
    exact ⟨rfl, Below.refl _ _⟩
  · rw [show xsErr l = xTail [] l from if_neg (by omega)]
    exact icheck_in A n c l w hr hg (by omega)
end Go.Proofs.YtdbdigcpibmgjaaGreatDoor
/- A block that holds entries, known whole. Nothing of the program. -/
namespace Go.Proofs.YtdbdigcpibmgjaaGreatDoor
open Go.RowKit
/-- no entry -/
def ze : En × Hd := (⟨[], [], 0, 0⟩, ⟨none, 0, 0⟩)
theorem ze_deep (w : World) : kEn.deep w ze.1 ze.2 := ⟨Rd.nil _ _, fun _ => rfl⟩
theorem ze_blocks : kEn.blocks ze.2 = [] := rfl
theorem made_entries (n : Nat) : madeCells #[.string ByteArray.empty, .slice none 0 0, .int .i64 0, .int .i64 0] (n * 4) = (kEn.all (List.replicate n ze)).toArray := by
  apply Array.ext
  · rw [size_madeCells, List.size_toArray, kEn.all_length, List.length_replicate]; rfl
  · intro i h1 h2
    rw [size_madeCells] at h1
    obtain ⟨k, r, hr, rfl⟩ : ∃ k r, r < 4 ∧ i = k * 4 + r := ⟨i / 4, i % 4, by omega, by omega⟩
    have hk : k < (List.replicate n ze).length := by rw [List.length_replicate]; omega
    have ha := kEn.all_at (List.replicate n ze) k hk r hr
    rw [List.getElem_replicate] at ha
    have hm : (k * 4 + r) % 4 = r := by omega
    have hl : (madeCells #[.string ByteArray.empty, .slice none 0 0, .int .i64 0, .int .i64 0] (n * 4))[k * 4 + r]? = some (#[Value.string ByteArray.empty, .slice none 0 0, .int .i64 0, .int .i64 0][r]!) := by
      unfold madeCells
      rw [Array.getElem?_map, Array.getElem?_range, if_pos h1]
      show some (#[Value.string ByteArray.empty, .slice none 0 0, .int .i64 0, .int .i64 0][(k * 4 + r) % 4]!) = _
      rw [hm]
    have hx : ((kEn.all (List.replicate n ze)).toArray)[k * 4 + r]? = some (#[Value.string ByteArray.empty, .slice none 0 0, .int .i64 0, .int .i64 0][r]!) := by
      rw [List.getElem?_toArray]
      refine Eq.trans ha ?_
      match r, hr with
      | 0, _ => rfl
      | 1, _ => rfl
      | 2, _ => rfl
      | 3, _ => rfl
    rw [Array.getElem?_eq_getElem (by rw [size_madeCells]; exact h1)] at hl
    rw [Array.getElem?_eq_getElem h2] at hx
    injection hl with hl
    injection hx with hx
    rw [hl, hx]
theorem all_set4E : ∀ (l : List (En × Hd)) (k : Nat) (x : En × Hd), k < l.length → ((((kEn.all l).set (k * 4) (.string (str x.1.ky))).set (k * 4 + 1) (.slice x.2.A x.2.n x.2.c)).set (k * 4 + 2) (.int .i64 x.1.pn)).set (k * 4 + 3) (.int .i64 x.1.st) = kEn.all (l.set k x)
  | [], _, _, h => absurd h (by simp)
  | q :: r, 0, x, _ => rfl
  | q :: r, k + 1, x, h => by
    have := all_set4E r k x (by simpa using h)
    rw [List.set_cons_succ, Kin.all_cons, Kin.all_cons, ← this, show (k + 1) * 4 = k * 4 + 1 + 1 + 1 + 1 from by omega]
    show (((([_, _, _, _] ++ kEn.all r).set _ _).set _ _).set _ _).set _ _ = [_, _, _, _] ++ _
    simp
theorem ze_mid (acc : List (En × Hd)) (x : En × Hd) (n : Nat) (hn : 0 < n) : (acc ++ List.replicate n ze).set acc.length x = (acc ++ [x]) ++ List.replicate (n - 1) ze := by
  obtain ⟨m, rfl⟩ : ∃ m, n = m + 1 := ⟨n - 1, by omega⟩
  rw [List.set_append_right _ _ (Nat.le_refl _), Nat.sub_self, List.replicate_succ, List.set_cons_zero, List.append_assoc]
  rfl
/-- block g holds the entries hs, and nothing else; what they reach lies elsewhere, at the base or above -/
structure KE (w : World) (base g : Nat) (t : TypeId) (hs : List (En × Hd)) : Prop where
  blk : Blk w g t (kEn.all hs)
  ge : base ≤ g
  deep : ∀ x ∈ hs, kEn.deep w x.1 x.2 ∧ ∀ k ∈ kEn.blocks x.2, base ≤ k ∧ k < w.heap.size ∧ k ≠ g
section
variable {w w' : World} {base g : Nat} {t : TypeId} {hs : List (En × Hd)}
theorem KE.below (h : KE w base g t hs) (hb : Below w.heap.size w w') : KE w' base g t hs :=
  ⟨h.blk.below hb h.blk.lt, h.ge, fun x hx => ⟨kEn.keep (h.deep x hx).1 fun k _ hk => hb.block k hk, fun k hk => by
    obtain ⟨h1, h2, h3⟩ := (h.deep x hx).2 k hk
    exact ⟨h1, Nat.lt_of_lt_of_le h2 hb.size, h3⟩⟩⟩
theorem KE.len4 (hs : List (En × Hd)) : (kEn.all hs).length = hs.length * 4 := kEn.all_length hs
theorem KE.kh (h : KE w base g t hs) (hm : hs.length ≤ maxLen) : KH kEn w base t (.slice (some ⟨g, 0, none⟩) hs.length hs.length) hs := by
  refine ⟨⟨kEn.all_length hs, .inr ⟨g, hs.length, (kEn.all hs).toArray, rfl, h.ge, h.blk, Nat.le_refl _, hm, by rw [List.size_toArray]; exact kEn.all_length hs, ?_⟩⟩, fun x hx => ⟨(h.deep x hx).1, fun k hk => ?_⟩⟩
  · rw [List.take_of_length_le (by rw [List.toList_toArray, kEn.all_length]; exact Nat.le_refl _)]
  · obtain ⟨h1, h2, h3⟩ := (h.deep x hx).2 k hk
    exact ⟨h1, h2, fun q => h3 (by injection q with q; exact q.symm)⟩
theorem KE.rd (h : KE w base g t hs) (hm : hs.length ≤ maxLen) : KRd kEn w (some ⟨g, 0, none⟩) hs.length hs.length (hs.map Prod.fst) := by
  refine ⟨hs, rfl, ?_, fun x hx => (h.deep x hx).1⟩
  have := h.blk.rd (size := 4) (n := hs.length) (c := hs.length) (Nat.le_refl _) hm (by rw [KE.len4]; exact Nat.le_refl _)
  rwa [List.take_of_length_le (by rw [KE.len4]; exact Nat.le_refl _)] at this
/-- the same block with other cells: what lies elsewhere is kept -/
theorem KE.row (h : KE w base g t hs) (ms : List (En × Hd)) (hms : ∀ x ∈ ms, kEn.deep w x.1 x.2 ∧ ∀ k ∈ kEn.blocks x.2, base ≤ k ∧ k < w.heap.size ∧ k ≠ g) : KE (w.setRow g (kEn.all ms).toArray) base g t ms := by
  have hz : (w.setRow g (kEn.all ms).toArray).heap.size = w.heap.size := by simp [World.setRow]
  refine ⟨setRow_heap w g _ _ t _ h.blk, h.ge, fun x hx => ⟨kEn.keep (hms x hx).1 fun k hk _ => setRow_other w g k _ ((hms x hx).2 k hk).2.2, fun k hk => ?_⟩⟩
  rw [hz]
  exact (hms x hx).2 k hk
theorem KE.put (h : KE w base g t hs) (k : Nat) (x : En × Hd) (hk : k < hs.length) (hx : kEn.deep w x.1 x.2 ∧ ∀ j ∈ kEn.blocks x.2, base ≤ j ∧ j < w.heap.size ∧ j ≠ g) :
    KE ((((w.setCell ⟨g, k * 4, none⟩ (.string (str x.1.ky))).setCell ⟨g, k * 4 + 1, none⟩ (.slice x.2.A x.2.n x.2.c)).setCell ⟨g, k * 4 + 2, none⟩ (.int .i64 x.1.pn)).setCell ⟨g, k * 4 + 3, none⟩ (.int .i64 x.1.st)) base g t (hs.set k x) := by
  have hb := (((h.blk.put (k * 4) (.string (str x.1.ky))).put (k * 4 + 1) (.slice x.2.A x.2.n x.2.c)).put (k * 4 + 2) (.int .i64 x.1.pn)).put (k * 4 + 3) (.int .i64 x.1.st)
  rw [all_set4E hs k x hk] at hb
  refine ⟨hb, h.ge, fun y hy => ?_⟩
  have hy' : kEn.deep w y.1 y.2 ∧ ∀ j ∈ kEn.blocks y.2, base ≤ j ∧ j < w.heap.size ∧ j ≠ g := by
    rcases List.mem_or_eq_of_mem_set hy with q | q
    · exact h.deep y q
    · subst q; exact hx
  refine ⟨kEn.keep hy'.1 fun j hj _ => ?_, fun j hj => ?_⟩
  · have hne : j ≠ g := (hy'.2 j hj).2.2
    rw [Below.heap_setCell _ ⟨g, k * 4 + 3, none⟩ _ j hne, Below.heap_setCell _ ⟨g, k * 4 + 2, none⟩ _ j hne, Below.heap_setCell _ ⟨g, k * 4 + 1, none⟩ _ j hne, Below.heap_setCell _ ⟨g, k * 4, none⟩ _ j hne]
  · simpa using hy'.2 j hj
end
end Go.Proofs.YtdbdigcpibmgjaaGreatDoor
/- Rows of entries, known whole: parts of them, and an insertion's end. Nothing of the program but its table. -/
namespace Go.Proofs.YtdbdigcpibmgjaaGreatDoor
open Go.RowKit
theorem kown_newE {w w' : World} {base : Nat} {e : TypeId} {v : Value} {ms : List (En × Hd)} (hB : base ≤ w.heap.size) (ho : w'.ownsRow w.heap.size e 4 v ms.length (kEn.all ms)) (hm : ∀ x ∈ ms, kEn.deep w x.1 x.2 ∧ ∀ k ∈ kEn.blocks x.2, base ≤ k ∧ k < w.heap.size) (hb : Below w.heap.size w w') : KOwn kEn w' base e v (ms.map Prod.fst) := by
  refine ⟨ms, rfl, by rw [List.length_map]; exact own_base ho hB, fun x hx => ⟨kEn.keep (hm x hx).1 fun k _ hk => hb.block k hk, fun k hk => ?_⟩⟩
  obtain ⟨q1, q2⟩ := (hm x hx).2 k hk
  exact ⟨q1, Nat.lt_of_lt_of_le q2 hb.size, fun q => by have := (ho.lt k q).1; omega⟩
theorem ins_memE {ms : List (En × Hd)} {x y : En × Hd} {i : Nat} (h : y ∈ ms.take i ++ x :: ms.drop i) : y = x ∨ y ∈ ms := by
  rcases List.mem_append.1 h with h | h
  · exact .inr (List.mem_of_mem_take h)
  · rcases List.mem_cons.1 h with h | h
    · exact .inl h
    · exact .inr (List.mem_of_mem_drop h)
theorem one_rdE {w : World} {g : Nat} {t : TypeId} {x : En × Hd} (h : Blk w g t (kEn.cells x.1 x.2)) : Rd w 4 (some ⟨g, 0, none⟩) 1 1 (kEn.all [x]) := by
  rw [Kin.all_one]
  have := h.rd (size := 4) (n := 1) (c := 1) (Nat.le_refl _) (by unfold maxLen; omega) (by rw [kEn.len]; decide)
  rwa [List.take_of_length_le (by rw [kEn.len]; decide)] at this
theorem KE.take {w : World} {base g : Nat} {t : TypeId} {hs : List (En × Hd)} (h : KE w base g t hs) {i c : Nat} (hi : i ≤ hs.length) (hc : i ≤ c) (hm : c ≤ maxLen) : Rd w 4 (some ⟨g, 0, none⟩) i c (kEn.all (hs.take i)) := by
  have := h.blk.rd (size := 4) (n := i) (c := c) hc hm (by rw [KE.len4]; omega)
  rwa [show (kEn.all hs).take (i * 4) = kEn.all (hs.take i) from kEn.all_take hs i] at this
theorem KE.drop {w : World} {base g : Nat} {t : TypeId} {hs : List (En × Hd)} (h : KE w base g t hs) {i : Nat} (hm : hs.length ≤ maxLen) : Rd w 4 (some ⟨g, i * 4, none⟩) (hs.length - i) (hs.length - i) (kEn.all (hs.drop i)) := by
  refine ⟨by rw [KE.len4, List.length_drop], Nat.le_refl _, by omega, fun _ => ⟨g, i * 4, rfl, fun j v hv => ?_⟩⟩
  rw [h.blk.cell, ← hv, ← show (kEn.all hs).drop (i * 4) = kEn.all (hs.drop i) from kEn.all_drop hs i, List.getElem?_drop]
theorem ins_doneE {w3 : World} {B g3 cap3 i L M : Nat} {T : TypeId} {CUR xa y xb : List Value} {ms : List (En × Hd)} (hg : B ≤ g3) (hbk4 : Blk w3 g3 T (lay CUR (i * 4) y)) (hc : CUR.length = cap3 * 4) (hMc : M ≤ cap3) (hx : cap3 ≤ 9223372036854775807)
    (hl : Hid (lay (lay CUR (i * 4) y) ((i + 1) * 4) xb = xa ++ y ++ xb ++ CUR.drop (M * 4))) (h1 : xa.length = i * 4) (hy : y.length = 4) (hb : xb.length = (L - i) * 4) (hLM : M = L + 1) (hi : i < L) (hm : ms.length = M) (hal : kEn.all ms = xa ++ y ++ xb) :
    (w3.setRow g3 (lay (lay CUR (i * 4) y) ((i + 1) * 4) xb).toArray).ownsRow B T 4 (.slice (some ⟨g3, 0, none⟩) M cap3) ms.length (kEn.all ms) := by
  have hbk5 : Blk (w3.setRow g3 (lay (lay CUR (i * 4) y) ((i + 1) * 4) xb).toArray) g3 T (lay (lay CUR (i * 4) y) ((i + 1) * 4) xb) := setRow_heap _ g3 _ _ _ _ hbk4
  have hll : (lay CUR (i * 4) y).length = cap3 * 4 := by rw [lay_length _ _ _ (by omega)]; exact hc
  refine ⟨KE.len4 ms, .inr ⟨g3, cap3, _, by rw [hm], hg, hbk5, by rw [hm]; exact hMc, hx, ?_, ?_⟩⟩
  · rw [List.size_toArray, lay_length _ _ _ (by rw [hll, hb]; omega)]; exact hll
  · rw [List.toList_toArray, hl.out, hal, List.take_left' (by rw [List.length_append, List.length_append, h1, hb, hy, hm]; omega)]
end Go.Proofs.YtdbdigcpibmgjaaGreatDoor
/- slices.Clone of parts; the landed index.copyEntry and index.Copy. -/
namespace Go.Proofs.YtdbdigcpibmgjaaGreatDoor
open Go.RowKit
set_option maxRecDepth 100000 in
set_option maxHeartbeats 400000 in
theorem pclone_any (A : Option Addr) (n c : Nat) (l : List Prt) (w : World) (hr : Rd w 3 A n c (pcs l)) (hA : A = none → c = 0) (hz : n * 40 ≤ 140737488351232) :
    Calls Tryz.prog 150 #[.slice A n c] w fun e w' => ∃ v, e = .returned v ∧ w'.ownsRow w.heap.size 97 3 v n (pcs l) ∧ Below w.heap.size w w' := by
  obtain ⟨i0, hi0, hz0, hz1, hz2⟩ := info_parts prt_info
  rcases A with _ | a
  · have hc0 := hA rfl
    subst hc0
    obtain rfl : n = 0 := by have := hr.2.1; omega
    have hl : pcs l = [] := List.eq_nil_of_length_eq_zero (by simpa using hr.1)
    rw [hl]
    have he : ∀ w : World, (binOp .eql 67 (.slice none 0 0) (.slice none 0 0)).run Tryz.prog w = .ok (.bool true) w := fun _ => rfl
    go_enter Tryz.func150, Tryz.ntmps150
    go_wp2
    go_ret
    exact ⟨_, rfl, World.ownsRow_nil _ _ _ _, Below.refl _ _⟩
  · have hown : (w.alloc (.cells #[] 97)).ownsRow w.heap.size 97 3 (.slice (some ⟨w.heap.size, 0, none⟩) 0 0) 0 [] :=
      ⟨rfl, .inr ⟨w.heap.size, 0, #[], rfl, Nat.le_refl _, heap_alloc_new w _, Nat.le_refl _, by simp [maxLen], rfl, rfl⟩⟩
    have hb0 := (Below.refl w.heap.size w).alloc (Nat.le_refl _) (.cells #[] 97)
    have hr1 := hr.below hb0
    have he : ∀ w : World, (binOp .eql 67 (.slice (some a) n c) (.slice none 0 0)).run Tryz.prog w = .ok (.bool false) w := fun _ => rfl
    go_enter Tryz.func150, Tryz.ntmps150
    go_wp2_with (at_builtin; refine wpList_appendR rfl (.tmp 5) (.tmp 6) _ rfl Tryz.underlying67 hi0 hz0 hz1 hz2 rfl (by omega) _ 0 [] rfl hown hr1 (fun q => by (cases q)) (pcs_one l) rfl (by omega) (by unfold maxLen; omega) hb0.size ?_; rintro v1 w1 ⟨hown1, hb1⟩; rw [Nat.zero_add, List.nil_append] at hown1)
    go_ret
    exact ⟨_, rfl, hown1, hb0.trans hb1⟩
/-- an entry whose parts are the call's own -/
def GivesX (x : En) (w : World) (e : Ending) (w' : World) : Prop :=
  ∃ h : Hd, e = .returned (.agg #[.string (str x.ky), .slice h.A h.n h.c, .int .i64 x.pn, .int .i64 x.st]) ∧ kEn.deep w' x h ∧ (∀ k ∈ kEn.blocks h, w.heap.size ≤ k ∧ k < w'.heap.size) ∧ Below w.heap.size w w'
theorem entry_size : (Tryz.prog.info? 74).map (·.size) = some 4 := by kernel_rfl
theorem Blk.put4e {w : World} {g : Nat} {t : TypeId} {x0 x1 x2 x3 : Value} (h : Blk w g t [x0, x1, x2, x3]) (a b c d : Value) : Blk ((((w.setCell ⟨g, 0, none⟩ a).setCell ⟨g, 1, none⟩ b).setCell ⟨g, 2, none⟩ c).setCell ⟨g, 3, none⟩ d) g t [a, b, c, d] := by
  simpa using (((h.put 0 a).put 1 b).put 2 c).put 3 d
set_option maxRecDepth 100000 in
set_option maxHeartbeats 1000000 in
theorem copyEntry_any (x : En) (h : Hd) (w : World) (hd : kEn.deep w x h) (hg : x.good) :
    Calls Tryz.prog 102 #[.agg #[.string (str x.ky), .slice h.A h.n h.c, .int .i64 x.pn, .int .i64 x.st]] w (GivesX x w) := by
  obtain ⟨hr, hA⟩ := hd
  have hz : h.n * 40 ≤ 140737488351232 := by rw [hr.plen]; exact hg.2.2.2.2
  obtain ⟨D, dn, dc⟩ := h
  simp only at hr hA hz
  obtain ⟨ky, ps, pn, st⟩ := x
  simp only at hr
  have hal := ((Below.refl w.heap.size w).alloc (Nat.le_refl _) (.cells #[.string (str ky), .slice D dn dc, .int .i64 pn, .int .i64 st] 74)).alloc (by simp) (.cells #[.string ⟨#[]⟩, .slice none 0 0, .int .i64 0, .int .i64 0] 74)
  have hk1 := (Blk.new w 74 [.string (str ky), .slice D dn dc, .int .i64 pn, .int .i64 st]).alloc (.cells #[.string ⟨#[]⟩, .slice none 0 0, .int .i64 0, .int .i64 0] 74)
  have hk2 := Blk.new (w.alloc (.cells #[.string (str ky), .slice D dn dc, .int .i64 pn, .int .i64 st] 74)) 74 [.string ⟨#[]⟩, .slice none 0 0, .int .i64 0, .int .i64 0]
  have hr' := hr.below hal
  have e1 := hk1.cell 1
  simp only [List.getElem?_cons_succ, List.getElem?_cons_zero] at e1
  have HC := Lib.hid (pclone_any D dn dc ps _ hr' hA hz)
  go_enter Tryz.func102, Tryz.ntmps102
  go_wp2_with fail
  with_reducible refine HC.out.mono ?_
  rintro e w3 ⟨v3, rfl, hown3, hb3⟩
  obtain ⟨A3, c3, rfl, hr3, hA3, hF3⟩ := own_rdK hown3
  have hk1' := hk1.below hb3 hk1.lt
  have hk2' := hk2.below hb3 hk2.lt
  have hne : w.heap.size + 1 ≠ w.heap.size := by omega
  have hne' : w.heap.size ≠ w.heap.size + 1 := by omega
  have hsz : (w.alloc (.cells #[.string (str ky), .slice D dn dc, .int .i64 pn, .int .i64 st] 74)).heap.size = w.heap.size + 1 := by simp
  rw [hsz] at hk2'
  have hbA := below_step hal hb3
  have hk1b := hk1'.put 1 (.slice A3 dn c3)
  simp only [List.set_cons_succ, List.set_cons_zero] at hk1b
  have hk2b := hk2'.far (p := ⟨w.heap.size, 1, none⟩) hne (.slice A3 dn c3)
  have hbB := hbA.setCell (p := ⟨w.heap.size, 1, none⟩) (Nat.le_refl _) (.slice A3 dn c3)
  have hbC := (((hbB.setCell (p := ⟨w.heap.size + 1, 0, none⟩) (by show w.heap.size ≤ w.heap.size + 1; omega) (.string (str ky))).setCell (p := ⟨w.heap.size + 1, 1, none⟩) (by show w.heap.size ≤ w.heap.size + 1; omega) (.slice A3 dn c3)).setCell (p := ⟨w.heap.size + 1, 2, none⟩) (by show w.heap.size ≤ w.heap.size + 1; omega) (.int .i64 pn)).setCell (p := ⟨w.heap.size + 1, 3, none⟩) (by show w.heap.size ≤ w.heap.size + 1; omega) (.int .i64 st)
  have f1 := hk1'.frozen 1
  have q1 := hk1'.cell 1
  have t0 := hk1b.cell 0
  have t1 := hk1b.cell 1
  have t2 := hk1b.cell 2
  have t3 := hk1b.cell 3
  have s0 := hk2b.cell 0
  have s1 := hk2b.cell 1
  have s2 := hk2b.cell 2
  have s3 := hk2b.cell 3
  have n0 := hk2b.frozen 0
  have n1 := hk2b.frozen 1
  have n2 := hk2b.frozen 2
  have n3 := hk2b.frozen 3
  simp only [List.getElem?_cons_succ, List.getElem?_cons_zero] at q1 t0 t1 t2 t3 s0 s1 s2 s3
  have hF : ∀ a : Addr, A3 = some a → w.heap.size ≤ a.block ∧ a.block < w3.heap.size ∧ a.block ≠ w.heap.size ∧ a.block ≠ w.heap.size + 1 := fun a ha => by
    obtain ⟨p1, p2⟩ := hF3 a ha
    simp only [World.size_alloc] at p1
    exact ⟨by omega, p2, by omega, by omega⟩
  have hr4 := hr3.keepLt (w' := ((((w3.setCell ⟨w.heap.size, 1, none⟩ (.slice A3 dn c3)).setCell ⟨w.heap.size + 1, 0, none⟩ (.string (str ky))).setCell ⟨w.heap.size + 1, 1, none⟩ (.slice A3 dn c3)).setCell ⟨w.heap.size + 1, 2, none⟩ (.int .i64 pn)).setCell ⟨w.heap.size + 1, 3, none⟩ (.int .i64 st)) fun a ha _ => by
    obtain ⟨_, _, p3, p4⟩ := hF a ha
    rw [Below.heap_setCell _ ⟨w.heap.size + 1, 3, none⟩ _ _ p4, Below.heap_setCell _ ⟨w.heap.size + 1, 2, none⟩ _ _ p4, Below.heap_setCell _ ⟨w.heap.size + 1, 1, none⟩ _ _ p4, Below.heap_setCell _ ⟨w.heap.size + 1, 0, none⟩ _ _ p4, Below.heap_setCell _ ⟨w.heap.size, 1, none⟩ _ _ p3]
  have HF := Lib.hid hF
  have HB := Lib.hid hbC
  have HR := Lib.hid hr4
  clear hk1 hk1' hk2 hk2' hal hr hr' hr3 hr4 hown3 hb3 hbA hbB hbC hF hF3 e1 hA hz HC
  go_wp2
  refine bodyPost_ret (results_cell_row rfl _ _ (w.heap.size + 1) 74 _ (0, 0) _ rfl (hk2b.put4e _ _ _ _) Tryz.underlying74 rfl entry_size) rfl ?_
  refine ⟨⟨A3, dn, c3⟩, rfl, ⟨HR.out, hA3⟩, fun k hk => ?_, HB.out⟩
  obtain ⟨a, ha, rfl⟩ := mem_blk1.1 hk
  obtain ⟨p1, p2, _⟩ := HF.out a ha
  exact ⟨p1, by simpa using p2⟩
theorem KE.new {w : World} {base g : Nat} {t : TypeId} {hs : List (En × Hd)} {l : List En} (h : KE w base g t hs) (hm : hs.map Prod.fst = l) (hx : l.length ≤ maxLen) : KNew kEn w base (some ⟨g, 0, none⟩) l.length l.length l := by
  subst hm
  rw [List.length_map] at hx ⊢
  have hr := h.blk.rd (size := 4) (n := hs.length) (c := hs.length) (Nat.le_refl _) hx (by rw [KE.len4]; exact Nat.le_refl _)
  rw [List.take_of_length_le (by rw [KE.len4]; exact Nat.le_refl _)] at hr
  exact ⟨hs, rfl, hr, fun q => (by cases q), fun a q => (by cases q; exact ⟨h.ge, h.blk.lt⟩), fun x hx => ⟨(h.deep x hx).1, fun k hk => ⟨((h.deep x hx).2 k hk).1, ((h.deep x hx).2 k hk).2.1⟩⟩⟩
/-- the copy as the call hands it back -/
def GivesCE (l : List En) (w : World) (e : Ending) (w' : World) : Prop :=
  ∃ g hs, e = .returned (.slice (some ⟨g, 0, none⟩) l.length l.length) ∧ hs.map Prod.fst = l ∧ KE w' w.heap.size g 74 hs ∧ Below w.heap.size w w'
set_option maxRecDepth 100000 in
set_option maxHeartbeats 4000000 in
theorem icopy_any (A : Option Addr) (n c : Nat) (l : List En) (w : World) (hr : KRd kEn w A n c l) (hg : ∀ p ∈ l, p.good) (hz : n * 56 ≤ 140737488351232) :
    Calls Tryz.prog 67 #[.slice A n c] w (GivesCE l w) := by
  obtain rfl := hr.len
  obtain ⟨j0, hj0, hw0, hw1, hw2⟩ := info_parts entry_info
  have HG := Lib.hid hg
  clear hg
  have hmk : ∀ W : World, (Instr.makeSlice 23 (.int .i64 (l.length : Int)) (.int .i64 (l.length : Int))).run Tryz.prog W = .ok (.slice (some ⟨W.heap.size, 0, none⟩) l.length l.length) (W.alloc (.cells (kEn.all (List.replicate l.length ze)).toArray 74)) := fun W => by
    have h := run_make (P := Tryz.prog) W 23 74 j0 _ Tryz.underlying23 hj0 hw0 .i64 .i64 l.length l.length (by omega) (by omega) (by rw [hw2]; omega) (by omega)
    simp only [Int.toNat_natCast, hw1] at h
    rw [h]
    congr 3
    exact made_entries l.length
  have hal := (Below.refl w.heap.size w).alloc (Nat.le_refl _) (.cells (kEn.all (List.replicate l.length ze)).toArray 74)
  have hkb : KE (w.alloc (.cells (kEn.all (List.replicate l.length ze)).toArray 74)) w.heap.size w.heap.size 74 (List.replicate l.length ze) :=
    ⟨Blk.new w _ _, Nat.le_refl _, fun x hx => by
      rw [List.mem_replicate] at hx
      rw [hx.2]
      exact ⟨ze_deep _, fun k hk => by rw [ze_blocks] at hk; cases hk⟩⟩
  obtain ⟨g, hgE⟩ : ∃ g, w.heap.size = g := ⟨_, rfl⟩
  have hge : w.heap.size ≤ g := by omega
  go_enter Tryz.func67, Tryz.ntmps67
  go_wp2
  have hkb2 : KE (w.alloc (.cells (kEn.all (List.replicate l.length ze)).toArray 74)) w.heap.size g 74 (List.replicate l.length ze) := by
    rw [← hgE]; exact hkb
  clear hmk hkb
  go_loopw [4, 5, 11] (fun _ _ i wr => ∃ (k : Nat) (acc : List (En × Hd)), k ≤ l.length ∧ i = .int .i64 k ∧ Hid (acc.length = k) ∧ Hid (acc.map Prod.fst = l.take k) ∧ KE wr w.heap.size g 74 (acc ++ List.replicate (l.length - k) ze) ∧ Below w.heap.size w wr) (fun _ _ i _ => l.length - (intOf i).toNat)
  case atStart => exact ⟨0, [], Nat.zero_le _, rfl, rfl, rfl, by simpa using hkb2, hal⟩
  case round =>
    clear hkb2 hal hgE
    obtain ⟨k, acc, hk, rfl, HA, HM, hkb, hbel⟩ := hrel
    by_cases hlt : k < l.length
    · obtain ⟨b, off, D, dn, dc, rfl, hc0, hc1, hc2, hc3, hrD, hDn⟩ := (hr.below hbel).entry hlt
      have hgk := HG.out l[k] (List.getElem_mem hlt)
      have HT : Hid (l.take (k + 1) = l.take k ++ [l[k]]) := List.take_succ_eq_append_getElem hlt
      have hki : (k : Int) < (l.length : Int) := by omega
      generalize l[k] = p at *
      obtain ⟨ky, ps, pn, st⟩ := p
      simp only at hc0 hc1 hc2 hc3 hrD
      have hal := (Below.refl wr.heap.size wr).alloc (Nat.le_refl _) (.cells #[.string (str ky), .slice D dn dc, .int .i64 pn, .int .i64 st] 74)
      have HC := Lib.hid (copyEntry_any ⟨ky, ps, pn, st⟩ ⟨D, dn, dc⟩ _ ⟨hrD.below hal, hDn⟩ hgk)
      go_wp2_with fail
      with_reducible refine HC.out.mono ?_
      rintro e w5 ⟨⟨A5, n5, c5⟩, rfl, hd5, hB5, hb5⟩
      have hbF := hal.trans (hb5.mono hal.size)
      have hkb6 := hkb.below hbF
      have hgl : g < wr.heap.size := hkb.blk.lt
      have hx6 : kEn.deep w5 ⟨ky, ps, pn, st⟩ ⟨A5, n5, c5⟩ ∧ ∀ j ∈ kEn.blocks ⟨A5, n5, c5⟩, w.heap.size ≤ j ∧ j < w5.heap.size ∧ j ≠ g := by
        refine ⟨hd5, fun j hj => ?_⟩
        obtain ⟨q1, q2⟩ := hB5 j hj
        have q3 := hbel.size
        have q4 := hal.size
        exact ⟨by omega, q2, by omega⟩
      have hLl : k < (acc ++ List.replicate (l.length - k) ze).length := by rw [List.length_append, List.length_replicate]; have := HA.out; omega
      have hkb7 := hkb6.put k (⟨ky, ps, pn, st⟩, ⟨A5, n5, c5⟩) hLl hx6
      have hset : (acc ++ List.replicate (l.length - k) ze).set k (⟨ky, ps, pn, st⟩, ⟨A5, n5, c5⟩) = (acc ++ [(⟨ky, ps, pn, st⟩, ⟨A5, n5, c5⟩)]) ++ List.replicate (l.length - (k + 1)) ze := by
        have := ze_mid acc (⟨ky, ps, pn, st⟩, ⟨A5, n5, c5⟩) (l.length - k) (by omega)
        rwa [HA.out, show l.length - k - 1 = l.length - (k + 1) by omega] at this
      rw [hset] at hkb7
      have hbG := below_step hbel hbF
      have hbH := (((hbG.setCell (p := ⟨g, k * 4, none⟩) hge (.string (str ky))).setCell (p := ⟨g, k * 4 + 1, none⟩) hge (.slice A5 n5 c5)).setCell (p := ⟨g, k * 4 + 2, none⟩) hge (.int .i64 pn)).setCell (p := ⟨g, k * 4 + 3, none⟩) hge (.int .i64 st)
      have q0 := kEn.all_at _ k hLl 0 (by decide)
      have q1 := kEn.all_at _ k hLl 1 (by decide)
      have q2 := kEn.all_at _ k hLl 2 (by decide)
      have q3 := kEn.all_at _ k hLl 3 (by decide)
      generalize (acc ++ List.replicate (l.length - k) ze)[k] = zz at q0 q1 q2 q3
      have s0 := hkb6.blk.cell (k * 4)
      have s1 := hkb6.blk.cell (k * 4 + 1)
      have s2 := hkb6.blk.cell (k * 4 + 2)
      have s3 := hkb6.blk.cell (k * 4 + 3)
      have r0 : (kEn.all (acc ++ List.replicate (l.length - k) ze))[k * 4]? = some (.string (str zz.1.ky)) := q0
      have r1 : (kEn.all (acc ++ List.replicate (l.length - k) ze))[k * 4 + 1]? = some (.slice zz.2.A zz.2.n zz.2.c) := q1
      have r2 : (kEn.all (acc ++ List.replicate (l.length - k) ze))[k * 4 + 2]? = some (.int .i64 zz.1.pn) := q2
      have r3 : (kEn.all (acc ++ List.replicate (l.length - k) ze))[k * 4 + 3]? = some (.int .i64 zz.1.st) := q3
      rw [r0] at s0
      rw [r1] at s1
      rw [r2] at s2
      rw [r3] at s3
      have f0 := hkb6.blk.frozen (k * 4)
      have f1 := hkb6.blk.frozen (k * 4 + 1)
      have f2 := hkb6.blk.frozen (k * 4 + 2)
      have f3 := hkb6.blk.frozen (k * 4 + 3)
      have H7 := Lib.hid hkb7
      clear q0 q1 q2 q3 r0 r1 r2 r3 hset hkb6 hkb7 hx6 hd5 hB5 hrD hc0 hc1 hc2 hc3 hal hbF hkb HC
      go_wp2
      go_roundw
      case rel => exact ⟨k + 1, acc ++ [(⟨ky, ps, pn, st⟩, ⟨A5, n5, c5⟩)], by omega, by go_num, (by show _ = _; rw [List.length_append, HA.out]; rfl), (by show _ = _; rw [List.map_append, HM.out, HT.out]; rfl), H7.out, hbH⟩
      case measure => simp [intOf] <;> omega
    · have hkv : k = l.length := by omega
      subst hkv
      have hd2 : decide ((l.length : Int) < (l.length : Int)) = false := by simp
      go_wp2
      go_ret
      refine ⟨g, acc, rfl, ?_, by simpa using hkb, hbel⟩
      rw [HM.out, List.take_length]
end Go.Proofs.YtdbdigcpibmgjaaGreatDoor

/- The landed store: next, present. -/
import Derived.Test.YtnadgdjaldemhaaGreatDoorQZd
import Derived.Test.YtnadgdjaldemhaaGreatDoorGP
import Derived.BigQuiet
namespace Go.Proofs.YtnadgdjaldemhaaGreatDoor
open Go.RowKit
/-- what a clock's next reading is -/
def Nx (n m e : Int) : Prop := n = 1099511627776 ∧ m = 0 ∧ e = 4 ∨ 0 ≤ n ∧ n < 1099511627776 ∧ m = n + 1 ∧ e = 0
set_option maxRecDepth 100000 in
set_option maxHeartbeats 400000 in
theorem next_at (n m e : Int) (w : World) (h : Nx n m e) : Calls Tryz.prog 50 #[.int .i64 n] w fun x w' => x = .returned (.tuple #[.int .i64 m, .int .i64 e]) ∧ w = w' := by
  rcases h with ⟨rfl, rfl, rfl⟩ | ⟨h0, h5, rfl, rfl⟩
  · go_enter Tryz.func50, Tryz.ntmps50
    go_wp2
    go_ret2
    exact ⟨rfl, rfl⟩
  · have hn : (n == 1099511627776) = false := by simp; omega
    go_enter Tryz.func50, Tryz.ntmps50
    go_wp2
    go_ret2
    exact ⟨rfl, rfl⟩
set_option maxRecDepth 100000 in
set_option maxHeartbeats 2000000 in
theorem present_any (A : Option Addr) (n c : Nat) (l : List Bl) (B : Option Addr) (m d : Nat) (ps : List Prt) (w : World) (hr : KRd kBl w A n c l) (hs : Rd w 3 B m d (pcs ps)) :
    Calls Tryz.prog 49 #[.slice A n c, .slice B m d] w fun e w' => e = .returned (.int .i64 (pThere l ps)) ∧ Below w.heap.size w w' := by
  obtain rfl := hr.len
  obtain rfl := hs.plen
  have hcap := hr.cap
  have hcm := hs.2.1
  have hcx := hs.2.2.1
  unfold maxLen at hcap hcx
  obtain ⟨R, hR⟩ : ∃ R, pThere l ps = R := ⟨_, rfl⟩
  rw [hR]
  have HR : Hid (pThere l (ps.drop 0) = R) := by show _ = _; rw [List.drop_zero]; exact hR
  clear hR
  go_enter Tryz.func49, Tryz.ntmps49
  go_wp2
  go_loopw [11] (fun i wr => ∃ k : Nat, k ≤ ps.length ∧ i = .int .i64 k ∧ Hid (pThere l (ps.drop k) = R) ∧ Below w.heap.size w wr) (fun i _ => ps.length - (intOf i).toNat)
  case atStart => exact ⟨0, Nat.zero_le _, rfl, HR.out, Below.refl _ _⟩
  case round =>
    clear HR
    obtain ⟨k, hk, rfl, HK, hbel⟩ := hrel
    by_cases hlt : k < ps.length
    · obtain ⟨b2, off, rfl, c0, c1', c2⟩ := (hs.below hbel).part hlt
      have hki : (k : Int) < (ps.length : Int) := by omega
      have HP : Hid (pThere l (ps.drop k) = _) := pThere_at (bs := l) hlt
      generalize ps[k] = p at *
      have hal := (Below.refl wr.heap.size wr).alloc (Nat.le_refl _) (.cells #[.string (str p.nm), .string (str p.dg), .int .i64 p.sz] 55)
      have hbk := Blk.new wr 55 [.string (str p.nm), .string (str p.dg), .int .i64 p.sz]
      have e1 := hbk.cell 1
      simp only [List.getElem?_cons_succ, List.getElem?_cons_zero] at e1
      have hbB := below_step hbel hal
      have rr := hr.below hbB
      have HAT := Lib.hid (find_any _ _ _ l p.dg _ rr)
      have hle := bAt_le l p.dg
      by_cases hb : bAt l p.dg < l.length
      · have hfe : fErr l p.dg = 0 := if_pos hb
        have hfa : fAt l p.dg = bAt l p.dg := if_pos hb
        rw [hfe, hfa] at HAT
        have hP2 := HP.out
        rw [dif_pos hb] at hP2
        have hP3 : pThere l (ps.drop k) = if (l[bAt l p.dg].dt.length : Int) ≠ p.sz then 4 else pThere l (ps.drop (k + 1)) := hP2
        rw [HK.out] at hP3
        obtain ⟨K, hK⟩ : ∃ K, bAt l p.dg = K := ⟨_, rfl⟩
        have hbK : K < l.length := by rw [← hK]; exact hb
        have hP4 : R = if (l[K].dt.length : Int) ≠ p.sz then 4 else pThere l (ps.drop (k + 1)) := by rw [hP3]; congr 4; simp only [hK]
        rw [hK] at HAT
        have hbi : (K : Int) < (l.length : Int) := by omega
        clear HP hP2 hP3 hK hb hle hfe hfa
        go_wp2_with fail
        with_reducible refine HAT.out.mono ?_
        rintro e w2 ⟨rfl, hb2⟩
        have k2 := hbk.below hb2 hbk.lt
        have rr2 := rr.below hb2
        have hbC := below_step hbB hb2
        have e2 := k2.cell 2
        simp only [List.getElem?_cons_succ, List.getElem?_cons_zero] at e2
        obtain ⟨b, boff, D, dn, dc, rfl, ic0, ic1, ic2, ic3, hrD, -⟩ := rr2.blob hbK
        have hdl : dn = l[K].dt.length := hrD.len
        rw [← hdl] at hP4
        have HP4 := Lib.hid hP4
        clear hP4 hdl hrD ic0 ic2 ic3 rr rr2 hbk k2 HAT e1
        by_cases hz : (dn : Int) = p.sz
        · have hn : ((dn : Int) != p.sz) = false := by rw [bne_eq_false_iff_eq]; exact hz
          have HF : Hid (pThere l (ps.drop (k + 1)) = R) := by show _ = _; rw [HP4.out, if_neg (by simpa using hz)]
          go_wp2_with fail
          go_quiet (fail)
          go_wp2
          go_roundw
          case rel => exact ⟨k + 1, by omega, by go_num, HF.out, below_drewN hbC _⟩
          case measure => simp [intOf] <;> omega
        · have hn : ((dn : Int) != p.sz) = true := by rw [bne_iff_ne]; exact hz
          have HF : Hid (R = 4) := by show _ = _; rw [HP4.out, if_pos hz]
          go_wp2_with fail
          go_quiet (fail)
          go_wp2
          go_ret
          exact ⟨ret_int HF.out.symm, below_drewN hbC _⟩
      · have hfe : fErr l p.dg = 5 := if_neg hb
        have hfa : fAt l p.dg = 0 := if_neg hb
        rw [hfe, hfa] at HAT
        have hP2 := HP.out
        rw [dif_neg hb, HK.out] at hP2
        have HP2 := Lib.hid hP2
        clear HP hP2 hb rr hbk hfe hfa
        go_wp2_with fail
        with_reducible refine HAT.out.mono ?_
        rintro e w2 ⟨rfl, hb2⟩
        go_wp2
        go_ret
        exact ⟨ret_int HP2.out.symm, below_step hbB hb2⟩
    · have hd2 : decide ((k : Int) < (ps.length : Int)) = false := by rw [decide_eq_false_iff_not]; omega
      have HF : Hid (R = 0) := by show _ = _; rw [← HK.out, List.drop_of_length_le (by omega)]; rfl
      go_wp2
      go_ret
      exact ⟨ret_int HF.out.symm, hbel⟩
end Go.Proofs.YtnadgdjaldemhaaGreatDoor

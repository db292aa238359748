/- The reference's partsThere. -/
import Derived.Test.YtdbdigcpibmgjaaGreatDoorQZd
import Derived.Test.YtdbdigcpibmgjaaGreatDoorGSA
import Derived.Test.YtdbdigcpibmgjaaGreatDoorGR
import Derived.BigQuiet
namespace Go.Proofs.YtdbdigcpibmgjaaGreatDoor
open Go.RowKit
set_option maxRecDepth 100000 in
set_option maxHeartbeats 2000000 in
theorem partsThere_any (A : Option Addr) (n c : Nat) (l : List Bl) (B : Option Addr) (m d : Nat) (ps : List Prt) (w : World) (hr : KRd kBl w A n c l) (hs : Rd w 3 B m d (pcs ps)) :
    Calls Tryz.prog 74 #[.slice A n c, .slice B m d] w fun e w' => e = .returned (.int .i64 (pThere l ps)) ∧ Below w.heap.size w w' := by
  obtain rfl := hr.len
  obtain rfl := hs.plen
  have hcap := hr.cap
  have hcm := hs.2.1
  have hcx := hs.2.2.1
  unfold maxLen at hcap hcx
  obtain ⟨R, hR⟩ : ∃ R, pThere l ps = R := ⟨_, rfl⟩
  rw [hR]
  have HR : Hid (pThere l (ps.drop 0) = R) := by show _ = _; rw [List.drop_zero]; exact hR
  clear hR
  go_enter Tryz.func74, Tryz.ntmps74
  go_wp2
  go_loopw [10] (fun i wr => ∃ k : Nat, k ≤ ps.length ∧ i = .int .i64 k ∧ Hid (pThere l (ps.drop k) = R) ∧ Below w.heap.size w wr) (fun i _ => ps.length - (intOf i).toNat)
  case atStart => exact ⟨0, Nat.zero_le _, rfl, HR.out, Below.refl _ _⟩
  case round =>
    clear HR
    obtain ⟨k, hk, rfl, HK, hbel⟩ := hrel
    by_cases hlt : k < ps.length
    · obtain ⟨b2, off, rfl, c0, c1', c2⟩ := (hs.below hbel).part hlt
      have hki : (k : Int) < (ps.length : Int) := by omega
      have HP : Hid (pThere l (ps.drop k) = _) := pThere_at (bs := l) hlt
      generalize ps[k] = p at *
      have hal := (Below.refl wr.heap.size wr).alloc (Nat.le_refl _) (.cells #[.string (str p.nm), .string (str p.dg), .int .i64 p.sz] 97)
      have hbk := Blk.new wr 97 [.string (str p.nm), .string (str p.dg), .int .i64 p.sz]
      have e1 := hbk.cell 1
      have e2 := hbk.cell 2
      simp only [List.getElem?_cons_succ, List.getElem?_cons_zero] at e1 e2
      have hbB := below_step hbel hal
      have rr := hr.below hbB
      have HAT := Lib.hid (blobAt_any _ _ _ l p.dg _ rr)
      have hle := bAt_le l p.dg
      by_cases hb : bAt l p.dg < l.length
      · obtain ⟨b, boff, D, dn, dc, rfl, ic0, ic1, ic2, ic3, hrD, -⟩ := rr.blob hb
        have hdl : dn = l[bAt l p.dg].dt.length := hrD.len
        have hP2 := HP.out
        rw [dif_pos hb, ← hdl] at hP2
        have hP3 : pThere l (ps.drop k) = if (dn : Int) ≠ p.sz then 4 else pThere l (ps.drop (k + 1)) := hP2
        rw [HK.out] at hP3
        have HP3 := Lib.hid hP3
        obtain ⟨K, hK⟩ : ∃ K, bAt l p.dg = K := ⟨_, rfl⟩
        rw [hK] at HAT
        have ic1' : (wr.alloc (.cells #[.string (str p.nm), .string (str p.dg), .int .i64 p.sz] 97)).cell? ⟨b, boff + K * 4 + 1, none⟩ = some (.slice D dn dc) := by rw [← hK]; exact ic1
        have hbK : K < l.length := by rw [← hK]; exact hb
        have hbi : (K : Int) < (l.length : Int) := by omega
        have hbe : ((K : Int) == (l.length : Int)) = false := by rw [beq_eq_false_iff_ne]; omega
        clear HP hP2 hP3 hdl hrD ic0 ic1 ic2 ic3 hK hb hle rr hbk
        by_cases hz : (dn : Int) = p.sz
        · have hn : ((dn : Int) != p.sz) = false := by rw [bne_eq_false_iff_eq]; exact hz
          have HF : Hid (pThere l (ps.drop (k + 1)) = R) := by show _ = _; rw [HP3.out, if_neg (by simpa using hz)]
          go_wp2_with fail
          with_reducible refine HAT.out.mono ?_
          rintro e w2 ⟨rfl, rfl⟩
          go_wp2_with fail
          go_quiet (fail)
          go_wp2
          go_roundw
          case rel => exact ⟨k + 1, by omega, by go_num, HF.out, below_drewN hbB _⟩
          case measure => simp [intOf] <;> omega
        · have hn : ((dn : Int) != p.sz) = true := by rw [bne_iff_ne]; exact hz
          have HF : Hid (R = 4) := by show _ = _; rw [HP3.out, if_pos hz]
          go_wp2_with fail
          with_reducible refine HAT.out.mono ?_
          rintro e w2 ⟨rfl, rfl⟩
          go_wp2_with fail
          go_quiet (fail)
          go_wp2
          go_ret
          exact ⟨ret_int HF.out.symm, below_drewN hbB _⟩
      · have hbe : bAt l p.dg = l.length := by omega
        have hP2 := HP.out
        rw [dif_neg hb, HK.out] at hP2
        rw [hbe] at HAT
        have HP2 := Lib.hid hP2
        have hq : ((l.length : Int) == (l.length : Int)) = true := by simp
        clear HP hP2 hbe hb rr hbk
        go_wp2_with fail
        with_reducible refine HAT.out.mono ?_
        rintro e w2 ⟨rfl, rfl⟩
        go_wp2
        go_ret
        exact ⟨ret_int HP2.out.symm, hbB⟩
    · have hd2 : decide ((k : Int) < (ps.length : Int)) = false := by rw [decide_eq_false_iff_not]; omega
      have HF : Hid (R = 0) := by show _ = _; rw [← HK.out, List.drop_of_length_le (by omega)]; rfl
      go_wp2
      go_ret
      exact ⟨ret_int HF.out.symm, hbel⟩
end Go.Proofs.YtdbdigcpibmgjaaGreatDoor

/- Texts that belong together: what the functions of the program and of the statements return. -/
import Derived.Test.YtdbdigcpibmgjaaGreatDoorQZd
import Derived.Test.YtdbdigcpibmgjaaGreatDoorGK
import Derived.Deep.RegionHeldLaw
import Derived.Deep.CutBlock
import Derived.Deep.CutRange
import Derived.Test.YtdbdigcpibmgjaaGreatDoorGP
import Derived.BigQuiet
import Derived.Test.YtdbdigcpibmgjaaGreatDoorGEE
import Derived.Test.YtdbdigcpibmgjaaGreatDoorGY
/- A store as an argument. -/
namespace Go.Proofs.YtdbdigcpibmgjaaGreatDoor
open Go.RowKit
/-- a store as an argument: what its rows read, and that they may be -/
structure StA (w : World) (A B : Option Addr) (n c m k : Nat) (s : Sto) : Prop where
  hK : Kon w
  hr : KRd kBl w A n c s.bs
  he : KRd kEn w B m k s.es
  hA : A = none → c = 0
  hB : B = none → k = 0
  hgl : ∀ p ∈ s.bs, p.good
  hge : ∀ p ∈ s.es, p.good
  hz : n * 56 ≤ 140737488351232
  hz2 : m * 56 ≤ 140737488351232
theorem StA.below {w w' : World} {A B : Option Addr} {n c m k : Nat} {s : Sto} (h : StA w A B n c m k s) (hb : Below w.heap.size w w') : StA w' A B n c m k s :=
  ⟨h.hK.below hb, h.hr.below hb, h.he.below hb, h.hA, h.hB, h.hgl, h.hge, h.hz, h.hz2⟩
end Go.Proofs.YtdbdigcpibmgjaaGreatDoor
/- The landed store: present. -/
namespace Go.Proofs.YtdbdigcpibmgjaaGreatDoor
open Go.RowKit
set_option maxRecDepth 100000 in
set_option maxHeartbeats 2000000 in
theorem present_any (A : Option Addr) (n c : Nat) (l : List Bl) (B : Option Addr) (m d : Nat) (ps : List Prt) (w : World) (hr : KRd kBl w A n c l) (hs : Rd w 3 B m d (pcs ps)) :
    Calls Tryz.prog 101 #[.slice A n c, .slice B m d] w fun e w' => e = .returned (.int .i64 (pThere l ps)) ∧ Below w.heap.size w w' := by
  obtain rfl := hr.len
  obtain rfl := hs.plen
  have hcap := hr.cap
  have hcm := hs.2.1
  have hcx := hs.2.2.1
  unfold maxLen at hcap hcx
  obtain ⟨R, hR⟩ : ∃ R, pThere l ps = R := ⟨_, rfl⟩
  rw [hR]
  have HR : Hid (pThere l (ps.drop 0) = R) := by show _ = _; rw [List.drop_zero]; exact hR
  clear hR
  go_enter Tryz.func101, Tryz.ntmps101
  go_wp2
  go_loopw [11] (fun i wr => ∃ k : Nat, k ≤ ps.length ∧ i = .int .i64 k ∧ Hid (pThere l (ps.drop k) = R) ∧ Below w.heap.size w wr) (fun i _ => ps.length - (intOf i).toNat)
  case atStart => exact ⟨0, Nat.zero_le _, rfl, HR.out, Below.refl _ _⟩
  case round =>
    clear HR
    obtain ⟨k, hk, rfl, HK, hbel⟩ := hrel
    by_cases hlt : k < ps.length
    · obtain ⟨b2, off, rfl, c0, c1', c2⟩ := (hs.below hbel).part hlt
      have hki : (k : Int) < (ps.length : Int) := by omega
      have HP : Hid (pThere l (ps.drop k) = _) := pThere_at (bs := l) hlt
      generalize ps[k] = p at *
      have hal := (Below.refl wr.heap.size wr).alloc (Nat.le_refl _) (.cells #[.string (str p.nm), .string (str p.dg), .int .i64 p.sz] 97)
      have hbk := Blk.new wr 97 [.string (str p.nm), .string (str p.dg), .int .i64 p.sz]
      have e1 := hbk.cell 1
      simp only [List.getElem?_cons_succ, List.getElem?_cons_zero] at e1
      have hbB := below_step hbel hal
      have rr := hr.below hbB
      have HAT := Lib.hid (find_any _ _ _ l p.dg _ rr)
      have hle := bAt_le l p.dg
      by_cases hb : bAt l p.dg < l.length
      · have hfe : fErr l p.dg = 0 := if_pos hb
        have hfa : fAt l p.dg = bAt l p.dg := if_pos hb
        rw [hfe, hfa] at HAT
        have hP2 := HP.out
        rw [dif_pos hb] at hP2
        have hP3 : pThere l (ps.drop k) = if (l[bAt l p.dg].dt.length : Int) ≠ p.sz then 4 else pThere l (ps.drop (k + 1)) := hP2
        rw [HK.out] at hP3
        obtain ⟨K, hK⟩ : ∃ K, bAt l p.dg = K := ⟨_, rfl⟩
        have hbK : K < l.length := by rw [← hK]; exact hb
        have hP4 : R = if (l[K].dt.length : Int) ≠ p.sz then 4 else pThere l (ps.drop (k + 1)) := by rw [hP3]; congr 4; simp only [hK]
        rw [hK] at HAT
        have hbi : (K : Int) < (l.length : Int) := by omega
        clear HP hP2 hP3 hK hb hle hfe hfa
        go_wp2_with fail
        with_reducible refine HAT.out.mono ?_
        rintro e w2 ⟨rfl, hb2⟩
        have k2 := hbk.below hb2 hbk.lt
        have rr2 := rr.below hb2
        have hbC := below_step hbB hb2
        have e2 := k2.cell 2
        simp only [List.getElem?_cons_succ, List.getElem?_cons_zero] at e2
        obtain ⟨b, boff, D, dn, dc, rfl, ic0, ic1, ic2, ic3, hrD, -⟩ := rr2.blob hbK
        have hdl : dn = l[K].dt.length := hrD.len
        rw [← hdl] at hP4
        have HP4 := Lib.hid hP4
        clear hP4 hdl hrD ic0 ic2 ic3 rr rr2 hbk k2 HAT e1
        by_cases hz : (dn : Int) = p.sz
        · have hn : ((dn : Int) != p.sz) = false := by rw [bne_eq_false_iff_eq]; exact hz
          have HF : Hid (pThere l (ps.drop (k + 1)) = R) := by show _ = _; rw [HP4.out, if_neg (by simpa using hz)]
          go_wp2_with fail
          go_quiet (fail)
          go_wp2
          go_roundw
          case rel => exact ⟨k + 1, by omega, by go_num, HF.out, below_drewN hbC _⟩
          case measure => simp [intOf] <;> omega
        · have hn : ((dn : Int) != p.sz) = true := by rw [bne_iff_ne]; exact hz
          have HF : Hid (R = 4) := by show _ = _; rw [HP4.out, if_pos hz]
          go_wp2_with fail
          go_quiet (fail)
          go_wp2
          go_ret
          exact ⟨ret_int HF.out.symm, below_drewN hbC _⟩
      · have hfe : fErr l p.dg = 5 := if_neg hb
        have hfa : fAt l p.dg = 0 := if_neg hb
        rw [hfe, hfa] at HAT
        have hP2 := HP.out
        rw [dif_neg hb, HK.out] at hP2
        have HP2 := Lib.hid hP2
        clear HP hP2 hb rr hbk hfe hfa
        go_wp2_with fail
        with_reducible refine HAT.out.mono ?_
        rintro e w2 ⟨rfl, hb2⟩
        go_wp2
        go_ret
        exact ⟨ret_int HP2.out.symm, below_step hbB hb2⟩
    · have hd2 : decide ((k : Int) < (ps.length : Int)) = false := by rw [decide_eq_false_iff_not]; omega
      have HF : Hid (R = 0) := by show _ = _; rw [← HK.out, List.drop_of_length_le (by omega)]; rfl
      go_wp2
      go_ret
      exact ⟨ret_int HF.out.symm, hbel⟩
end Go.Proofs.YtdbdigcpibmgjaaGreatDoor
/- A variable that holds a store; a store in letters as an argument. -/
namespace Go.Proofs.YtdbdigcpibmgjaaGreatDoor
open Go.RowKit
/-- a variable of the call's own holds a store -/
def SVar (w0 : World) (L : List Bl) (M : List En) (r t : Int) (v : Value) (wx : World) : Prop :=
  ∃ g A c B d, v = .pointer (some ⟨g, 0, none⟩) ∧ Blk wx g 25 [.slice A L.length c, .slice B M.length d, .int .i64 r, .int .i64 t] ∧ KNew kBl wx w0.heap.size A L.length c L ∧ KNew kEn wx w0.heap.size B M.length d M ∧ w0.heap.size ≤ g ∧ Below w0.heap.size w0 wx
theorem st_new {w0 w3 : World} {base c d : Nat} {A B : Option Addr} {L : List Bl} {M : List En} {r t : Int} (hB : Below w0.heap.size w0 w3) (hN : KNew kBl w3 base A L.length c L) (hM : KNew kEn w3 base B M.length d M) (hb : w0.heap.size ≤ base) :
    SVar w0 L M r t (.pointer (some ⟨w3.heap.size, 0, none⟩)) (w3.alloc (.cells #[.slice A L.length c, .slice B M.length d, .int .i64 r, .int .i64 t] 25)) :=
  ⟨_, _, _, _, _, rfl, Blk.new w3 25 [.slice A L.length c, .slice B M.length d, .int .i64 r, .int .i64 t], (hN.below ((Below.refl _ _).alloc (Nat.le_refl _) _)).rebase hb, (hM.below ((Below.refl _ _).alloc (Nat.le_refl _) _)).rebase hb, hB.size, hB.alloc hB.size _⟩
theorem st_put {w0 w3 : World} {base c d g : Nat} {A B : Option Addr} {L : List Bl} {M : List En} {r t : Int} {x0 x1 x2 x3 : Value} (z : Blk w3 g 25 [x0, x1, x2, x3]) (hg : w0.heap.size ≤ g) (hgb : g < base) (hB : Below w0.heap.size w0 w3) (hN : KNew kBl w3 base A L.length c L) (hM : KNew kEn w3 base B M.length d M) (hb : w0.heap.size ≤ base) :
    SVar w0 L M r t (.pointer (some ⟨g, 0, none⟩)) ((((w3.setCell ⟨g, 0, none⟩ (.slice A L.length c)).setCell ⟨g, 1, none⟩ (.slice B M.length d)).setCell ⟨g, 2, none⟩ (.int .i64 r)).setCell ⟨g, 3, none⟩ (.int .i64 t)) :=
  ⟨_, _, _, _, _, rfl, z.put4s _ _ _ _, (hN.set4s hgb _ _ _ _).rebase hb, (hM.set4s hgb _ _ _ _).rebase hb, hg, below4s hB hg _ _ _ _⟩
/-- what two variables hold -/
theorem s8 {W : World} {g q : Nat} {t t' : TypeId} {a b c d a' b' c' d' : Value} (h : Blk W g t [a, b, c, d]) (k : Blk W q t' [a', b', c', d']) :
    W.cell? ⟨g, 0, none⟩ = some a ∧ W.cell? ⟨g, 1, none⟩ = some b ∧ W.cell? ⟨g, 2, none⟩ = some c ∧ W.cell? ⟨g, 3, none⟩ = some d ∧ W.cell? ⟨q, 0, none⟩ = some a' ∧ W.cell? ⟨q, 1, none⟩ = some b' ∧ W.cell? ⟨q, 2, none⟩ = some c' ∧ W.cell? ⟨q, 3, none⟩ = some d' :=
  ⟨h.cell 0, h.cell 1, h.cell 2, h.cell 3, k.cell 0, k.cell 1, k.cell 2, k.cell 3⟩
theorem sta_of {w : World} {A B : Option Addr} {n c m k : Nat} {L : List Bl} {M : List En} {r t : Int} (hK : Kon w) (hr : KRd kBl w A n c L) (he : KRd kEn w B m k M) (hA : A = none → c = 0) (hB : B = none → k = 0) (h : (⟨L, M, r, t⟩ : Sto).ok) : StA w A B n c m k ⟨L, M, r, t⟩ := by
  have hb := bsErr_zero.1 h.be
  have hx := xsErr_zero.1 h.xe
  have h1 := hr.len
  have h2 := he.len
  have h3 : L.length ≤ 24 := hb.1
  have h4 : M.length ≤ 10 := hx.1
  exact ⟨hK, hr, he, hA, hB, fun p hp => fine_good_bl (hb.2.1 p hp), fun p hp => fine_good_en (hx.2.1 p hp), by omega, by omega⟩
end Go.Proofs.YtdbdigcpibmgjaaGreatDoor

/- Texts that belong together: what the functions of the program and of the statements return. -/
import Derived.Test.YtdbdigcpibmgjaaGreatDoorRows
import Derived.Test.YtdbdigcpibmgjaaGreatDoorGO
import Derived.Test.YtdbdigcpibmgjaaGreatDoorGQ
import Derived.Lib.Hide
import Derived.IntWalk
import Derived.Test.YtdbdigcpibmgjaaGreatDoorGB
import Derived.Test.YtdbdigcpibmgjaaGreatDoorGM
import Derived.Test.YtdbdigcpibmgjaaGreatDoorGX
import Derived.Test.YtdbdigcpibmgjaaGreatDoorGA
import Derived.Deep.RegionHeldLaw
import Derived.Test.YtdbdigcpibmgjaaGreatDoorGN
/- The reference's BlobAt. -/
namespace Go.Proofs.YtdbdigcpibmgjaaGreatDoor
open Go.RowKit
set_option maxRecDepth 100000 in
set_option maxHeartbeats 1000000 in
theorem blobAt_any (A : Option Addr) (n c : Nat) (l : List Bl) (d : List UInt8) (w : World) (hr : KRd kBl w A n c l) :
    Calls Tryz.prog 40 #[.slice A n c, .string (str d)] w fun e w' => e = .returned (.int .i64 (bAt l d : Int)) ∧ w = w' := by
  obtain rfl := hr.len
  have hc := hr.cap
  unfold maxLen at hc
  obtain ⟨K, hK⟩ : ∃ K, bAt l d = K := ⟨_, rfl⟩
  have HK := Lib.hid hK
  rw [hK]
  clear hK
  go_enter Tryz.func40, Tryz.ntmps40
  go_wp2
  go_loop [5] (fun i => ∃ k : Nat, k ≤ l.length ∧ i = .int .i64 k ∧ Hid (∀ j (h : j < l.length), j < k → l[j].dg ≠ d)) (fun i => l.length - (intOf i).toNat)
  case atStart => exact ⟨0, Nat.zero_le _, rfl, fun j _ h => absurd h (by omega)⟩
  case round =>
    obtain ⟨k, hk, rfl, HA⟩ := hrel
    by_cases hlt : k < l.length
    · obtain ⟨b, off, D, dn, dc, rfl, hc0, -, -, -, -, -⟩ := hr.blob hlt
      have hki : (k : Int) < (l.length : Int) := by omega
      have d1 : decide ((k : Int) < (l.length : Int)) = true := by simpa using hki
      by_cases he : l[k].dg = d
      · have q1 : (l[k].dg == d) = true := by rw [beq_iff_eq]; exact he
        have HF : Hid (K = k) := by show _ = _; rw [← HK.out]; exact bAt_eq hk HA.out (fun _ => he)
        clear he
        generalize l[k].dg = x at *
        go_wp2
        go_ret
        exact ⟨ret_int (by rw [HF.out]), rfl⟩
      · have q1 : (l[k].dg == d) = false := by rw [beq_eq_false_iff_ne]; exact he
        have HN : Hid (∀ j (h : j < l.length), j < k + 1 → l[j].dg ≠ d) := fun j h hj => by
          rcases Nat.lt_or_eq_of_le (Nat.le_of_lt_succ hj) with q | q
          · exact HA.out j h q
          · subst q; exact he
        clear he
        generalize l[k].dg = x at *
        go_wp2
        go_round
        case rel => exact ⟨k + 1, by omega, by go_num, HN.out⟩
        case measure => simp [intOf] <;> omega
    · have d1 : decide ((k : Int) < (l.length : Int)) = false := by simp; omega
      have HF : Hid (K = k) := by show _ = _; rw [← HK.out]; exact bAt_eq hk HA.out (fun h => absurd h hlt)
      go_wp2
      go_ret
      exact ⟨ret_int (by rw [HF.out]), rfl⟩
end Go.Proofs.YtdbdigcpibmgjaaGreatDoor
/- The reference's BlobFault, BlobsFault and BlobAt. -/
namespace Go.Proofs.YtdbdigcpibmgjaaGreatDoor
open Go.RowKit
set_option maxRecDepth 100000 in
set_option maxHeartbeats 1000000 in
theorem blobFault_any (b : Bl) (D : Option Addr) (m d : Nat) (w : World) (hr : Rd w 1 D m d (b.dt.map bv8)) (hA : D = none → d = 0) (hg : b.good) :
    Calls Tryz.prog 114 #[.agg #[.string (str b.dg), .slice D m d, .int .i64 b.pn, .bool b.mr]] w fun e w' => e = .returned (.int .i64 (bErr b)) ∧ Below w.heap.size w w' := by
  obtain ⟨er, her⟩ : ∃ er, Hid (bErr b = er) := ⟨_, rfl⟩
  rw [her.out]
  obtain ⟨g0, g1, -⟩ := hg
  have hcm := hr.2.1
  have hcx := hr.2.2.1
  unfold maxLen at hcx
  have HL := Lib.hid hr.len
  have hal := (Below.refl w.heap.size w).alloc (Nat.le_refl _) (.cells #[.string (str b.dg), .slice D m d, .int .i64 b.pn, .bool b.mr] 45)
  have hbk := Blk.new w 45 [.string (str b.dg), .slice D m d, .int .i64 b.pn, .bool b.mr]
  have HB : Hid (bErr b = if cErr b.dg ≠ 0 then cErr b.dg else if 300 < b.dt.length then 1 else if dig b.dt ≠ b.dg then 9 else if b.pn < 0 ∨ 5 < b.pn then 4 else 0) := rfl
  rw [her.out] at HB
  obtain ⟨dgs, dts, pn, mr⟩ := b
  simp only at *
  have e0 := hbk.cell 0
  simp only [List.getElem?_cons_zero] at e0
  go_enter Tryz.func114, Tryz.ntmps114
  go_wp2_with fail
  with_reducible refine (hexFault_all _ _ g0).mono ?_
  rintro e w1 ⟨rfl, hb1⟩
  have hbk1 := hbk.below hb1 hbk.lt
  have hbA := hal.trans (hb1.mono hal.size)
  have hr1 := hr.below hbA
  clear e0 hbk hal hb1 hr
  have e0 := hbk1.cell 0
  have e1 := hbk1.cell 1
  have e2 := hbk1.cell 2
  simp only [List.getElem?_cons_succ, List.getElem?_cons_zero] at e0 e1 e2
  by_cases hc : cErr dgs = 0
  · have c1 : (cErr dgs != 0) = false := by rw [bne_eq_false_iff_eq]; exact hc
    have hB := HB.out
    rw [if_neg (by omega)] at hB
    have HC := Lib.hid hB
    clear hc hB HB
    by_cases hz : 300 < m
    · have z1 : decide (300 < (m : Int)) = true := by simp; omega
      have HF : Hid (er = 1) := by show _ = _; rw [HC.out, if_pos (by rw [← HL.out]; exact hz)]
      clear hz HC
      go_wp2
      go_ret
      exact ⟨ret_int HF.out.symm, hbA⟩
    · have z1 : decide (300 < (m : Int)) = false := by simp; omega
      have hB := HC.out
      rw [if_neg (by rw [← HL.out]; exact hz)] at hB
      have HD := Lib.hid hB
      clear hB HC
      go_wp2_with fail
      with_reducible refine (rsum_ok _ _ _ dts _ hr1 hA (by omega)).mono ?_
      rintro e w2 ⟨rfl, hb2⟩
      have hbk2 := hbk1.below hb2 hbk1.lt
      have hbB := below_step hbA hb2
      clear e0 e1 e2 hbk1 hbA hb2 hr1
      have e0 := hbk2.cell 0
      have e2 := hbk2.cell 2
      simp only [List.getElem?_cons_succ, List.getElem?_cons_zero] at e0 e2
      by_cases hs : dig dts = dgs
      · have s1 : (dig dts == dgs) = true := by rw [beq_iff_eq]; exact hs
        have hB := HD.out
        rw [if_neg (by simpa using hs)] at hB
        have HE := Lib.hid hB
        generalize dig dts = dd at *
        clear hB HD hs
        by_cases hlo : pn < 0
        · have p1 : decide (pn < 0) = true := by simpa using hlo
          have HF : Hid (er = 4) := by show _ = _; rw [HE.out, if_pos (.inl hlo)]
          clear HE
          go_wp2
          go_ret
          exact ⟨ret_int HF.out.symm, hbB⟩
        · have p1 : decide (pn < 0) = false := by simpa using hlo
          by_cases hhi : 5 < pn
          · have p2 : decide (5 < pn) = true := by simpa using hhi
            have HF : Hid (er = 4) := by show _ = _; rw [HE.out, if_pos (.inr hhi)]
            clear HE
            go_wp2
            go_ret
            exact ⟨ret_int HF.out.symm, hbB⟩
          · have p2 : decide (5 < pn) = false := by simpa using hhi
            have HF : Hid (er = 0) := by show _ = _; rw [HE.out, if_neg (by omega)]
            clear HE
            go_wp2
            go_ret
            exact ⟨ret_int HF.out.symm, hbB⟩
      · have s1 : (dig dts == dgs) = false := by rw [beq_eq_false_iff_ne]; exact hs
        have HF : Hid (er = 9) := by show _ = _; rw [HD.out, if_pos hs]
        generalize dig dts = dd at *
        clear HD hs
        go_wp2
        go_ret
        exact ⟨ret_int HF.out.symm, hbB⟩
  · have c1 : (cErr dgs != 0) = true := by rw [bne_iff_ne]; exact hc
    have HF : Hid (er = cErr dgs) := by show _ = _; rw [HB.out, if_pos hc]
    clear hc HB
    go_wp2
    go_ret
    exact ⟨ret_int HF.out.symm, hbA⟩
set_option maxRecDepth 100000 in
set_option maxHeartbeats 400000 in
theorem blobsFault_big (A : Option Addr) (n c : Nat) (w : World) (h : 24 < n) (hn : n ≤ 9223372036854775807) :
    Calls Tryz.prog 71 #[.slice A n c] w fun e w' => e = .returned (.int .i64 1) ∧ w = w' := by
  go_enter Tryz.func71, Tryz.ntmps71
  go_wp2
  go_ret
  exact ⟨rfl, rfl⟩
set_option maxRecDepth 100000 in
set_option maxHeartbeats 2000000 in
theorem blobsFault_in (A : Option Addr) (n c : Nat) (l : List Bl) (w : World) (hr : KRd kBl w A n c l) (hg : ∀ p ∈ l, p.good) (h24 : n ≤ 24) :
    Calls Tryz.prog 71 #[.slice A n c] w fun e w' => e = .returned (.int .i64 (bTail [] l)) ∧ Below w.heap.size w w' := by
  obtain rfl := hr.len
  have hd : decide (24 < (l.length : Int)) = false := by simp; omega
  have HG := Lib.hid hg
  obtain ⟨er, her⟩ : ∃ er, Hid (bTail [] l = er) := ⟨_, rfl⟩
  rw [her.out]
  clear hg
  go_enter Tryz.func71, Tryz.ntmps71
  go_wp2
  go_loopw [3, 5, 6, 12] (fun s _ _ i wr => ∃ (k : Nat) (m : List UInt8), k ≤ l.length ∧ i = .int .i64 k ∧ s = .string (str m) ∧ Hid (er = bTail m (l.drop k)) ∧ Below w.heap.size w wr) (fun _ _ _ i _ => l.length - (intOf i).toNat)
  case atStart => exact ⟨0, [], Nat.zero_le _, rfl, rfl, her.out.symm, Below.refl _ _⟩
  case round =>
    obtain ⟨k, m, hk, rfl, rfl, HE, hbel⟩ := hrel
    by_cases hlt : k < l.length
    · obtain ⟨b, off, D, dn, dc, rfl, hc0, hc1, hc2, hc3, hrD, hDn⟩ := (hr.below hbel).blob hlt
      have hgk := HG.out l[k] (List.getElem_mem hlt)
      have hdk : l.drop k = l[k] :: l.drop (k + 1) := List.drop_eq_getElem_cons hlt
      have HP : Hid (er = bTail m (l[k] :: l.drop (k + 1))) := by show _ = _; rw [← hdk]; exact HE.out
      have hki : (k : Int) < (l.length : Int) := by omega
      clear hdk HE
      generalize l[k] = p at *
      have hal := (Below.refl wr.heap.size wr).alloc (Nat.le_refl _) (.cells #[.string (str p.dg), .slice D dn dc, .int .i64 p.pn, .bool p.mr] 45)
      have hbk := Blk.new wr 45 [.string (str p.dg), .slice D dn dc, .int .i64 p.pn, .bool p.mr]
      go_wp2_with fail
      with_reducible refine (blobFault_any p _ _ _ _ (hrD.below hal) hDn hgk).mono ?_
      rintro e w1 ⟨rfl, hb1⟩
      have hbk1 := hbk.below hb1 hbk.lt
      have hbA := below_step hbel (hal.trans (hb1.mono (by simp)))
      have e0 := hbk1.cell 0
      simp only [List.getElem?_cons_zero] at e0
      clear hbk hal hc0 hc1 hc2 hc3 hrD
      by_cases hn : bErr p = 0
      · have n1 : (bErr p != 0) = false := by rw [bne_eq_false_iff_eq]; exact hn
        have HN := Lib.hid hn
        clear hn
        by_cases hle : Op.bytesLess p.dg m = true
        · have HF : Hid (er = 6) := by show _ = _; rw [HP.out, bTail, if_neg (by rw [HN.out]; omega), if_pos (by unfold nle; rw [hle]; rfl)]
          go_wp2
          go_ret
          exact ⟨ret_int HF.out.symm, hbA⟩
        · have hle' : Op.bytesLess p.dg m = false := by simpa using hle
          clear hle
          by_cases heq : (p.dg == m) = true
          · have HF : Hid (er = 6) := by show _ = _; rw [HP.out, bTail, if_neg (by rw [HN.out]; omega), if_pos (by unfold nle; rw [hle', heq]; rfl)]
            go_wp2
            go_ret
            exact ⟨ret_int HF.out.symm, hbA⟩
          · have heq' : (p.dg == m) = false := by simpa using heq
            have HF : Hid (er = bTail p.dg (l.drop (k + 1))) := by
              show _ = _
              rw [HP.out, bTail, if_neg (by rw [HN.out]; omega), if_neg (by unfold nle; rw [hle', heq']; decide)]
            clear heq
            go_wp2
            go_roundw
            case rel => exact ⟨k + 1, p.dg, by omega, by go_num, rfl, HF.out, hbA⟩
            case measure => simp [intOf] <;> omega
      · have n1 : (bErr p != 0) = true := by rw [bne_iff_ne]; exact hn
        have HF : Hid (er = bErr p) := by show _ = _; rw [HP.out, bTail, if_pos hn]
        clear hn
        go_wp2
        go_ret
        exact ⟨ret_int HF.out.symm, hbA⟩
    · have hd2 : decide ((k : Int) < (l.length : Int)) = false := by simp; omega
      have HF : Hid (er = 0) := by show _ = _; rw [HE.out, List.drop_of_length_le (by omega)]; rfl
      go_wp2
      go_ret
      exact ⟨ret_int HF.out.symm, hbel⟩
theorem blobsFault_any (A : Option Addr) (n c : Nat) (l : List Bl) (w : World) (hr : KRd kBl w A n c l) (hg : ∀ p ∈ l, p.good) :
    Calls Tryz.prog 71 #[.slice A n c] w fun e w' => e = .returned (.int .i64 (bsErr l)) ∧ Below w.heap.size w w' := by
  have hn := hr.len
  have hc := hr.cap
  unfold maxLen at hc
  by_cases h : 24 < n
  · rw [show bsErr l = 1 from if_pos (by omega)]
    refine (blobsFault_big A n c w h (by omega)).mono ?_
    rintro e w' ⟨rfl, rfl⟩
    exact ⟨rfl, Below.refl _ _⟩
  · rw [show bsErr l = bTail [] l from if_neg (by omega)]
    exact blobsFault_in A n c l w hr hg (by omega)
end Go.Proofs.YtdbdigcpibmgjaaGreatDoor
/- The reference's BlobAt and BlobsCopy. -/
namespace Go.Proofs.YtdbdigcpibmgjaaGreatDoor
open Go.RowKit
set_option maxRecDepth 100000 in
set_option maxHeartbeats 4000000 in
theorem blobsCopy_any (A : Option Addr) (n c : Nat) (l : List Bl) (w : World) (hr : KRd kBl w A n c l) (hg : ∀ p ∈ l, p.good) (hz : n * 56 ≤ 140737488351232) :
    Calls Tryz.prog 75 #[.slice A n c] w fun e w' => ∃ v, e = .returned v ∧ KOwn kBl w' w.heap.size 45 v l ∧ Below w.heap.size w w' := by
  obtain rfl := hr.len
  obtain ⟨i0, hi0, hz0, hz1, hz2⟩ := info_parts u8_info
  obtain ⟨j0, hj0, hw0, hw1, hw2⟩ := info_parts blob_info
  have HG := Lib.hid hg
  clear hg
  go_enter Tryz.func75, Tryz.ntmps75
  go_wp2
  go_loopw [3, 5, 8] (fun v _ i wr => ∃ (k : Nat), k ≤ l.length ∧ i = .int .i64 k ∧ KOwn kBl wr w.heap.size 45 v (l.take k) ∧ Below w.heap.size w wr) (fun _ _ i _ => l.length - (intOf i).toNat)
  case atStart => exact ⟨0, Nat.zero_le _, rfl, KOwn.nil _ _ _, Below.refl _ _⟩
  case round =>
    obtain ⟨k, hk, rfl, hown, hbel⟩ := hrel
    by_cases hlt : k < l.length
    · obtain ⟨b, off, D, dn, dc, rfl, hc0, hc1, hc2, hc3, hrD, hDn⟩ := (hr.below hbel).blob hlt
      have hgk := HG.out l[k] (List.getElem_mem hlt)
      have HT : Hid (l.take (k + 1) = l.take k ++ [l[k]]) := List.take_succ_eq_append_getElem hlt
      have hki : (k : Int) < (l.length : Int) := by omega
      have htk : (l.take k).length = k := by rw [List.length_take]; omega
      generalize l[k] = p at *
      obtain ⟨dgs, dts, pn, mr⟩ := p
      obtain ⟨-, -, g2⟩ := hgk
      simp only at g2 hc0 hc1 hc2 hc3 hrD
      have hdl : dn ≤ 140737488351232 := by rw [hrD.len]; exact g2
      have hal := (Below.refl wr.heap.size wr).alloc (Nat.le_refl _) (.cells #[.string (str dgs), .slice D dn dc, .int .i64 pn, .bool mr] 45)
      have hbk := Blk.new wr 45 [.string (str dgs), .slice D dn dc, .int .i64 pn, .bool mr]
      have hown' := hown.below hal
      have hob : u3.ownBlock ≠ some wr.heap.size := fun q => by
        obtain ⟨_, _, hrw, _⟩ := hown.row
        have := (hrw.lt _ q).2
        omega
      have hrD' := hrD.below hal
      have hbel' := hbel.trans (hal.mono hbel.size)
      clear hown hrD hbel
      go_wp2
      generalize wr.alloc (.cells [Value.string (str dgs), .slice D dn dc, .int .i64 pn, .bool mr].toArray 45) = u at *
      obtain ⟨hs, hmap, hrow, hdeep⟩ := hown'.row
      rw [htk] at hrow
      have hrow4 : u.ownsRow w.heap.size 45 4 u3 k (kBl.all hs) := hrow
      have hglt := hbk.lt
      have c0 := hbk.cell 0
      have c1 := hbk.cell 1
      have c2 := hbk.cell 2
      have c3 := hbk.cell 3
      simp only [List.getElem?_cons_succ, List.getElem?_cons_zero] at c0 c1 c2 c3
      have hsz0 := hbel'.size
      have HU : u.drew.heap.size = u.heap.size := rfl
      have hobs : ∀ k, u3.ownBlock = some k → k < u.heap.size := fun k q => (hrow.lt k q).2
      have HOB := Lib.hid hobs
      clear hobs
      clear hc0 hc1 hc2 hc3 hal hbk hrow
      go_region_held_law (fun W => W.cell? ⟨wr.heap.size, 0, none⟩ = some (.string (str dgs)) ∧ W.cell? ⟨wr.heap.size, 1, none⟩ = some (.slice D dn dc) ∧ W.cell? ⟨wr.heap.size, 2, none⟩ = some (.int .i64 pn) ∧ W.cell? ⟨wr.heap.size, 3, none⟩ = some (.bool mr))
        (first | exact ⟨c0, c1, c2, c3⟩ | exact ⟨k0, k1, k2, k3⟩ | exact ⟨m0, m1, m2, m3⟩ | go_keep)
        (first
          | (refine step_appendM (by rfl) (.const (.slice none 0 0)) (.tmp 16) _ (by rfl) Tryz.underlying43 hi0 hz0 hz1 hz2 rfl (by omega) (.slice none 0 0) 0 [] (by rfl) (w0 := u.drew) (World.ownsRow_nil _ u.drew.heap.size _ _) hrD'.drew hDn (bytes_one _) (by first | rfl | simp [Act.eval]) (by omega) (by unfold maxLen; omega) (Nat.le_refl _) ?_; rintro v5 w5 ⟨hown5, hb5, hs5, -⟩; rw [HU] at hs5 hb5 hown5; rw [Nat.zero_add, List.nil_append] at hown5; have hl5 := Lib.hid hown5.lt; obtain ⟨A5, c5, rfl, hr5, hA5, hF5⟩ := own_rdF hown5; have k0 := (hb5.cell (p := ⟨wr.heap.size, 0, none⟩) hglt).trans c0; have k1 := (hb5.cell (p := ⟨wr.heap.size, 1, none⟩) hglt).trans c1; have k2 := (hb5.cell (p := ⟨wr.heap.size, 2, none⟩) hglt).trans c2; have k3 := (hb5.cell (p := ⟨wr.heap.size, 3, none⟩) hglt).trans c3; have ow5 := own_below (own_drewN hrow4 1) hb5; have hg5 := Nat.lt_of_lt_of_le hglt hs5)
          | (refine step_append1 (by rfl) (.tmp 12) (.tmp 23) _ (by rfl) Tryz.underlying22 hj0 hw0 hw1 hw2 rfl (by omega) u3 _ _ (by rfl) ow5 [.string (str dgs), .slice A5 dn c5, .int .i64 pn, .bool mr] rfl (by simp [Value.oneCell']) (by first | rfl | simp [Act.eval]) (by omega) (by unfold maxLen; omega) (by omega) ?_; rintro v6 w6 ⟨hown6, hb6, hsz6, hfar6⟩; have h6 := (hfar6 wr.heap.size hg5 hob).2; have m0 := (cell_heap h6 0).trans k0; have m1 := (cell_heap h6 1).trans k1; have m2 := (cell_heap h6 2).trans k2; have m3 := (cell_heap h6 3).trans k3))
      have HKN : Hid (KOwn kBl w6 w.heap.size 45 v6 (l.take (k + 1))) := by
        show KOwn ..
        rw [HT.out]
        refine KOwn.app (w := w5) (v := u3) (m := [(⟨dgs, dts, pn, mr⟩, ⟨A5, dn, c5⟩)]) hmap (fun x hx => ?_) (fun x hx => ?_) ?_ hsz6 hfar6
        · refine ⟨kBl.keep (hdeep x hx).1 fun j _ hj => hb5.block j hj, fun j hj => ?_⟩
          obtain ⟨q1, q2, q3⟩ := (hdeep x hx).2 j hj
          exact ⟨q1, by omega, q3⟩
        · rw [List.mem_singleton] at hx
          subst hx
          refine ⟨⟨hr5, hA5⟩, fun j hj => ?_⟩
          obtain ⟨a, rfl, rfl⟩ := mem_blk1.1 hj
          have q1 := hF5 a rfl
          have q2 := (hl5.out a.block rfl).2
          exact ⟨by omega, q2, fun q => by have := HOB.out _ q; omega⟩
        · rw [htk, Kin.all_one]
          exact hown6
      have hbZ := (below_step hbel'.drew hb5).trans hb6
      clear hmap hdeep hown6 hfar6 hr5 hb5 hb6
      go_wp2
      go_roundw
      case rel => exact ⟨k + 1, by omega, by go_num, HKN.out, hbZ⟩
      case measure => simp [intOf] <;> omega
    · have hd2 : decide ((k : Int) < (l.length : Int)) = false := by simp; omega
      have HX : l.take k = l := List.take_of_length_le (by omega)
      rw [HX] at hown
      go_wp2
      go_ret
      exact ⟨_, rfl, hown, hbel⟩
end Go.Proofs.YtdbdigcpibmgjaaGreatDoor
/- The statements' own sameBlobs, of blobs that are the same. -/
namespace Go.Proofs.YtdbdigcpibmgjaaGreatDoor
open Go.RowKit
set_option maxRecDepth 100000 in
set_option maxHeartbeats 400000 in
theorem sameBytes_eq (A B : Option Addr) (n m c d : Nat) (l : List UInt8) (w : World) (ha : Rd w 1 A n c (l.map bv8)) (hb : Rd w 1 B m d (l.map bv8)) :
    Calls Tryz.prog 78 #[.slice A n c, .slice B m d] w fun e w' => e = .returned (.bool true) ∧ w = w' := by
  obtain rfl := ha.len
  obtain rfl := hb.len
  have k1 := run_bytes_str (P := Tryz.prog) Tryz.underlying43 Tryz.underlying5 Tryz.underlying9 ha
  have k2 := run_bytes_str (P := Tryz.prog) Tryz.underlying43 Tryz.underlying5 Tryz.underlying9 hb
  go_enter Tryz.func78, Tryz.ntmps78
  go_wp2
  go_ret
  exact ⟨by simp, rfl⟩
set_option maxRecDepth 100000 in
set_option maxHeartbeats 1000000 in
theorem sameBlob_eq (x : Bl) (h k : Hd) (w : World) (ha : kBl.deep w x h) (hb : kBl.deep w x k) :
    Calls Tryz.prog 77 #[.agg #[.string (str x.dg), .slice h.A h.n h.c, .int .i64 x.pn, .bool x.mr], .agg #[.string (str x.dg), .slice k.A k.n k.c, .int .i64 x.pn, .bool x.mr]] w fun e w' => e = .returned (.bool true) ∧ Below w.heap.size w w' := by
  obtain ⟨d, t, p, m⟩ := x
  obtain ⟨A, n, c⟩ := h
  obtain ⟨B, j, q⟩ := k
  have ha1 : Rd w 1 A n c (t.map bv8) := ha.1
  have hb1 : Rd w 1 B j q (t.map bv8) := hb.1
  clear ha hb
  have hal := (Below.refl w.heap.size w).alloc (Nat.le_refl _) (.cells #[.string (str d), .slice A n c, .int .i64 p, .bool m] 45)
  have hal2 := (Below.refl (w.alloc (.cells #[.string (str d), .slice A n c, .int .i64 p, .bool m] 45)).heap.size (w.alloc (.cells #[.string (str d), .slice A n c, .int .i64 p, .bool m] 45))).alloc (Nat.le_refl _) (.cells #[.string (str d), .slice B j q, .int .i64 p, .bool m] 45)
  have hbb := below_step hal hal2
  have ha2 := ha1.below hbb
  have hb2 := hb1.below hbb
  show Calls Tryz.prog 77 #[.agg #[.string (str d), .slice A n c, .int .i64 p, .bool m], .agg #[.string (str d), .slice B j q, .int .i64 p, .bool m]] w _
  have q1 : (d == d) = true := by simp
  have q2 : (p == p) = true := by simp
  have q3 : (m == m) = true := by simp
  go_enter Tryz.func77, Tryz.ntmps77
  go_wp2_with fail
  with_reducible refine (sameBytes_eq _ _ _ _ _ _ _ _ ha2 hb2).mono ?_
  rintro e w' ⟨rfl, rfl⟩
  go_wp2
  go_ret
  exact ⟨by simp, hbb⟩
set_option maxRecDepth 100000 in
set_option maxHeartbeats 1000000 in
theorem equalB_eq (A B : Option Addr) (n m c d : Nat) (l : List Bl) (w : World) (ha : KRd kBl w A n c l) (hb : KRd kBl w B m d l) :
    Calls Tryz.prog 61 #[.slice A n c, .slice B m d, .func (.func 77) #[] #[]] w fun e w' => e = .returned (.bool true) ∧ Below w.heap.size w w' := by
  obtain rfl := ha.len
  obtain rfl := hb.len
  have hcap := ha.cap
  unfold maxLen at hcap
  go_enter Tryz.func61, Tryz.ntmps61
  go_wp2
  go_loopw [7, 8, 9, 17] (fun _ _ _ i wr => ∃ k : Nat, k ≤ l.length ∧ i = .int .i64 k ∧ Below w.heap.size w wr) (fun _ _ _ i _ => l.length - (intOf i).toNat)
  case atStart => exact ⟨0, Nat.zero_le _, rfl, Below.refl _ _⟩
  case round =>
    obtain ⟨k, hk, rfl, hbel⟩ := hrel
    by_cases hlt : k < l.length
    · have hki : (k : Int) < (l.length : Int) := by omega
      obtain ⟨b, off, D, dn, dc, rfl, hc0, hc1, hc2, hc3, hrD, hDn⟩ := (ha.below hbel).blob hlt
      obtain ⟨b', off', D', dn', dc', rfl, ic0, ic1, ic2, ic3, irD, iDn⟩ := (hb.below hbel).blob hlt
      generalize l[k] = x at *
      obtain ⟨dg, dt, pn, mr⟩ := x
      simp only at hc0 hc1 hc2 hc3 ic0 ic1 ic2 ic3 hrD irD
      have hal := (Below.refl wr.heap.size wr).alloc (Nat.le_refl _) (.cells #[.string (str dg), .slice D dn dc, .int .i64 pn, .bool mr] 45)
      have hs1 : (wr.alloc (.cells #[.string (str dg), .slice D dn dc, .int .i64 pn, .bool mr] 45)).heap.size = wr.heap.size + 1 := by simp
      have hal2 := (Below.refl (wr.alloc (.cells #[.string (str dg), .slice D dn dc, .int .i64 pn, .bool mr] 45)).heap.size (wr.alloc (.cells #[.string (str dg), .slice D dn dc, .int .i64 pn, .bool mr] 45))).alloc (Nat.le_refl _) (.cells #[.string (str dg), .slice D' dn' dc', .int .i64 pn, .bool mr] 45)
      have hbb := below_step hal hal2
      have i0 := (hal.cell (p := ⟨b', off' + k * 4, none⟩) (cell_lt ic0)).trans ic0
      have i1 := (hal.cell (p := ⟨b', off' + k * 4 + 1, none⟩) (cell_lt ic1)).trans ic1
      have i2 := (hal.cell (p := ⟨b', off' + k * 4 + 2, none⟩) (cell_lt ic2)).trans ic2
      have i3 := (hal.cell (p := ⟨b', off' + k * 4 + 3, none⟩) (cell_lt ic3)).trans ic3
      have hdA : kBl.deep _ ⟨dg, dt, pn, mr⟩ ⟨D, dn, dc⟩ := ⟨hrD.below hbb, hDn⟩
      have hdB : kBl.deep _ ⟨dg, dt, pn, mr⟩ ⟨D', dn', dc'⟩ := ⟨irD.below hbb, iDn⟩
      go_wp2_with fail
      refine (sameBlob_eq ⟨dg, dt, pn, mr⟩ ⟨D, dn, dc⟩ ⟨D', dn', dc'⟩ _ hdA hdB).mono ?_
      rintro e w' ⟨rfl, hb'⟩
      have hbZ := below_step (below_step hbel hbb) hb'
      clear hdA hdB hal hal2 hbb hb'
      go_wp2
      go_roundw
      case rel => exact ⟨k + 1, by omega, by go_num, hbZ⟩
      case measure => simp [intOf] <;> omega
    · have hd2 : decide ((k : Int) < (l.length : Int)) = false := by rw [decide_eq_false_iff_not]; omega
      go_wp2
      go_ret
      exact ⟨rfl, hbel⟩
set_option maxRecDepth 100000 in
set_option maxHeartbeats 400000 in
theorem sameBlobs_eq (A B : Option Addr) (n m c d : Nat) (l : List Bl) (w : World) (ha : KRd kBl w A n c l) (hb : KRd kBl w B m d l) :
    Calls Tryz.prog 34 #[.slice A n c, .slice B m d] w fun e w' => e = .returned (.bool true) ∧ Below w.heap.size w w' := by
  go_enter Tryz.func34, Tryz.ntmps34
  go_wp2_with fail
  with_reducible refine (equalB_eq _ _ _ _ _ _ _ _ ha hb).mono ?_
  rintro e w' ⟨rfl, hb'⟩
  go_wp2
  go_ret
  exact ⟨rfl, hb'⟩
end Go.Proofs.YtdbdigcpibmgjaaGreatDoor

/- Texts that belong together: what the functions of the program and of the statements return. -/
import Derived.Test.YtnadgdjaldemhaaDoorRows
import Derived.Test.YtnadgdjaldemhaaDoorGO
import Derived.Test.YtnadgdjaldemhaaDoorGQ
import Derived.Lib.Hide
import Derived.IntWalk
import Derived.Test.YtnadgdjaldemhaaDoorGB
import Derived.Test.YtnadgdjaldemhaaDoorGM
import Derived.Test.YtnadgdjaldemhaaDoorGX
import Derived.Test.YtnadgdjaldemhaaDoorGA
import Derived.Deep.RegionHeldLaw
import Derived.Deep.CutBlock
import Derived.Deep.CutRange
import Derived.Test.YtnadgdjaldemhaaDoorGN
/- The reference's BlobAt. -/
namespace Go.Proofs.YtnadgdjaldemhaaDoor
open Go.RowKit
set_option maxRecDepth 100000 in
set_option maxHeartbeats 1000000 in
theorem blobAt_any (A : Option Addr) (n c : Nat) (l : List Bl) (d : List UInt8) (w : World) (hr : KRd kBl w A n c l) :
    Calls Tryd.prog 46 #[.slice A n c, .string (str d)] w fun e w' => e = .returned (.int .i64 (bAt l d : Int)) ∧ w = w' := by
  obtain rfl := hr.len
  have hc := hr.cap
  unfold maxLen at hc
  obtain ⟨K, hK⟩ : ∃ K, bAt l d = K := ⟨_, rfl⟩
  have HK := Lib.hid hK
  rw [hK]
  clear hK
  go_enter Tryd.func46, Tryd.ntmps46
  go_wp2
  go_loop [5] (fun i => ∃ k : Nat, k ≤ l.length ∧ i = .int .i64 k ∧ Hid (∀ j (h : j < l.length), j < k → l[j].dg ≠ d)) (fun i => l.length - (intOf i).toNat)
  case atStart => exact ⟨0, Nat.zero_le _, rfl, fun j _ h => absurd h (by omega)⟩
  case round =>
    obtain ⟨k, hk, rfl, HA⟩ := hrel
    by_cases hlt : k < l.length
    · obtain ⟨b, off, D, dn, dc, rfl, hc0, -, -, -, -, -⟩ := hr.blob hlt
      have hki : (k : Int) < (l.length : Int) := by omega
      have d1 : decide ((k : Int) < (l.length : Int)) = true := by simpa using hki
      by_cases he : l[k].dg = d
      · have q1 : (l[k].dg == d) = true := by rw [beq_iff_eq]; exact he
        have HF : Hid (K = k) := by show _ = _; rw [← HK.out]; exact bAt_eq hk HA.out (fun _ => he)
        clear he
        generalize l[k].dg = x at *
        go_wp2
        go_ret
        exact ⟨ret_int (by rw [HF.out]), rfl⟩
      · have q1 : (l[k].dg == d) = false := by rw [beq_eq_false_iff_ne]; exact he
        have HN : Hid (∀ j (h : j < l.length), j < k + 1 → l[j].dg ≠ d) := fun j h hj => by
          rcases Nat.lt_or_eq_of_le (Nat.le_of_lt_succ hj) with q | q
          · exact HA.out j h q
          · subst q; exact he
        clear he
        generalize l[k].dg = x at *
        go_wp2
        go_round
        case rel => exact ⟨k + 1, by omega, by go_num, HN.out⟩
        case measure => simp [intOf] <;> omega
    · have d1 : decide ((k : Int) < (l.length : Int)) = false := by simp; omega
      have HF : Hid (K = k) := by show _ = _; rw [← HK.out]; exact bAt_eq hk HA.out (fun h => absurd h hlt)
      go_wp2
      go_ret
      exact ⟨ret_int (by rw [HF.out]), rfl⟩
end Go.Proofs.YtnadgdjaldemhaaDoor
/- The reference's BlobFault, BlobsFault and BlobAt. -/
namespace Go.Proofs.YtnadgdjaldemhaaDoor
open Go.RowKit
set_option maxRecDepth 100000 in
set_option maxHeartbeats 1000000 in
theorem blobFault_any (b : Bl) (D : Option Addr) (m d : Nat) (w : World) (hr : Rd w 1 D m d (b.dt.map bv8)) (hA : D = none → d = 0) (hg : b.good) :
    Calls Tryd.prog 65 #[.agg #[.string (str b.dg), .slice D m d, .int .i64 b.pn, .bool b.mr]] w fun e w' => e = .returned (.int .i64 (bErr b)) ∧ Below w.heap.size w w' := by
  obtain ⟨er, her⟩ : ∃ er, Hid (bErr b = er) := ⟨_, rfl⟩
  rw [her.out]
  obtain ⟨g0, g1, -⟩ := hg
  have hcm := hr.2.1
  have hcx := hr.2.2.1
  unfold maxLen at hcx
  have HL := Lib.hid hr.len
  have hal := (Below.refl w.heap.size w).alloc (Nat.le_refl _) (.cells #[.string (str b.dg), .slice D m d, .int .i64 b.pn, .bool b.mr] 65)
  have hbk := Blk.new w 65 [.string (str b.dg), .slice D m d, .int .i64 b.pn, .bool b.mr]
  have HB : Hid (bErr b = if cErr b.dg ≠ 0 then cErr b.dg else if 300 < b.dt.length then 1 else if dig b.dt ≠ b.dg then 9 else if b.pn < 0 ∨ 5 < b.pn then 4 else 0) := rfl
  rw [her.out] at HB
  obtain ⟨dgs, dts, pn, mr⟩ := b
  simp only at *
  have e0 := hbk.cell 0
  simp only [List.getElem?_cons_zero] at e0
  go_enter Tryd.func65, Tryd.ntmps65
  go_wp2_with fail
  with_reducible refine (hexFault_all _ _ g0).mono ?_
  rintro e w1 ⟨rfl, hb1⟩
  have hbk1 := hbk.below hb1 hbk.lt
  have hbA := hal.trans (hb1.mono hal.size)
  have hr1 := hr.below hbA
  clear e0 hbk hal hb1 hr
  have e0 := hbk1.cell 0
  have e1 := hbk1.cell 1
  have e2 := hbk1.cell 2
  simp only [List.getElem?_cons_succ, List.getElem?_cons_zero] at e0 e1 e2
  by_cases hc : cErr dgs = 0
  · have c1 : (cErr dgs != 0) = false := by rw [bne_eq_false_iff_eq]; exact hc
    have hB := HB.out
    rw [if_neg (by omega)] at hB
    have HC := Lib.hid hB
    clear hc hB HB
    by_cases hz : 300 < m
    · have z1 : decide (300 < (m : Int)) = true := by simp; omega
      have HF : Hid (er = 1) := by show _ = _; rw [HC.out, if_pos (by rw [← HL.out]; exact hz)]
      clear hz HC
      go_wp2
      go_ret
      exact ⟨ret_int HF.out.symm, hbA⟩
    · have z1 : decide (300 < (m : Int)) = false := by simp; omega
      have hB := HC.out
      rw [if_neg (by rw [← HL.out]; exact hz)] at hB
      have HD := Lib.hid hB
      clear hB HC
      go_wp2_with fail
      with_reducible refine (rsum_ok _ _ _ dts _ hr1 hA (by omega)).mono ?_
      rintro e w2 ⟨rfl, hb2⟩
      have hbk2 := hbk1.below hb2 hbk1.lt
      have hbB := below_step hbA hb2
      clear e0 e1 e2 hbk1 hbA hb2 hr1
      have e0 := hbk2.cell 0
      have e2 := hbk2.cell 2
      simp only [List.getElem?_cons_succ, List.getElem?_cons_zero] at e0 e2
      by_cases hs : dig dts = dgs
      · have s1 : (dig dts == dgs) = true := by rw [beq_iff_eq]; exact hs
        have hB := HD.out
        rw [if_neg (by simpa using hs)] at hB
        have HE := Lib.hid hB
        generalize dig dts = dd at *
        clear hB HD hs
        by_cases hlo : pn < 0
        · have p1 : decide (pn < 0) = true := by simpa using hlo
          have HF : Hid (er = 4) := by show _ = _; rw [HE.out, if_pos (.inl hlo)]
          clear HE
          go_wp2
          go_ret
          exact ⟨ret_int HF.out.symm, hbB⟩
        · have p1 : decide (pn < 0) = false := by simpa using hlo
          by_cases hhi : 5 < pn
          · have p2 : decide (5 < pn) = true := by simpa using hhi
            have HF : Hid (er = 4) := by show _ = _; rw [HE.out, if_pos (.inr hhi)]
            clear HE
            go_wp2
            go_ret
            exact ⟨ret_int HF.out.symm, hbB⟩
          · have p2 : decide (5 < pn) = false := by simpa using hhi
            have HF : Hid (er = 0) := by show _ = _; rw [HE.out, if_neg (by omega)]
            clear HE
            go_wp2
            go_ret
            exact ⟨ret_int HF.out.symm, hbB⟩
      · have s1 : (dig dts == dgs) = false := by rw [beq_eq_false_iff_ne]; exact hs
        have HF : Hid (er = 9) := by show _ = _; rw [HD.out, if_pos hs]
        generalize dig dts = dd at *
        clear HD hs
        go_wp2
        go_ret
        exact ⟨ret_int HF.out.symm, hbB⟩
  · have c1 : (cErr dgs != 0) = true := by rw [bne_iff_ne]; exact hc
    have HF : Hid (er = cErr dgs) := by show _ = _; rw [HB.out, if_pos hc]
    clear hc HB
    go_wp2
    go_ret
    exact ⟨ret_int HF.out.symm, hbA⟩
set_option maxRecDepth 100000 in
set_option maxHeartbeats 400000 in
theorem blobsFault_big (A : Option Addr) (n c : Nat) (w : World) (h : 24 < n) (hn : n ≤ 9223372036854775807) :
    Calls Tryd.prog 34 #[.slice A n c] w fun e w' => e = .returned (.int .i64 1) ∧ w = w' := by
  go_enter Tryd.func34, Tryd.ntmps34
  go_wp2
  go_ret
  exact ⟨rfl, rfl⟩
set_option maxRecDepth 100000 in
set_option maxHeartbeats 2000000 in
theorem blobsFault_in (A : Option Addr) (n c : Nat) (l : List Bl) (w : World) (hr : KRd kBl w A n c l) (hg : ∀ p ∈ l, p.good) (h24 : n ≤ 24) :
    Calls Tryd.prog 34 #[.slice A n c] w fun e w' => e = .returned (.int .i64 (bTail [] l)) ∧ Below w.heap.size w w' := by
  obtain rfl := hr.len
  have hd : decide (24 < (l.length : Int)) = false := by simp; omega
  have HG := Lib.hid hg
  obtain ⟨er, her⟩ : ∃ er, Hid (bTail [] l = er) := ⟨_, rfl⟩
  rw [her.out]
  clear hg
  go_enter Tryd.func34, Tryd.ntmps34
  go_wp2
  go_loopw [3, 5, 6, 12] (fun s _ _ i wr => ∃ (k : Nat) (m : List UInt8), k ≤ l.length ∧ i = .int .i64 k ∧ s = .string (str m) ∧ Hid (er = bTail m (l.drop k)) ∧ Below w.heap.size w wr) (fun _ _ _ i _ => l.length - (intOf i).toNat)
  case atStart => exact ⟨0, [], Nat.zero_le _, rfl, rfl, her.out.symm, Below.refl _ _⟩
  case round =>
    obtain ⟨k, m, hk, rfl, rfl, HE, hbel⟩ := hrel
    by_cases hlt : k < l.length
    · obtain ⟨b, off, D, dn, dc, rfl, hc0, hc1, hc2, hc3, hrD, hDn⟩ := (hr.below hbel).blob hlt
      have hgk := HG.out l[k] (List.getElem_mem hlt)
      have hdk : l.drop k = l[k] :: l.drop (k + 1) := List.drop_eq_getElem_cons hlt
      have HP : Hid (er = bTail m (l[k] :: l.drop (k + 1))) := by show _ = _; rw [← hdk]; exact HE.out
      have hki : (k : Int) < (l.length : Int) := by omega
      clear hdk HE
      generalize l[k] = p at *
      have hal := (Below.refl wr.heap.size wr).alloc (Nat.le_refl _) (.cells #[.string (str p.dg), .slice D dn dc, .int .i64 p.pn, .bool p.mr] 65)
      have hbk := Blk.new wr 65 [.string (str p.dg), .slice D dn dc, .int .i64 p.pn, .bool p.mr]
      go_wp2_with fail
      with_reducible refine (blobFault_any p _ _ _ _ (hrD.below hal) hDn hgk).mono ?_
      rintro e w1 ⟨rfl, hb1⟩
      have hbk1 := hbk.below hb1 hbk.lt
      have hbA := below_step hbel (hal.trans (hb1.mono (by simp)))
      have e0 := hbk1.cell 0
      simp only [List.getElem?_cons_zero] at e0
      clear hbk hal hc0 hc1 hc2 hc3 hrD
      by_cases hn : bErr p = 0
      · have n1 : (bErr p != 0) = false := by rw [bne_eq_false_iff_eq]; exact hn
        have HN := Lib.hid hn
        clear hn
        by_cases hle : Op.bytesLess p.dg m = true
        · have HF : Hid (er = 6) := by show _ = _; rw [HP.out, bTail, if_neg (by rw [HN.out]; omega), if_pos (by unfold nle; rw [hle]; rfl)]
          go_wp2
          go_ret
          exact ⟨ret_int HF.out.symm, hbA⟩
        · have hle' : Op.bytesLess p.dg m = false := by simpa using hle
          clear hle
          by_cases heq : (p.dg == m) = true
          · have HF : Hid (er = 6) := by show _ = _; rw [HP.out, bTail, if_neg (by rw [HN.out]; omega), if_pos (by unfold nle; rw [hle', heq]; rfl)]
            go_wp2
            go_ret
            exact ⟨ret_int HF.out.symm, hbA⟩
          · have heq' : (p.dg == m) = false := by simpa using heq
            have HF : Hid (er = bTail p.dg (l.drop (k + 1))) := by
              show _ = _
              rw [HP.out, bTail, if_neg (by rw [HN.out]; omega), if_neg (by unfold nle; rw [hle', heq']; decide)]
            clear heq
            go_wp2
            go_roundw
            case rel => exact ⟨k + 1, p.dg, by omega, by go_num, rfl, HF.out, hbA⟩
            case measure => simp [intOf] <;> omega
      · have n1 : (bErr p != 0) = true := by rw [bne_iff_ne]; exact hn
        have HF : Hid (er = bErr p) := by show _ = _; rw [HP.out, bTail, if_pos hn]
        clear hn
        go_wp2
        go_ret
        exact ⟨ret_int HF.out.symm, hbA⟩
    · have hd2 : decide ((k : Int) < (l.length : Int)) = false := by simp; omega
      have HF : Hid (er = 0) := by show _ = _; rw [HE.out, List.drop_of_length_le (by omega)]; rfl
      go_wp2
      go_ret
      exact ⟨ret_int HF.out.symm, hbel⟩
theorem blobsFault_any (A : Option Addr) (n c : Nat) (l : List Bl) (w : World) (hr : KRd kBl w A n c l) (hg : ∀ p ∈ l, p.good) :
    Calls Tryd.prog 34 #[.slice A n c] w fun e w' => e = .returned (.int .i64 (bsErr l)) ∧ Below w.heap.size w w' := by
  have hn := hr.len
  have hc := hr.cap
  unfold maxLen at hc
  by_cases h : 24 < n
  · rw [show bsErr l = 1 from if_pos (by omega)]
    refine (blobsFault_big A n c w h (by omega)).mono ?_
    rintro e w' ⟨rfl, rfl⟩
    exact ⟨rfl, Below.refl _ _⟩
  · rw [show bsErr l = bTail [] l from if_neg (by omega)]
    exact blobsFault_in A n c l w hr hg (by omega)
end Go.Proofs.YtnadgdjaldemhaaDoor
/- The reference's BlobAt and BlobsCopy. -/
namespace Go.Proofs.YtnadgdjaldemhaaDoor
open Go.RowKit
set_option maxRecDepth 100000 in
set_option maxHeartbeats 4000000 in
theorem blobsCopy_any (A : Option Addr) (n c : Nat) (l : List Bl) (w : World) (hr : KRd kBl w A n c l) (hg : ∀ p ∈ l, p.good) (hz : n * 56 ≤ 140737488351232) :
    Calls Tryd.prog 38 #[.slice A n c] w fun e w' => ∃ v, e = .returned v ∧ KOwn kBl w' w.heap.size 65 v l ∧ Below w.heap.size w w' := by
  obtain rfl := hr.len
  obtain ⟨i0, hi0, hz0, hz1, hz2⟩ := info_parts u8_info
  obtain ⟨j0, hj0, hw0, hw1, hw2⟩ := info_parts blob_info
  have HG := Lib.hid hg
  clear hg
  go_enter Tryd.func38, Tryd.ntmps38
  go_wp2
  go_loopw [3, 5, 8] (fun v _ i wr => ∃ (k : Nat), k ≤ l.length ∧ i = .int .i64 k ∧ KOwn kBl wr w.heap.size 65 v (l.take k) ∧ Below w.heap.size w wr) (fun _ _ i _ => l.length - (intOf i).toNat)
  case atStart => exact ⟨0, Nat.zero_le _, rfl, KOwn.nil _ _ _, Below.refl _ _⟩
  case round =>
    obtain ⟨k, hk, rfl, hown, hbel⟩ := hrel
    by_cases hlt : k < l.length
    · obtain ⟨b, off, D, dn, dc, rfl, hc0, hc1, hc2, hc3, hrD, hDn⟩ := (hr.below hbel).blob hlt
      have hgk := HG.out l[k] (List.getElem_mem hlt)
      have HT : Hid (l.take (k + 1) = l.take k ++ [l[k]]) := List.take_succ_eq_append_getElem hlt
      have hki : (k : Int) < (l.length : Int) := by omega
      have htk : (l.take k).length = k := by rw [List.length_take]; omega
      generalize l[k] = p at *
      obtain ⟨dgs, dts, pn, mr⟩ := p
      obtain ⟨-, -, g2⟩ := hgk
      simp only at g2 hc0 hc1 hc2 hc3 hrD
      have hdl : dn ≤ 140737488351232 := by rw [hrD.len]; exact g2
      have hal := (Below.refl wr.heap.size wr).alloc (Nat.le_refl _) (.cells #[.string (str dgs), .slice D dn dc, .int .i64 pn, .bool mr] 65)
      have hbk := Blk.new wr 65 [.string (str dgs), .slice D dn dc, .int .i64 pn, .bool mr]
      have hown' := hown.below hal
      have hob : u3.ownBlock ≠ some wr.heap.size := fun q => by
        obtain ⟨_, _, hrw, _⟩ := hown.row
        have := (hrw.lt _ q).2
        omega
      have hrD' := hrD.below hal
      have hbel' := hbel.trans (hal.mono hbel.size)
      clear hown hrD hbel
      go_wp2
      generalize wr.alloc (.cells [Value.string (str dgs), .slice D dn dc, .int .i64 pn, .bool mr].toArray 65) = u at *
      obtain ⟨hs, hmap, hrow, hdeep⟩ := hown'.row
      rw [htk] at hrow
      have hrow4 : u.ownsRow w.heap.size 65 4 u3 k (kBl.all hs) := hrow
      have hglt := hbk.lt
      have c0 := hbk.cell 0
      have c1 := hbk.cell 1
      have c2 := hbk.cell 2
      have c3 := hbk.cell 3
      simp only [List.getElem?_cons_succ, List.getElem?_cons_zero] at c0 c1 c2 c3
      have hsz0 := hbel'.size
      have HU : u.drew.heap.size = u.heap.size := rfl
      have hobs : ∀ k, u3.ownBlock = some k → k < u.heap.size := fun k q => (hrow.lt k q).2
      have HOB := Lib.hid hobs
      clear hobs
      clear hc0 hc1 hc2 hc3 hal hbk hrow
      go_region_held_law (fun W => W.cell? ⟨wr.heap.size, 0, none⟩ = some (.string (str dgs)) ∧ W.cell? ⟨wr.heap.size, 1, none⟩ = some (.slice D dn dc) ∧ W.cell? ⟨wr.heap.size, 2, none⟩ = some (.int .i64 pn) ∧ W.cell? ⟨wr.heap.size, 3, none⟩ = some (.bool mr))
        (first | exact ⟨c0, c1, c2, c3⟩ | exact ⟨k0, k1, k2, k3⟩ | exact ⟨m0, m1, m2, m3⟩ | go_keep)
        (first
          | (refine step_appendM (by rfl) (.const (.slice none 0 0)) (.tmp 16) _ (by rfl) Tryd.underlying31 hi0 hz0 hz1 hz2 rfl (by omega) (.slice none 0 0) 0 [] (by rfl) (w0 := u.drew) (World.ownsRow_nil _ u.drew.heap.size _ _) hrD'.drew hDn (bytes_one _) (by first | rfl | simp [Act.eval]) (by omega) (by unfold maxLen; omega) (Nat.le_refl _) ?_; rintro v5 w5 ⟨hown5, hb5, hs5, -⟩; rw [HU] at hs5 hb5 hown5; rw [Nat.zero_add, List.nil_append] at hown5; have hl5 := Lib.hid hown5.lt; obtain ⟨A5, c5, rfl, hr5, hA5, hF5⟩ := own_rdF hown5; have k0 := (hb5.cell (p := ⟨wr.heap.size, 0, none⟩) hglt).trans c0; have k1 := (hb5.cell (p := ⟨wr.heap.size, 1, none⟩) hglt).trans c1; have k2 := (hb5.cell (p := ⟨wr.heap.size, 2, none⟩) hglt).trans c2; have k3 := (hb5.cell (p := ⟨wr.heap.size, 3, none⟩) hglt).trans c3; have ow5 := own_below (own_drewN hrow4 1) hb5; have hg5 := Nat.lt_of_lt_of_le hglt hs5)
          | (refine step_append1 (by rfl) (.tmp 12) (.tmp 23) _ (by rfl) Tryd.underlying22 hj0 hw0 hw1 hw2 rfl (by omega) u3 _ _ (by rfl) ow5 [.string (str dgs), .slice A5 dn c5, .int .i64 pn, .bool mr] rfl (by simp [Value.oneCell']) (by first | rfl | simp [Act.eval]) (by omega) (by unfold maxLen; omega) (by omega) ?_; rintro v6 w6 ⟨hown6, hb6, hsz6, hfar6⟩; have h6 := (hfar6 wr.heap.size hg5 hob).2; have m0 := (cell_heap h6 0).trans k0; have m1 := (cell_heap h6 1).trans k1; have m2 := (cell_heap h6 2).trans k2; have m3 := (cell_heap h6 3).trans k3))
      have HKN : Hid (KOwn kBl w6 w.heap.size 65 v6 (l.take (k + 1))) := by
        show KOwn ..
        rw [HT.out]
        refine KOwn.app (w := w5) (v := u3) (m := [(⟨dgs, dts, pn, mr⟩, ⟨A5, dn, c5⟩)]) hmap (fun x hx => ?_) (fun x hx => ?_) ?_ hsz6 hfar6
        · refine ⟨kBl.keep (hdeep x hx).1 fun j _ hj => hb5.block j hj, fun j hj => ?_⟩
          obtain ⟨q1, q2, q3⟩ := (hdeep x hx).2 j hj
          exact ⟨q1, by omega, q3⟩
        · rw [List.mem_singleton] at hx
          subst hx
          refine ⟨⟨hr5, hA5⟩, fun j hj => ?_⟩
          obtain ⟨a, rfl, rfl⟩ := mem_blk1.1 hj
          have q1 := hF5 a rfl
          have q2 := (hl5.out a.block rfl).2
          exact ⟨by omega, q2, fun q => by have := HOB.out _ q; omega⟩
        · rw [htk, Kin.all_one]
          exact hown6
      have hbZ := (below_step hbel'.drew hb5).trans hb6
      clear hmap hdeep hown6 hfar6 hr5 hb5 hb6
      go_wp2
      go_roundw
      case rel => exact ⟨k + 1, by omega, by go_num, HKN.out, hbZ⟩
      case measure => simp [intOf] <;> omega
    · have hd2 : decide ((k : Int) < (l.length : Int)) = false := by simp; omega
      have HX : l.take k = l := List.take_of_length_le (by omega)
      rw [HX] at hown
      go_wp2
      go_ret
      exact ⟨_, rfl, hown, hbel⟩
end Go.Proofs.YtnadgdjaldemhaaDoor
/- The reference's BlobsPut. -/
namespace Go.Proofs.YtnadgdjaldemhaaDoor
open Go.RowKit
set_option maxRecDepth 100000 in
set_option maxHeartbeats 1000000 in
theorem blobsPut_no (A : Option Addr) (n c : Nat) (l : List Bl) (B : Option Addr) (m d : Nat) (b : List UInt8) (w : World) (hr : KRd kBl w A n c l) (hg : ∀ p ∈ l, p.good) (_hb : Rd w 1 B m d (b.map bv8)) (er : Int) (he : bsErr l = er) (hne : er ≠ 0) :
    Calls Tryd.prog 43 #[.slice A n c, .slice B m d] w (GivesPut [] [] er w) := by
  have hd : (er != 0) = true := by rw [bne_iff_ne]; exact hne
  have HE := Lib.hid he
  clear he hne
  go_enter Tryd.func43, Tryd.ntmps43
  go_wp2_with fail
  with_reducible refine (blobsFault_any _ _ _ _ _ hr hg).mono ?_
  rw [HE.out]
  rintro e w1 ⟨rfl, hb1⟩
  go_wp2
  go_ret3
  exact givesPut_nil rfl hb1
set_option maxRecDepth 100000 in
set_option maxHeartbeats 1000000 in
theorem blobsPut_big (A : Option Addr) (n c : Nat) (l : List Bl) (B : Option Addr) (m d : Nat) (b : List UInt8) (w : World) (hr : KRd kBl w A n c l) (hg : ∀ p ∈ l, p.good) (hb : Rd w 1 B m d (b.map bv8)) (he : bsErr l = 0) (hm : 300 < m) :
    Calls Tryd.prog 43 #[.slice A n c, .slice B m d] w (GivesPut [] [] 1 w) := by
  have hbm := hb.2.1
  have hbx := hb.2.2.1
  unfold maxLen at hbx
  have z1 : decide (300 < (m : Int)) = true := by simp; omega
  have HE := Lib.hid he
  clear he hm
  go_enter Tryd.func43, Tryd.ntmps43
  go_wp2_with fail
  with_reducible refine (blobsFault_any _ _ _ _ _ hr hg).mono ?_
  rw [HE.out]
  rintro e w1 ⟨rfl, hb1⟩
  go_wp2
  go_ret3
  exact givesPut_nil rfl hb1
set_option maxRecDepth 100000 in
set_option maxHeartbeats 1000000 in
theorem blobsPut_there (A : Option Addr) (n c : Nat) (l : List Bl) (B : Option Addr) (m d : Nat) (b : List UInt8) (w : World) (hr : KRd kBl w A n c l) (hg : ∀ p ∈ l, p.good) (hb : Rd w 1 B m d (b.map bv8)) (hB : B = none → d = 0) (he : bsErr l = 0) (hm : m ≤ 300) (ha : bAt l (dig b) < l.length) :
    Calls Tryd.prog 43 #[.slice A n c, .slice B m d] w (GivesPut l (dig b) 0 w) := by
  have h24 := (bsErr_zero.1 he).1
  have hn := hr.len
  have hn24 : n ≤ 24 := by omega
  have z1 : decide (300 < (m : Int)) = false := by simp; omega
  obtain ⟨K, hK⟩ : ∃ K, bAt l (dig b) = K := ⟨_, rfl⟩
  have HK := Lib.hid hK
  have k1 : K < n := by omega
  have HE := Lib.hid he
  generalize hdd : dig b = dd at *
  have HD := Lib.hid hdd
  clear he ha hK hn h24 hdd
  go_enter Tryd.func43, Tryd.ntmps43
  go_wp2_with fail
  with_reducible refine (blobsFault_any _ _ _ _ _ hr hg).mono ?_
  rw [HE.out]
  rintro e w1 ⟨rfl, hb1⟩
  go_wp2_with fail
  with_reducible refine (rsum_ok _ _ _ b _ (hb.below hb1) hB (by omega)).mono ?_
  rw [HD.out]
  rintro e w2 ⟨rfl, hb2⟩
  have hbA := below_step hb1 hb2
  go_wp2_with fail
  with_reducible refine (blobAt_any _ _ _ _ _ _ (hr.below hbA)).mono ?_
  rw [HK.out]
  rintro e w2' ⟨rfl, rfl⟩
  go_wp2_with fail
  with_reducible refine (blobsCopy_any _ _ _ _ _ (hr.below hbA) hg (by omega)).mono ?_
  rintro e w3 ⟨v3, rfl, hown3, hb3⟩
  obtain ⟨A3, c3, rfl, hnew⟩ := hown3.new
  go_wp2
  go_ret3
  exact ⟨_, _, _, rfl, hnew.rebase hbA.size, below_step hbA hb3⟩
set_option maxRecDepth 100000 in
set_option maxHeartbeats 1000000 in
theorem blobsPut_full (A : Option Addr) (n c : Nat) (l : List Bl) (B : Option Addr) (m d : Nat) (b : List UInt8) (w : World) (hr : KRd kBl w A n c l) (hg : ∀ p ∈ l, p.good) (hb : Rd w 1 B m d (b.map bv8)) (hB : B = none → d = 0) (he : bsErr l = 0) (hm : m ≤ 300) (ha : ¬ bAt l (dig b) < l.length) (h23 : 23 < l.length) :
    Calls Tryd.prog 43 #[.slice A n c, .slice B m d] w (GivesPut [] [] 7 w) := by
  have h24 := (bsErr_zero.1 he).1
  have hn := hr.len
  obtain rfl : n = 24 := by omega
  have z1 : decide (300 < (m : Int)) = false := by simp; omega
  obtain ⟨K, hK⟩ : ∃ K, bAt l (dig b) = K := ⟨_, rfl⟩
  have HK := Lib.hid hK
  have k1 : ¬ K < 24 := by omega
  have HE := Lib.hid he
  generalize hdd : dig b = dd at *
  have HD := Lib.hid hdd
  clear he ha hK hn h24 hdd h23
  go_enter Tryd.func43, Tryd.ntmps43
  go_wp2_with fail
  with_reducible refine (blobsFault_any _ _ _ _ _ hr hg).mono ?_
  rw [HE.out]
  rintro e w1 ⟨rfl, hb1⟩
  go_wp2_with fail
  with_reducible refine (rsum_ok _ _ _ b _ (hb.below hb1) hB (by omega)).mono ?_
  rw [HD.out]
  rintro e w2 ⟨rfl, hb2⟩
  have hbA := below_step hb1 hb2
  go_wp2_with fail
  with_reducible refine (blobAt_any _ _ _ _ _ _ (hr.below hbA)).mono ?_
  rw [HK.out]
  rintro e w2' ⟨rfl, rfl⟩
  go_wp2
  go_ret3
  exact givesPut_nil rfl hbA
set_option maxRecDepth 100000 in
set_option maxHeartbeats 4000000 in
theorem blobsPut_new (A : Option Addr) (n c : Nat) (l : List Bl) (B : Option Addr) (m d : Nat) (b : List UInt8) (w : World) (hr : KRd kBl w A n c l) (hA : A = none → c = 0) (hg : ∀ p ∈ l, p.good) (hb : Rd w 1 B m d (b.map bv8)) (hB : B = none → d = 0) (he : bsErr l = 0) (hm : m ≤ 300) (ha : ¬ bAt l (dig b) < l.length) (h23 : l.length ≤ 23) :
    Calls Tryd.prog 43 #[.slice A n c, .slice B m d] w (GivesPut (l.take (bTo l (dig b)) ++ ⟨dig b, b, 0, false⟩ :: l.drop (bTo l (dig b))) (dig b) 0 w) := by
  obtain rfl := hr.len
  have z1 : decide (300 < (m : Int)) = false := by simp; omega
  obtain ⟨K, hK⟩ : ∃ K, bAt l (dig b) = K := ⟨_, rfl⟩
  have HK := Lib.hid hK
  have k1 : ¬ K < l.length := by omega
  have HE := Lib.hid he
  have k2 : ¬ 23 < l.length := by omega
  have k3 : decide (23 < (l.length : Int)) = false := by simp; omega
  generalize hdd : dig b = dd at *
  have HD := Lib.hid hdd
  obtain ⟨T, hT⟩ : ∃ T, bTo l dd = T := ⟨_, rfl⟩
  have HT := Lib.hid hT
  have hTl : T ≤ l.length := by rw [← hT]; exact bTo_le l dd
  rw [hT]
  obtain ⟨L1, hE1⟩ : ∃ L1, l.take T = L1 := ⟨_, rfl⟩
  obtain ⟨L2, hE2⟩ : ∃ L2, l.drop T = L2 := ⟨_, rfl⟩
  rw [hE1, hE2]
  have HE1 := Lib.hid hE1
  have HE2 := Lib.hid hE2
  clear he ha hK hdd hT hE1 hE2
  go_enter Tryd.func43, Tryd.ntmps43
  go_wp2_with fail
  with_reducible refine (blobsFault_any _ _ _ _ _ hr hg).mono ?_
  rw [HE.out]
  rintro e w1 ⟨rfl, hb1⟩
  go_wp2_with fail
  with_reducible refine (rsum_ok _ _ _ b _ (hb.below hb1) hB (by omega)).mono ?_
  rw [HD.out]
  rintro e w2 ⟨rfl, hb2⟩
  have hbA := below_step hb1 hb2
  go_wp2_with fail
  with_reducible refine (blobAt_any _ _ _ _ _ _ (hr.below hbA)).mono ?_
  rw [HK.out]
  rintro e w2' ⟨rfl, rfl⟩
  go_upto_block 0 with fail
  go_cut [10] from 37 to 51 (fun s10 wx => s10 = .int .i64 (T : Int) ∧ wx = w2)
  case first =>
    have hr2 := hr.below hbA
    clear hA hg hb hB hr
    go_wp2_with fail
    go_loop [10] (fun i => ∃ k : Nat, k ≤ l.length ∧ i = .int .i64 k ∧ Hid (∀ j (h : j < l.length), j < k → Op.bytesLess l[j].dg dd = true)) (fun i => l.length - (intOf i).toNat)
    case atStart => exact ⟨0, Nat.zero_le _, rfl, fun j _ h => absurd h (by omega)⟩
    case round =>
      obtain ⟨k, hk, rfl, HA⟩ := hrel
      by_cases hlt : k < l.length
      · obtain ⟨bb, off, D, dn, dc, rfl, hc0, -, -, -, -, -⟩ := hr2.blob hlt
        have hki : (k : Int) < (l.length : Int) := by omega
        have d1 : decide ((k : Int) < (l.length : Int)) = true := by simpa using hki
        by_cases hq : Op.bytesLess l[k].dg dd = true
        · have HN : Hid (∀ j (h : j < l.length), j < k + 1 → Op.bytesLess l[j].dg dd = true) := fun j h hj => by
            rcases Nat.lt_or_eq_of_le (Nat.le_of_lt_succ hj) with q | q
            · exact HA.out j h q
            · subst q; exact hq
          generalize l[k].dg = y at *
          go_wp2
          go_round
          case rel => exact ⟨k + 1, by omega, by go_num, HN.out⟩
          case measure => simp [intOf] <;> omega
        · have hq' : Op.bytesLess l[k].dg dd = false := by simpa using hq
          have HF : Hid (T = k) := by show _ = _; rw [← HT.out]; exact bTo_eq hk HA.out (fun _ => hq')
          clear hq
          generalize l[k].dg = y at *
          go_wp2
          go_meet
          exact ⟨by rw [HF.out], rfl⟩
      · have d1 : decide ((k : Int) < (l.length : Int)) = false := by simp; omega
        have HF : Hid (T = k) := by show _ = _; rw [← HT.out]; exact bTo_eq hk HA.out (fun h => absurd h hlt)
        go_wp2
        go_meet
        exact ⟨by rw [HF.out], rfl⟩
  case rest =>
    obtain ⟨rfl, rfl⟩ := hcut
    obtain ⟨i0, hi0, hz0, hz1, hz2⟩ := info_parts u8_info
    obtain ⟨j0, hj0, hw0, hw1, hw2⟩ := info_parts blob_info
    have hr2 := hr.below hbA
    have hcap := hr.cap
    have hTc : (T : Int) ≤ (c : Int) := by omega
    have hTn : (T : Int) ≤ (l.length : Int) := by omega
    have hg1 : ∀ p ∈ l.take T, p.good := fun p hp => hg p (List.mem_of_mem_take hp)
    have hg2 : ∀ p ∈ l.drop T, p.good := fun p hp => hg p (List.mem_of_mem_drop hp)
    have HG1 := Lib.hid hg1
    have HG2 := Lib.hid hg2
    have hr54 := hr2.take T hTl
    have hrW := hr
    have hb2' := hb.below hbA
    have HBL := Lib.hid hb.len
    have hms : m ≤ 300 := hm
    have HMX : Hid (c ≤ maxLen) := hcap.2
    clear hg hg1 hg2 hb hb1 hb2 hr HE HK HT k1 k2 k3
    have hE1 := HE1.out
    have hE2 := HE2.out
    have hlT : L1.length ≤ 23 := by rw [← hE1, List.length_take]; omega
    have hL2 : L2.length ≤ 23 := by rw [← hE2, List.length_drop]; omega
    rw [hE1] at HG1 hr54
    rw [hE2] at HG2
    clear HE1 HE2
    by_cases hl0 : l.length = 0
    · obtain rfl : T = 0 := by omega
      have hL10 : L1 = [] := by rw [← hE1]; rfl
      have hL20 : L2 = [] := by rw [← hE2]; exact List.drop_of_length_le (by omega)
      have hcm : c ≤ maxLen := HMX.out
      have hr54z : ∀ A', KRd kBl wc A' 0 c L1 := fun A' => by rw [hL10]; exact KRd.none0 _ _ _ hcm
      have hr65 : ∀ A', KRd kBl w A' 0 c L2 := fun A' => by rw [hL20]; exact KRd.none0 _ _ _ hcm
      have hsz65 : 0 * 56 ≤ 140737488351232 := by omega
      rw [hl0]
      clear hE1 hE2 hL10 hL20 hl0 hTl hTn hcap
      by_cases hc0 : c = 0
      · subst hc0
        go_wp2_with fail
        with_reducible refine (blobsCopy_any _ _ _ _ _ (hr54z _) HG1.out (by omega)).mono ?_
        rintro e w3 ⟨v3, rfl, hown3, hb3⟩
        have hbB := below_step hbA hb3
        have hb3' := hb2'.below hb3
        have K3 := hown3.rebase hbA.size
        have hszB := hbB.size
        clear hown3 hb3 hr54 hr2 hb2' hrW
        go_wp2_with (at_builtin; first
          | (refine wpList_appendM rfl (.const (.slice none 0 0)) (.tmp 57) _ rfl Tryd.underlying31 hi0 hz0 hz1 hz2 rfl (by omega) _ _ _ rfl (World.ownsRow_nil w3 w3.heap.size _ _) hb3' hB (bytes_one _) rfl (by omega) (by unfold maxLen; omega) (Nat.le_refl _) ?_; rintro v4 w4 ⟨hown4, hb4, hs4, -⟩; rw [Nat.zero_add, List.nil_append] at hown4; have hl4 := Lib.hid hown4.lt; obtain ⟨A4, c4, rfl, hr4, hA4, hF4⟩ := own_rdF hown4; obtain ⟨hs, hmap, hrow, hdeep⟩ := (K3.below hb4).row; have hrow4 : w4.ownsRow w.heap.size 65 4 v3 L1.length (kBl.all hs) := hrow; have HOB : Hid (∀ k, v3.ownBlock = some k → k < w3.heap.size) := (fun k q => by obtain ⟨_, _, hrw, _⟩ := K3.row; exact (hrw.lt k q).2))
          | (refine wpList_append1' rfl (.tmp 55) (.tmp 60) _ rfl Tryd.underlying22 hj0 hw0 hw1 hw2 rfl (by omega) v3 _ _ rfl hrow4 [.string (str dd), .slice A4 m c4, .int .i64 0, .bool false] rfl (by simp [Value.oneCell']) rfl (by omega) (by unfold maxLen; omega) (by omega) ?_; rintro v5 w5 ⟨hown5, hb5, hsz5, hfar5⟩))
        have K5 : KOwn kBl w5 w.heap.size 65 v5 (L1 ++ [⟨dd, b, 0, false⟩]) := by
          refine KOwn.app (w := w4) (v := v3) (m := [(⟨dd, b, 0, false⟩, ⟨A4, m, c4⟩)]) hmap hdeep (fun x hx => ?_) ?_ hsz5 hfar5
          · rw [List.mem_singleton] at hx
            subst hx
            refine ⟨⟨hr4, hA4⟩, fun j hj => ?_⟩
            obtain ⟨a, rfl, rfl⟩ := mem_blk1.1 hj
            have q1 := hF4 a rfl
            have q2 := (hl4.out a.block rfl).2
            exact ⟨by omega, q2, fun q => by have := HOB.out _ q; omega⟩
          · rw [Kin.all_one]
            exact hown5
        have hbC := (below_step hbB hb4).trans hb5
        have HOB5 : Hid (∀ k, v5.ownBlock = some k → k < w5.heap.size) := fun k q => by obtain ⟨_, _, hrw, _⟩ := K5.row; exact (hrw.lt k q).2
        have hszC := hbC.size
        clear hown5 hfar5 hmap hdeep hrow hrow4 hr4 hF4 hown4 hb4 hb5 K3
        with_reducible refine (blobsCopy_any _ _ _ _ _ ((hr65 _).below hbC) HG2.out hsz65).mono ?_
        rintro e w6 ⟨v6, rfl, hown6, hb6⟩
        obtain ⟨A6, c6, rfl, hs6, hmap6, hr6, hA6, hB6, hd6⟩ := hown6.new
        have hr6' : Rd w6 4 A6 L2.length c6 (kBl.all hs6) := hr6
        have hbD := below_step hbC hb6
        obtain ⟨hs5, hmap5, hrow5, hdeep5⟩ := (K5.below hb6).row
        have hrow5' : w6.ownsRow w.heap.size 65 4 v5 (L1 ++ [(⟨dd, b, 0, false⟩ : Bl)]).length (kBl.all hs5) := hrow5
        have hLA : (L1 ++ [(⟨dd, b, 0, false⟩ : Bl)]).length ≤ 24 := by rw [List.length_append]; simp; omega
        have HL3 : Hid (L2.length = hs6.length) := by show _ = _; rw [← hmap6, List.length_map]
        clear K5 hown6 hr65
        go_wp2_with (at_builtin; refine wpList_appendM rfl (.tmp 62) (.tmp 66) _ rfl Tryd.underlying22 hj0 hw0 hw1 hw2 rfl (by omega) v5 _ _ rfl hrow5' hr6' hA6 (kBl.all_one' hs6) rfl (by omega) (by unfold maxLen; omega) hbD.size ?_; rintro v7 w7 ⟨hown7, hb7, hs7, hfar7⟩)
        have K7 : KOwn kBl w7 w.heap.size 65 v7 ((L1 ++ [⟨dd, b, 0, false⟩]) ++ hs6.map Prod.fst) := by
          refine KOwn.app (w := w6) (v := v5) (m := hs6) hmap5 hdeep5 (fun x hx => ⟨(hd6 x hx).1, fun j hj => ?_⟩) ?_ hs7 hfar7.out
          · obtain ⟨q1, q2⟩ := (hd6 x hx).2 j hj
            exact ⟨by omega, q2, fun q => by have := HOB5.out _ q; omega⟩
          · rw [← HL3.out]
            exact hown7
        rw [hmap6, List.append_assoc, List.singleton_append] at K7
        obtain ⟨A7, c7, rfl, hnew⟩ := K7.new
        go_ret3
        exact ⟨_, _, _, rfl, hnew, hbD.trans hb7⟩
      · obtain ⟨a, rfl⟩ : ∃ a, A = some a := by
          rcases A with _ | a
          · exact absurd (hA rfl) hc0
          · exact ⟨a, rfl⟩
        go_wp2_with fail
        with_reducible refine (blobsCopy_any _ _ _ _ _ (hr54z _) HG1.out (by omega)).mono ?_
        rintro e w3 ⟨v3, rfl, hown3, hb3⟩
        have hbB := below_step hbA hb3
        have hb3' := hb2'.below hb3
        have K3 := hown3.rebase hbA.size
        have hszB := hbB.size
        clear hown3 hb3 hr54 hr2 hb2' hrW
        go_wp2_with (at_builtin; first
          | (refine wpList_appendM rfl (.const (.slice none 0 0)) (.tmp 57) _ rfl Tryd.underlying31 hi0 hz0 hz1 hz2 rfl (by omega) _ _ _ rfl (World.ownsRow_nil w3 w3.heap.size _ _) hb3' hB (bytes_one _) rfl (by omega) (by unfold maxLen; omega) (Nat.le_refl _) ?_; rintro v4 w4 ⟨hown4, hb4, hs4, -⟩; rw [Nat.zero_add, List.nil_append] at hown4; have hl4 := Lib.hid hown4.lt; obtain ⟨A4, c4, rfl, hr4, hA4, hF4⟩ := own_rdF hown4; obtain ⟨hs, hmap, hrow, hdeep⟩ := (K3.below hb4).row; have hrow4 : w4.ownsRow w.heap.size 65 4 v3 L1.length (kBl.all hs) := hrow; have HOB : Hid (∀ k, v3.ownBlock = some k → k < w3.heap.size) := (fun k q => by obtain ⟨_, _, hrw, _⟩ := K3.row; exact (hrw.lt k q).2))
          | (refine wpList_append1' rfl (.tmp 55) (.tmp 60) _ rfl Tryd.underlying22 hj0 hw0 hw1 hw2 rfl (by omega) v3 _ _ rfl hrow4 [.string (str dd), .slice A4 m c4, .int .i64 0, .bool false] rfl (by simp [Value.oneCell']) rfl (by omega) (by unfold maxLen; omega) (by omega) ?_; rintro v5 w5 ⟨hown5, hb5, hsz5, hfar5⟩))
        have K5 : KOwn kBl w5 w.heap.size 65 v5 (L1 ++ [⟨dd, b, 0, false⟩]) := by
          refine KOwn.app (w := w4) (v := v3) (m := [(⟨dd, b, 0, false⟩, ⟨A4, m, c4⟩)]) hmap hdeep (fun x hx => ?_) ?_ hsz5 hfar5
          · rw [List.mem_singleton] at hx
            subst hx
            refine ⟨⟨hr4, hA4⟩, fun j hj => ?_⟩
            obtain ⟨a, rfl, rfl⟩ := mem_blk1.1 hj
            have q1 := hF4 a rfl
            have q2 := (hl4.out a.block rfl).2
            exact ⟨by omega, q2, fun q => by have := HOB.out _ q; omega⟩
          · rw [Kin.all_one]
            exact hown5
        have hbC := (below_step hbB hb4).trans hb5
        have HOB5 : Hid (∀ k, v5.ownBlock = some k → k < w5.heap.size) := fun k q => by obtain ⟨_, _, hrw, _⟩ := K5.row; exact (hrw.lt k q).2
        have hszC := hbC.size
        clear hown5 hfar5 hmap hdeep hrow hrow4 hr4 hF4 hown4 hb4 hb5 K3
        with_reducible refine (blobsCopy_any _ _ _ _ _ ((hr65 _).below hbC) HG2.out hsz65).mono ?_
        rintro e w6 ⟨v6, rfl, hown6, hb6⟩
        obtain ⟨A6, c6, rfl, hs6, hmap6, hr6, hA6, hB6, hd6⟩ := hown6.new
        have hr6' : Rd w6 4 A6 L2.length c6 (kBl.all hs6) := hr6
        have hbD := below_step hbC hb6
        obtain ⟨hs5, hmap5, hrow5, hdeep5⟩ := (K5.below hb6).row
        have hrow5' : w6.ownsRow w.heap.size 65 4 v5 (L1 ++ [(⟨dd, b, 0, false⟩ : Bl)]).length (kBl.all hs5) := hrow5
        have hLA : (L1 ++ [(⟨dd, b, 0, false⟩ : Bl)]).length ≤ 24 := by rw [List.length_append]; simp; omega
        have HL3 : Hid (L2.length = hs6.length) := by show _ = _; rw [← hmap6, List.length_map]
        clear K5 hown6 hr65
        go_wp2_with (at_builtin; refine wpList_appendM rfl (.tmp 62) (.tmp 66) _ rfl Tryd.underlying22 hj0 hw0 hw1 hw2 rfl (by omega) v5 _ _ rfl hrow5' hr6' hA6 (kBl.all_one' hs6) rfl (by omega) (by unfold maxLen; omega) hbD.size ?_; rintro v7 w7 ⟨hown7, hb7, hs7, hfar7⟩)
        have K7 : KOwn kBl w7 w.heap.size 65 v7 ((L1 ++ [⟨dd, b, 0, false⟩]) ++ hs6.map Prod.fst) := by
          refine KOwn.app (w := w6) (v := v5) (m := hs6) hmap5 hdeep5 (fun x hx => ⟨(hd6 x hx).1, fun j hj => ?_⟩) ?_ hs7 hfar7.out
          · obtain ⟨q1, q2⟩ := (hd6 x hx).2 j hj
            exact ⟨by omega, q2, fun q => by have := HOB5.out _ q; omega⟩
          · rw [← HL3.out]
            exact hown7
        rw [hmap6, List.append_assoc, List.singleton_append] at K7
        obtain ⟨A7, c7, rfl, hnew⟩ := K7.new
        go_ret3
        exact ⟨_, _, _, rfl, hnew, hbD.trans hb7⟩
    · obtain ⟨bb, off, D, dn, dc, rfl, -⟩ := hr2.blob (k := 0) (by omega)
      by_cases hcT : c = T
      · have hTn2 : T = l.length := by omega
        have hL20 : L2 = [] := by rw [← hE2]; exact List.drop_of_length_le (by omega)
        have hr65 : KRd kBl w (some ⟨bb, off, none⟩) 0 0 L2 := by rw [hL20]; exact KRd.none0 _ _ _ (by unfold maxLen; omega)
        have hsz65 : 0 * 56 ≤ 140737488351232 := by omega
        subst hcT
        have hcc : l.length = c := by omega
        have hc23 : c ≤ 23 := by omega
        rw [hcc]
        clear hE1 hE2 hL20 hTn2 hcc hl0 hTl hTn hcap
        go_wp2_with fail
        with_reducible refine (blobsCopy_any _ _ _ _ _ hr54 HG1.out (by omega)).mono ?_
        rintro e w3 ⟨v3, rfl, hown3, hb3⟩
        have hbB := below_step hbA hb3
        have hb3' := hb2'.below hb3
        have K3 := hown3.rebase hbA.size
        have hszB := hbB.size
        clear hown3 hb3 hr54 hr2 hb2' hrW
        go_wp2_with (at_builtin; first
          | (refine wpList_appendM rfl (.const (.slice none 0 0)) (.tmp 57) _ rfl Tryd.underlying31 hi0 hz0 hz1 hz2 rfl (by omega) _ _ _ rfl (World.ownsRow_nil w3 w3.heap.size _ _) hb3' hB (bytes_one _) rfl (by omega) (by unfold maxLen; omega) (Nat.le_refl _) ?_; rintro v4 w4 ⟨hown4, hb4, hs4, -⟩; rw [Nat.zero_add, List.nil_append] at hown4; have hl4 := Lib.hid hown4.lt; obtain ⟨A4, c4, rfl, hr4, hA4, hF4⟩ := own_rdF hown4; obtain ⟨hs, hmap, hrow, hdeep⟩ := (K3.below hb4).row; have hrow4 : w4.ownsRow w.heap.size 65 4 v3 L1.length (kBl.all hs) := hrow; have HOB : Hid (∀ k, v3.ownBlock = some k → k < w3.heap.size) := (fun k q => by obtain ⟨_, _, hrw, _⟩ := K3.row; exact (hrw.lt k q).2))
          | (refine wpList_append1' rfl (.tmp 55) (.tmp 60) _ rfl Tryd.underlying22 hj0 hw0 hw1 hw2 rfl (by omega) v3 _ _ rfl hrow4 [.string (str dd), .slice A4 m c4, .int .i64 0, .bool false] rfl (by simp [Value.oneCell']) rfl (by omega) (by unfold maxLen; omega) (by omega) ?_; rintro v5 w5 ⟨hown5, hb5, hsz5, hfar5⟩))
        have K5 : KOwn kBl w5 w.heap.size 65 v5 (L1 ++ [⟨dd, b, 0, false⟩]) := by
          refine KOwn.app (w := w4) (v := v3) (m := [(⟨dd, b, 0, false⟩, ⟨A4, m, c4⟩)]) hmap hdeep (fun x hx => ?_) ?_ hsz5 hfar5
          · rw [List.mem_singleton] at hx
            subst hx
            refine ⟨⟨hr4, hA4⟩, fun j hj => ?_⟩
            obtain ⟨a, rfl, rfl⟩ := mem_blk1.1 hj
            have q1 := hF4 a rfl
            have q2 := (hl4.out a.block rfl).2
            exact ⟨by omega, q2, fun q => by have := HOB.out _ q; omega⟩
          · rw [Kin.all_one]
            exact hown5
        have hbC := (below_step hbB hb4).trans hb5
        have HOB5 : Hid (∀ k, v5.ownBlock = some k → k < w5.heap.size) := fun k q => by obtain ⟨_, _, hrw, _⟩ := K5.row; exact (hrw.lt k q).2
        have hszC := hbC.size
        clear hown5 hfar5 hmap hdeep hrow hrow4 hr4 hF4 hown4 hb4 hb5 K3
        with_reducible refine (blobsCopy_any _ _ _ _ _ (hr65.below hbC) HG2.out hsz65).mono ?_
        rintro e w6 ⟨v6, rfl, hown6, hb6⟩
        obtain ⟨A6, c6, rfl, hs6, hmap6, hr6, hA6, hB6, hd6⟩ := hown6.new
        have hr6' : Rd w6 4 A6 L2.length c6 (kBl.all hs6) := hr6
        have hbD := below_step hbC hb6
        obtain ⟨hs5, hmap5, hrow5, hdeep5⟩ := (K5.below hb6).row
        have hrow5' : w6.ownsRow w.heap.size 65 4 v5 (L1 ++ [(⟨dd, b, 0, false⟩ : Bl)]).length (kBl.all hs5) := hrow5
        have hLA : (L1 ++ [(⟨dd, b, 0, false⟩ : Bl)]).length ≤ 24 := by rw [List.length_append]; simp; omega
        have HL3 : Hid (L2.length = hs6.length) := by show _ = _; rw [← hmap6, List.length_map]
        clear K5 hown6 hr65
        go_wp2_with (at_builtin; refine wpList_appendM rfl (.tmp 62) (.tmp 66) _ rfl Tryd.underlying22 hj0 hw0 hw1 hw2 rfl (by omega) v5 _ _ rfl hrow5' hr6' hA6 (kBl.all_one' hs6) rfl (by omega) (by unfold maxLen; omega) hbD.size ?_; rintro v7 w7 ⟨hown7, hb7, hs7, hfar7⟩)
        have K7 : KOwn kBl w7 w.heap.size 65 v7 ((L1 ++ [⟨dd, b, 0, false⟩]) ++ hs6.map Prod.fst) := by
          refine KOwn.app (w := w6) (v := v5) (m := hs6) hmap5 hdeep5 (fun x hx => ⟨(hd6 x hx).1, fun j hj => ?_⟩) ?_ hs7 hfar7.out
          · obtain ⟨q1, q2⟩ := (hd6 x hx).2 j hj
            exact ⟨by omega, q2, fun q => by have := HOB5.out _ q; omega⟩
          · rw [← HL3.out]
            exact hown7
        rw [hmap6, List.append_assoc, List.singleton_append] at K7
        obtain ⟨A7, c7, rfl, hnew⟩ := K7.new
        go_ret3
        exact ⟨_, _, _, rfl, hnew, hbD.trans hb7⟩
      · have hr65 : KRd kBl w (some ⟨bb, off + T * 4, none⟩) (l.length - T) (c - T) L2 := by rw [← hE2]; exact hrW.drop T hTl
        have hsz65 : (l.length - T) * 56 ≤ 140737488351232 := by omega
        clear hE1 hE2
        go_wp2_with fail
        with_reducible refine (blobsCopy_any _ _ _ _ _ hr54 HG1.out (by omega)).mono ?_
        rintro e w3 ⟨v3, rfl, hown3, hb3⟩
        have hbB := below_step hbA hb3
        have hb3' := hb2'.below hb3
        have K3 := hown3.rebase hbA.size
        have hszB := hbB.size
        clear hown3 hb3 hr54 hr2 hb2' hrW
        go_wp2_with (at_builtin; first
          | (refine wpList_appendM rfl (.const (.slice none 0 0)) (.tmp 57) _ rfl Tryd.underlying31 hi0 hz0 hz1 hz2 rfl (by omega) _ _ _ rfl (World.ownsRow_nil w3 w3.heap.size _ _) hb3' hB (bytes_one _) rfl (by omega) (by unfold maxLen; omega) (Nat.le_refl _) ?_; rintro v4 w4 ⟨hown4, hb4, hs4, -⟩; rw [Nat.zero_add, List.nil_append] at hown4; have hl4 := Lib.hid hown4.lt; obtain ⟨A4, c4, rfl, hr4, hA4, hF4⟩ := own_rdF hown4; obtain ⟨hs, hmap, hrow, hdeep⟩ := (K3.below hb4).row; have hrow4 : w4.ownsRow w.heap.size 65 4 v3 L1.length (kBl.all hs) := hrow; have HOB : Hid (∀ k, v3.ownBlock = some k → k < w3.heap.size) := (fun k q => by obtain ⟨_, _, hrw, _⟩ := K3.row; exact (hrw.lt k q).2))
          | (refine wpList_append1' rfl (.tmp 55) (.tmp 60) _ rfl Tryd.underlying22 hj0 hw0 hw1 hw2 rfl (by omega) v3 _ _ rfl hrow4 [.string (str dd), .slice A4 m c4, .int .i64 0, .bool false] rfl (by simp [Value.oneCell']) rfl (by omega) (by unfold maxLen; omega) (by omega) ?_; rintro v5 w5 ⟨hown5, hb5, hsz5, hfar5⟩))
        have K5 : KOwn kBl w5 w.heap.size 65 v5 (L1 ++ [⟨dd, b, 0, false⟩]) := by
          refine KOwn.app (w := w4) (v := v3) (m := [(⟨dd, b, 0, false⟩, ⟨A4, m, c4⟩)]) hmap hdeep (fun x hx => ?_) ?_ hsz5 hfar5
          · rw [List.mem_singleton] at hx
            subst hx
            refine ⟨⟨hr4, hA4⟩, fun j hj => ?_⟩
            obtain ⟨a, rfl, rfl⟩ := mem_blk1.1 hj
            have q1 := hF4 a rfl
            have q2 := (hl4.out a.block rfl).2
            exact ⟨by omega, q2, fun q => by have := HOB.out _ q; omega⟩
          · rw [Kin.all_one]
            exact hown5
        have hbC := (below_step hbB hb4).trans hb5
        have HOB5 : Hid (∀ k, v5.ownBlock = some k → k < w5.heap.size) := fun k q => by obtain ⟨_, _, hrw, _⟩ := K5.row; exact (hrw.lt k q).2
        have hszC := hbC.size
        clear hown5 hfar5 hmap hdeep hrow hrow4 hr4 hF4 hown4 hb4 hb5 K3
        with_reducible refine (blobsCopy_any _ _ _ _ _ (hr65.below hbC) HG2.out hsz65).mono ?_
        rintro e w6 ⟨v6, rfl, hown6, hb6⟩
        obtain ⟨A6, c6, rfl, hs6, hmap6, hr6, hA6, hB6, hd6⟩ := hown6.new
        have hr6' : Rd w6 4 A6 L2.length c6 (kBl.all hs6) := hr6
        have hbD := below_step hbC hb6
        obtain ⟨hs5, hmap5, hrow5, hdeep5⟩ := (K5.below hb6).row
        have hrow5' : w6.ownsRow w.heap.size 65 4 v5 (L1 ++ [(⟨dd, b, 0, false⟩ : Bl)]).length (kBl.all hs5) := hrow5
        have hLA : (L1 ++ [(⟨dd, b, 0, false⟩ : Bl)]).length ≤ 24 := by rw [List.length_append]; simp; omega
        have HL3 : Hid (L2.length = hs6.length) := by show _ = _; rw [← hmap6, List.length_map]
        clear K5 hown6 hr65
        go_wp2_with (at_builtin; refine wpList_appendM rfl (.tmp 62) (.tmp 66) _ rfl Tryd.underlying22 hj0 hw0 hw1 hw2 rfl (by omega) v5 _ _ rfl hrow5' hr6' hA6 (kBl.all_one' hs6) rfl (by omega) (by unfold maxLen; omega) hbD.size ?_; rintro v7 w7 ⟨hown7, hb7, hs7, hfar7⟩)
        have K7 : KOwn kBl w7 w.heap.size 65 v7 ((L1 ++ [⟨dd, b, 0, false⟩]) ++ hs6.map Prod.fst) := by
          refine KOwn.app (w := w6) (v := v5) (m := hs6) hmap5 hdeep5 (fun x hx => ⟨(hd6 x hx).1, fun j hj => ?_⟩) ?_ hs7 hfar7.out
          · obtain ⟨q1, q2⟩ := (hd6 x hx).2 j hj
            exact ⟨by omega, q2, fun q => by have := HOB5.out _ q; omega⟩
          · rw [← HL3.out]
            exact hown7
        rw [hmap6, List.append_assoc, List.singleton_append] at K7
        obtain ⟨A7, c7, rfl, hnew⟩ := K7.new
        go_ret3
        exact ⟨_, _, _, rfl, hnew, hbD.trans hb7⟩
theorem blobsPut_any (A : Option Addr) (n c : Nat) (l : List Bl) (B : Option Addr) (m d : Nat) (b : List UInt8) (w : World) (hr : KRd kBl w A n c l) (hA : A = none → c = 0) (hg : ∀ p ∈ l, p.good) (hb : Rd w 1 B m d (b.map bv8)) (hB : B = none → d = 0) :
    Calls Tryd.prog 43 #[.slice A n c, .slice B m d] w (GivesPut (bPut l b).2.1 (bPut l b).2.2 (bPut l b).1 w) := by
  have hm := hb.len
  by_cases h1 : bsErr l = 0
  · by_cases h2 : 300 < b.length
    · rw [show bPut l b = (1, [], []) by unfold bPut; rw [if_neg (by omega), if_pos h2]]
      exact blobsPut_big A n c l B m d b w hr hg hb h1 (by omega)
    · by_cases h3 : bAt l (dig b) < l.length
      · rw [show bPut l b = (0, l, dig b) by unfold bPut; rw [if_neg (by omega), if_neg h2, if_pos h3]]
        exact blobsPut_there A n c l B m d b w hr hg hb hB h1 (by omega) h3
      · by_cases h4 : 23 < l.length
        · rw [show bPut l b = (7, [], []) by unfold bPut; rw [if_neg (by omega), if_neg h2, if_neg h3, if_pos h4]]
          exact blobsPut_full A n c l B m d b w hr hg hb hB h1 (by omega) h3 h4
        · rw [show bPut l b = (0, l.take (bTo l (dig b)) ++ ⟨dig b, b, 0, false⟩ :: l.drop (bTo l (dig b)), dig b) by unfold bPut; rw [if_neg (by omega), if_neg h2, if_neg h3, if_neg h4]]
          exact blobsPut_new A n c l B m d b w hr hA hg hb hB h1 (by omega) h3 (by omega)
  · rw [show bPut l b = (bsErr l, [], []) by unfold bPut; rw [if_pos h1]]
    exact blobsPut_no A n c l B m d b w hr hg hb _ rfl h1
end Go.Proofs.YtnadgdjaldemhaaDoor
/- The statements' own sameBlobs, of blobs that are the same. -/
namespace Go.Proofs.YtnadgdjaldemhaaDoor
open Go.RowKit
set_option maxRecDepth 100000 in
set_option maxHeartbeats 400000 in
theorem sameBytes_eq (A B : Option Addr) (n m c d : Nat) (l : List UInt8) (w : World) (ha : Rd w 1 A n c (l.map bv8)) (hb : Rd w 1 B m d (l.map bv8)) :
    Calls Tryd.prog 18 #[.slice A n c, .slice B m d] w fun e w' => e = .returned (.bool true) ∧ w = w' := by
  obtain rfl := ha.len
  obtain rfl := hb.len
  have k1 := run_bytes_str (P := Tryd.prog) Tryd.underlying31 Tryd.underlying5 Tryd.underlying9 ha
  have k2 := run_bytes_str (P := Tryd.prog) Tryd.underlying31 Tryd.underlying5 Tryd.underlying9 hb
  go_enter Tryd.func18, Tryd.ntmps18
  go_wp2
  go_ret
  exact ⟨by simp, rfl⟩
set_option maxRecDepth 100000 in
set_option maxHeartbeats 1000000 in
theorem sameBlob_eq (x : Bl) (h k : Hd) (w : World) (ha : kBl.deep w x h) (hb : kBl.deep w x k) :
    Calls Tryd.prog 67 #[.agg #[.string (str x.dg), .slice h.A h.n h.c, .int .i64 x.pn, .bool x.mr], .agg #[.string (str x.dg), .slice k.A k.n k.c, .int .i64 x.pn, .bool x.mr]] w fun e w' => e = .returned (.bool true) ∧ Below w.heap.size w w' := by
  obtain ⟨d, t, p, m⟩ := x
  obtain ⟨A, n, c⟩ := h
  obtain ⟨B, j, q⟩ := k
  have ha1 : Rd w 1 A n c (t.map bv8) := ha.1
  have hb1 : Rd w 1 B j q (t.map bv8) := hb.1
  clear ha hb
  have hal := (Below.refl w.heap.size w).alloc (Nat.le_refl _) (.cells #[.string (str d), .slice A n c, .int .i64 p, .bool m] 65)
  have hal2 := (Below.refl (w.alloc (.cells #[.string (str d), .slice A n c, .int .i64 p, .bool m] 65)).heap.size (w.alloc (.cells #[.string (str d), .slice A n c, .int .i64 p, .bool m] 65))).alloc (Nat.le_refl _) (.cells #[.string (str d), .slice B j q, .int .i64 p, .bool m] 65)
  have hbb := below_step hal hal2
  have ha2 := ha1.below hbb
  have hb2 := hb1.below hbb
  show Calls Tryd.prog 67 #[.agg #[.string (str d), .slice A n c, .int .i64 p, .bool m], .agg #[.string (str d), .slice B j q, .int .i64 p, .bool m]] w _
  have q1 : (d == d) = true := by simp
  have q2 : (p == p) = true := by simp
  have q3 : (m == m) = true := by simp
  go_enter Tryd.func67, Tryd.ntmps67
  go_wp2_with fail
  with_reducible refine (sameBytes_eq _ _ _ _ _ _ _ _ ha2 hb2).mono ?_
  rintro e w' ⟨rfl, rfl⟩
  go_wp2
  go_ret
  exact ⟨by simp, hbb⟩
set_option maxRecDepth 100000 in
set_option maxHeartbeats 1000000 in
theorem equalB_eq (A B : Option Addr) (n m c d : Nat) (l : List Bl) (w : World) (ha : KRd kBl w A n c l) (hb : KRd kBl w B m d l) :
    Calls Tryd.prog 66 #[.slice A n c, .slice B m d, .func (.func 67) #[] #[]] w fun e w' => e = .returned (.bool true) ∧ Below w.heap.size w w' := by
  obtain rfl := ha.len
  obtain rfl := hb.len
  have hcap := ha.cap
  unfold maxLen at hcap
  go_enter Tryd.func66, Tryd.ntmps66
  go_wp2
  go_loopw [7, 8, 9, 17] (fun _ _ _ i wr => ∃ k : Nat, k ≤ l.length ∧ i = .int .i64 k ∧ Below w.heap.size w wr) (fun _ _ _ i _ => l.length - (intOf i).toNat)
  case atStart => exact ⟨0, Nat.zero_le _, rfl, Below.refl _ _⟩
  case round =>
    obtain ⟨k, hk, rfl, hbel⟩ := hrel
    by_cases hlt : k < l.length
    · have hki : (k : Int) < (l.length : Int) := by omega
      obtain ⟨b, off, D, dn, dc, rfl, hc0, hc1, hc2, hc3, hrD, hDn⟩ := (ha.below hbel).blob hlt
      obtain ⟨b', off', D', dn', dc', rfl, ic0, ic1, ic2, ic3, irD, iDn⟩ := (hb.below hbel).blob hlt
      generalize l[k] = x at *
      obtain ⟨dg, dt, pn, mr⟩ := x
      simp only at hc0 hc1 hc2 hc3 ic0 ic1 ic2 ic3 hrD irD
      have hal := (Below.refl wr.heap.size wr).alloc (Nat.le_refl _) (.cells #[.string (str dg), .slice D dn dc, .int .i64 pn, .bool mr] 65)
      have hs1 : (wr.alloc (.cells #[.string (str dg), .slice D dn dc, .int .i64 pn, .bool mr] 65)).heap.size = wr.heap.size + 1 := by simp
      have hal2 := (Below.refl (wr.alloc (.cells #[.string (str dg), .slice D dn dc, .int .i64 pn, .bool mr] 65)).heap.size (wr.alloc (.cells #[.string (str dg), .slice D dn dc, .int .i64 pn, .bool mr] 65))).alloc (Nat.le_refl _) (.cells #[.string (str dg), .slice D' dn' dc', .int .i64 pn, .bool mr] 65)
      have hbb := below_step hal hal2
      have i0 := (hal.cell (p := ⟨b', off' + k * 4, none⟩) (cell_lt ic0)).trans ic0
      have i1 := (hal.cell (p := ⟨b', off' + k * 4 + 1, none⟩) (cell_lt ic1)).trans ic1
      have i2 := (hal.cell (p := ⟨b', off' + k * 4 + 2, none⟩) (cell_lt ic2)).trans ic2
      have i3 := (hal.cell (p := ⟨b', off' + k * 4 + 3, none⟩) (cell_lt ic3)).trans ic3
      have hdA : kBl.deep _ ⟨dg, dt, pn, mr⟩ ⟨D, dn, dc⟩ := ⟨hrD.below hbb, hDn⟩
      have hdB : kBl.deep _ ⟨dg, dt, pn, mr⟩ ⟨D', dn', dc'⟩ := ⟨irD.below hbb, iDn⟩
      go_wp2_with fail
      refine (sameBlob_eq ⟨dg, dt, pn, mr⟩ ⟨D, dn, dc⟩ ⟨D', dn', dc'⟩ _ hdA hdB).mono ?_
      rintro e w' ⟨rfl, hb'⟩
      have hbZ := below_step (below_step hbel hbb) hb'
      clear hdA hdB hal hal2 hbb hb'
      go_wp2
      go_roundw
      case rel => exact ⟨k + 1, by omega, by go_num, hbZ⟩
      case measure => simp [intOf] <;> omega
    · have hd2 : decide ((k : Int) < (l.length : Int)) = false := by rw [decide_eq_false_iff_not]; omega
      go_wp2
      go_ret
      exact ⟨rfl, hbel⟩
set_option maxRecDepth 100000 in
set_option maxHeartbeats 400000 in
theorem sameBlobs_eq (A B : Option Addr) (n m c d : Nat) (l : List Bl) (w : World) (ha : KRd kBl w A n c l) (hb : KRd kBl w B m d l) :
    Calls Tryd.prog 40 #[.slice A n c, .slice B m d] w fun e w' => e = .returned (.bool true) ∧ Below w.heap.size w w' := by
  go_enter Tryd.func40, Tryd.ntmps40
  go_wp2_with fail
  with_reducible refine (equalB_eq _ _ _ _ _ _ _ _ ha hb).mono ?_
  rintro e w' ⟨rfl, hb'⟩
  go_wp2
  go_ret
  exact ⟨rfl, hb'⟩
end Go.Proofs.YtnadgdjaldemhaaDoor

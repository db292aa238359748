/- The reference's rounds and ShaSum. -/
import Derived.Test.YtbadpiennobdmaaDoorRc
import Derived.Test.YtbadpiennobdmaaDoorRp
import Derived.Test.YtbadpiennobdmaaDoorSw
import Derived.Test.YtbadpiennobdmaaDoorW1s
import Derived.Test.YtbadpiennobdmaaDoorH2s
namespace Go.Proofs.YtbadpiennobdmaaDoor
open Go.RowKit
set_option maxRecDepth 100000 in
set_option maxHeartbeats 1000000 in
theorem rounds_any (w : World) :
    Calls Tryd.prog 31 #[] w fun e w' => ∃ g, e = .returned (.slice (some ⟨g, 0, none⟩) 64 64) ∧ Blk w' g 42 (kon.map wv) ∧ Below w.heap.size w w' := by
  go_enter Tryd.func31, Tryd.ntmps31
  go_wp2
  go_ret
  exact ⟨_, rfl, Blk.new w _ (kon.map wv), (Below.refl _ _).alloc (Nat.le_refl _) _⟩
set_option maxHeartbeats 400000 in
theorem rsum_big (A : Option Addr) (n c : Nat) (w : World) (h : 2000 < n) (hn : n ≤ 9223372036854775807) :
    Calls Tryd.prog 13 #[.slice A n c] w fun e w' => e = .returned (.tuple #[.string (str []), .int .i64 1]) ∧ w = w' := by
  go_enter Tryd.func13, Tryd.ntmps13
  go_wp2
  go_ret2
  exact ⟨rfl, rfl⟩
attribute [local irreducible] stW words pad kon
set_option maxRecDepth 100000 in
set_option maxHeartbeats 4000000 in
theorem rsum_ok (A : Option Addr) (n c : Nat) (l : List UInt8) (w : World) (hr : Rd w 1 A n c (l.map bv8)) (hA : A = none → c = 0) (h : n ≤ 2000) :
    Calls Tryd.prog 13 #[.slice A n c] w fun e w' => e = .returned (.tuple #[.string (str (dig l)), .int .i64 0]) ∧ Below w.heap.size w w' := by
  obtain rfl := hr.len
  have hd : decide (2000 < (l.length : Int)) = false := by simp; omega
  have hpm := pad_mod l
  have hpl : (pad l).length ≤ 2072 := by rw [pad_length]; have := zeros_lt l.length; omega
  have hp9 : 9 ≤ (pad l).length := by rw [pad_length]; omega
  have hpw := pad_words l
  have hsum := fun j h => sumS_words l j h
  go_enter Tryd.func13, Tryd.ntmps13
  go_wp2_with fail
  with_reducible refine (shaPad_ok _ _ _ l _ hr hA h).mono ?_
  rintro e w1 ⟨v1, rfl, hown1, hb1⟩
  obtain ⟨A1, c1, rfl, hr1⟩ := own_rd hown1
  generalize hP : pad l = pd at *
  go_wp2_with fail
  with_reducible refine (wordsOf_ok _ _ _ pd _ hr1 hpl (by omega)).mono ?_
  rintro e w2 ⟨v2, rfl, hown2, hb2⟩
  generalize hWs : words pd = ws at *
  obtain ⟨m, hm⟩ : ∃ m, pd.length / 4 = m := ⟨_, rfl⟩
  rw [hm] at hpw hown2
  have hm16 : m % 16 = 0 := by omega
  have hm518 : m ≤ 518 := by omega
  have hm1 : 0 < m := by omega
  obtain ⟨A2, c2, rfl, hr2⟩ := own_rd hown2
  obtain ⟨b2, o2, rfl, _, _⟩ := hr2.addr (by rw [List.length_map]; omega)
  replace hb2 := below_step hb1 hb2
  have Hsum := Lib.hid hsum
  clear hm hpl hpm hr1 hown1 hown2 hb1 hsum hP hWs
  have hb3 := hb2.alloc hb2.size (.cells (iniS.list.map wv).toArray 42)
  have hg3 := Blk.new w2 42 (iniS.list.map wv)
  have hr3 := hr2.below ((Below.refl w2.heap.size w2).alloc (Nat.le_refl _) (.cells (iniS.list.map wv).toArray 42))
  go_wp2_with fail
  with_reducible refine (rounds_any _).mono ?_
  rintro e w4 ⟨g4, rfl, hg4, hb4⟩
  have hk4 := blk_rd hg4 (n := 64) (by rw [List.length_map, kon_length]) (by omega)
  have hr4 := hr3.below hb4
  have hs4 := blk_rd (hg3.below hb4 hg3.lt) (n := 8) rfl (by omega)
  replace hb4 := below_step hb3 hb4
  clear hb2 hb3 hg3 hr2 hr3 hg4
  go_wp2_with fail
  go_loopw [6, 8] (fun v s wr => ∃ (j n' c' b' o' : Nat) (A7 : Option Addr) (c7 : Nat) (st : St), v = .slice (some ⟨b', o', none⟩) n' c' ∧ s = .slice A7 8 c7 ∧ n' + 16 * j = m ∧ Hid (st = stW ws j iniS) ∧ Rd wr 1 (some ⟨b', o', none⟩) n' c' ((ws.drop (16 * j)).map wv) ∧ Rd wr 1 A7 8 c7 (st.list.map wv) ∧ Rd wr 1 (some ⟨g4, 0, none⟩) 64 64 (kon.map wv) ∧ Below w.heap.size w wr) (fun v _ _ => slen v)
  case atStart => exact ⟨0, _, _, _, _, _, _, iniS, rfl, rfl, by omega, (stW_zero ws iniS).symm, hr4, hs4, hk4, hb4⟩
  case round =>
    clear hr4 hs4 hk4 hb4
    obtain ⟨j, n', c', b', o', A7, c7, st, rfl, rfl, hj, Hst, hrw, hrs, hrk, hbel⟩ := hrel
    have hc1 := hrw.2.1
    have hc2 := hrw.2.2.1
    unfold maxLen at hc2
    by_cases hlt : 0 < n'
    · have hge : 16 ≤ n' := by omega
      have hlt' : (0 : Int) < (n' : Int) := by omega
      have hge' : (16 : Int) ≤ (n' : Int) := by omega
      have hgc' : (16 : Int) ≤ (c' : Int) := by omega
      have hr16 := hrw.take 16 hge
      rw [← List.map_take] at hr16
      have Hnx := Lib.hid (stW_succ ws j iniS)
      rw [← Hst.out] at Hnx
      go_wp2_with fail
      with_reducible refine (compressed_any st _ _ _ _ _ _ _ _ hrs hr16 hrk).mono ?_
      rintro e w6 ⟨g6, rfl, hg6, hb6⟩
      have hrw6 := hrw.below hb6
      have hrk6 := hrk.below hb6
      have hs6 := blk_rd hg6 (n := 8) rfl (by omega)
      replace hb6 := below_step hbel hb6
      clear hbel hrw hrs hr16 hg6 hrk
      by_cases hc16 : c' = 16
      · subst hc16
        go_wp2
        go_roundw
        case rel => exact ⟨j + 1, _, _, _, _, _, _, _, rfl, rfl, by omega, Hnx.out.symm, (by rw [List.drop_of_length_le (by omega)]; exact Rd.empty _ _ (by simp [maxLen])), hs6, hrk6, hb6⟩
        case measure => simp [slen]; omega
      · have hrd := hrw6.dropK 16 hge
        rw [List.drop_drop, show 16 * j + 16 = 16 * (j + 1) from by omega] at hrd
        go_wp2
        go_roundw
        case rel => exact ⟨j + 1, _, _, _, _, _, _, _, rfl, rfl, by omega, Hnx.out.symm, hrd, hs6, hrk6, hb6⟩
        case measure => simp [slen]; omega
    · have hdn : decide ((0 : Int) < (n' : Int)) = false := by simp; omega
      have hst := Hsum.out j (by omega)
      rw [← Hst.out] at hst
      have Hdig : Hid (dig l = hexT (bytesW st.list)) := by show _ = _; unfold dig; rw [hst]
      clear hst hrw
      go_wp2_with fail
      with_reducible refine (wordBytes_ok _ _ _ _ _ hrs (by omega)).mono ?_
      rintro e w7 ⟨v7, rfl, hown7, hb7⟩
      obtain ⟨A9, c9, rfl, hs7⟩ := own_rd hown7
      replace hb7 := below_step hbel hb7
      clear hbel hrs hown7
      go_wp2_with fail
      with_reducible refine (hexText_any _ _ _ _ _ hs7 (by omega)).mono ?_
      rintro e w8 ⟨rfl, hb8⟩
      go_wp2
      go_ret2
      exact ⟨by rw [Hdig.out]; rfl, below_step hb7 hb8⟩
end Go.Proofs.YtbadpiennobdmaaDoor

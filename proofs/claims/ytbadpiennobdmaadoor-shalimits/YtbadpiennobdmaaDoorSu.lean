/- The program's Sum. -/
import Derived.Test.YtbadpiennobdmaaDoorSs
import Derived.Test.YtbadpiennobdmaaDoorSp
import Derived.Test.YtbadpiennobdmaaDoorSw
import Derived.Test.YtbadpiennobdmaaDoorW1x
import Derived.Test.YtbadpiennobdmaaDoorH2t
namespace Go.Proofs.YtbadpiennobdmaaDoor
open Go.RowKit
/-- how many elements a slice value has -/
def slenS : Value → Nat
  | .slice _ n _ => n
  | _ => 0
set_option maxHeartbeats 400000 in
theorem sum_big (A : Option Addr) (n c : Nat) (w : World) (h : 2000 < n) (hn : n ≤ 9223372036854775807) :
    Calls Tryd.prog 12 #[.slice A n c] w fun e w' => e = .returned (.tuple #[.string (str []), .int .i64 1]) ∧ w = w' := by
  go_enter Tryd.func12, Tryd.ntmps12
  go_wp2_with ((with_reducible refine (spad_big _ _ _ _ h hn).mono ?_); rintro e w' ⟨rfl, rfl⟩)
  go_ret2
  exact ⟨rfl, rfl⟩
attribute [local irreducible] stW words pad
set_option maxRecDepth 100000 in
set_option maxHeartbeats 4000000 in
theorem sum_ok (A : Option Addr) (n c : Nat) (l : List UInt8) (w : World) (hK : Kon w) (hr : Rd w 1 A n c (l.map bv8)) (h : n ≤ 2000) :
    Calls Tryd.prog 12 #[.slice A n c] w fun e w' => e = .returned (.tuple #[.string (str (dig l)), .int .i64 0]) ∧ Below w.heap.size w w' := by
  obtain rfl := hr.len
  have hpm := pad_mod l
  have hpl : (pad l).length ≤ 2072 := by rw [pad_length]; have := zeros_lt l.length; omega
  have hpw := pad_words l
  have hsum := fun j h => sumS_words l j h
  go_enter Tryd.func12, Tryd.ntmps12
  go_wp2_with fail
  with_reducible refine (spad_ok _ _ _ l _ hr h).mono ?_
  rintro e w1 ⟨g1, rfl, hg1, hb1⟩
  have hr1 := blk_rd hg1 (n := (pad l).length) (by rw [List.length_map]) (by omega)
  generalize hP : pad l = pd at *
  go_wp2_with fail
  with_reducible refine (words_ok _ _ _ pd _ hr1 hpl (by omega)).mono ?_
  rintro e w2 ⟨g2, rfl, hg2, hb2⟩
  replace hb2 := below_step hb1 hb2
  clear hr1 hg1 hb1
  generalize hWs : words pd = ws at *
  obtain ⟨m, hm⟩ : ∃ m, pd.length / 4 = m := ⟨_, rfl⟩
  rw [hm] at hpw
  simp only [hm]
  have hm16 : m % 16 = 0 := by omega
  have hm518 : m ≤ 518 := by omega
  clear hm hpl hpm
  have hr2 := blk_rd hg2 (n := m) (by rw [List.length_map, hpw]) (by omega)
  have Hsum := Lib.hid hsum
  clear hsum hg2 hP hWs
  go_wp2_with fail
  with_reducible refine (start_any _).mono ?_
  rintro e w3 ⟨g3, rfl, hg3, hb3⟩
  replace hr2 := hr2.below hb3
  have hs3 := blk_rd hg3 (n := 8) rfl (by omega)
  replace hb3 := below_step hb2 hb3
  clear hb2 hg3
  go_wp2_with fail
  go_loopw [5, 6, 7] (fun _ v s wr => ∃ (j n' c' b' o' : Nat) (A7 : Option Addr) (c7 : Nat) (st : St), v = .slice (some ⟨b', o', none⟩) n' c' ∧ s = .slice A7 8 c7 ∧ n' + 16 * j = m ∧ Hid (st = stW ws j iniS) ∧ Rd wr 1 (some ⟨b', o', none⟩) n' c' ((ws.drop (16 * j)).map wv) ∧ Rd wr 1 A7 8 c7 (st.list.map wv) ∧ Below w.heap.size w wr) (fun _ v _ _ => slenS v)
  case atStart => exact ⟨0, _, _, _, _, _, _, iniS, rfl, rfl, by omega, (stW_zero ws iniS).symm, hr2, hs3, hb3⟩
  case round =>
    clear hr2 hs3 hb3
    obtain ⟨j, n', c', b', o', A7, c7, st, rfl, rfl, hj, Hst, hrw, hrs, hbel⟩ := hrel
    have hc1 := hrw.2.1
    have hc2 := hrw.2.2.1
    unfold maxLen at hc2
    by_cases hlt : 0 < n'
    · have hge : 16 ≤ n' := by omega
      have hlt' : (0 : Int) < (n' : Int) := by omega
      have hge' : (16 : Int) ≤ (n' : Int) := by omega
      have hgc' : (16 : Int) ≤ (c' : Int) := by omega
      have hr16 := hrw.take 16 hge
      rw [← List.map_take] at hr16
      have Hnx := Lib.hid (stW_succ ws j iniS)
      rw [← Hst.out] at Hnx
      go_wp2_with fail
      with_reducible refine (step_ok st _ _ _ _ _ _ (hK.below hbel) hrs hr16).mono ?_
      rintro e w6 ⟨g6, rfl, hg6, hb6⟩
      have hrw6 := hrw.below hb6
      have hs6 := blk_rd hg6 (n := 8) rfl (by omega)
      replace hb6 := below_step hbel hb6
      clear hbel hrw hrs hr16 hg6
      by_cases hc16 : c' = 16
      · subst hc16
        go_wp2
        go_roundw
        case rel => exact ⟨j + 1, _, _, _, _, _, _, _, rfl, rfl, by omega, Hnx.out.symm, (by rw [List.drop_of_length_le (by omega)]; exact Rd.empty _ _ (by simp [maxLen])), hs6, hb6⟩
        case measure => simp [slenS]; omega
      · have hrd := hrw6.dropK 16 hge
        rw [List.drop_drop, show 16 * j + 16 = 16 * (j + 1) from by omega] at hrd
        go_wp2
        go_roundw
        case rel => exact ⟨j + 1, _, _, _, _, _, _, _, rfl, rfl, by omega, Hnx.out.symm, hrd, hs6, hb6⟩
        case measure => simp [slenS]; omega
    · have hdn : decide ((0 : Int) < (n' : Int)) = false := by simp; omega
      have hst := Hsum.out j (by omega)
      rw [← Hst.out] at hst
      have Hdig : Hid (dig l = hexT (bytesW st.list)) := by show _ = _; unfold dig; rw [hst]
      clear hst hrw
      go_wp2_with fail
      with_reducible refine (bytes_ok _ _ _ _ _ hrs (by omega)).mono ?_
      rintro e w7 ⟨g7, rfl, hg7, hb7⟩
      have hs7 := blk_rd hg7 (n := 4 * 8) rfl (by omega)
      replace hb7 := below_step hbel hb7
      clear hbel hrs hg7
      go_wp2_with fail
      with_reducible refine (text_any _ _ _ _ _ hs7 (by omega)).mono ?_
      rintro e w8 ⟨rfl, hb8⟩
      go_wp2
      go_ret2
      exact ⟨by rw [Hdig.out]; rfl, below_step hb7 hb8⟩
end Go.Proofs.YtbadpiennobdmaaDoor

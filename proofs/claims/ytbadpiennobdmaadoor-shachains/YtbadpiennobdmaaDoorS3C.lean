/- The law ShaChains: a digest is made block by block. -/
import Derived.Test.YtbadpiennobdmaaDoorSu
import Derived.Test.YtbadpiennobdmaaDoorHk
namespace Go.Proofs.YtbadpiennobdmaaDoor
open Go.RowKit
theorem dig_check (l : List UInt8) (w : World) : Calls Tryd.prog 20 #[.string (str (dig l))] w fun e w' => e = .returned (.int .i64 0) ∧ w = w' := by
  have h := hcheck_form (dig l) w (dig_length l) true (hexT_isD _)
  simpa using h
attribute [local irreducible] stW words pad dig
set_option maxRecDepth 100000 in
set_option maxHeartbeats 4000000 in
theorem shaChains_walk (A : Option Addr) (n0 c : Nat) (l0 : List UInt8) (w : World) (hK : Kon w) (hr0 : Rd w 1 A n0 c (l0.map bv8)) :
    Calls Tryd.prog 6 #[.slice A n0 c] w fun e w' => e = .returned (.bool true) ∧ Below w.heap.size w w' := by
  have hlm := hr0.2.2.1
  have hlc := hr0.2.1
  unfold maxLen at hlm
  obtain ⟨l, n, hn, hr⟩ : ∃ (l : List UInt8) (n : Nat), n = min n0 400 ∧ Rd w 1 A n c (l.map bv8) := by
    refine ⟨l0.take (min n0 400), min n0 400, rfl, ?_⟩
    have := hr0.take (min n0 400) (by omega)
    rwa [← List.map_take] at this
  have hle : n ≤ 400 := by omega
  have ee : (dig l == dig l) = true := by simp
  have hpm := pad_mod l
  have hpl : (pad l).length ≤ 2072 := by rw [pad_length]; have := zeros_lt l.length; have := hr.len; omega
  have hpw := pad_words l
  have Hsum := Lib.hid fun j h => sumS_words l j h
  have Hdg := Lib.hid (show dig l = hexT (bytesW (sumS l).list) by unfold dig; rfl)
  rcases (by omega : (n = n0 ∧ n0 ≤ 400) ∨ (n = 400 ∧ ¬ n0 ≤ 400)) with ⟨rfl, hc⟩ | ⟨rfl, hc⟩
  all_goals
    clear hn
    go_enter Tryd.func6, Tryd.ntmps6
    go_wp2_with fail
    with_reducible refine (spad_ok _ _ _ l _ hr (by omega)).mono ?_
    rintro e w1 ⟨g1, rfl, hg1, hb1⟩
    have hr1 := blk_rd hg1 (n := (pad l).length) (by rw [List.length_map]) (by omega)
    generalize hP : pad l = pd at *
    go_wp2_with fail
    with_reducible refine (words_ok _ _ _ pd _ hr1 hpl (by omega)).mono ?_
    rintro e w2 ⟨g2, rfl, hg2, hb2⟩
    replace hb2 := below_step hb1 hb2
    clear hr1 hg1 hb1
    generalize hWs : words pd = ws at *
    obtain ⟨m, hm⟩ : ∃ m, pd.length / 4 = m := ⟨_, rfl⟩
    rw [hm] at hpw
    simp only [hm]
    have hm16 : m % 16 = 0 := by omega
    have hm518 : m ≤ 518 := by omega
    clear hm hpl hpm hP hWs
    have hr2 := blk_rd hg2 (n := m) (by rw [List.length_map, hpw]) (by omega)
    clear hg2
    go_wp2_with fail
    with_reducible refine (start_any _).mono ?_
    rintro e w3 ⟨g3, rfl, hg3, hb3⟩
    replace hr2 := hr2.below hb3
    have hs3 := blk_rd hg3 (n := 8) rfl (by omega)
    replace hb3 := below_step hb2 hb3
    clear hb2 hg3
    go_wp2_with fail
    go_loopw [7, 8, 9, 10] (fun s q _ _ wr => ∃ (k : Nat) (A7 : Option Addr) (c7 : Nat) (st : St), q = .int .i64 k ∧ s = .slice A7 8 c7 ∧ k % 16 = 0 ∧ k ≤ m ∧ Hid (st = stW ws (k / 16) iniS) ∧ Rd wr 1 (some ⟨g2, 0, none⟩) m m (ws.map wv) ∧ Rd wr 1 A7 8 c7 (st.list.map wv) ∧ Below w.heap.size w wr) (fun _ q _ _ _ => m - (intOf q).toNat)
    case atStart => exact ⟨0, _, _, iniS, rfl, rfl, by omega, by omega, (stW_zero ws iniS).symm, hr2, hs3, hb3⟩
    case round =>
      clear hr2 hs3 hb3
      obtain ⟨k, A7, c7, st, rfl, rfl, hk16, hkm, Hst, hrw, hrs, hbel⟩ := hrel
      by_cases hlt : k + 16 ≤ m
      · have hlt' : (k : Int) + 16 ≤ (m : Int) := by omega
        have hr16 := (hrw.dropK k hkm).take 16 (by omega)
        rw [← List.map_take, Nat.zero_add] at hr16
        have Hnx := Lib.hid (stW_succ ws (k / 16) iniS)
        rw [← Hst.out, show 16 * (k / 16) = k from by omega, show k / 16 + 1 = (k + 16) / 16 from by omega] at Hnx
        go_wp2_with fail
        with_reducible refine (step_ok st _ _ _ _ _ _ (hK.below hbel) hrs hr16).mono ?_
        rintro e w6 ⟨g6, rfl, hg6, hb6⟩
        have hrw6 := hrw.below hb6
        have hs6 := blk_rd hg6 (n := 8) rfl (by omega)
        replace hb6 := below_step hbel hb6
        clear hbel hrw hrs hr16 hg6
        go_wp2
        go_roundw
        case rel => exact ⟨k + 16, _, _, _, by go_num, rfl, by omega, by omega, Hnx.out.symm, hrw6, hs6, hb6⟩
        case measure => simp [intOf]; omega
      · have hlt' : decide ((k : Int) + 16 ≤ (m : Int)) = false := by simp; omega
        have hst := Hsum.out (k / 16) (by omega)
        rw [← Hst.out] at hst
        have Hdig : Hid (hexT (bytesW st.list) = dig l) := by show _ = _; rw [Hdg.out, hst]
        clear hst hrw hlt
        go_wp2_with fail
        with_reducible refine (bytes_ok _ _ _ _ _ hrs (by omega)).mono ?_
        rintro e w7 ⟨g7, rfl, hg7, hb7⟩
        have hs7 := blk_rd hg7 (n := 4 * 8) rfl (by omega)
        replace hb7 := below_step hbel hb7
        clear hbel hrs hg7
        go_wp2_with fail
        with_reducible refine (sum_ok _ _ _ l _ (hK.below hb7) (hr.below hb7) (by omega)).mono ?_
        rintro e w8 ⟨rfl, hb8⟩
        replace hs7 := hs7.below hb8
        replace hb8 := below_step hb7 hb8
        clear hb7
        go_wp2_with fail
        with_reducible refine (text_any _ _ _ _ _ hs7 (by omega)).mono ?_
        rintro e w9 ⟨rfl, hb9⟩
        rw [Hdig.out]
        go_wp2_with fail
        with_reducible refine (dig_check l _).mono ?_
        rintro e w10 ⟨rfl, rfl⟩
        go_wp2
        go_ret
        exact ⟨by simp, below_step hb8 hb9⟩
end Go.Proofs.YtbadpiennobdmaaDoor

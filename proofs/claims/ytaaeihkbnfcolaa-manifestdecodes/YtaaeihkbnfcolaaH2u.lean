/- The reference's HexBytes and HexFault. -/
import Derived.Test.YtaaeihkbnfcolaaH2s
import Derived.Test.YtaaeihkbnfcolaaH2r
namespace Go.Proofs.Ytaaeihkbnfcolaa
open Go.RowKit
@[go_sem] theorem y8_add (x y : UInt8) : (y8 x + y8 y) % (256 : Int) = y8 (x + y) := by
  unfold y8; rw [UInt8.toNat_add]; omega
/-- the bytes so far, behind k digits: the reference's loop -/
def hst (l : List UInt8) : Nat → List UInt8
  | 0 => []
  | k + 1 =>
    let s := if k % 2 = 0 then hst l k ++ [0] else hst l k
    s.set (k / 2) ((s.getD (k / 2) 0) <<< 4 + vl (l.getD k 0))
theorem hst_length (l : List UInt8) : ∀ k, (hst l k).length = (k + 1) / 2
  | 0 => rfl
  | k + 1 => by
    rw [hst]
    simp only [List.length_set]
    split
    · rw [List.length_append, hst_length l k]; simp; omega
    · rw [hst_length l k]; omega
theorem two_table : ∀ a b : Fin 16, ((0 : UInt8) <<< 4 + UInt8.ofNat a.val) <<< 4 + UInt8.ofNat b.val = UInt8.ofNat a.val <<< 4 ||| UInt8.ofNat b.val := by decide +kernel
theorem two_add {a b : UInt8} (ha : isD a = true) (hb : isD b = true) : ((0 : UInt8) <<< 4 + vl a) <<< 4 + vl b = two a b := by
  have h1 := (vl_spec ha).2.2
  have h2 := (vl_spec hb).2.2
  have := two_table ⟨(vl a).toNat, h1⟩ ⟨(vl b).toNat, h2⟩
  simp only [UInt8.ofNat_toNat] at this
  exact this
theorem unh_take : ∀ (j : Nat) (l : List UInt8), 2 * j + 1 < l.length → unh (l.take (2 * (j + 1))) = unh (l.take (2 * j)) ++ [two (l.getD (2 * j) 0) (l.getD (2 * j + 1) 0)]
  | _, [], h => absurd h (by simp)
  | _, [_], h => absurd h (by simp)
  | 0, a :: b :: r, _ => by simp [unh]
  | j + 1, a :: b :: r, h => by
    have := unh_take j r (by simp at h; omega)
    rw [show 2 * (j + 1 + 1) = 2 * (j + 1) + 2 from by omega, show 2 * (j + 1) + 1 = 2 * j + 1 + 2 from by omega]
    simp only [List.take_succ_cons, unh, this]
    rw [show 2 * (j + 1) = 2 * j + 2 from by omega]
    simp only [List.take_succ_cons, unh, List.cons_append, List.getD_cons_succ]
theorem hst_all (l : List UInt8) (hd : l.all isD = true) : ∀ j, 2 * j ≤ l.length → hst l (2 * j) = unh (l.take (2 * j))
  | 0, _ => rfl
  | j + 1, h => by
    have ih := hst_all l hd j (by omega)
    have hW : (unh (l.take (2 * j))).length = j := by rw [unh_length, List.length_take]; omega
    have hD := List.all_eq_true.1 hd
    have d0 : isD (l.getD (2 * j) 0) = true := by rw [getD_lt (by omega)]; exact hD _ (List.getElem_mem _)
    have d1 : isD (l.getD (2 * j + 1) 0) = true := by rw [getD_lt (by omega)]; exact hD _ (List.getElem_mem _)
    rw [unh_take j l (by omega), show 2 * (j + 1) = 2 * j + 1 + 1 from by omega, hst, if_neg (by omega), hst, if_pos (by omega), ih, show (2 * j + 1) / 2 = j from by omega, show 2 * j / 2 = j from by omega]
    rw [set_last _ _ _ _ hW, getD_last _ _ _ _ hW, set_last _ _ _ _ hW, getD_last _ _ _ _ hW, two_add d0 d1]
theorem hst_end (l : List UInt8) (hd : l.all isD = true) (h : l.length % 2 = 0) : hst l l.length = unh l := by
  have := hst_all l hd (l.length / 2) (by omega)
  rwa [show 2 * (l.length / 2) = l.length from by omega, List.take_length] at this
set_option maxHeartbeats 400000 in
theorem rbytes_big (l : List UInt8) (w : World) (h : 4000 < l.length) (hm : l.length ≤ maxLen) :
    Calls Try.prog 33 #[.string (str l)] w fun e w' => e = .returned (.tuple #[.slice none 0 0, .int .i64 1]) ∧ w = w' := by
  unfold maxLen at hm
  go_enter Try.func33, Try.ntmps33
  go_wp2
  go_ret2
  exact ⟨rfl, rfl⟩
set_option maxHeartbeats 400000 in
theorem rbytes_odd (l : List UInt8) (w : World) (h : l.length ≤ 4000) (hn : l.length % 2 ≠ 0) :
    Calls Try.prog 33 #[.string (str l)] w fun e w' => e = .returned (.tuple #[.slice none 0 0, .int .i64 3]) ∧ w = w' := by
  have ha := and1 l.length (by omega)
  have hne : (((l.length % 2 : Nat) : Int) == 1) = true := by rw [beq_iff_eq]; omega
  go_enter Try.func33, Try.ntmps33
  go_wp2
  all_goals (go_ret2; exact ⟨rfl, rfl⟩)
set_option maxHeartbeats 2000000 in
theorem rbytes_even (l : List UInt8) (w : World) (h : l.length ≤ 4000) (h2 : l.length % 2 = 0) (b : Bool) (hb : l.all isD = b) :
    Calls Try.prog 33 #[.string (str l)] w (GivesB (bif b then unh l else []) (bif b then 0 else 3) w) := by
  have ha := and1 l.length (by omega)
  rw [h2] at ha
  have hm : l.length ≤ maxLen := by unfold maxLen; omega
  obtain ⟨i0, hi0, hz0, hz1, hz2⟩ := info_parts u8_info
  have H2 := Lib.hid h2
  have HB := Lib.hid hb
  have hd : decide (4000 < (l.length : Int)) = false := by simp; omega
  obtain ⟨c1, w1, hcv, hr, hb1, hs1⟩ := run_str_bytes (P := Try.prog) Try.underlying9 Try.underlying27 Try.underlying5 w l hm
  have hs1' : w.heap.size < w1.heap.size := by omega
  clear h2 hb hs1
  go_enter Try.func33, Try.ntmps33
  go_wp2
  go_loopw [4, 5, 6, 7, 18] (fun v _ _ _ i wr => ∃ k : Nat, k ≤ l.length ∧ i = .int .i64 k ∧ wr.ownsRow w1.heap.size 5 1 v ((k + 1) / 2) ((hst l k).map bv8) ∧ Below w1.heap.size w1 wr ∧ Hid ((l.take k).all isD = true)) (fun _ _ _ _ i _ => l.length - (intOf i).toNat)
  case atStart => exact ⟨0, by omega, rfl, World.ownsRow_nil _ _ _ _, Below.refl _ _, rfl⟩
  case round =>
    obtain ⟨k, hk, rfl, hown, hbel, HA⟩ := hrel
    by_cases hlt : k < l.length
    · obtain ⟨b0, off, hA0, hbl, hcell⟩ := hr.addr (by simp; omega)
      obtain ⟨rfl, rfl⟩ : w.heap.size = b0 ∧ 0 = off := by injection hA0 with hA0; injection hA0 with q1 q2; exact ⟨q1, q2⟩
      have h0 : wr.cell? ⟨w.heap.size, k, none⟩ = some (.int .u8 (y8 (l[k]'(by omega)))) := (hbel.cell (p := ⟨w.heap.size, k, none⟩) hbl).trans (by have := hcell k _ (by rw [List.getElem?_map, List.getElem?_eq_getElem (by omega)]; rfl); rwa [Nat.zero_add] at this)
      clear hcell hA0
      have hs := all_snoc hlt
      rw [HA.out, Bool.true_and] at hs
      have HS := Lib.hid hs
      clear hs
      by_cases hdk : isD l[k] = true
      · have hix : dix l[k] = y8 (vl l[k]) := if_pos hdk
        have hge : (0 : Int) ≤ y8 (vl l[k]) := y8_nonneg _
        have hng : decide (y8 (vl l[k]) < 0) = false := by simp; omega
        have hak := and1 k (by omega)
        have hq : ((k : Int) / 2).toNat = k / 2 := by omega
        have hq0 : 0 ≤ (k : Int) / 2 := by omega
        by_cases hm2 : k % 2 = 0
        · have hmb : (((k % 2 : Nat) : Int) == 0) = true := by rw [beq_iff_eq]; omega
          have hw1 : hst l (k + 1) = (hst l k ++ [0]).set (k / 2) ((0 : UInt8) <<< 4 + vl l[k]) := by
            rw [hst, if_pos hm2, getD_last _ _ _ _ (by rw [hst_length]; omega), getD_lt hlt]
          have hap : (hst l k).map bv8 ++ [.int .u8 0] = (hst l k ++ [0]).map bv8 := by rw [List.map_append]; rfl
          have hzz : ∃ z : UInt8, Hid (z = 0) := ⟨_, rfl⟩
          obtain ⟨z, hzz⟩ := hzz
          have Hw := Lib.hid hw1
          have Ha := Lib.hid hap
          have HD := Lib.hid hdk
          have hm3 : k % 2 < 1 := by omega
          clear hw1 hap hdk hm2
          go_wp2_with (first | (at_builtin; refine wpList_append1 rfl (.tmp 30) (.tmp 31) _ rfl Try.underlying27 hi0 hz0 hz1 hz2 rfl (by omega) _ _ _ rfl hown [.int .u8 0] rfl (by simp [Value.oneCell']) rfl (by omega) (by omega) hbel.size ?_; rintro v1 w2 ⟨hown1, hbb1, hsz1, hfar1⟩; obtain ⟨g, cap, rfl, hg, hglt⟩ := hown1.form (by omega); have hc1 : w2.cell? ⟨g, k / 2, none⟩ = some (.int .u8 (y8 z)) := (by rw [hown1.cellAt _ (by omega), List.getElem?_append_right (by rw [List.length_map, hst_length]; omega), List.length_map, hst_length, show k / 2 - (k + 1) / 2 = 0 from by omega, hzz.out]; rfl); have hf1 := hown1.frozenAt (k / 2); have hi1 : (k : Int) / 2 < ((((k + 1) / 2 + 1 : Nat)) : Int) := (by omega)) | ((with_reducible refine (indexDigs_any _ _).mono ?_); rintro e w' ⟨rfl, rfl⟩))
          go_roundw
          case rel =>
            refine ⟨k + 1, by omega, by go_num, ?_, (hbel.trans hbb1).setCell (p := ⟨g, k / 2, none⟩) hg _, HS.out.trans HD.out⟩
            have h5 := (hown1.stored (k / 2) (.int .u8 (y8 (z <<< 4 + vl l[k])))).1
            rw [Ha.out] at h5
            have h6 : ((hst l k ++ [0]).map bv8).set (k / 2) (.int .u8 (y8 (z <<< 4 + vl l[k]))) = (hst l (k + 1)).map bv8 := by
              rw [Hw.out, List.map_set, hzz.out]; rfl
            rw [h6] at h5
            rwa [show (k + 1 + 1) / 2 = (k + 1) / 2 + 1 from by omega]
          case measure => simp [intOf]; omega
        · have hmb : (((k % 2 : Nat) : Int) == 0) = false := by rw [beq_eq_false_iff_ne]; omega
          have hL := hst_length l k
          have hzz : ∃ z : UInt8, Hid (z = (hst l k).getD (k / 2) 0) := ⟨_, rfl⟩
          obtain ⟨z, hzz⟩ := hzz
          have hw1 : hst l (k + 1) = (hst l k).set (k / 2) (z <<< 4 + vl l[k]) := by
            rw [hst, if_neg hm2, getD_lt hlt, hzz.out]
          obtain ⟨g, cap, rfl, hg, hglt⟩ := hown.form (by omega)
          have hc1 : wr.cell? ⟨g, k / 2, none⟩ = some (.int .u8 (y8 z)) := by
            rw [hown.cellAt _ (by omega), List.getElem?_map, List.getElem?_eq_getElem (by omega), hzz.out, getD_lt (by omega)]; rfl
          have hf1 := hown.frozenAt (k / 2)
          have hi1 : (k : Int) / 2 < ((((k + 1) / 2 : Nat)) : Int) := by omega
          have Hw := Lib.hid hw1
          have HD := Lib.hid hdk
          have hm3 : 0 < k % 2 := by omega
          clear hw1 hL hdk hm2
          go_wp2_with ((with_reducible refine (indexDigs_any _ _).mono ?_); rintro e w' ⟨rfl, rfl⟩)
          go_roundw
          case rel =>
            refine ⟨k + 1, by omega, by go_num, ?_, hbel.setCell (p := ⟨g, k / 2, none⟩) hg _, HS.out.trans HD.out⟩
            have h5 := (hown.stored (k / 2) (.int .u8 (y8 (z <<< 4 + vl l[k])))).1
            have h6 : ((hst l k).map bv8).set (k / 2) (.int .u8 (y8 (z <<< 4 + vl l[k]))) = (hst l (k + 1)).map bv8 := by
              rw [Hw.out, List.map_set]; rfl
            rw [h6] at h5
            rwa [show (k + 1 + 1) / 2 = (k + 1) / 2 from by omega]
          case measure => simp [intOf]; omega
      · have hix : dix l[k] = -1 := if_neg hdk
        have hf : b = false := by
          have := HB.out
          cases b
          · rfl
          · exact absurd (List.all_eq_true.1 this _ (List.getElem_mem hlt)) hdk
        subst hf
        have HD := Lib.hid hdk
        clear hdk
        go_wp2_with ((with_reducible refine (indexDigs_any _ _).mono ?_); rintro e w' ⟨rfl, rfl⟩)
        go_ret2
        exact ⟨none, 0, 0, rfl, Rd.nil _ _, hb1.trans (hbel.mono (by omega))⟩
    · obtain rfl : k = l.length := by omega
      have hf : b = true := by
        have := HA.out
        rw [List.take_length, HB.out] at this
        exact this
      subst hf
      rw [hst_end l HB.out H2.out] at hown
      obtain ⟨A', c', rfl, hrd⟩ := own_rd hown
      go_wp2
      go_ret2
      exact ⟨_, _, _, rfl, hrd, hb1.trans (hbel.mono (by omega))⟩
end Go.Proofs.Ytaaeihkbnfcolaa

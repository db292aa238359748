/- Words and bytes: what the reference's functions return. -/
import Derived.Test.YtbadpiennobdmaaDoorW1x
import Derived.Test.YtbadpiennobdmaaDoorApp
namespace Go.Proofs.YtbadpiennobdmaaDoor
open Go.RowKit
set_option maxHeartbeats 400000 in
theorem wordsOf_big (A : Option Addr) (n c : Nat) (w : World) (h : 2072 < n) (hn : n ≤ 9223372036854775807) :
    Calls Tryd.prog 30 #[.slice A n c] w fun e w' => e = .returned (.tuple #[.slice none 0 0, .int .i64 1]) ∧ w = w' := by
  go_enter Tryd.func30, Tryd.ntmps30
  go_wp2
  go_ret2
  exact ⟨rfl, rfl⟩
set_option maxHeartbeats 400000 in
theorem wordsOf_odd (A : Option Addr) (n c : Nat) (w : World) (h : n ≤ 2072) (hn : n % 4 ≠ 0) :
    Calls Tryd.prog 30 #[.slice A n c] w fun e w' => e = .returned (.tuple #[.slice none 0 0, .int .i64 3]) ∧ w = w' := by
  have ha := and3 n (by omega)
  have hne : (((n % 4 : Nat) : Int) != 0) = true := by rw [bne_iff_ne]; omega
  go_enter Tryd.func30, Tryd.ntmps30
  go_wp2
  all_goals (go_ret2; exact ⟨rfl, rfl⟩)
set_option maxHeartbeats 1000000 in
theorem wordsOf_ok (A : Option Addr) (n c : Nat) (l : List UInt8) (w : World) (hr : Rd w 1 A n c (l.map bv8)) (h : n ≤ 2072) (h4 : n % 4 = 0) :
    Calls Tryd.prog 30 #[.slice A n c] w fun e w' => ∃ v, e = .returned (.tuple #[v, .int .i64 0]) ∧ w'.ownsRow w.heap.size 42 1 v (n / 4) ((words l).map wv) ∧ Below w.heap.size w w' := by
  obtain rfl := hr.len
  have ha := and3 l.length (by omega)
  rw [h4] at ha
  obtain ⟨i0, hi0, hz0, hz1, hz2⟩ := info_parts u32_info
  have H4 := Lib.hid h4
  have hd : decide (2072 < (l.length : Int)) = false := by simp; omega
  clear h4
  go_enter Tryd.func30, Tryd.ntmps30
  go_wp2
  go_loopw [4, 5, 6, 16] (fun v _ _ i wr => ∃ k : Nat, k ≤ l.length ∧ i = .int .i64 k ∧ wr.ownsRow w.heap.size 42 1 v ((k + 3) / 4) ((wst l k).map wv) ∧ Below w.heap.size w wr) (fun _ _ _ i _ => l.length - (intOf i).toNat)
  case atStart => exact ⟨0, by omega, rfl, World.ownsRow_nil _ _ _ _, Below.refl _ _⟩
  case round =>
    obtain ⟨k, hk, rfl, hown, hbel⟩ := hrel
    by_cases hlt : k < l.length
    · obtain ⟨b, off, rfl, hbl, hcell⟩ := hr.addr (by simp; omega)
      have h0 : wr.cell? ⟨b, off + k, none⟩ = some (.int .u8 (y8 (l[k]'(by omega)))) := (hbel.cell (p := ⟨b, off + k, none⟩) hbl).trans (hcell k _ (by rw [List.getElem?_map, List.getElem?_eq_getElem (by omega)]; rfl))
      clear hcell
      by_cases hm : k % 4 = 0
      · have hmb : ((k : Int) % 4 == 0) = true := by rw [beq_iff_eq]; omega
        have hq : ((k : Int) / 4).toNat = k / 4 := by omega
        have hq0 : 0 ≤ (k : Int) / 4 := by omega
        have hw1 : wst l (k + 1) = (wst l k ++ [0#32]).set (k / 4) (0#32 <<< 8 + w8 l[k]) := by
          rw [wst, if_pos hm, List.getD_eq_getElem?_getD, List.getElem?_append_right (by rw [wst_length]; omega), wst_length, show k / 4 - (k + 3) / 4 = 0 from by omega, getD_lt hlt]; rfl
        have hap : (wst l k).map wv ++ [.int .u32 0] = (wst l k ++ [0#32]).map wv := by rw [List.map_append]; rfl
        have hz : ∃ z : BitVec 32, Hid (z = 0#32) := ⟨_, rfl⟩
        obtain ⟨z, hz⟩ := hz
        have Hw := Lib.hid hw1
        have Ha := Lib.hid hap
        clear hw1 hap
        go_wp2_with (at_builtin; refine wpList_append1 rfl (.tmp 24) (.tmp 25) _ rfl Tryd.underlying22 hi0 hz0 hz1 hz2 rfl (by omega) _ _ _ rfl hown [.int .u32 0] rfl (by simp [Value.oneCell']) rfl (by omega) (by omega) hbel.size ?_; rintro v1 w1 ⟨hown1, hb1, hsz1, hfar1⟩; obtain ⟨g, cap, rfl, hg, hglt⟩ := hown1.form (by omega); have hc1 : w1.cell? ⟨g, k / 4, none⟩ = some (.int .u32 (u z)) := (by rw [hown1.cellAt _ (by omega), List.getElem?_append_right (by rw [List.length_map, wst_length]; omega), List.length_map, wst_length, show k / 4 - (k + 3) / 4 = 0 from by omega, hz.out]; rfl); have hf1 := hown1.frozenAt (k / 4); have hi1 : (k : Int) / 4 < ((((k + 3) / 4 + 1 : Nat)) : Int) := (by omega))
        go_roundw
        case rel =>
          refine ⟨k + 1, by omega, by go_num, ?_, (hbel.trans hb1).setCell (p := ⟨g, k / 4, none⟩) hg _⟩
          have h5 := (hown1.stored (k / 4) (.int .u32 (u (z <<< 8 + w8 l[k])))).1
          rw [Ha.out] at h5
          have h6 : ((wst l k ++ [0#32]).map wv).set (k / 4) (.int .u32 (u (z <<< 8 + w8 l[k]))) = (wst l (k + 1)).map wv := by
            rw [Hw.out, List.map_set, hz.out]; rfl
          rw [h6] at h5
          rwa [show (k + 1 + 3) / 4 = (k + 3) / 4 + 1 from by omega]
        case measure => simp [intOf]; omega
      · have hmb : ((k : Int) % 4 == 0) = false := by rw [beq_eq_false_iff_ne]; omega
        have hq : ((k : Int) / 4).toNat = k / 4 := by omega
        have hq0 : 0 ≤ (k : Int) / 4 := by omega
        have hL := wst_length l k
        have hz : ∃ z : BitVec 32, Hid (z = (wst l k).getD (k / 4) 0#32) := ⟨_, rfl⟩
        obtain ⟨z, hz⟩ := hz
        have hw1 : wst l (k + 1) = (wst l k).set (k / 4) (z <<< 8 + w8 l[k]) := by
          rw [wst, if_neg hm, getD_lt hlt, hz.out]
        obtain ⟨g, cap, rfl, hg, hglt⟩ := hown.form (by omega)
        have hc1 : wr.cell? ⟨g, k / 4, none⟩ = some (.int .u32 (u z)) := by
          rw [hown.cellAt _ (by omega), List.getElem?_map, List.getElem?_eq_getElem (by omega), hz.out, getD_lt (by omega)]; rfl
        have hf1 := hown.frozenAt (k / 4)
        have hi1 : (k : Int) / 4 < ((((k + 3) / 4 : Nat)) : Int) := by omega
        have Hw := Lib.hid hw1
        clear hw1 hL
        go_wp2
        go_roundw
        case rel =>
          refine ⟨k + 1, by omega, by go_num, ?_, hbel.setCell (p := ⟨g, k / 4, none⟩) hg _⟩
          have h5 := (hown.stored (k / 4) (.int .u32 (u (z <<< 8 + w8 l[k])))).1
          have h6 : ((wst l k).map wv).set (k / 4) (.int .u32 (u (z <<< 8 + w8 l[k]))) = (wst l (k + 1)).map wv := by
            rw [Hw.out, List.map_set]; rfl
          rw [h6] at h5
          rwa [show (k + 1 + 3) / 4 = (k + 3) / 4 from by omega]
        case measure => simp [intOf]; omega
    · obtain rfl : k = l.length := by omega
      rw [wst_end l H4.out, show (l.length + 3) / 4 = l.length / 4 from by have := H4.out; omega] at hown
      go_wp2
      go_ret2
      exact ⟨_, rfl, hown, hbel⟩
end Go.Proofs.YtbadpiennobdmaaDoor

/- The law WireMany: the walk. -/
import Derived.Test.YtfbkfclpfjoepaaW4O
import Derived.Test.YtfbkfclpfjoepaaIm
import Derived.Test.YtfbkfclpfjoepaaRf
namespace Go.Proofs.Ytfbkfclpfjoepaa
open Go.RowKit
/-- the bytes of numbers, one behind the other -/
def encs (ps : List Nat) : List UInt8 := ps.flatMap enc
theorem encs_length : ∀ ps : List Nat, (∀ x ∈ ps, x < 4294967296) → (encs ps).length ≤ 5 * ps.length
  | [], _ => by simp [encs]
  | a :: r, h => by
    have h1 := encs_length r fun x hx => h x (by simp [hx])
    have h2 := enc_len5 (h a (by simp))
    have e : encs (a :: r) = enc a ++ encs r := rfl
    rw [e, List.length_append, List.length_cons]; omega
def pks (l : List Int) : List Nat := l.map fun x => (pk x 4294967296).toNat
theorem pks_length (l : List Int) : (pks l).length = l.length := by simp [pks]
theorem pk_lt (x : Int) : (pk x 4294967296).toNat < 4294967296 := by have := pk_range x 4294967296 (by omega); omega
theorem pks_lt (l : List Int) : ∀ x ∈ pks l, x < 4294967296 := by
  intro x hx
  obtain ⟨y, _, rfl⟩ := List.mem_map.1 hx
  exact pk_lt y
theorem pks_at (l : List Int) (N j : Nat) (h : j < l.length) : ∃ a : Nat, pk l[j] 4294967296 = (a : Int) ∧ a < 4294967296 ∧ encs ((pks l).take (j + 1)) = encs ((pks l).take j) ++ enc a ∧ (j < N → encs (((pks l).take N).drop j) = enc a ++ encs (((pks l).take N).drop (j + 1))) := by
  have hr := pk_range l[j] 4294967296 (by omega)
  have hj : j < (pks l).length := by rw [pks_length]; exact h
  have e : (pks l)[j] = (pk l[j] 4294967296).toNat := by simp [pks]
  refine ⟨(pk l[j] 4294967296).toNat, by omega, pk_lt _, ?_, fun hN => ?_⟩
  · rw [List.take_succ_eq_append_getElem hj, e]; simp [encs]
  · have hj2 : j < ((pks l).take N).length := by rw [List.length_take]; omega
    rw [List.drop_eq_getElem_cons hj2, List.getElem_take, e]; rfl
set_option maxRecDepth 100000 in
set_option maxHeartbeats 4000000 in
theorem wireMany_walk (A : Option Addr) (n c : Nat) (l : List Int) (w : World) (hr : Rd w 1 A n c (l.map iv)) (hW : ∀ x ∈ l, (Lit.int .i64 x).wf = true) :
    Calls Try.prog 6 #[.slice A n c] w fun e w' => e = .returned (.bool true) ∧ Below w.heap.size w w' := by
  obtain rfl := hr.len
  obtain ⟨i0, hi0, hz0, hz1, hz2⟩ := info_parts u8_info
  have HW := Lib.hid hW
  have hcm := hr.2.1
  have hcx := hr.2.2.1
  unfold maxLen at hcx
  obtain ⟨ps, hps⟩ : ∃ ps, pks l = ps := ⟨_, rfl⟩
  have HB := Lib.hid (pks_lt l)
  have HPL := Lib.hid (pks_length l)
  rw [hps] at HB HPL
  clear hW
  by_cases h30 : 30 < l.length
  · have q1 : (30 : Int) < (l.length : Int) := by omega
    have q2 : (30 : Int) ≤ (c : Int) := by omega
    have HP := Lib.hid (pks_at l 30)
    rw [hps] at HP
    clear hps
    go_enter Try.func6, Try.ntmps6
    go_wp2
    go_loopw [3, 5, 6, 7, 23] (fun v _ _ _ i wr => ∃ j : Nat, j ≤ 30 ∧ i = .int .i64 j ∧ wr.ownsRow w.heap.size 5 1 v (encs (ps.take j)).length ((encs (ps.take j)).map bv8) ∧ Below w.heap.size w wr) (fun _ _ _ _ i _ => 30 - (intOf i).toNat)
    case atStart => exact ⟨0, Nat.zero_le _, rfl, World.ownsRow_nil _ _ _ _, Below.refl _ _⟩
    case round =>
      obtain ⟨j, hj, rfl, hown, hbel⟩ := hrel
      by_cases hlt : j < 30
      · have hjl : j < l.length := by omega
        have hji : (j : Int) < (l.length : Int) := by omega
        have hjN : (j : Int) < 30 := by omega
        obtain ⟨b, off, rfl, hcell⟩ := (hr.below hbel).at (k := j) (v := .int .i64 l[j]) (by rw [List.getElem?_map, List.getElem?_eq_getElem hjl]; rfl)
        obtain ⟨x0, x1⟩ := i64_range (HW.out l[j] (List.getElem_mem hjl))
        obtain ⟨a, ha, ha3, hs1, _⟩ := HP.out j hjl
        have Ha := Lib.hid ha
        have HS := Lib.hid hs1
        have hp0 := enc_pos a
        have hp5 := enc_len5 ha3
        have hbz := hbel.size
        have hln : (encs (ps.take j)).length ≤ 5 * j := Nat.le_trans (encs_length _ (fun y hy => HB.out y (List.mem_of_mem_take hy))) (by rw [List.length_take]; omega)
        have hl0 : (((enc a).length : Int) == 0) = false := by rw [beq_eq_false_iff_ne]; omega
        clear ha hs1
        go_wp2_with fail
        with_reducible refine (picked_nat l[j] 4294967296 a _ x0 x1 (by omega) (by omega) Ha.out).mono ?_
        rintro e w' ⟨rfl, rfl⟩
        go_wp2_with fail
        with_reducible refine (number_ok a _ ha3).mono ?_
        rintro e w1 ⟨v1, rfl, hown1, hb1⟩
        obtain ⟨A1, c1, rfl, hr1, hA1⟩ := own_rdN hown1
        have hown2 := own_below hown hb1
        have hbB := below_step hbel hb1
        have hbB2 := hbB.size
        clear hown1
        go_wp2_with (at_builtin; refine wpList_appendR rfl (.tmp 40) (.tmp 41) _ rfl Try.underlying22 hi0 hz0 hz1 hz2 rfl (by omega) _ _ _ rfl hown2 hr1 hA1 (bytes_one _) rfl (by omega) (by unfold maxLen; omega) hbB2 ?_; rintro v3 w3 ⟨hown3, hb3⟩)
        go_roundw
        case rel =>
          refine ⟨j + 1, by omega, by go_num, ?_, hbB.trans hb3⟩
          rw [HS.out, List.map_append, List.length_append]
          exact hown3
        case measure => simp [intOf] <;> omega
      · have hjd : decide ((j : Int) < 30) = false := by simp; omega
        have hjN : j = 30 := by omega
        rw [hjN] at hown
        clear hjN
        obtain ⟨A0, c0, rfl, hr0⟩ := own_rd hown
        clear hown
        rename World => w9
        go_wp2
        go_loopw [3, 9, 10, 11, 12, 46] (fun v _ _ _ _ i wr => ∃ (j n' c' : Nat) (A' : Option Addr), j ≤ 30 ∧ i = .int .i64 j ∧ v = .slice A' n' c' ∧ n' ≤ 150 ∧ Rd wr 1 A' n' c' ((encs ((ps.take 30).drop j)).map bv8) ∧ Below w.heap.size w wr) (fun _ _ _ _ _ i _ => 30 - (intOf i).toNat)
        case atStart => exact ⟨0, _, _, _, Nat.zero_le _, rfl, rfl, Nat.le_trans (encs_length _ (fun y hy => HB.out y (List.mem_of_mem_take hy))) (by rw [List.length_take]; omega), hr0, hbel⟩
        case round =>
          clear hr0 hbel hlt hjd hj
          obtain ⟨i, n', c', A', hi, rfl, rfl, hn', hr0, hbel⟩ := hrel
          by_cases hlt : i < 30
          · have hjl : i < l.length := by omega
            have hji : (i : Int) < (l.length : Int) := by omega
            have hjN : (i : Int) < 30 := by omega
            obtain ⟨b, off, rfl, hcell⟩ := (hr.below hbel).at (k := i) (v := .int .i64 l[i]) (by rw [List.getElem?_map, List.getElem?_eq_getElem hjl]; rfl)
            obtain ⟨x0, x1⟩ := i64_range (HW.out l[i] (List.getElem_mem hjl))
            obtain ⟨a, ha, ha3, _, hs2⟩ := HP.out i hjl
            have Ha := Lib.hid ha
            rw [hs2 hlt] at hr0
            obtain ⟨r1, r2, r3, r4⟩ := read_enc ha3 (encs ((ps.take 30).drop (i + 1)))
            have R1 := Lib.hid r1
            have R2 := Lib.hid r2
            have R4 := Lib.hid r4
            have hnl := hr0.len
            rw [List.length_append] at hnl
            have hnl2 : (encs ((ps.take 30).drop (i + 1))).length ≤ 150 := by omega
            clear ha hs2 r1 r2 r3 r4 hnl
            go_wp2_with fail
            with_reducible refine (readNumber_at _ _ _ _ _ hr0 (by omega) (a : Int) 0 (by rw [R2.out]) R1.out).mono ?_
            rintro e w1 ⟨A1, n1, c1, rfl, hr1, hA1, hn1, hb1⟩
            rw [R4.out] at hr1
            have hn2 : n1 ≤ 150 := by rw [hr1.len]; exact hnl2
            go_wp2_with ((with_reducible refine (picked_nat l[i] 4294967296 a _ x0 x1 (by omega) (by omega) Ha.out).mono ?_); rintro e w' ⟨rfl, rfl⟩)
            go_roundw
            case rel => exact ⟨i + 1, _, _, _, by omega, by go_num, rfl, hn2, hr1, below_step hbel hb1⟩
            case measure => simp [intOf] <;> omega
          · have hjd : decide ((i : Int) < 30) = false := by simp; omega
            have hie : encs ((ps.take 30).drop i) = [] := by rw [List.drop_of_length_le (by rw [List.length_take]; omega)]; rfl
            rw [hie] at hr0
            obtain rfl : n' = 0 := hr0.len
            clear hie
            have R8 : rErr [] = 8 := (read_short (l := []) (by decide) rfl).1
            go_wp2_with fail
            with_reducible refine (readNumber_at _ _ _ _ _ hr0 (by omega) _ 8 rfl R8).mono ?_
            rintro e w1 ⟨A1, n1, c1, rfl, hr1, hA1, hn1, hb1⟩
            go_wp2
            go_ret
            exact ⟨rfl, below_step hbel hb1⟩
  · have q1 : ¬ (30 : Int) < (l.length : Int) := by omega
    have q2 : (l.length : Int) ≤ (c : Int) := by omega
    have HP := Lib.hid (pks_at l l.length)
    rw [hps] at HP
    clear hps
    go_enter Try.func6, Try.ntmps6
    go_wp2
    go_loopw [3, 5, 6, 7, 23] (fun v _ _ _ i wr => ∃ j : Nat, j ≤ l.length ∧ i = .int .i64 j ∧ wr.ownsRow w.heap.size 5 1 v (encs (ps.take j)).length ((encs (ps.take j)).map bv8) ∧ Below w.heap.size w wr) (fun _ _ _ _ i _ => l.length - (intOf i).toNat)
    case atStart => exact ⟨0, Nat.zero_le _, rfl, World.ownsRow_nil _ _ _ _, Below.refl _ _⟩
    case round =>
      obtain ⟨j, hj, rfl, hown, hbel⟩ := hrel
      by_cases hlt : j < l.length
      · have hjl : j < l.length := by omega
        have hji : (j : Int) < (l.length : Int) := by omega
        have hjN : (j : Int) < (l.length : Int) := by omega
        obtain ⟨b, off, rfl, hcell⟩ := (hr.below hbel).at (k := j) (v := .int .i64 l[j]) (by rw [List.getElem?_map, List.getElem?_eq_getElem hjl]; rfl)
        obtain ⟨x0, x1⟩ := i64_range (HW.out l[j] (List.getElem_mem hjl))
        obtain ⟨a, ha, ha3, hs1, _⟩ := HP.out j hjl
        have Ha := Lib.hid ha
        have HS := Lib.hid hs1
        have hp0 := enc_pos a
        have hp5 := enc_len5 ha3
        have hbz := hbel.size
        have hln : (encs (ps.take j)).length ≤ 5 * j := Nat.le_trans (encs_length _ (fun y hy => HB.out y (List.mem_of_mem_take hy))) (by rw [List.length_take]; omega)
        have hl0 : (((enc a).length : Int) == 0) = false := by rw [beq_eq_false_iff_ne]; omega
        clear ha hs1
        go_wp2_with fail
        with_reducible refine (picked_nat l[j] 4294967296 a _ x0 x1 (by omega) (by omega) Ha.out).mono ?_
        rintro e w' ⟨rfl, rfl⟩
        go_wp2_with fail
        with_reducible refine (number_ok a _ ha3).mono ?_
        rintro e w1 ⟨v1, rfl, hown1, hb1⟩
        obtain ⟨A1, c1, rfl, hr1, hA1⟩ := own_rdN hown1
        have hown2 := own_below hown hb1
        have hbB := below_step hbel hb1
        have hbB2 := hbB.size
        clear hown1
        go_wp2_with (at_builtin; refine wpList_appendR rfl (.tmp 40) (.tmp 41) _ rfl Try.underlying22 hi0 hz0 hz1 hz2 rfl (by omega) _ _ _ rfl hown2 hr1 hA1 (bytes_one _) rfl (by omega) (by unfold maxLen; omega) hbB2 ?_; rintro v3 w3 ⟨hown3, hb3⟩)
        go_roundw
        case rel =>
          refine ⟨j + 1, by omega, by go_num, ?_, hbB.trans hb3⟩
          rw [HS.out, List.map_append, List.length_append]
          exact hown3
        case measure => simp [intOf] <;> omega
      · have hjd : decide ((j : Int) < (l.length : Int)) = false := by simp; omega
        have hjN : j = l.length := by omega
        rw [hjN] at hown
        clear hjN
        obtain ⟨A0, c0, rfl, hr0⟩ := own_rd hown
        clear hown
        rename World => w9
        go_wp2
        go_loopw [3, 9, 10, 11, 12, 46] (fun v _ _ _ _ i wr => ∃ (j n' c' : Nat) (A' : Option Addr), j ≤ l.length ∧ i = .int .i64 j ∧ v = .slice A' n' c' ∧ n' ≤ 150 ∧ Rd wr 1 A' n' c' ((encs ((ps.take l.length).drop j)).map bv8) ∧ Below w.heap.size w wr) (fun _ _ _ _ _ i _ => l.length - (intOf i).toNat)
        case atStart => exact ⟨0, _, _, _, Nat.zero_le _, rfl, rfl, Nat.le_trans (encs_length _ (fun y hy => HB.out y (List.mem_of_mem_take hy))) (by rw [List.length_take]; omega), hr0, hbel⟩
        case round =>
          clear hr0 hbel hlt hjd hj
          obtain ⟨i, n', c', A', hi, rfl, rfl, hn', hr0, hbel⟩ := hrel
          by_cases hlt : i < l.length
          · have hjl : i < l.length := by omega
            have hji : (i : Int) < (l.length : Int) := by omega
            have hjN : (i : Int) < (l.length : Int) := by omega
            obtain ⟨b, off, rfl, hcell⟩ := (hr.below hbel).at (k := i) (v := .int .i64 l[i]) (by rw [List.getElem?_map, List.getElem?_eq_getElem hjl]; rfl)
            obtain ⟨x0, x1⟩ := i64_range (HW.out l[i] (List.getElem_mem hjl))
            obtain ⟨a, ha, ha3, _, hs2⟩ := HP.out i hjl
            have Ha := Lib.hid ha
            rw [hs2 hlt] at hr0
            obtain ⟨r1, r2, r3, r4⟩ := read_enc ha3 (encs ((ps.take l.length).drop (i + 1)))
            have R1 := Lib.hid r1
            have R2 := Lib.hid r2
            have R4 := Lib.hid r4
            have hnl := hr0.len
            rw [List.length_append] at hnl
            have hnl2 : (encs ((ps.take l.length).drop (i + 1))).length ≤ 150 := by omega
            clear ha hs2 r1 r2 r3 r4 hnl
            go_wp2_with fail
            with_reducible refine (readNumber_at _ _ _ _ _ hr0 (by omega) (a : Int) 0 (by rw [R2.out]) R1.out).mono ?_
            rintro e w1 ⟨A1, n1, c1, rfl, hr1, hA1, hn1, hb1⟩
            rw [R4.out] at hr1
            have hn2 : n1 ≤ 150 := by rw [hr1.len]; exact hnl2
            go_wp2_with ((with_reducible refine (picked_nat l[i] 4294967296 a _ x0 x1 (by omega) (by omega) Ha.out).mono ?_); rintro e w' ⟨rfl, rfl⟩)
            go_roundw
            case rel => exact ⟨i + 1, _, _, _, by omega, by go_num, rfl, hn2, hr1, below_step hbel hb1⟩
            case measure => simp [intOf] <;> omega
          · have hjd : decide ((i : Int) < (l.length : Int)) = false := by simp; omega
            have hie : encs ((ps.take l.length).drop i) = [] := by rw [List.drop_of_length_le (by rw [List.length_take]; omega)]; rfl
            rw [hie] at hr0
            obtain rfl : n' = 0 := hr0.len
            clear hie
            have R8 : rErr [] = 8 := (read_short (l := []) (by decide) rfl).1
            go_wp2_with fail
            with_reducible refine (readNumber_at _ _ _ _ _ hr0 (by omega) _ 8 rfl R8).mono ?_
            rintro e w1 ⟨A1, n1, c1, rfl, hr1, hA1, hn1, hb1⟩
            go_wp2
            go_ret
            exact ⟨rfl, below_step hbel hb1⟩
end Go.Proofs.Ytfbkfclpfjoepaa

/- Reading a number: the program's copied, numberLength and number. -/
import Derived.Test.YtaaeihkbnfcolaaRows
import Derived.Test.YtaaeihkbnfcolaaCy
import Derived.Test.YtaaeihkbnfcolaaI8
import Derived.Test.YtaaeihkbnfcolaaY8
import Derived.Test.YtaaeihkbnfcolaaVn
import Derived.Lib.Hide
import Derived.IntWalk
namespace Go.Proofs.Ytaaeihkbnfcolaa
open Go.RowKit
theorem bytes_one (l : List UInt8) : ∀ y ∈ l.map bv8, y.oneCell' = true := by
  intro y hy
  obtain ⟨x, _, rfl⟩ := List.mem_map.1 hy
  rfl
set_option maxHeartbeats 400000 in
theorem copied_any (A : Option Addr) (n c : Nat) (l : List UInt8) (w : World) (hr : Rd w 1 A n c (l.map bv8)) (hz : n ≤ 140737488355328) :
    Calls Try.prog 55 #[.slice A n c] w fun e w' => e = .returned (.slice (some ⟨w.heap.size, 0, none⟩) n n) ∧ Rd w' 1 (some ⟨w.heap.size, 0, none⟩) n n (l.map bv8) ∧ Below w.heap.size w w' := by
  obtain rfl := hr.len
  obtain ⟨i0, hi0, hz0, hz1, hz2⟩ := info_parts u8_info
  have hmk := run_make1 (P := Try.prog) Try.underlying27 hi0 hz0 hz1 rfl hz2 (l.length : Int) l.length rfl (by omega) (by omega)
  have hb0 := (Below.refl w.heap.size w).alloc (Nat.le_refl _) (.cells (reps l.length (.int .u8 0)).toArray 5)
  have hr0 := hr.below hb0
  go_enter Try.func55, Try.ntmps55
  go_wp2_with ((with_reducible refine at_copy ?_); refine wpList_copyR rfl (.tmp 7) (.tmp 8) _ _ rfl Try.underlying27 hi0 hz1 w.heap.size l.length l.length rfl rfl (reps l.length (.int .u8 0)) 5 (Blk.new w _ _) hr0 (Nat.le_refl _) (by rw [reps_length]; exact Nat.le_refl _) (bytes_one l) w.heap.size w hb0 (Nat.le_refl _) ?_; intro w1 HG1 hb1)
  go_ret
  have hg := HG1.out
  rw [List.drop_of_length_le (by rw [reps_length]; exact Nat.le_refl _), List.append_nil] at hg
  exact ⟨rfl, blk_rd hg (by simp) (by omega), hb1⟩
/-- how many bytes the number takes, and the error -/
def nlen (l : List UInt8) : Nat := if lead l < 5 ∧ lead l < l.length then lead l + 1 else 0
def nlerr (l : List UInt8) : Int := if lead l < 5 ∧ lead l < l.length then 0 else if l.length < 5 then 8 else 3
theorem nl_ok {l : List UInt8} (h : lead l < 5) (h2 : lead l < l.length) : nlen l = lead l + 1 ∧ nlerr l = 0 := ⟨if_pos ⟨h, h2⟩, if_pos ⟨h, h2⟩⟩
theorem nl_short {l : List UInt8} (h : l.length < 5) (h2 : l.length ≤ lead l) : nlen l = 0 ∧ nlerr l = 8 := by
  constructor
  · exact if_neg (by omega)
  · unfold nlerr; rw [if_neg (by omega), if_pos h]
theorem nl_long {l : List UInt8} (h : 5 ≤ l.length) (h2 : 5 ≤ lead l) : nlen l = 0 ∧ nlerr l = 3 := by
  constructor
  · exact if_neg (by omega)
  · unfold nlerr; rw [if_neg (by omega), if_neg (by omega)]
theorem ret_two {a a' b b' : Int} (h : a = a') (h2 : b = b') : Ending.returned (.tuple #[.int .i64 a, .int .i64 b]) = .returned (.tuple #[.int .i64 a', .int .i64 b']) := by rw [h, h2]
set_option maxHeartbeats 400000 in
theorem numberLength_any (A : Option Addr) (n c : Nat) (l : List UInt8) (w : World) (hr : Rd w 1 A n c (l.map bv8)) :
    Calls Try.prog 61 #[.slice A n c] w fun e w' => e = .returned (.tuple #[.int .i64 (nlen l), .int .i64 (nlerr l)]) ∧ w = w' := by
  obtain rfl := hr.len
  have hcm := hr.2.1
  have hcx := hr.2.2.1
  unfold maxLen at hcx
  obtain ⟨lim, hlim, hb⟩ : ∃ lim : Nat, Hid (lim = min l.length 5) ∧ lim ≤ l.length := ⟨min l.length 5, rfl, by omega⟩
  by_cases h5 : 5 < l.length
  · have q5 : (5 : Int) < (l.length : Int) := by omega
    go_enter Try.func61, Try.ntmps61
    go_wp2
    go_loop [4, 8] (fun _ i => ∃ k : Nat, k ≤ 5 ∧ i = .int .i64 k ∧ Hid (k ≤ lead l)) (fun _ i => 5 - (intOf i).toNat)
    case atStart => exact ⟨0, by omega, rfl, Nat.zero_le _⟩
    case round =>
      obtain ⟨k, hk, rfl, HK⟩ := hrel
      by_cases hlt : k < 5
      · have hkl : k < l.length := by omega
        have hki : (k : Int) < (l.length : Int) := by omega
        have hk5 : (k : Int) < 5 := by omega
        obtain ⟨b, off, rfl, hcell⟩ := hr.at (k := k) (v := .int .u8 (y8 l[k])) (by rw [List.getElem?_map, List.getElem?_eq_getElem (by omega)]; rfl)
        by_cases hx : 128 ≤ l[k].toNat
        · have hd : decide (y8 l[k] < 128) = false := by unfold y8; simp; omega
          have HM := Lib.hid (lead_more HK.out (by omega) hx)
          clear hx
          go_wp2
          go_round
          case rel => exact ⟨k + 1, by omega, by go_num, HM.out⟩
          case measure => simp [intOf]; omega
        · have hd : decide (y8 l[k] < 128) = true := by unfold y8; simp; omega
          have he := lead_eq HK.out (by omega) (by omega : l[k].toNat < 128)
          have HE := Lib.hid (nl_ok (l := l) (by omega) (by omega))
          rw [he] at HE
          clear hx he
          go_wp2
          go_ret2
          exact ⟨ret_two (by rw [HE.out.1]; omega) HE.out.2.symm, rfl⟩
      · have hd : decide ((k : Int) < 5) = false := by simp; omega
        have HE := Lib.hid (nl_long (l := l) (by omega) (by have := HK.out; omega))
        go_wp2
        go_ret2
        exact ⟨ret_two (by rw [HE.out.1]; rfl) HE.out.2.symm, rfl⟩
  · have q5 : ¬ (5 : Int) < (l.length : Int) := by omega
    go_enter Try.func61, Try.ntmps61
    go_wp2
    go_loop [4, 8] (fun _ i => ∃ k : Nat, k ≤ l.length ∧ i = .int .i64 k ∧ Hid (k ≤ lead l)) (fun _ i => l.length - (intOf i).toNat)
    case atStart => exact ⟨0, by omega, rfl, Nat.zero_le _⟩
    case round =>
      obtain ⟨k, hk, rfl, HK⟩ := hrel
      by_cases hlt : k < l.length
      · obtain ⟨b, off, rfl, hcell⟩ := hr.at (k := k) (v := .int .u8 (y8 l[k])) (by rw [List.getElem?_map, List.getElem?_eq_getElem (by omega)]; rfl)
        by_cases hx : 128 ≤ l[k].toNat
        · have hd : decide (y8 l[k] < 128) = false := by unfold y8; simp; omega
          have HM := Lib.hid (lead_more HK.out (by omega) hx)
          clear hx
          go_wp2
          go_round
          case rel => exact ⟨k + 1, by omega, by go_num, HM.out⟩
          case measure => simp [intOf]; omega
        · have hd : decide (y8 l[k] < 128) = true := by unfold y8; simp; omega
          have he := lead_eq HK.out (by omega) (by omega : l[k].toNat < 128)
          have HE := Lib.hid (nl_ok (l := l) (by omega) (by omega))
          rw [he] at HE
          clear hx he
          go_wp2
          go_ret2
          exact ⟨ret_two (by rw [HE.out.1]; omega) HE.out.2.symm, rfl⟩
      · have hkl : k = l.length := by omega
        have HL := HK.out
        rw [hkl] at HL
        have hd : decide ((k : Int) < (l.length : Int)) = false := by simp; omega
        by_cases h4 : l.length < 5
        · have hd4 : decide ((l.length : Int) < 5) = true := by simp; omega
          have HE := Lib.hid (nl_short (l := l) h4 HL)
          clear hkl HL
          go_wp2
          go_ret2
          exact ⟨ret_two (by rw [HE.out.1]; rfl) HE.out.2.symm, rfl⟩
        · have hd4 : decide ((l.length : Int) < 5) = false := by simp; omega
          have HE := Lib.hid (nl_long (l := l) (by omega) (by omega))
          clear hkl HL
          go_wp2
          go_ret2
          exact ⟨ret_two (by rw [HE.out.1]; rfl) HE.out.2.symm, rfl⟩
end Go.Proofs.Ytaaeihkbnfcolaa

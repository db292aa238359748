/- Hexadecimal digits to bytes: the program's Bytes and Check. -/
import Derived.Test.YtaaeihkbnfcolaaH2b
namespace Go.Proofs.Ytaaeihkbnfcolaa
open Go.RowKit
theorem y8_shl4 (x : UInt8) : IntKind.u8.wrap (y8 x * (16 : Int)) = y8 (x <<< 4) := by
  have : ∀ n : Fin 256, IntKind.u8.wrap ((n.val : Int) * 16) = (((UInt8.ofNat n.val) <<< 4).toNat : Int) := by decide +kernel
  have h := this ⟨x.toNat, x.toNat_lt⟩
  simp only [UInt8.ofNat_toNat] at h
  exact h
theorem y8_shl4' (x : UInt8) : y8 x * (16 : Int) % (256 : Int) = y8 (x <<< 4) := by
  rw [← y8_shl4, IntKind.wrap_u8]
theorem ofInt_y8 (x : UInt8) : BitVec.ofInt 8 (y8 x) = x.toBitVec := by
  unfold y8
  rw [BitVec.ofInt_natCast]
  apply BitVec.eq_of_toNat_eq
  rw [BitVec.toNat_ofNat]
  exact Nat.mod_eq_of_lt x.toNat_lt
theorem y8_or (x y : UInt8) : bits .or .u8 (y8 x) (y8 y) = y8 (x ||| y) := by
  show IntKind.u8.wrap ((BitVec.ofInt 8 (y8 x) ||| BitVec.ofInt 8 (y8 y)).toNat : Int) = _
  rw [ofInt_y8, ofInt_y8]
  have := (x ||| y).toNat_lt
  show IntKind.u8.wrap (((x ||| y).toBitVec).toNat : Int) = _
  exact wrap8_y8 (x ||| y)
attribute [go_sem] y8_shl4 y8_shl4' y8_or
/-- the byte of two digits; the bytes of digits -/
def two (a b : UInt8) : UInt8 := vl a <<< 4 ||| vl b
def unh : List UInt8 → List UInt8
  | a :: b :: r => two a b :: unh r
  | _ => []
theorem unh_length : ∀ l : List UInt8, (unh l).length = l.length / 2
  | [] => rfl
  | [_] => by simp [unh]
  | _ :: _ :: r => by simp [unh, unh_length r]; omega
theorem unh_at : ∀ (l : List UInt8) (k : Nat) (h : 2 * k + 1 < l.length), (unh l)[k]? = some (two l[2 * k] l[2 * k + 1])
  | [], _, h => absurd h (by simp)
  | [_], _, h => absurd h (by simp)
  | a :: b :: r, 0, _ => rfl
  | a :: b :: r, k + 1, h => by
    have h' : 2 * k + 1 < r.length := by simp at h; omega
    have := unh_at r k h'
    rw [unh, List.getElem?_cons_succ, this]
    congr 1
set_option maxHeartbeats 400000 in
theorem hbytes_big (l : List UInt8) (w : World) (h : 4000 < l.length) (hm : l.length ≤ maxLen) :
    Calls Try.prog 44 #[.string (str l)] w fun e w' => e = .returned (.tuple #[.slice none 0 0, .int .i64 1]) ∧ w = w' := by
  unfold maxLen at hm
  go_enter Try.func44, Try.ntmps44
  go_wp2
  go_ret2
  exact ⟨rfl, rfl⟩
set_option maxHeartbeats 400000 in
theorem hbytes_odd (l : List UInt8) (w : World) (h : l.length ≤ 4000) (hn : l.length % 2 ≠ 0) :
    Calls Try.prog 44 #[.string (str l)] w fun e w' => e = .returned (.tuple #[.slice none 0 0, .int .i64 3]) ∧ w = w' := by
  have hne : ((l.length : Int) % 2 != 0) = true := by rw [bne_iff_ne]; omega
  go_enter Try.func44, Try.ntmps44
  go_wp2
  go_ret2
  exact ⟨rfl, rfl⟩
set_option maxHeartbeats 400000 in
theorem hbytes_no (l : List UInt8) (w : World) (h : l.length ≤ 4000) (hn : l.length % 2 = 0) (hd : l.all isD = false) :
    Calls Try.prog 44 #[.string (str l)] w fun e w' => e = .returned (.tuple #[.slice none 0 0, .int .i64 3]) ∧ w = w' := by
  have hne : ((l.length : Int) % 2 != 0) = false := by rw [bne_eq_false_iff_eq]; omega
  have hm : l.length ≤ maxLen := by unfold maxLen; omega
  clear hn
  go_enter Try.func44, Try.ntmps44
  go_wp2_with ((with_reducible refine (onlyDigits_any _ _ hm).mono ?_); rintro e w' ⟨rfl, rfl⟩)
  go_ret2
  exact ⟨rfl, rfl⟩
set_option maxHeartbeats 1000000 in
theorem hbytes_ok (l : List UInt8) (w : World) (h : l.length ≤ 4000) (hn : l.length % 2 = 0) (hd : l.all isD = true) :
    Calls Try.prog 44 #[.string (str l)] w fun e w' => ∃ g, e = .returned (.tuple #[.slice (some ⟨g, 0, none⟩) (l.length / 2) (l.length / 2), .int .i64 0]) ∧ Blk w' g 5 ((unh l).map bv8) ∧ Below w.heap.size w w' := by
  have hne : ((l.length : Int) % 2 != 0) = false := by rw [bne_eq_false_iff_eq]; omega
  have hm : l.length ≤ maxLen := by unfold maxLen; omega
  obtain ⟨i0, hi0, hz0, hz1, hz2⟩ := info_parts u8_info
  have hmk := run_make1 (P := Try.prog) Try.underlying27 hi0 hz0 hz1 rfl hz2 ((l.length : Int) / 2) (l.length / 2) (by omega) (by omega) (by omega)
  have hdd : decide (4000 < (l.length : Int)) = false := by simp; omega
  have HD := Lib.hid (List.all_eq_true.1 hd)
  clear hn
  go_enter Try.func44, Try.ntmps44
  go_wp2_with ((with_reducible refine (onlyDigits_any _ _ hm).mono ?_); rintro e w' ⟨rfl, rfl⟩)
  go_loopw [5, 24] (fun _ i wr => ∃ k : Nat, k ≤ l.length / 2 ∧ i = .int .i64 k ∧ Blk wr w.heap.size 5 (((unh l).map bv8).take k ++ reps (l.length / 2 - k) (.int .u8 0)) ∧ Below w.heap.size w wr) (fun _ i _ => l.length / 2 - (intOf i).toNat)
  case atStart => exact ⟨0, by omega, rfl, by simpa using Blk.new w _ _, (Below.refl _ _).alloc (Nat.le_refl _) _⟩
  case round =>
    obtain ⟨k, hk, rfl, hblk, hbel⟩ := hrel
    by_cases hlt : k < l.length / 2
    · have q0 : 2 * k < l.length := by omega
      have q1 : 2 * k + 1 < l.length := by omega
      have d0 := Lib.hid (HD.out _ (List.getElem_mem q0))
      have d1 := Lib.hid (HD.out _ (List.getElem_mem q1))
      have i0 : (2 : Int) * k < l.length := by omega
      have i1 : (2 : Int) * k + 1 < l.length := by omega
      have j0 : (0 : Int) ≤ 2 * k := by omega
      have j1 : (0 : Int) ≤ 2 * k + 1 := by omega
      have n0 : ((2 : Int) * k).toNat = 2 * k := by omega
      have n1 : ((2 : Int) * k + 1).toNat = 2 * k + 1 := by omega
      have v0 : IntKind.i64.wrap ((2 : Int) * k) = 2 * k := IntWalk.i64_in _ (by omega)
      have v1 : IntKind.i64.wrap ((2 : Int) * k + 1) = 2 * k + 1 := IntWalk.i64_in _ (by omega)
      go_wp2
      refine wp_region_still_tail 16 (by kernel_rfl) (by kernel_rfl) ?_
      simp only [List.take_succ_cons, List.take_zero, List.drop_succ_cons, List.drop_zero]
      repeat still_step
      still_call (value_any _ _ d0.out)
      repeat still_step
      still_call (value_any _ _ d1.out)
      repeat still_step
      refine wpStill_nil ?_
      change wpList _ _ _ _ _ wr.drew
      have hwk : ((unh l).map bv8)[k]? = some (.int .u8 (y8 (vl (l[2 * k]'(by omega)) <<< 4 ||| vl (l[2 * k + 1]'(by omega))))) := by rw [List.getElem?_map, unh_at l k (by omega)]; rfl
      have Hwk := Lib.hid hwk
      have hset := hblk.drew.put k (.int .u8 (y8 (vl (l[2 * k]'(by omega)) <<< 4 ||| vl (l[2 * k + 1]'(by omega)))))
      rw [fill_step hlt hwk] at hset
      have Hset := Lib.hid hset
      have hcl : wr.drew.cell? ⟨w.heap.size, k, none⟩ = some (.int .u8 0) := by rw [hblk.drew.cell, fill_at hlt (by rw [List.length_map, unh_length]; exact hlt)]
      have hfr : wr.drew.frozen? ⟨w.heap.size, k, none⟩ = false := hblk.drew.frozen k
      have hbd := hbel.drew
      clear hwk hset v0 v1 hblk hbel
      generalize wr.drew = wd at *
      go_wp2
      go_roundw
      case rel => exact ⟨k + 1, by omega, by go_num, Hset.out, hbd.setCell (p := ⟨w.heap.size, k, none⟩) (Nat.le_refl _) _⟩
      case measure => simp [intOf]; omega
    · obtain rfl : k = l.length / 2 := by omega
      have hb2 := hblk
      rw [fill_end (by rw [List.length_map, unh_length])] at hb2
      go_wp2
      go_ret2
      exact ⟨w.heap.size, rfl, hb2, hbel⟩
end Go.Proofs.Ytaaeihkbnfcolaa

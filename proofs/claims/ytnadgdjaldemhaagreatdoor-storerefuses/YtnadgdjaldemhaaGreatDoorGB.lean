/- Texts that belong together: what the functions of the program and of the statements return. -/
import Derived.Test.YtnadgdjaldemhaaGreatDoorRows
import Derived.Test.YtnadgdjaldemhaaGreatDoorGA
import Derived.Test.YtnadgdjaldemhaaGreatDoorGA
import Derived.StillTailTactics
import Derived.IntWalk
import Derived.Lib.Hide
import Derived.Deep.QuietTactic
import Derived.BigQuiet
/- Bytes to hexadecimal digits: what the program's Text returns. -/
namespace Go.Proofs.YtnadgdjaldemhaaGreatDoor
open Go.RowKit
set_option maxRecDepth 100000 in
set_option maxHeartbeats 1000000 in
theorem text_any (A : Option Addr) (n c : Nat) (l : List UInt8) (w : World) (hr : Rd w 1 A n c (l.map bv8)) (hz : n ≤ 140737488351232) :
    Calls Tryz.prog 135 #[.slice A n c] w fun e w' => e = .returned (.string (str (hexT l))) ∧ Below w.heap.size w w' := by
  obtain rfl := hr.len
  obtain ⟨i0, hi0, hz0, hz1, hz2⟩ := info_parts u8_info
  have hmk := run_make1 (P := Tryz.prog) Tryz.underlying36 hi0 hz0 hz1 rfl hz2 (2 * (l.length : Int)) (2 * l.length) (by omega) (by omega) (by omega)
  go_enter Tryz.func135, Tryz.ntmps135
  go_wp2
  go_loopw [4, 5, 12] (fun _ _ i wr => ∃ k : Nat, k ≤ l.length ∧ i = .int .i64 k ∧ Blk wr w.heap.size 5 (((hexT l).map bv8).take (2 * k) ++ reps (2 * l.length - 2 * k) (.int .u8 0)) ∧ Below w.heap.size w wr) (fun _ _ i _ => l.length - (intOf i).toNat)
  case atStart => exact ⟨0, by omega, rfl, by simpa using Blk.new w _ _, (Below.refl _ _).alloc (Nat.le_refl _) _⟩
  case round =>
    obtain ⟨k, hk, rfl, hblk, hbel⟩ := hrel
    by_cases hlt : k < l.length
    · obtain ⟨b, off, rfl, hbl, hcell⟩ := hr.addr (by simp; omega)
      have h0 : wr.cell? ⟨b, off + k, none⟩ = some (.int .u8 (y8 (l[k]'(by omega)))) := (hbel.cell (p := ⟨b, off + k, none⟩) hbl).trans (hcell k _ (by rw [List.getElem?_map, List.getElem?_eq_getElem (by omega)]; rfl))
      have hL : ((hexT l).map bv8).length = 2 * l.length := by rw [List.length_map, hexT_length]
      have at0 : ((hexT l).map bv8)[2 * k]? = some (.int .u8 (y8 (dg (l[k] >>> 4)))) := by rw [List.getElem?_map, (hexT_at l k hlt).1]; rfl
      have at1 : ((hexT l).map bv8)[2 * k + 1]? = some (.int .u8 (y8 (dg (l[k] &&& 15)))) := by rw [List.getElem?_map, (hexT_at l k hlt).2]; rfl
      have s0 := hblk.put (2 * k) (.int .u8 (y8 (dg (l[k] >>> 4))))
      rw [fill_step (by omega) at0] at s0
      have s1 := s0.put (2 * k + 1) (.int .u8 (y8 (dg (l[k] &&& 15))))
      rw [fill_step (by omega) at1] at s1
      have c0 := (hblk.cell (2 * k)).trans (fill_at (by omega) (by omega))
      have c1 := (s0.cell (2 * k + 1)).trans (fill_at (by omega) (by omega))
      have f0 := hblk.frozen (2 * k)
      have f1 := s0.frozen (2 * k + 1)
      have H1 := Lib.hid s1
      clear s0 s1 at0 at1 hL hblk hcell
      have n0 : ((2 : Int) * k).toNat = 2 * k := by omega
      have n1 : ((2 : Int) * k + 1).toNat = 2 * k + 1 := by omega
      go_wp2
      go_roundw
      case rel => exact ⟨k + 1, by omega, by go_num, H1.out, (hbel.setCell (p := ⟨w.heap.size, 2 * k, none⟩) (Nat.le_refl _) _).setCell (p := ⟨w.heap.size, 2 * k + 1, none⟩) (Nat.le_refl _) _⟩
      case measure => simp [intOf]; omega
    · obtain rfl : k = l.length := by omega
      have hb2 := hblk
      rw [fill_end (by rw [List.length_map, hexT_length])] at hb2
      have hrd := blk_rd hb2 (n := (hexT l).length) (by rw [List.length_map]) (by rw [hexT_length]; omega)
      have k1 := run_bytes_str (P := Tryz.prog) Tryz.underlying36 Tryz.underlying5 Tryz.underlying9 hrd
      rw [hexT_length] at k1
      have e2 : ((2 * l.length : Nat) : Int) = 2 * (l.length : Int) := by omega
      clear hblk hb2 hrd
      go_wp2
      go_ret
      exact ⟨rfl, hbel⟩
end Go.Proofs.YtnadgdjaldemhaaGreatDoor
/- Bytes of digits: plain facts. -/
namespace Go.Proofs.YtnadgdjaldemhaaGreatDoor
open Go.RowKit
theorem y8_shl4 (x : UInt8) : IntKind.u8.wrap (y8 x * (16 : Int)) = y8 (x <<< 4) := by
  have : ∀ n : Fin 256, IntKind.u8.wrap ((n.val : Int) * 16) = (((UInt8.ofNat n.val) <<< 4).toNat : Int) := by decide +kernel
  have h := this ⟨x.toNat, x.toNat_lt⟩
  simp only [UInt8.ofNat_toNat] at h
  exact h
theorem y8_shl4' (x : UInt8) : y8 x * (16 : Int) % (256 : Int) = y8 (x <<< 4) := by
  rw [← y8_shl4, IntKind.wrap_u8]
theorem ofInt_y8 (x : UInt8) : BitVec.ofInt 8 (y8 x) = x.toBitVec := by
  unfold y8
  rw [BitVec.ofInt_natCast]
  apply BitVec.eq_of_toNat_eq
  rw [BitVec.toNat_ofNat]
  exact Nat.mod_eq_of_lt x.toNat_lt
theorem y8_or (x y : UInt8) : bits .or .u8 (y8 x) (y8 y) = y8 (x ||| y) := by
  show IntKind.u8.wrap ((BitVec.ofInt 8 (y8 x) ||| BitVec.ofInt 8 (y8 y)).toNat : Int) = _
  rw [ofInt_y8, ofInt_y8]
  have := (x ||| y).toNat_lt
  show IntKind.u8.wrap (((x ||| y).toBitVec).toNat : Int) = _
  exact wrap8_y8 (x ||| y)
attribute [go_sem] y8_shl4 y8_shl4' y8_or
/-- the byte of two digits; the bytes of digits -/
def two (a b : UInt8) : UInt8 := vl a <<< 4 ||| vl b
def unh : List UInt8 → List UInt8
  | a :: b :: r => two a b :: unh r
  | _ => []
theorem unh_length : ∀ l : List UInt8, (unh l).length = l.length / 2
  | [] => rfl
  | [_] => by simp [unh]
  | _ :: _ :: r => by simp [unh, unh_length r]; omega
theorem unh_at : ∀ (l : List UInt8) (k : Nat) (h : 2 * k + 1 < l.length), (unh l)[k]? = some (two l[2 * k] l[2 * k + 1])
  | [], _, h => absurd h (by simp)
  | [_], _, h => absurd h (by simp)
  | a :: b :: r, 0, _ => rfl
  | a :: b :: r, k + 1, h => by
    have h' : 2 * k + 1 < r.length := by simp at h; omega
    have := unh_at r k h'
    rw [unh, List.getElem?_cons_succ, this]
    congr 1
/-- the error number of a digest's text -/
def cErr (l : List UInt8) : Int := if l.length ≠ 64 then 1 else if l.all isD then 0 else 3
end Go.Proofs.YtnadgdjaldemhaaGreatDoor
/- The program's hex.Check. -/
namespace Go.Proofs.YtnadgdjaldemhaaGreatDoor
open Go.RowKit
set_option maxRecDepth 100000 in
set_option maxHeartbeats 400000 in
theorem isDigit_any (c : UInt8) (w : World) :
    Calls Tryz.prog 117 #[.int .u8 (y8 c)] w fun e w' => e = .returned (.bool (isD c)) ∧ w = w' := by
  have hfin : Hid (∀ b : Bool, (b = true ↔ (48 ≤ y8 c ∧ y8 c ≤ 57 ∨ 97 ≤ y8 c ∧ y8 c ≤ 102)) → b = isD c) := fun b h => by
    rw [Bool.eq_iff_iff, h, isD_iff]
  have g0 := y8_nonneg c
  have g1 := y8_lt c
  go_enter Tryz.func117, Tryz.ntmps117
  go_wp2
  all_goals (go_ret; exact ⟨ret_bool (hfin.out _ (by first | (simp; omega) | omega)), rfl⟩)
set_option maxRecDepth 100000 in
set_option maxHeartbeats 400000 in
theorem onlyDigits_any (l : List UInt8) (w : World) (hl : l.length ≤ maxLen) :
    Calls Tryz.prog 81 #[.string (str l)] w fun e w' => e = .returned (.bool (l.all isD)) ∧ w = w' := by
  unfold maxLen at hl
  go_enter Tryz.func81, Tryz.ntmps81
  go_wp2
  go_loop [3, 6] (fun _ i => ∃ k : Nat, k ≤ l.length ∧ i = .int .i64 k ∧ Hid ((l.take k).all isD = true)) (fun _ i => l.length - (intOf i).toNat)
  case atStart => exact ⟨0, Nat.zero_le _, rfl, rfl⟩
  case round =>
    obtain ⟨k, hk, rfl, HA⟩ := hrel
    by_cases hlt : k < l.length
    · have hs := all_snoc hlt
      rw [HA.out, Bool.true_and] at hs
      have HS := Lib.hid hs
      clear hs
      by_cases hd : isD l[k] = true
      · go_wp2_with ((with_reducible refine (isDigit_any _ _).mono ?_); rintro e w' ⟨rfl, rfl⟩)
        go_round
        case rel => exact ⟨k + 1, by omega, by go_num, HS.out.trans hd⟩
        case measure => simp [intOf]; omega
      · have hd' : isD l[k] = false := by simpa using hd
        have hf : Hid (l.all isD = false) := by
          show _ = _
          rw [Bool.eq_false_iff]
          intro h
          exact hd (List.all_eq_true.1 h _ (List.getElem_mem hlt))
        clear hd
        go_wp2_with ((with_reducible refine (isDigit_any _ _).mono ?_); rintro e w' ⟨rfl, rfl⟩)
        go_ret
        exact ⟨ret_bool hf.out.symm, rfl⟩
    · have hf : Hid (l.all isD = true) := by
        show _ = _
        have := HA.out
        rwa [List.take_of_length_le (by omega)] at this
      go_wp2
      go_ret
      exact ⟨ret_bool hf.out.symm, rfl⟩
set_option maxRecDepth 100000 in
set_option maxHeartbeats 400000 in
theorem hcheck_size (l : List UInt8) (w : World) (h : l.length ≠ 64) :
    Calls Tryz.prog 47 #[.string (str l)] w fun e w' => e = .returned (.int .i64 1) ∧ w = w' := by
  have hne : ((l.length : Int) != 64) = true := by rw [bne_iff_ne]; omega
  go_enter Tryz.func47, Tryz.ntmps47
  go_wp2
  go_ret
  exact ⟨rfl, rfl⟩
set_option maxRecDepth 100000 in
set_option maxHeartbeats 400000 in
theorem hcheck_form (l : List UInt8) (w : World) (h : l.length = 64) (b : Bool) (hd : l.all isD = b) :
    Calls Tryz.prog 47 #[.string (str l)] w fun e w' => e = .returned (.int .i64 (if b then 0 else 3)) ∧ w = w' := by
  have hne : ((l.length : Int) != 64) = false := by rw [bne_eq_false_iff_eq]; omega
  have hm : l.length ≤ maxLen := by unfold maxLen; omega
  clear h
  cases b
  all_goals
    go_enter Tryz.func47, Tryz.ntmps47
    go_wp2_with ((with_reducible refine (onlyDigits_any _ _ hm).mono ?_); rintro e w' ⟨rfl, rfl⟩)
    go_ret
    exact ⟨rfl, rfl⟩
theorem hcheck_all (l : List UInt8) (w : World) (_hm : l.length ≤ maxLen) : Calls Tryz.prog 47 #[.string (str l)] w fun e w' => e = .returned (.int .i64 (cErr l)) ∧ w = w' := by
  by_cases hb : l.length ≠ 64
  · rw [show cErr l = 1 from if_pos hb]
    exact hcheck_size l w hb
  · have := hcheck_form l w (by omega) _ rfl
    have e : cErr l = if l.all isD then 0 else 3 := if_neg hb
    rw [e]; exact this
end Go.Proofs.YtnadgdjaldemhaaGreatDoor
/- Bytes and hexadecimal digits: what the reference's functions return. -/
namespace Go.Proofs.YtnadgdjaldemhaaGreatDoor
open Go.RowKit
theorem indexByte_table : ∀ n : Fin 256, Lib.indexByte [48, 49, 50, 51, 52, 53, 54, 55, 56, 57, 97, 98, 99, 100, 101, 102] (UInt8.ofNat n.val) = if isD (UInt8.ofNat n.val) then y8 (vl (UInt8.ofNat n.val)) else -1 := by decide +kernel
def dix (c : UInt8) : Int := if isD c then y8 (vl c) else -1
theorem indexByte_digs (c : UInt8) : Lib.indexByte digs.data.toList (y8 c).toNat.toUInt8 = dix c := by
  unfold dix
  have := indexByte_table ⟨c.toNat, c.toNat_lt⟩
  simp only [UInt8.ofNat_toNat] at this
  rw [← this]
  congr 1
  simp [y8]
set_option maxRecDepth 100000 in
set_option maxHeartbeats 400000 in
theorem sliteIndexByte_any (s : ByteArray) (c : Int) (w : World) :
    Calls Tryz.prog 121 #[.string s, .int .u8 c] w fun e w' => e = .returned (.int .i64 (Lib.indexByte s.data.toList c.toNat.toUInt8)) ∧ w = w' := by
  go_enter Tryz.func121, Tryz.ntmps121
  go_wp2
  rw [run_callFunc_extern Tryz.func139 (by kernel_rfl) (by kernel_rfl) (by kernel_rfl) (e := Extern.BytealgIndexByte.indexByte) (by kernel_rfl), Lib.run_indexByteString]
  simp only [Result.andThen]
  rw [Oper.upon_value]
  go_wp2
  go_ret
  exact ⟨rfl, rfl⟩
set_option maxRecDepth 100000 in
set_option maxHeartbeats 400000 in
theorem indexDigs_any (c : UInt8) (w : World) :
    Calls Tryz.prog 92 #[.string digs, .int .u8 (y8 c)] w fun e w' => e = .returned (.int .i64 (dix c)) ∧ w = w' := by
  have hi := Lib.hid (indexByte_digs c)
  go_enter Tryz.func92, Tryz.ntmps92
  go_wp2_with ((with_reducible refine (sliteIndexByte_any _ _ _).mono ?_); rintro e w' ⟨rfl, rfl⟩)
  go_ret
  exact ⟨ret_int hi.out, rfl⟩
end Go.Proofs.YtnadgdjaldemhaaGreatDoor
/- Hexadecimal digits and bytes, back and forth: plain facts. -/
namespace Go.Proofs.YtnadgdjaldemhaaGreatDoor
open Go.RowKit
theorem dg_table : ∀ n : Fin 256, two (dg (UInt8.ofNat n.val >>> 4)) (dg (UInt8.ofNat n.val &&& 15)) = UInt8.ofNat n.val ∧ isD (dg (UInt8.ofNat n.val >>> 4)) = true ∧ isD (dg (UInt8.ofNat n.val &&& 15)) = true := by decide +kernel
theorem dg_spec (x : UInt8) : two (dg (x >>> 4)) (dg (x &&& 15)) = x ∧ isD (dg (x >>> 4)) = true ∧ isD (dg (x &&& 15)) = true := by
  have := dg_table ⟨x.toNat, x.toNat_lt⟩
  simpa only [UInt8.ofNat_toNat] using this
theorem hexT_cons (a : UInt8) (r : List UInt8) : hexT (a :: r) = dg (a >>> 4) :: dg (a &&& 15) :: hexT r := rfl
theorem unh_hexT : ∀ l : List UInt8, unh (hexT l) = l
  | [] => rfl
  | a :: r => by rw [hexT_cons, unh, unh_hexT r, (dg_spec a).1]
theorem hexT_all : ∀ l : List UInt8, (hexT l).all isD = true
  | [] => rfl
  | a :: r => by rw [hexT_cons, List.all_cons, List.all_cons, (dg_spec a).2.1, (dg_spec a).2.2, hexT_all r]; rfl
theorem two_parts_table : ∀ a b : Fin 16, (UInt8.ofNat a.val <<< 4 ||| UInt8.ofNat b.val) >>> 4 = UInt8.ofNat a.val ∧ (UInt8.ofNat a.val <<< 4 ||| UInt8.ofNat b.val) &&& 15 = UInt8.ofNat b.val := by decide +kernel
theorem two_parts {a b : UInt8} (ha : isD a = true) (hb : isD b = true) : dg (two a b >>> 4) = a ∧ dg (two a b &&& 15) = b := by
  have h1 := vl_spec ha
  have h2 := vl_spec hb
  have := two_parts_table ⟨(vl a).toNat, h1.2.2⟩ ⟨(vl b).toNat, h2.2.2⟩
  simp only [UInt8.ofNat_toNat] at this
  unfold two
  rw [this.1, this.2]
  exact ⟨h1.2.1, h2.2.1⟩
theorem hexT_unh : ∀ l : List UInt8, l.length % 2 = 0 → l.all isD = true → hexT (unh l) = l
  | [], _, _ => rfl
  | [_], h, _ => absurd h (by simp)
  | a :: b :: r, h, hd => by
    simp only [List.all_cons, Bool.and_eq_true] at hd
    rw [unh, hexT_cons, (two_parts hd.1 hd.2.1).1, (two_parts hd.1 hd.2.1).2, hexT_unh r (by simp at h; omega) hd.2.2]
end Go.Proofs.YtnadgdjaldemhaaGreatDoor

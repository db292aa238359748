/- Texts that belong together: what the functions of the program and of the statements return. -/
import Derived.Test.YtnecgnhhghmkoaaGN
import Derived.Test.YtnecgnhhghmkoaaRows
import Derived.Test.YtnecgnhhghmkoaaGA
/- Bytes of digits: plain facts. -/
namespace Go.Proofs.Ytnecgnhhghmkoaa
open Go.RowKit
theorem y8_shl4 (x : UInt8) : IntKind.u8.wrap (y8 x * (16 : Int)) = y8 (x <<< 4) := by
  have : ∀ n : Fin 256, IntKind.u8.wrap ((n.val : Int) * 16) = (((UInt8.ofNat n.val) <<< 4).toNat : Int) := by decide +kernel
  have h := this ⟨x.toNat, x.toNat_lt⟩
  simp only [UInt8.ofNat_toNat] at h
  exact h
theorem y8_shl4' (x : UInt8) : y8 x * (16 : Int) % (256 : Int) = y8 (x <<< 4) := by
  rw [← y8_shl4, IntKind.wrap_u8]
theorem ofInt_y8 (x : UInt8) : BitVec.ofInt 8 (y8 x) = x.toBitVec := by
  unfold y8
  rw [BitVec.ofInt_natCast]
  apply BitVec.eq_of_toNat_eq
  rw [BitVec.toNat_ofNat]
  exact Nat.mod_eq_of_lt x.toNat_lt
theorem y8_or (x y : UInt8) : bits .or .u8 (y8 x) (y8 y) = y8 (x ||| y) := by
  show IntKind.u8.wrap ((BitVec.ofInt 8 (y8 x) ||| BitVec.ofInt 8 (y8 y)).toNat : Int) = _
  rw [ofInt_y8, ofInt_y8]
  have := (x ||| y).toNat_lt
  show IntKind.u8.wrap (((x ||| y).toBitVec).toNat : Int) = _
  exact wrap8_y8 (x ||| y)
attribute [go_sem] y8_shl4 y8_shl4' y8_or
/-- the byte of two digits; the bytes of digits -/
def two (a b : UInt8) : UInt8 := vl a <<< 4 ||| vl b
def unh : List UInt8 → List UInt8
  | a :: b :: r => two a b :: unh r
  | _ => []
theorem unh_length : ∀ l : List UInt8, (unh l).length = l.length / 2
  | [] => rfl
  | [_] => by simp [unh]
  | _ :: _ :: r => by simp [unh, unh_length r]; omega
theorem unh_at : ∀ (l : List UInt8) (k : Nat) (h : 2 * k + 1 < l.length), (unh l)[k]? = some (two l[2 * k] l[2 * k + 1])
  | [], _, h => absurd h (by simp)
  | [_], _, h => absurd h (by simp)
  | a :: b :: r, 0, _ => rfl
  | a :: b :: r, k + 1, h => by
    have h' : 2 * k + 1 < r.length := by simp at h; omega
    have := unh_at r k h'
    rw [unh, List.getElem?_cons_succ, this]
    congr 1
/-- the error number of a digest's text -/
def cErr (l : List UInt8) : Int := if l.length ≠ 64 then 1 else if l.all isD then 0 else 3
end Go.Proofs.Ytnecgnhhghmkoaa
/- Bytes and hexadecimal digits: what the reference's functions return. -/
namespace Go.Proofs.Ytnecgnhhghmkoaa
open Go.RowKit
theorem indexByte_table : ∀ n : Fin 256, Lib.indexByte [48, 49, 50, 51, 52, 53, 54, 55, 56, 57, 97, 98, 99, 100, 101, 102] (UInt8.ofNat n.val) = if isD (UInt8.ofNat n.val) then y8 (vl (UInt8.ofNat n.val)) else -1 := by decide +kernel
def dix (c : UInt8) : Int := if isD c then y8 (vl c) else -1
theorem indexByte_digs (c : UInt8) : Lib.indexByte digs.data.toList (y8 c).toNat.toUInt8 = dix c := by
  unfold dix
  have := indexByte_table ⟨c.toNat, c.toNat_lt⟩
  simp only [UInt8.ofNat_toNat] at this
  rw [← this]
  congr 1
  simp [y8]
set_option maxRecDepth 100000 in
set_option maxHeartbeats 400000 in
theorem sliteIndexByte_any (s : ByteArray) (c : Int) (w : World) :
    Calls Try.prog 60 #[.string s, .int .u8 c] w fun e w' => e = .returned (.int .i64 (Lib.indexByte s.data.toList c.toNat.toUInt8)) ∧ w = w' := by
  go_enter Try.func60, Try.ntmps60
  go_wp2
  rw [run_callFunc_extern Try.func69 (by kernel_rfl) (by kernel_rfl) (by kernel_rfl) (e := Extern.BytealgIndexByte.indexByte) (by kernel_rfl), Lib.run_indexByteString]
  simp only [Result.andThen]
  rw [Oper.upon_value]
  go_wp2
  go_ret
  exact ⟨rfl, rfl⟩
set_option maxRecDepth 100000 in
set_option maxHeartbeats 400000 in
theorem indexDigs_any (c : UInt8) (w : World) :
    Calls Try.prog 39 #[.string digs, .int .u8 (y8 c)] w fun e w' => e = .returned (.int .i64 (dix c)) ∧ w = w' := by
  have hi := Lib.hid (indexByte_digs c)
  go_enter Try.func39, Try.ntmps39
  go_wp2_with ((with_reducible refine (sliteIndexByte_any _ _ _).mono ?_); rintro e w' ⟨rfl, rfl⟩)
  go_ret
  exact ⟨ret_int hi.out, rfl⟩
end Go.Proofs.Ytnecgnhhghmkoaa
/- Hexadecimal digits and bytes, back and forth: plain facts. -/
namespace Go.Proofs.Ytnecgnhhghmkoaa
open Go.RowKit
theorem dg_table : ∀ n : Fin 256, two (dg (UInt8.ofNat n.val >>> 4)) (dg (UInt8.ofNat n.val &&& 15)) = UInt8.ofNat n.val ∧ isD (dg (UInt8.ofNat n.val >>> 4)) = true ∧ isD (dg (UInt8.ofNat n.val &&& 15)) = true := by decide +kernel
theorem dg_spec (x : UInt8) : two (dg (x >>> 4)) (dg (x &&& 15)) = x ∧ isD (dg (x >>> 4)) = true ∧ isD (dg (x &&& 15)) = true := by
  have := dg_table ⟨x.toNat, x.toNat_lt⟩
  simpa only [UInt8.ofNat_toNat] using this
theorem hexT_cons (a : UInt8) (r : List UInt8) : hexT (a :: r) = dg (a >>> 4) :: dg (a &&& 15) :: hexT r := rfl
theorem unh_hexT : ∀ l : List UInt8, unh (hexT l) = l
  | [] => rfl
  | a :: r => by rw [hexT_cons, unh, unh_hexT r, (dg_spec a).1]
theorem hexT_all : ∀ l : List UInt8, (hexT l).all isD = true
  | [] => rfl
  | a :: r => by rw [hexT_cons, List.all_cons, List.all_cons, (dg_spec a).2.1, (dg_spec a).2.2, hexT_all r]; rfl
theorem two_parts_table : ∀ a b : Fin 16, (UInt8.ofNat a.val <<< 4 ||| UInt8.ofNat b.val) >>> 4 = UInt8.ofNat a.val ∧ (UInt8.ofNat a.val <<< 4 ||| UInt8.ofNat b.val) &&& 15 = UInt8.ofNat b.val := by decide +kernel
theorem two_parts {a b : UInt8} (ha : isD a = true) (hb : isD b = true) : dg (two a b >>> 4) = a ∧ dg (two a b &&& 15) = b := by
  have h1 := vl_spec ha
  have h2 := vl_spec hb
  have := two_parts_table ⟨(vl a).toNat, h1.2.2⟩ ⟨(vl b).toNat, h2.2.2⟩
  simp only [UInt8.ofNat_toNat] at this
  unfold two
  rw [this.1, this.2]
  exact ⟨h1.2.1, h2.2.1⟩
theorem hexT_unh : ∀ l : List UInt8, l.length % 2 = 0 → l.all isD = true → hexT (unh l) = l
  | [], _, _ => rfl
  | [_], h, _ => absurd h (by simp)
  | a :: b :: r, h, hd => by
    simp only [List.all_cons, Bool.and_eq_true] at hd
    rw [unh, hexT_cons, (two_parts hd.1 hd.2.1).1, (two_parts hd.1 hd.2.1).2, hexT_unh r (by simp at h; omega) hd.2.2]
end Go.Proofs.Ytnecgnhhghmkoaa

/- Bytes and hexadecimal digits: what the reference's functions return. -/
import Derived.Test.YtaaeihkbnfcolaaH2c
import Derived.Test.YtaaeihkbnfcolaaApp
namespace Go.Proofs.Ytaaeihkbnfcolaa
open Go.RowKit
theorem indexByte_table : ∀ n : Fin 256, Lib.indexByte [48, 49, 50, 51, 52, 53, 54, 55, 56, 57, 97, 98, 99, 100, 101, 102] (UInt8.ofNat n.val) = if isD (UInt8.ofNat n.val) then y8 (vl (UInt8.ofNat n.val)) else -1 := by decide +kernel
def dix (c : UInt8) : Int := if isD c then y8 (vl c) else -1
theorem indexByte_digs (c : UInt8) : Lib.indexByte digs.data.toList (y8 c).toNat.toUInt8 = dix c := by
  unfold dix
  have := indexByte_table ⟨c.toNat, c.toNat_lt⟩
  simp only [UInt8.ofNat_toNat] at this
  rw [← this]
  congr 1
  simp [y8]
set_option maxHeartbeats 400000 in
theorem sliteIndexByte_any (s : ByteArray) (c : Int) (w : World) :
    Calls Try.prog 53 #[.string s, .int .u8 c] w fun e w' => e = .returned (.int .i64 (Lib.indexByte s.data.toList c.toNat.toUInt8)) ∧ w = w' := by
  go_enter Try.func53, Try.ntmps53
  go_wp2
  rw [run_callFunc_extern Try.func60 (by kernel_rfl) (by kernel_rfl) (by kernel_rfl) (e := Extern.BytealgIndexByte.indexByte) (by kernel_rfl), Lib.run_indexByteString]
  simp only [Result.andThen]
  rw [Oper.upon_value]
  go_wp2
  go_ret
  exact ⟨rfl, rfl⟩
set_option maxHeartbeats 400000 in
theorem indexDigs_any (c : UInt8) (w : World) :
    Calls Try.prog 45 #[.string digs, .int .u8 (y8 c)] w fun e w' => e = .returned (.int .i64 (dix c)) ∧ w = w' := by
  have hi := Lib.hid (indexByte_digs c)
  go_enter Try.func45, Try.ntmps45
  go_wp2_with ((with_reducible refine (sliteIndexByte_any _ _ _).mono ?_); rintro e w' ⟨rfl, rfl⟩)
  go_ret
  exact ⟨ret_int hi.out, rfl⟩
end Go.Proofs.Ytaaeihkbnfcolaa

/- Hexadecimal digits to bytes: what the program's value returns. -/
import Derived.Test.YtaaeihkbnfcolaaH2t
import Derived.Test.YtaaeihkbnfcolaaHk
namespace Go.Proofs.Ytaaeihkbnfcolaa
open Go.RowKit
set_option maxHeartbeats 400000 in
theorem value_any (c : UInt8) (w : World) (h : isD c = true) :
    Calls Try.prog 52 #[.int .u8 (y8 c)] w fun e w' => e = .returned (.int .u8 (y8 (vl c))) ∧ w' = w := by
  have hd := (isD_iff c).1 h
  have H := Lib.hid (vl_spec h).1
  have g0 := y8_nonneg c
  have g1 := y8_lt c
  clear h
  by_cases hc : y8 c ≤ 57
  · have e1 : IntKind.u8.wrap (y8 c - 48) = y8 (vl c) := by rw [H.out, if_pos hc, IntKind.wrap_u8]; omega
    clear hd
    go_enter Try.func52, Try.ntmps52
    go_wp2
    go_ret
    exact ⟨ret_int (by rw [H.out, if_pos hc]), rfl⟩
  · have e1 : IntKind.u8.wrap (IntKind.u8.wrap (y8 c - 97) + 10) = y8 (vl c) := by rw [H.out, if_neg hc, IntKind.wrap_u8, IntKind.wrap_u8]; omega
    go_enter Try.func52, Try.ntmps52
    go_wp2
    go_ret
    exact ⟨ret_int (by rw [H.out, if_neg (by omega)]; omega), rfl⟩
end Go.Proofs.Ytaaeihkbnfcolaa

/- The store: what any doing leaves may be; the small store. Nothing of the program. -/
import Derived.Test.YtnadgdjaldemhaaGreatDoorGSA
import Derived.Test.YtnadgdjaldemhaaGreatDoorQZm
namespace Go.Proofs.YtnadgdjaldemhaaGreatDoor
open Go.RowKit
theorem sNil_ok : sNil.ok := sErr_zero.1 (by decide +kernel)
theorem pb_nil {s : Sto} {D : List UInt8} (h : (sPutBlob s D).1 ≠ 0) : (sPutBlob s D).2 = (sNil, []) := by
  unfold sPutBlob at h ⊢
  split
  · rfl
  rename_i q0
  rw [if_neg q0] at h
  split
  · rfl
  rename_i q1
  rw [if_neg q1] at h
  split
  · rfl
  rename_i q2
  rw [if_neg q2] at h
  exact absurd rfl h
theorem pb_ok (s : Sto) (D : List UInt8) : (sPutBlob s D).2.1.ok := by
  by_cases h : (sPutBlob s D).1 = 0
  · exact (sPutBlob_ok h).2.1
  · rw [pb_nil h]; exact sNil_ok
theorem put_nil {s : Sto} {k : List UInt8} {ps : List Prt} (h : (sPut s k ps).1 ≠ 0) : (sPut s k ps).2 = sNil := by
  unfold sPut at h ⊢
  split
  · rfl
  rename_i q0
  rw [if_neg q0] at h
  exact absurd rfl h
theorem put_ok (s : Sto) (k : List UInt8) (ps : List Prt) : (sPut s k ps).2.ok := by
  by_cases h : (sPut s k ps).1 = 0
  · exact (sPut_ok h).2.1
  · rw [put_nil h]; exact sNil_ok
theorem get_nil {s : Sto} {k : List UInt8} (h : (sGet s k).1 ≠ 0) : (sGet s k).2 = (sNil, []) := by
  unfold sGet at h ⊢
  split
  · rfl
  rename_i q0
  rw [if_neg q0] at h
  split
  · rename_i q1
    rw [dif_pos q1] at h
    split
    · rfl
    rename_i q2
    rw [if_neg q2] at h
    exact absurd rfl h
  · rfl
theorem get_ok (s : Sto) (k : List UInt8) : (sGet s k).2.1.ok := by
  by_cases h : (sGet s k).1 = 0
  · exact (sGet_ok h).2.1
  · rw [get_nil h]; exact sNil_ok
theorem hb_nil {s : Sto} {d : List UInt8} {up : Bool} (h : (sHoldBlob s d up).1 ≠ 0) : (sHoldBlob s d up).2 = sNil := by
  unfold sHoldBlob at h ⊢
  split
  · rfl
  rename_i q0
  rw [if_neg q0] at h
  split
  · rename_i q1
    rw [dif_pos q1] at h
    split
    · rfl
    rename_i q2
    rw [if_neg q2] at h
    exact absurd rfl h
  · rfl
theorem hb_ok (s : Sto) (d : List UInt8) (up : Bool) : (sHoldBlob s d up).2.ok := by
  by_cases h : (sHoldBlob s d up).1 = 0
  · exact (sHoldBlob_ok h).2.1
  · rw [hb_nil h]; exact sNil_ok
theorem hd_nil {s : Sto} {k : List UInt8} {up : Bool} (h : (sHold s k up).1 ≠ 0) : (sHold s k up).2 = sNil := by
  unfold sHold at h ⊢
  split
  · rfl
  rename_i q0
  rw [if_neg q0] at h
  split
  · rename_i q1
    rw [dif_pos q1] at h
    split
    · rfl
    rename_i q2
    rw [if_neg q2] at h
    exact absurd rfl h
  · rfl
theorem hd_ok (s : Sto) (k : List UInt8) (up : Bool) : (sHold s k up).2.ok := by
  by_cases h : (sHold s k up).1 = 0
  · exact (sHold_ok h).2.1
  · rw [hd_nil h]; exact sNil_ok
/-- the small store -/
def smS : Sto := ⟨[smA, smM], [smE], 200, 1⟩
theorem smS_ok : smS.ok := sErr_zero.1 (by decide +kernel)
theorem smS_get : sGetBlob smS (dig [97, 98, 99]) = (0, [97, 98, 99]) := by decide +kernel
theorem less_room : sErr ⟨[], [], -1, 0⟩ = 4 := by decide +kernel
end Go.Proofs.YtnadgdjaldemhaaGreatDoor

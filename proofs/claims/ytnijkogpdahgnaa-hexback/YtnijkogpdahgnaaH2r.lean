/- Bytes and hexadecimal digits: what the reference's functions return. -/
import Derived.Test.YtnijkogpdahgnaaH2c
import Derived.Test.YtnijkogpdahgnaaApp
import Derived.Laws.IdiomStrings
namespace Go.Proofs.Ytnijkogpdahgnaa
open Go.RowKit
/-- '[]byte(s)': a new block that reads as the string's bytes -/
theorem run_str_bytes {P : Program} {src dst e : TypeId} (hs : P.underlying src = some .string) (hd : P.underlying dst = some (.slice e)) (he : P.underlying e = some (.int .u8)) (w : World) (l : List UInt8) (hl : l.length ≤ maxLen) :
    ∃ c w', (convert src dst (.string (str l))).run P w = .ok (.slice (some ⟨w.heap.size, 0, none⟩) l.length c) w' ∧ Rd w' 1 (some ⟨w.heap.size, 0, none⟩) l.length c (l.map bv8) ∧ Below w.heap.size w w' ∧ w'.heap.size = w.heap.size + 1 := by
  refine ⟨_, _, run_bytes_of_string w src dst e (str l) hs hd he, ?_, ?_, ?_⟩
  · refine ⟨by simp, grownCap_ge _ _ _ _, grownCap_le_maxLen _ _ _ _ hl, fun hp => ⟨w.heap.size, 0, rfl, fun j v hv => ?_⟩⟩
    rw [cell_of_row _ w.heap.size (0 + j) _ _ _ (heap_alloc_new w.drew _), Nat.zero_add]
    rw [List.getElem?_map] at hv
    have hj : j < l.length := by
      rcases Nat.lt_or_ge j l.length with h | h
      · exact h
      · rw [List.getElem?_eq_none h] at hv; cases hv
    have hsz : ((str l).data.map (fun b => Value.int .u8 (b.toNat : Int))).size = l.length := by simp [str]
    unfold bytesRow
    rw [Array.getElem?_append_left (by omega), Array.getElem?_map]
    have : (str l).data[j]? = l[j]? := by simp [str]
    rw [this, ← hv]
    rfl
  · exact (Below.refl _ _).drew.alloc (Nat.le_refl _) _
  · simp
theorem indexByte_table : ∀ n : Fin 256, Lib.indexByte [48, 49, 50, 51, 52, 53, 54, 55, 56, 57, 97, 98, 99, 100, 101, 102] (UInt8.ofNat n.val) = if isD (UInt8.ofNat n.val) then y8 (vl (UInt8.ofNat n.val)) else -1 := by decide +kernel
def dix (c : UInt8) : Int := if isD c then y8 (vl c) else -1
theorem indexByte_digs (c : UInt8) : Lib.indexByte digs.data.toList (y8 c).toNat.toUInt8 = dix c := by
  unfold dix
  have := indexByte_table ⟨c.toNat, c.toNat_lt⟩
  simp only [UInt8.ofNat_toNat] at this
  rw [← this]
  congr 1
  simp [y8]
set_option maxHeartbeats 400000 in
theorem sliteIndexByte_any (s : ByteArray) (c : Int) (w : World) :
    Calls Try.prog 33 #[.string s, .int .u8 c] w fun e w' => e = .returned (.int .i64 (Lib.indexByte s.data.toList c.toNat.toUInt8)) ∧ w = w' := by
  go_enter Try.func33, Try.ntmps33
  go_wp2
  rw [run_callFunc_extern Try.func41 (by kernel_rfl) (by kernel_rfl) (by kernel_rfl) (e := Extern.BytealgIndexByte.indexByte) (by kernel_rfl), Lib.run_indexByteString]
  simp only [Result.andThen]
  rw [Oper.upon_value]
  go_wp2
  go_ret
  exact ⟨rfl, rfl⟩
set_option maxHeartbeats 400000 in
theorem indexDigs_any (c : UInt8) (w : World) :
    Calls Try.prog 21 #[.string digs, .int .u8 (y8 c)] w fun e w' => e = .returned (.int .i64 (dix c)) ∧ w = w' := by
  have hi := Lib.hid (indexByte_digs c)
  go_enter Try.func21, Try.ntmps21
  go_wp2_with ((with_reducible refine (sliteIndexByte_any _ _ _).mono ?_); rintro e w' ⟨rfl, rfl⟩)
  go_ret
  exact ⟨ret_int hi.out, rfl⟩
end Go.Proofs.Ytnijkogpdahgnaa

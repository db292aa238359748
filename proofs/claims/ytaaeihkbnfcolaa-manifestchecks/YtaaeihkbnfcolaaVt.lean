/- Texts as bytes and back, as plain functions on lists. Nothing of the program. -/
import Derived.Test.YtaaeihkbnfcolaaVn
namespace Go.Proofs.Ytaaeihkbnfcolaa
open Go.RowKit
/-- the bytes of a text -/
def txt (m : List UInt8) : List UInt8 := enc m.length ++ m
/-- what reading a text tells: the error, the text, the rest -/
def tErr (l : List UInt8) : Int := if rErr l ≠ 0 then rErr l else if 2000 < rVal l then 1 else if (rRest l).length < rVal l then 8 else 0
def tStr (l : List UInt8) : List UInt8 := if tErr l = 0 then (rRest l).take (rVal l) else []
def tRest (l : List UInt8) : List UInt8 := if tErr l = 0 then (rRest l).drop (rVal l) else []
theorem tErr_no {l : List UInt8} {e : Int} (h : tErr l = e) (he : e ≠ 0) : tStr l = [] ∧ tRest l = [] := by
  unfold tStr tRest; rw [h]; exact ⟨if_neg he, if_neg he⟩
theorem tErr_ok {l : List UInt8} (h : tErr l = 0) : tStr l = (rRest l).take (rVal l) ∧ tRest l = (rRest l).drop (rVal l) := ⟨if_pos h, if_pos h⟩
theorem tErr_r {l : List UInt8} {e : Int} (h : rErr l = e) (he : e ≠ 0) : tErr l = e := by unfold tErr; rw [h, if_pos he]
theorem tErr_big {l : List UInt8} (h : rErr l = 0) (h2 : 2000 < rVal l) : tErr l = 1 := by unfold tErr; rw [h, if_neg (by omega), if_pos h2]
theorem tErr_short {l : List UInt8} (h : rErr l = 0) (h2 : ¬ 2000 < rVal l) (h3 : (rRest l).length < rVal l) : tErr l = 8 := by unfold tErr; rw [h, if_neg (by omega), if_neg h2, if_pos h3]
theorem tErr_zero {l : List UInt8} (h : rErr l = 0) (h2 : ¬ 2000 < rVal l) (h3 : ¬ (rRest l).length < rVal l) : tErr l = 0 := by unfold tErr; rw [h, if_neg (by omega), if_neg h2, if_neg h3]
theorem text_read (m r : List UInt8) (h : m.length ≤ 2000) : tErr (txt m ++ r) = 0 ∧ tStr (txt m ++ r) = m ∧ tRest (txt m ++ r) = r := by
  have e : txt m ++ r = enc m.length ++ (m ++ r) := by unfold txt; rw [List.append_assoc]
  obtain ⟨r1, r2, _, r4⟩ := read_enc (n := m.length) (by omega) (m ++ r)
  rw [← e] at r1 r2 r4
  have h0 : tErr (txt m ++ r) = 0 := tErr_zero r1 (by rw [r2]; omega) (by rw [r2, r4, List.length_append]; omega)
  refine ⟨h0, ?_, ?_⟩
  · rw [(tErr_ok h0).1, r2, r4, List.take_left' rfl]
  · rw [(tErr_ok h0).2, r2, r4, List.drop_left' rfl]
theorem text_cut (m : List UInt8) (h : m.length ≤ 2000) (p : Nat) (hp : p < (txt m).length) : tErr ((txt m).take p) = 8 := by
  have hl : (txt m).length = (enc m.length).length + m.length := List.length_append
  by_cases h1 : p < (enc m.length).length
  · have e : (txt m).take p = (enc m.length).take p := by unfold txt; rw [List.take_append_of_le_length (by omega)]
    rw [e]
    exact tErr_r (read_cut (by omega) h1) (by omega)
  · have e : (txt m).take p = enc m.length ++ m.take (p - (enc m.length).length) := by
      unfold txt; rw [List.take_append, List.take_of_length_le (by omega)]
    obtain ⟨r1, r2, _, r4⟩ := read_enc (n := m.length) (by omega) (m.take (p - (enc m.length).length))
    rw [← e] at r1 r2 r4
    exact tErr_short r1 (by rw [r2]; omega) (by rw [r2, r4, List.length_take]; omega)
theorem txt_length (m : List UInt8) : (txt m).length = (enc m.length).length + m.length := List.length_append
theorem rRest_len {l : List UInt8} (h : rErr l = 0) : (rRest l).length = l.length - rLen l := by rw [rRest_eq h, List.length_drop]
theorem enc_rVal {l : List UInt8} (h : rErr l = 0) : enc (rVal l) = l.take (rLen l) := by
  have := (rErr_ok h).2.2.2
  unfold rVal rLen; rw [if_pos h, if_pos h]; exact this
/-- what is read is what stood there -/
theorem read_turn {l : List UInt8} (h : rErr l = 0) : enc (rVal l) ++ rRest l = l := by
  rw [enc_rVal h, rRest_eq h, List.take_append_drop]
theorem text_turn {l : List UInt8} (h : tErr l = 0) : txt (tStr l) ++ tRest l = l := by
  obtain ⟨h1, h2⟩ := tErr_ok h
  have hr : rErr l = 0 := by
    unfold tErr at h
    split at h
    · rename_i q; exact absurd h q
    · rename_i q; exact Classical.byContradiction q
  have hv : ¬ (rRest l).length < rVal l := by
    unfold tErr at h
    rw [hr, if_neg (by omega)] at h
    split at h
    · omega
    · split at h
      · omega
      · assumption
  have hl : (tStr l).length = rVal l := by rw [h1, List.length_take]; omega
  unfold txt
  rw [hl, h1, h2, List.append_assoc, List.take_append_drop, read_turn hr]
end Go.Proofs.Ytaaeihkbnfcolaa

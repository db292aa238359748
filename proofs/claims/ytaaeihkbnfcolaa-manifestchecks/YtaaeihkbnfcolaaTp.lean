/- A text as bytes: the program's Text. -/
import Derived.Test.YtaaeihkbnfcolaaNu
import Derived.Test.YtaaeihkbnfcolaaRn
import Derived.Test.YtaaeihkbnfcolaaVt
import Derived.Lib.AppendStr
namespace Go.Proofs.Ytaaeihkbnfcolaa
open Go.RowKit
theorem strCells_str (m : List UInt8) : Lib.strCells (str m) = m.map bv8 := by unfold Lib.strCells str; simp; intro a _; rfl
set_option maxHeartbeats 400000 in
theorem text_big (m : List UInt8) (w : World) (h : 2000 < m.length) (hm : m.length ≤ maxLen) :
    Calls Try.prog 43 #[.string (str m)] w fun e w' => e = .returned (.tuple #[.slice none 0 0, .int .i64 1]) ∧ w = w' := by
  unfold maxLen at hm
  go_enter Try.func43, Try.ntmps43
  go_wp2
  go_ret2
  exact ⟨rfl, rfl⟩
set_option maxHeartbeats 400000 in
theorem text_ok (m : List UInt8) (w : World) (h : m.length ≤ 2000) :
    Calls Try.prog 43 #[.string (str m)] w (GivesO 5 (txt m) w) := by
  obtain ⟨i0, hi0, hz0, hz1, hz2⟩ := info_parts u8_info
  have hd : decide (2000 < (m.length : Int)) = false := by simp; omega
  have h5 := enc_len5 (n := m.length) (by omega)
  go_enter Try.func43, Try.ntmps43
  go_wp2_with fail
  with_reducible refine (number_ok m.length _ (by omega)).mono ?_
  rintro e w1 ⟨v1, rfl, hown1, hb1⟩
  have hlt := hown1.lt
  have hle := hb1.size
  go_wp2_with (at_builtin; refine Lib.wpList_append_own_string w1 rfl (.tmp 18) (.tmp 19) _ _ rfl w.heap.size _ _ Try.underlying27 Try.underlying9 hi0 hz0 hz1 hz2 _ _ _ rfl hown1 (str m) rfl (by rw [str_size]; unfold maxLen; omega) (by rw [str_size]; omega) hb1.size ?_; rintro v2 w2 hown2 hg2 -)
  go_ret2
  have hb2 := (Below.refl w.heap.size w1).grown hg2 hle (fun k hk => (hlt k hk).1)
  rw [strCells_str, str_size, ← List.map_append, ← List.length_append] at hown2
  exact ⟨_, rfl, hown2, hb1.trans hb2⟩
end Go.Proofs.Ytaaeihkbnfcolaa

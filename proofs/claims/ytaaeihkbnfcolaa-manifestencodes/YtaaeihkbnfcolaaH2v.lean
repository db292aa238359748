/- Bytes of digits at every argument: the program's and the reference's; equality of bytes. -/
import Derived.Test.YtaaeihkbnfcolaaH2u
namespace Go.Proofs.Ytaaeihkbnfcolaa
open Go.RowKit
def hErr (l : List UInt8) : Int := if 4000 < l.length then 1 else if l.length % 2 ≠ 0 ∨ l.all isD = false then 3 else 0
def hRes (l : List UInt8) : List UInt8 := if hErr l = 0 then unh l else []
theorem hErr_big {l : List UInt8} (h : 4000 < l.length) : hErr l = 1 ∧ hRes l = [] := by
  have e : hErr l = 1 := if_pos h
  exact ⟨e, by unfold hRes; rw [e]; rfl⟩
theorem hErr_no {l : List UInt8} (h : ¬ 4000 < l.length) (h2 : l.length % 2 ≠ 0 ∨ l.all isD = false) : hErr l = 3 ∧ hRes l = [] := by
  have e : hErr l = 3 := by unfold hErr; rw [if_neg h, if_pos h2]
  exact ⟨e, by unfold hRes; rw [e]; rfl⟩
theorem hErr_ok {l : List UInt8} (h : ¬ 4000 < l.length) (h2 : l.length % 2 = 0) (h3 : l.all isD = true) : hErr l = 0 ∧ hRes l = unh l := by
  have e : hErr l = 0 := by unfold hErr; rw [if_neg h, if_neg (by simp [h2, h3])]
  exact ⟨e, by unfold hRes; rw [e]; rfl⟩
theorem hbytes_all (l : List UInt8) (w : World) (hm : l.length ≤ maxLen) : Calls Try.prog 44 #[.string (str l)] w (GivesB (hRes l) (hErr l) w) := by
  by_cases hb : 4000 < l.length
  · rw [(hErr_big hb).1, (hErr_big hb).2]
    exact (hbytes_big l w hb hm).mono fun _ _ h => gives_nil h
  · by_cases ho : l.length % 2 = 0
    · cases hd : l.all isD
      · rw [(hErr_no hb (.inr hd)).1, (hErr_no hb (.inr hd)).2]
        exact (hbytes_no l w (by omega) ho hd).mono fun _ _ h => gives_nil h
      · rw [(hErr_ok hb ho hd).1, (hErr_ok hb ho hd).2]
        refine (hbytes_ok l w (by omega) ho hd).mono ?_
        rintro e w' ⟨g, rfl, hblk, hbel⟩
        exact ⟨_, _, _, rfl, blk_rd hblk (by rw [List.length_map, unh_length]) (by omega), hbel⟩
    · rw [(hErr_no hb (.inl ho)).1, (hErr_no hb (.inl ho)).2]
      exact (hbytes_odd l w (by omega) ho).mono fun _ _ h => gives_nil h
theorem rbytes_all (l : List UInt8) (w : World) (hm : l.length ≤ maxLen) : Calls Try.prog 33 #[.string (str l)] w (GivesB (hRes l) (hErr l) w) := by
  by_cases hb : 4000 < l.length
  · rw [(hErr_big hb).1, (hErr_big hb).2]
    exact (rbytes_big l w hb hm).mono fun _ _ h => gives_nil h
  · by_cases ho : l.length % 2 = 0
    · have := rbytes_even l w (by omega) ho
      cases hd : l.all isD
      · rw [(hErr_no hb (.inr hd)).1, (hErr_no hb (.inr hd)).2]
        exact this _ hd
      · rw [(hErr_ok hb ho hd).1, (hErr_ok hb ho hd).2]
        exact this _ hd
    · rw [(hErr_no hb (.inl ho)).1, (hErr_no hb (.inl ho)).2]
      exact (rbytes_odd l w (by omega) ho).mono fun _ _ h => gives_nil h
/-- the error number of a digest's text -/
def cErr (l : List UInt8) : Int := if l.length ≠ 64 then 1 else if l.all isD then 0 else 3
theorem hcheck_all (l : List UInt8) (w : World) (hm : l.length ≤ maxLen) : Calls Try.prog 42 #[.string (str l)] w fun e w' => e = .returned (.int .i64 (cErr l)) ∧ w = w' := by
  by_cases hb : l.length ≠ 64
  · rw [show cErr l = 1 from if_pos hb]
    exact hcheck_size l w hb
  · have := hcheck_form l w (by omega) _ rfl
    have e : cErr l = if l.all isD then 0 else 3 := if_neg hb
    rw [e]; exact this
set_option maxHeartbeats 400000 in
theorem hexFault_all (l : List UInt8) (w : World) (hm : l.length ≤ maxLen) : Calls Try.prog 30 #[.string (str l)] w fun e w' => e = .returned (.int .i64 (cErr l)) ∧ Below w.heap.size w w' := by
  by_cases hb : l.length ≠ 64
  · have hne : ((l.length : Int) != 64) = true := by rw [bne_iff_ne]; omega
    rw [show cErr l = 1 from if_pos hb]
    clear hb
    go_enter Try.func30, Try.ntmps30
    go_wp2
    go_ret
    exact ⟨rfl, Below.refl _ _⟩
  · have hne : ((l.length : Int) != 64) = false := by rw [bne_eq_false_iff_eq]; omega
    have h64 : l.length = 64 := by omega
    have e : cErr l = if l.all isD then 0 else 3 := if_neg hb
    clear hb
    cases hd : l.all isD
    · have e2 := hErr_no (l := l) (by omega) (.inr hd)
      rw [hd] at e
      have E := Lib.hid e
      have E2 := Lib.hid e2.1
      have hn3 : ((3 : Int) != 0) = true := rfl
      clear e e2 h64 hd
      go_enter Try.func30, Try.ntmps30
      go_wp2_with fail
      with_reducible refine (rbytes_all _ _ hm).mono ?_
      rintro e w1 ⟨A, n, c, rfl, hr, hbel⟩
      rw [E2.out]
      go_wp2
      go_ret
      exact ⟨ret_int E.out.symm, hbel⟩
    · have e2 := hErr_ok (l := l) (by omega) (by omega) hd
      rw [hd] at e
      have E := Lib.hid e
      have E2 := Lib.hid e2.1
      clear e e2 h64 hd
      go_enter Try.func30, Try.ntmps30
      go_wp2_with fail
      with_reducible refine (rbytes_all _ _ hm).mono ?_
      rintro e w1 ⟨A, n, c, rfl, hr, hbel⟩
      rw [E2.out]
      go_wp2
      go_ret
      exact ⟨ret_int E.out.symm, hbel⟩
end Go.Proofs.Ytaaeihkbnfcolaa

/- The statements' own closed fact on the index. -/
import Derived.Test.YtfleegidlncmjaaGEE
import Derived.Test.YtfleegidlncmjaaGT
import Derived.Test.YtfleegidlncmjaaGO
namespace Go.Proofs.Ytfleegidlncmjaa
open Go.RowKit
/-- the entry of the closed fact -/
def eOne : En := ⟨keyB 1, [], 0, 3⟩
theorem eOne_fine : eOne.fine := ⟨cErr_dig _, rfl, by show (0 : Int) ≤ 0; omega, by show (0 : Int) ≤ 5; omega, by show (0 : Int) ≤ 3; omega, by show (3 : Int) ≤ 1099511627776; omega⟩
theorem eOne_put : xPut [] eOne = (0, [eOne]) := by
  rw [xPut_new (l := []) (x := eOne) rfl (by simp) eOne_fine (fun _ h => by cases h)]
  rfl
set_option maxRecDepth 100000 in
set_option maxHeartbeats 1000000 in
theorem indexed_ok (w : World) : Calls Try.prog 26 #[] w fun e w' => e = .returned (.bool true) ∧ Below w.heap.size w w' := by
  have H1 := Lib.hid (key_any 1 w (by decide))
  have hp : ∀ W : World, Calls Try.prog 13 #[.slice none 0 0, .agg #[.string (str (keyB 1)), .slice none 0 0, .int .i64 0, .int .i64 3]] W (GivesEs [eOne] 0 W) := fun W => by
    have := iput_any none 0 0 [] eOne ⟨none, 0, 0⟩ W (KRd.nil _) (fun _ h => by cases h) ⟨Rd.nil _ _, fun _ => rfl⟩ (fine_good_en eOne_fine)
    rw [eOne_put] at this
    exact this
  have HP := Lib.hid hp
  clear hp
  generalize hkk : keyB 1 = K at *
  have HE : Hid (eOne.ky = K ∧ eOne.st = 3) := ⟨hkk, rfl⟩
  clear hkk
  generalize eOne = o at *
  go_enter Try.func26, Try.ntmps26
  go_wp2_with fail
  with_reducible refine H1.out.mono ?_
  rintro e w1 ⟨rfl, hb1⟩
  go_wp2_with fail
  with_reducible refine (HP.out _).mono ?_
  rintro e w2 ⟨A, n, c, rfl, hN, hb2⟩
  have hr := hN.rd
  obtain rfl : n = 1 := hr.len
  obtain ⟨b, off, D, dn, dc, rfl, hc0, hc1, hc2, hc3, -, -⟩ := hr.entry (k := 0) (by simp)
  rw [show ([o] : List En)[0] = o from rfl, HE.out.2] at hc3
  rw [Nat.zero_mul, Nat.add_zero] at hc0 hc1 hc2 hc3
  clear hN hr
  go_wp2
  go_ret
  exact ⟨by simp, below_step hb1 hb2⟩
end Go.Proofs.Ytfleegidlncmjaa

/- The program's action: Key. -/
import Derived.Test.YtohdofalnmkfnaaDoorGI
import Derived.Test.YtohdofalnmkfnaaDoorGK
namespace Go.Proofs.YtohdofalnmkfnaaDoor
open Go.RowKit
/-- the key, or none -/
def kRes (m : List UInt8) (l : List Prt) : List UInt8 := if aErr m l = 0 then dig (aB m l) else []
set_option maxRecDepth 100000 in
set_option maxHeartbeats 400000 in
theorem akey_no (m : List UInt8) (A : Option Addr) (n c : Nat) (l : List Prt) (w : World) (hm : m.length ≤ maxLen) (hr : Rd w 3 A n c (pcs l)) (hg : ∀ p ∈ l, p.good) (er : Int) (he : aErr m l = er) (hne : er ≠ 0) :
    Calls Tryd.prog 6 #[.agg #[.string (str m), .slice A n c]] w fun e w' => e = .returned (.tuple #[.string (str []), .int .i64 er]) ∧ Below w.heap.size w w' := by
  have hd : (er != 0) = true := by rw [bne_iff_ne]; exact hne
  have hal := (Below.refl w.heap.size w).alloc (Nat.le_refl _) (.cells #[.string (str m), .slice A n c] 24)
  have hbk := Blk.new w 24 [.string (str m), .slice A n c]
  have e0 := hbk.cell 0
  have e1 := hbk.cell 1
  simp only [List.getElem?_cons_succ, List.getElem?_cons_zero] at e0 e1
  have HE := Lib.hid he
  have HN := Lib.hid hne
  clear he hne
  go_enter Tryd.func6, Tryd.ntmps6
  go_wp2_with fail
  with_reducible refine (aencode_no _ _ _ _ _ _ hm (hr.below hal) hg (by rw [HE.out]; exact HN.out)).mono ?_
  rw [HE.out]
  rintro e w1 ⟨rfl, hb1⟩
  clear hbk e0 e1
  go_wp2
  go_ret2
  exact ⟨rfl, below_step hal hb1⟩
set_option maxRecDepth 100000 in
set_option maxHeartbeats 400000 in
theorem akey_yes (m : List UInt8) (A : Option Addr) (n c : Nat) (l : List Prt) (w : World) (hK : Kon w) (hr : Rd w 3 A n c (pcs l)) (hg : ∀ p ∈ l, p.good) (h0 : aErr m l = 0) (B : List UInt8) (hB : aB m l = B) :
    Calls Tryd.prog 6 #[.agg #[.string (str m), .slice A n c]] w fun e w' => e = .returned (.tuple #[.string (str (dig B)), .int .i64 0]) ∧ Below w.heap.size w w' := by
  have hl := aB_length h0
  rw [hB] at hl
  have hal := (Below.refl w.heap.size w).alloc (Nat.le_refl _) (.cells #[.string (str m), .slice A n c] 24)
  have hbk := Blk.new w 24 [.string (str m), .slice A n c]
  have e0 := hbk.cell 0
  have e1 := hbk.cell 1
  simp only [List.getElem?_cons_succ, List.getElem?_cons_zero] at e0 e1
  have H0 := Lib.hid h0
  have HB := Lib.hid hB
  clear h0 hB
  go_enter Tryd.func6, Tryd.ntmps6
  go_wp2_with fail
  with_reducible refine (aencode_ok _ _ _ _ _ _ (hr.below hal) hg H0.out B HB.out).mono ?_
  rintro e w1 ⟨A1, n1, c1, rfl, hr1, hb1⟩
  have hn1 : n1 ≤ 2000 := by rw [hr1.len]; omega
  have hbA := below_step hal hb1
  clear hbk e0 e1
  go_wp2_with fail
  with_reducible refine (sum_ok _ _ _ B _ (hK.below hbA) hr1 hn1).mono ?_
  rintro e w2 ⟨rfl, hb2⟩
  go_wp2
  go_ret2
  exact ⟨rfl, below_step hbA hb2⟩
theorem akey_any (m : List UInt8) (A : Option Addr) (n c : Nat) (l : List Prt) (w : World) (hK : Kon w) (hm : m.length ≤ maxLen) (hr : Rd w 3 A n c (pcs l)) (hg : ∀ p ∈ l, p.good) :
    Calls Tryd.prog 6 #[.agg #[.string (str m), .slice A n c]] w fun e w' => e = .returned (.tuple #[.string (str (kRes m l)), .int .i64 (aErr m l)]) ∧ Below w.heap.size w w' := by
  by_cases h : aErr m l = 0
  · rw [show kRes m l = dig (aB m l) from if_pos h, h]
    exact akey_yes m A n c l w hK hr hg h _ rfl
  · rw [show kRes m l = [] from if_neg h]
    exact akey_no m A n c l w hm hr hg _ rfl h
end Go.Proofs.YtohdofalnmkfnaaDoor

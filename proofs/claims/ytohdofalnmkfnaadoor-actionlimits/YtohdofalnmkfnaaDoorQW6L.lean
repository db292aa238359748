/- The law ActionLimits: the walk. -/
import Derived.Test.YtohdofalnmkfnaaDoorQQk
import Derived.Test.YtohdofalnmkfnaaDoorGJ
namespace Go.Proofs.YtohdofalnmkfnaaDoor
open Go.RowKit
@[go_sem high] theorem fold_c : (⟨#[99]⟩ : ByteArray) = str [99] := rfl
theorem cs_err (k : Nat) : aErr (List.replicate k 99) [] = if k < 1 ∨ 60 < k then 1 else 0 := by
  have hall : (List.replicate k (99 : UInt8)).all okC = true := by
    rw [List.all_eq_true]
    intro y hy
    rw [List.eq_of_mem_replicate hy]
    decide
  have hp : psErr [] = 0 := rfl
  unfold aErr cmErr
  rw [List.length_replicate, hall, hp]
  by_cases h : k = 0 ∨ 60 < k
  · rw [if_pos h, if_pos (by omega), if_pos (by omega)]
  · rw [if_neg h, if_pos rfl, if_neg (by omega), if_neg (by omega)]
theorem err_nil : aErr [] [] = 1 := cs_err 0
set_option maxRecDepth 100000 in
set_option maxHeartbeats 1000000 in
theorem actionLimits_walk (a : Int) (ha : (Lit.int .i64 a).wf = true) (w : World) (hK : Kon w) :
    Calls Tryd.prog 5 #[.int .i64 a] w fun e w' => e = .returned (.bool true) ∧ Below w.heap.size w w' := by
  obtain ⟨k1, k2⟩ := i64_range ha
  obtain ⟨k, hk, hk2⟩ := pk_nat a 120 (by omega)
  have HP := Lib.hid hk
  have hk3 : k ≤ 1000 := by omega
  have hki : (k : Int) ≤ 1000 := by omega
  have HE := Lib.hid (cs_err k)
  have hm : (List.replicate k (99 : UInt8)).length ≤ maxLen := by rw [List.length_replicate]; unfold maxLen; omega
  obtain ⟨m, hmm⟩ : ∃ m, List.replicate k (99 : UInt8) = m := ⟨_, rfl⟩
  have HM := Lib.hid hmm
  rw [hmm] at hm
  rw [HM.out] at HE
  have hge : ∀ p ∈ ([] : List Prt), p.good := fun _ q => by cases q
  have hnil : ∀ w : World, Rd w 3 none 0 0 (pcs []) := fun w => Rd.nil w 3
  clear hk ha hmm
  go_enter Tryd.func5, Tryd.ntmps5
  go_wp2_with fail
  with_reducible refine (picked_nat _ _ k _ k1 k2 (by omega) (by omega) HP.out).mono ?_
  rintro e w0 ⟨rfl, rfl⟩
  go_wp2_with fail
  with_reducible refine (repeat_one _ k hk3 _).mono ?_
  rw [HM.out]
  rintro e w1 ⟨rfl, hb1⟩
  have hal := (Below.refl w1.heap.size w1).alloc (Nat.le_refl _) (.cells #[.string (str m), .slice none 0 0] 24)
  have hbk := Blk.new w1 24 [.string (str m), .slice none 0 0]
  have hbA := below_step hb1 hal
  go_wp2_with fail
  with_reducible refine (acheck_any _ _ _ _ [] _ hm (hnil _) hge).mono ?_
  rintro e w2 ⟨rfl, hb2⟩
  have hbk2 := hbk.below hb2 hbk.lt
  have hbB := below_step hbA hb2
  have e0 := hbk2.cell 0
  have e1 := hbk2.cell 1
  simp only [List.getElem?_cons_succ, List.getElem?_cons_zero] at e0 e1
  clear hbk hal hb1 hbA hb2
  go_wp2_with fail
  with_reducible refine (akey_any _ _ _ _ [] _ (hK.below hbB) hm (hnil _) hge).mono ?_
  rintro e w3 ⟨rfl, hb3⟩
  have hbC := below_step hbB hb3
  generalize kRes m [] = kk at *
  clear e0 e1 hbk2 hbB hb3
  by_cases h1 : k < 1
  · have d1 : decide ((k : Int) < 1) = true := by simp; omega
    have hE := HE.out
    rw [if_pos (.inl h1)] at hE
    rw [hE]
    clear h1 hE
    go_wp2
    go_ret
    exact ⟨rfl, hbC⟩
  · have d1 : decide ((k : Int) < 1) = false := by simp; omega
    by_cases h2 : 60 < k
    · have d2 : decide (60 < (k : Int)) = true := by simp; omega
      have hE := HE.out
      rw [if_pos (.inr h2)] at hE
      rw [hE]
      clear h1 h2 hE
      go_wp2
      go_ret
      exact ⟨rfl, hbC⟩
    · have d2 : decide (60 < (k : Int)) = false := by simp; omega
      have hE := HE.out
      rw [if_neg (by omega)] at hE
      rw [hE]
      have hm0 : ([] : List UInt8).length ≤ maxLen := by simp [maxLen]
      have hz : (⟨#[]⟩ : ByteArray) = str [] := rfl
      clear h1 h2 hE
      go_wp2_with fail
      with_reducible refine (acheck_any _ _ _ _ [] _ hm0 (hnil _) hge).mono ?_
      rw [err_nil]
      rintro e w4 ⟨rfl, hb4⟩
      go_wp2
      go_ret
      exact ⟨rfl, below_step hbC hb4⟩
end Go.Proofs.YtohdofalnmkfnaaDoor

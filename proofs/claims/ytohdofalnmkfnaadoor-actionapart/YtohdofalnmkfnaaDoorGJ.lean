/- strings.Repeat of one byte; the statements' own actionOf. -/
import Derived.Test.YtohdofalnmkfnaaDoorGI
import Derived.Test.YtohdofalnmkfnaaDoorGI
import Derived.Test.YtohdofalnmkfnaaDoorGG
import Derived.Test.YtohdofalnmkfnaaDoorGG
import Derived.Test.YtohdofalnmkfnaaDoorQShelf
namespace Go.Proofs.YtohdofalnmkfnaaDoor
open Go.RowKit
@[go_sem high] theorem fold_x : (⟨#[120]⟩ : ByteArray) = str [120] := rfl
@[go_sem high] theorem fold_run : (⟨#[114, 117, 110]⟩ : ByteArray) = str [114, 117, 110] := rfl
theorem repeatL_one (x : UInt8) (k : Nat) : Lib.repeatL [x] k = List.replicate k x := by
  have := Lib.repeatL_replicate x 1 k
  rw [Nat.mul_one] at this
  exact this
set_option maxRecDepth 100000 in
set_option maxHeartbeats 400000 in
theorem repeat_one (x : UInt8) (k : Nat) (hk : k ≤ 1000) (w : World) :
    Calls Tryd.prog 13 #[.string (str [x]), .int .i64 k] w fun e w' => e = .returned (.string (str (List.replicate k x))) ∧ Below w.heap.size w w' := by
  by_cases h2 : 2 ≤ k
  · have := Tryd.strings_Repeat_main (str [x]) k w h2 (by omega) (by simp [str_size]; omega) (by simp [str_size])
    rw [show (str [x]).data.toList = [x] from rfl, repeatL_one] at this
    exact this
  · obtain rfl | rfl : k = 0 ∨ k = 1 := by omega
    · go_enter Tryd.func13, Tryd.ntmps13
      go_wp2
      go_ret
      exact ⟨rfl, Below.refl _ _⟩
    · go_enter Tryd.func13, Tryd.ntmps13
      go_wp2
      go_ret
      exact ⟨rfl, Below.refl _ _⟩
/-- the command that is made of a number -/
def cmd (a : Int) : List UInt8 := [114, 117, 110] ++ List.replicate (pk a 50).toNat 120
theorem cmd_err (a : Int) : cmErr (cmd a) = 0 := by
  obtain ⟨h0, h1⟩ := pk_range a 50 (by omega)
  have hl : (cmd a).length = 3 + (pk a 50).toNat := by unfold cmd; simp; omega
  unfold cmErr
  rw [if_neg (by omega), if_pos ?_]
  unfold cmd
  rw [List.all_append, Bool.and_eq_true]
  refine ⟨by decide, ?_⟩
  rw [List.all_eq_true]
  intro y hy
  rw [List.eq_of_mem_replicate hy]
  decide
theorem cmd_length (a : Int) : (cmd a).length ≤ 60 := (cmErr_zero (cmd_err a)).2
set_option maxRecDepth 100000 in
set_option maxHeartbeats 1000000 in
theorem kaction_any (q : Rw) (A : Option Addr) (n c : Nat) (l : List Rw) (w : World) (hq : (Lit.int .i64 q.ra).wf = true) (hr : Rd w 4 A n c (rcs l)) (hg : ∀ p ∈ l, p.good) (hn : n ≤ 4294967296000) :
    Calls Tryd.prog 8 #[.agg #[.int .i64 q.kd, .int .i64 q.ra, .int .i64 q.rb, .string (str q.tx)], .slice A n c] w fun e w' =>
      ∃ A' n' c', e = .returned (.agg #[.string (str (cmd q.ra)), .slice A' n' c']) ∧ Rd w' 3 A' n' c' (pcs (listedP l)) ∧ (A' = none → c' = 0) ∧ Below w.heap.size w w' := by
  obtain ⟨k1, k2⟩ := i64_range hq
  obtain ⟨a, ha, ha2⟩ := pk_nat q.ra 50 (by omega)
  have HA := Lib.hid ha
  have ha3 : a ≤ 1000 := by omega
  have HC : Hid ([114, 117, 110] ++ List.replicate a 120 = cmd q.ra) := by show _ = _; unfold cmd; rw [ha, Int.toNat_natCast]
  obtain ⟨cm, hcm⟩ : ∃ cm, cmd q.ra = cm := ⟨_, rfl⟩
  rw [hcm] at HC ⊢
  obtain ⟨ps, hps⟩ : ∃ ps, listedP l = ps := ⟨_, rfl⟩
  have HPS := Lib.hid hps
  rw [HPS.out]
  generalize q.kd = kd at *
  generalize q.ra = ra at *
  generalize q.rb = rb at *
  generalize q.tx = tx at *
  have hal := (Below.refl w.heap.size w).alloc (Nat.le_refl _) (.cells #[.int .i64 kd, .int .i64 ra, .int .i64 rb, .string (str tx)] 30)
  have hal2 := hal.alloc (by simp) (.cells #[.string ⟨#[]⟩, .slice none 0 0] 24)
  have hbk := (Blk.new w 30 [.int .i64 kd, .int .i64 ra, .int .i64 rb, .string (str tx)]).alloc (.cells #[.string ⟨#[]⟩, .slice none 0 0] 24)
  have hbk2 := Blk.new (w.alloc (.cells #[.int .i64 kd, .int .i64 ra, .int .i64 rb, .string (str tx)] 30)) 24 [.string ⟨#[]⟩, .slice none 0 0]
  have hs1 : (w.alloc (.cells #[.int .i64 kd, .int .i64 ra, .int .i64 rb, .string (str tx)] 30)).heap.size = w.heap.size + 1 := by simp
  rw [hs1] at hbk2
  have e1 := hbk.cell 1
  simp only [List.getElem?_cons_succ, List.getElem?_cons_zero] at e1
  clear ha hcm hps hal hs1 hbk
  go_enter Tryd.func8, Tryd.ntmps8
  go_wp2_with fail
  with_reducible refine (picked_nat _ _ a _ k1 k2 (by omega) (by omega) HA.out).mono ?_
  rintro e w0 ⟨rfl, rfl⟩
  go_wp2_with fail
  with_reducible refine (repeat_one _ a ha3 _).mono ?_
  rintro e w1 ⟨rfl, hb1⟩
  have hbkA := hbk2.below hb1 hbk2.lt
  have hbA := hal2.trans (hb1.mono hal2.size)
  clear hbk2 hal2 e1 hb1
  go_wp2_with fail
  with_reducible refine (listed_any _ _ _ _ _ (hr.below hbA) hg hn).mono ?_
  rw [HPS.out]
  rintro e w2 ⟨v2, rfl, hown2, hb2⟩
  obtain ⟨A2, c2, rfl, hr2, hA2⟩ := own_rd3 hown2
  have hbkB := hbkA.below hb2 hbkA.lt
  have hbB := below_step hbA hb2
  have e0 := hbkB.cell 0
  have e1 := hbkB.cell 1
  have f0 := hbkB.frozen 0
  have f1 := hbkB.frozen 1
  simp only [List.getElem?_cons_succ, List.getElem?_cons_zero] at e0 e1
  clear hown2 hbkA hbA hb2
  go_wp2
  refine bodyPost_ret (results_cell_row rfl _ _ (w.heap.size + 1) 24 _ (0, 0) _ rfl (hbkB.put2 _ _) Tryd.underlying24 rfl action_size) rfl ?_
  have HC' := HC.out
  simp only [List.cons_append, List.nil_append] at HC'
  rw [← HC']
  have r1 := hr2.part_far hbkB 0 (.string (str (114 :: 117 :: 110 :: List.replicate a 120)))
  have r2 := r1.part_far (hbkB.put 0 (.string (str (114 :: 117 :: 110 :: List.replicate a 120)))) 1 (.slice A2 ps.length c2)
  exact ⟨_, _, _, rfl, r2, hA2, below_set2 hbB (by omega) _ _⟩
end Go.Proofs.YtohdofalnmkfnaaDoor

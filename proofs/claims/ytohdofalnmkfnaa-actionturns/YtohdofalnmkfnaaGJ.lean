/- Texts that belong together: what the functions of the program and of the statements return. -/
import Derived.Test.YtohdofalnmkfnaaGD
import Derived.Test.YtohdofalnmkfnaaGI
import Derived.Test.YtohdofalnmkfnaaGG
import Derived.Test.YtohdofalnmkfnaaGG
import Derived.Test.YtohdofalnmkfnaaQShelf
/- Rows of parts of the call's own read as parts; Encode and Decode at parts known. -/
namespace Go.Proofs.Ytohdofalnmkfnaa
open Go.RowKit
/-- a row of parts of the call's own reads as parts -/
theorem own_rd3 {w : World} {base : Nat} {e : TypeId} {v : Value} {n : Nat} {xs : List Value} (h : w.ownsRow base e 3 v n xs) : ∃ A c, v = .slice A n c ∧ Rd w 3 A n c xs ∧ (A = none → c = 0) := by
  rcases h.2 with ⟨q1, q2⟩ | ⟨g, cap, cur, q1, _, _, q3, q4, _⟩
  · subst q2
    have : xs = [] := List.eq_nil_of_length_eq_zero (by simpa using h.1)
    subst this
    exact ⟨none, 0, q1, Rd.nil _ _, fun _ => rfl⟩
  · subst q1
    exact ⟨_, _, rfl, Rd.of_own h q4 q3, fun q => by cases q⟩
theorem mencode_ok (A : Option Addr) (n c : Nat) (l : List Prt) (w : World) (hr : Rd w 3 A n c (pcs l)) (hg : ∀ p ∈ l, p.good) (h0 : psErr l = 0) :
    Calls Try.prog 21 #[.slice A n c] w (GivesB (man l) 0 w) := by
  have := mencode_any A n c l w hr hg
  rw [show mRes l = man l from if_pos h0, h0] at this
  exact this
theorem mdecode_at (A : Option Addr) (n c : Nat) (l : List UInt8) (w : World) (hr : Rd w 1 A n c (l.map bv8)) (hz : n ≤ 140737488351232) (e : Int) (ps : List Prt) (he : (dec l).1 = e) (hp : (dec l).2 = ps) :
    Calls Try.prog 26 #[.slice A n c] w (GivesP ps e w) := by
  rw [← he, ← hp]; exact mdecode_any A n c l w hr hz
end Go.Proofs.Ytohdofalnmkfnaa
/- strings.Repeat of one byte; the statements' own actionOf. -/
namespace Go.Proofs.Ytohdofalnmkfnaa
open Go.RowKit
@[go_sem high] theorem fold_x : (⟨#[120]⟩ : ByteArray) = str [120] := rfl
@[go_sem high] theorem fold_run : (⟨#[114, 117, 110]⟩ : ByteArray) = str [114, 117, 110] := rfl
theorem repeatL_one (x : UInt8) (k : Nat) : Lib.repeatL [x] k = List.replicate k x := by
  have := Lib.repeatL_replicate x 1 k
  rw [Nat.mul_one] at this
  exact this
set_option maxRecDepth 100000 in
set_option maxHeartbeats 400000 in
theorem repeat_one (x : UInt8) (k : Nat) (hk : k ≤ 1000) (w : World) :
    Calls Try.prog 31 #[.string (str [x]), .int .i64 k] w fun e w' => e = .returned (.string (str (List.replicate k x))) ∧ Below w.heap.size w w' := by
  by_cases h2 : 2 ≤ k
  · have := Try.strings_Repeat_main (str [x]) k w h2 (by omega) (by simp [str_size]; omega) (by simp [str_size])
    rw [show (str [x]).data.toList = [x] from rfl, repeatL_one] at this
    exact this
  · obtain rfl | rfl : k = 0 ∨ k = 1 := by omega
    · go_enter Try.func31, Try.ntmps31
      go_wp2
      go_ret
      exact ⟨rfl, Below.refl _ _⟩
    · go_enter Try.func31, Try.ntmps31
      go_wp2
      go_ret
      exact ⟨rfl, Below.refl _ _⟩
/-- the command that is made of a number -/
def cmd (a : Int) : List UInt8 := [114, 117, 110] ++ List.replicate (pk a 50).toNat 120
theorem cmd_err (a : Int) : cmErr (cmd a) = 0 := by
  obtain ⟨h0, h1⟩ := pk_range a 50 (by omega)
  have hl : (cmd a).length = 3 + (pk a 50).toNat := by unfold cmd; simp; omega
  unfold cmErr
  rw [if_neg (by omega), if_pos ?_]
  unfold cmd
  rw [List.all_append, Bool.and_eq_true]
  refine ⟨by decide, ?_⟩
  rw [List.all_eq_true]
  intro y hy
  rw [List.eq_of_mem_replicate hy]
  decide
theorem cmd_length (a : Int) : (cmd a).length ≤ 60 := (cmErr_zero (cmd_err a)).2
set_option maxRecDepth 100000 in
set_option maxHeartbeats 1000000 in
theorem kaction_any (q : Rw) (A : Option Addr) (n c : Nat) (l : List Rw) (w : World) (hq : (Lit.int .i64 q.ra).wf = true) (hr : Rd w 4 A n c (rcs l)) (hg : ∀ p ∈ l, p.good) (hn : n ≤ 4294967296000) :
    Calls Try.prog 15 #[.agg #[.int .i64 q.kd, .int .i64 q.ra, .int .i64 q.rb, .string (str q.tx)], .slice A n c] w fun e w' =>
      ∃ A' n' c', e = .returned (.agg #[.string (str (cmd q.ra)), .slice A' n' c']) ∧ Rd w' 3 A' n' c' (pcs (listedP l)) ∧ (A' = none → c' = 0) ∧ Below w.heap.size w w' := by
  obtain ⟨k1, k2⟩ := i64_range hq
  obtain ⟨a, ha, ha2⟩ := pk_nat q.ra 50 (by omega)
  have HA := Lib.hid ha
  have ha3 : a ≤ 1000 := by omega
  have HC : Hid ([114, 117, 110] ++ List.replicate a 120 = cmd q.ra) := by show _ = _; unfold cmd; rw [ha, Int.toNat_natCast]
  obtain ⟨cm, hcm⟩ : ∃ cm, cmd q.ra = cm := ⟨_, rfl⟩
  rw [hcm] at HC ⊢
  obtain ⟨ps, hps⟩ : ∃ ps, listedP l = ps := ⟨_, rfl⟩
  have HPS := Lib.hid hps
  rw [HPS.out]
  generalize q.kd = kd at *
  generalize q.ra = ra at *
  generalize q.rb = rb at *
  generalize q.tx = tx at *
  have hal := (Below.refl w.heap.size w).alloc (Nat.le_refl _) (.cells #[.int .i64 kd, .int .i64 ra, .int .i64 rb, .string (str tx)] 37)
  have hal2 := hal.alloc (by simp) (.cells #[.string ⟨#[]⟩, .slice none 0 0] 24)
  have hbk := (Blk.new w 37 [.int .i64 kd, .int .i64 ra, .int .i64 rb, .string (str tx)]).alloc (.cells #[.string ⟨#[]⟩, .slice none 0 0] 24)
  have hbk2 := Blk.new (w.alloc (.cells #[.int .i64 kd, .int .i64 ra, .int .i64 rb, .string (str tx)] 37)) 24 [.string ⟨#[]⟩, .slice none 0 0]
  have hs1 : (w.alloc (.cells #[.int .i64 kd, .int .i64 ra, .int .i64 rb, .string (str tx)] 37)).heap.size = w.heap.size + 1 := by simp
  rw [hs1] at hbk2
  have e1 := hbk.cell 1
  simp only [List.getElem?_cons_succ, List.getElem?_cons_zero] at e1
  clear ha hcm hps hal hs1 hbk
  go_enter Try.func15, Try.ntmps15
  go_wp2_with fail
  with_reducible refine (picked_nat _ _ a _ k1 k2 (by omega) (by omega) HA.out).mono ?_
  rintro e w0 ⟨rfl, rfl⟩
  go_wp2_with fail
  with_reducible refine (repeat_one _ a ha3 _).mono ?_
  rintro e w1 ⟨rfl, hb1⟩
  have hbkA := hbk2.below hb1 hbk2.lt
  have hbA := hal2.trans (hb1.mono hal2.size)
  clear hbk2 hal2 e1 hb1
  go_wp2_with fail
  with_reducible refine (listed_any _ _ _ _ _ (hr.below hbA) hg hn).mono ?_
  rw [HPS.out]
  rintro e w2 ⟨v2, rfl, hown2, hb2⟩
  obtain ⟨A2, c2, rfl, hr2, hA2⟩ := own_rd3 hown2
  have hbkB := hbkA.below hb2 hbkA.lt
  have hbB := below_step hbA hb2
  have e0 := hbkB.cell 0
  have e1 := hbkB.cell 1
  have f0 := hbkB.frozen 0
  have f1 := hbkB.frozen 1
  simp only [List.getElem?_cons_succ, List.getElem?_cons_zero] at e0 e1
  clear hown2 hbkA hbA hb2
  go_wp2
  refine bodyPost_ret (results_cell_row rfl _ _ (w.heap.size + 1) 24 _ (0, 0) _ rfl (hbkB.put2 _ _) Try.underlying24 rfl action_size) rfl ?_
  have HC' := HC.out
  simp only [List.cons_append, List.nil_append] at HC'
  rw [← HC']
  have r1 := hr2.part_far hbkB 0 (.string (str (114 :: 117 :: 110 :: List.replicate a 120)))
  have r2 := r1.part_far (hbkB.put 0 (.string (str (114 :: 117 :: 110 :: List.replicate a 120)))) 1 (.slice A2 ps.length c2)
  exact ⟨_, _, _, rfl, r2, hA2, below_set2 hbB (by omega) _ _⟩
end Go.Proofs.Ytohdofalnmkfnaa
/- Encode and Decode of actions at what is known. -/
namespace Go.Proofs.Ytohdofalnmkfnaa
open Go.RowKit
theorem aencode_ok (m : List UInt8) (A : Option Addr) (n c : Nat) (l : List Prt) (w : World) (hr : Rd w 3 A n c (pcs l)) (hg : ∀ p ∈ l, p.good) (h0 : aErr m l = 0) (b : List UInt8) (hb : aB m l = b) :
    Calls Try.prog 8 #[.agg #[.string (str m), .slice A n c]] w (GivesB b 0 w) := by
  refine (aencode_yes m A n c l w hr hg h0).mono ?_
  rw [hb]
  rintro e w' ⟨v, rfl, hown, hb⟩
  obtain ⟨A9, c9, rfl, hr9⟩ := own_rd hown
  exact ⟨_, _, _, rfl, hr9, hb⟩
theorem adecode_at (A : Option Addr) (n c : Nat) (l : List UInt8) (w : World) (hr : Rd w 1 A n c (l.map bv8)) (e : Int) (m : List UInt8) (ps : List Prt) (he : (aDec l).1 = e) (hm : (aDec l).2.1 = m) (hp : (aDec l).2.2 = ps) :
    Calls Try.prog 12 #[.slice A n c] w (GivesA m ps e w) := by
  rw [← he, ← hp, ← hm]; exact adecode_any A n c l w hr
end Go.Proofs.Ytohdofalnmkfnaa

/- The law IndexFound: the walk. -/
import Derived.Test.YtfleegidlncmjaaGZ
import Derived.Test.YtfleegidlncmjaaQIx
import Derived.Test.YtfleegidlncmjaaGG
import Derived.Test.YtfleegidlncmjaaGG
import Derived.Test.YtfleegidlncmjaaGE
import Derived.BigQuiet
import Derived.Deep.RegionHeldLaw
import Derived.Deep.CutBlock
import Derived.Deep.CutRange
namespace Go.Proofs.Ytfleegidlncmjaa
open Go.RowKit
/-- the new entry as a variable of the call's own -/
def EnVar (w : World) (K : List UInt8) (ps : List Prt) (v : Value) (wx : World) : Prop :=
  ∃ g A n c, v = .pointer (some ⟨g, 0, none⟩) ∧ Blk wx g 28 [.string (str K), .slice A n c, .int .i64 0, .int .i64 9] ∧ Rd wx 3 A n c (pcs ps) ∧ (A = none → c = 0) ∧ Below w.heap.size w wx
theorem raw_row (W : World) (q : Rw) : Rd (W.alloc (.cells #[.int .i64 q.kd, .int .i64 q.ra, .int .i64 q.rb, .string (str q.tx)] 42)) 4 (some ⟨W.heap.size, 0, none⟩) 1 1 (rcs [q]) := by
  have := (Blk.new W 42 [.int .i64 q.kd, .int .i64 q.ra, .int .i64 q.rb, .string (str q.tx)]).rd (size := 4) (n := 1) (c := 1) (Nat.le_refl _) (by unfold maxLen; omega) (by simp)
  exact this
theorem ne_of {A : Option Addr} {N g : Nat} (h : ∀ a : Addr, A = some a → N ≤ a.block) (hg : g < N) : ∀ a : Addr, A = some a → a.block ≠ g := fun a e => by have := h a e; omega
theorem en_new {w w3 : World} {K : List UInt8} {ps : List Prt} {A : Option Addr} {n c : Nat} (hB : Below w.heap.size w w3) (hr : Rd w3 3 A n c (pcs ps)) (hA : A = none → c = 0) :
    EnVar w K ps (.pointer (some ⟨w3.heap.size, 0, none⟩)) (w3.alloc (.cells #[.string (str K), .slice A n c, .int .i64 0, .int .i64 9] 28)) :=
  ⟨_, _, _, _, rfl, Blk.new w3 28 [.string (str K), .slice A n c, .int .i64 0, .int .i64 9], hr.below ((Below.refl _ _).alloc (Nat.le_refl _) _), hA, hB.alloc hB.size _⟩
theorem en_put {w w3 : World} {K : List UInt8} {ps : List Prt} {A : Option Addr} {n c g : Nat} {x0 x1 x2 x3 : Value} (z : Blk w3 g 28 [x0, x1, x2, x3]) (hg : w.heap.size ≤ g) (hB : Below w.heap.size w w3) (hr : Rd w3 3 A n c (pcs ps)) (hA : A = none → c = 0) (hne : ∀ a : Addr, A = some a → a.block ≠ g) :
    EnVar w K ps (.pointer (some ⟨g, 0, none⟩)) ((((w3.setCell ⟨g, 0, none⟩ (.string (str K))).setCell ⟨g, 1, none⟩ (.slice A n c)).setCell ⟨g, 2, none⟩ (.int .i64 0)).setCell ⟨g, 3, none⟩ (.int .i64 9)) := by
  refine ⟨_, _, _, _, rfl, z.put4 _ _ _ _, hr.keepLt fun a e _ => ?_, hA, (((hB.setCell hg _).setCell hg _).setCell hg _).setCell hg _⟩
  have hn := hne a e
  exact (Below.heap_setCell _ ⟨g, 3, none⟩ _ a.block hn).trans ((Below.heap_setCell _ ⟨g, 2, none⟩ _ a.block hn).trans ((Below.heap_setCell _ ⟨g, 1, none⟩ _ a.block hn).trans (Below.heap_setCell _ ⟨g, 0, none⟩ _ a.block hn)))
theorem Blk.farE {W : World} {g g' : Nat} {t : TypeId} {xs : List Value} (h : Blk W g t xs) (hne : g ≠ g') (a b c d : Value) : Blk ((((W.setCell ⟨g', 0, none⟩ a).setCell ⟨g', 1, none⟩ b).setCell ⟨g', 2, none⟩ c).setCell ⟨g', 3, none⟩ d) g t xs :=
  (((h.far hne a).far hne b).far hne c).far hne d
theorem new_blk1 (W : World) (o : Obj) (t : TypeId) (xs : List Value) : Blk ((W.alloc o).alloc (.cells xs.toArray t)) (W.heap.size + 1) t xs := by
  have := Blk.new (W.alloc o) t xs
  rw [show (W.alloc o).heap.size = W.heap.size + 1 by simp] at this
  exact this
theorem raw_row1 (W : World) (o : Obj) (q : Rw) : Rd ((W.alloc o).alloc (.cells #[.int .i64 q.kd, .int .i64 q.ra, .int .i64 q.rb, .string (str q.tx)] 42)) 4 (some ⟨W.heap.size + 1, 0, none⟩) 1 1 (rcs [q]) := by
  have := raw_row (W.alloc o) q
  rw [show (W.alloc o).heap.size = W.heap.size + 1 by simp] at this
  exact this
set_option maxRecDepth 100000 in
set_option maxHeartbeats 4000000 in
theorem indexFound_walk (A : Option Addr) (n c : Nat) (l : List Rw) (q : Rw) (w : World) (hr : Rd w 4 A n c (rcs l)) (hg : ∀ p ∈ l, p.good) (hn : n ≤ 4294967296000) (hq : q.good) :
    Calls Try.prog 7 #[.slice A n c, .agg #[.int .i64 q.kd, .int .i64 q.ra, .int .i64 q.rb, .string (str q.tx)]] w fun e w' => e = .returned (.bool true) ∧ Below w.heap.size w w' := by
  have hfd := store_field1
  have hal := (Below.refl w.heap.size w).alloc (Nat.le_refl _) (.cells #[.int .i64 q.kd, .int .i64 q.ra, .int .i64 q.rb, .string (str q.tx)] 42)
  have hbk := Blk.new w 42 [.int .i64 q.kd, .int .i64 q.ra, .int .i64 q.rb, .string (str q.tx)]
  have hra : (Lit.int .i64 q.ra).wf = true := hq.2.1
  have HQ := Lib.hid hq
  have r0 := hr.below hal
  have HL : ∀ (W : World) (A : Option Addr), Rd W 4 A 1 1 (rcs [q]) → Calls Try.prog 25 #[.slice A 1 1] W fun e w' => ∃ v, e = .returned v ∧ w'.ownsRow W.heap.size 52 3 v (listedP [q]).length (pcs (listedP [q])) ∧ Below W.heap.size W w' := fun W A h => listed_any A 1 1 [q] W h (fun p hp => by rw [List.mem_singleton] at hp; subst hp; exact HQ.out) (by omega)
  have raw4 : ∀ {W : World}, Blk W w.heap.size 42 [.int .i64 q.kd, .int .i64 q.ra, .int .i64 q.rb, .string (str q.tx)] → W.cell? ⟨w.heap.size, 0, none⟩ = some (.int .i64 q.kd) ∧ W.cell? ⟨w.heap.size, 1, none⟩ = some (.int .i64 q.ra) ∧ W.cell? ⟨w.heap.size, 2, none⟩ = some (.int .i64 q.rb) ∧ W.cell? ⟨w.heap.size, 3, none⟩ = some (.string (str q.tx)) := fun h => ⟨h.cell 0, h.cell 1, h.cell 2, h.cell 3⟩
  go_enter Try.func7, Try.ntmps7
  go_wp2_with fail
  with_reducible refine (store_entries _ _ _ _ _ r0 hg hn).mono ?_
  rintro e w1 ⟨A1, c1, L, A2, n2, c2, vr, vk, rfl, hN1, hS, hb1⟩
  have r1 := hN1.rd
  have hbA := below_step hal hb1
  have hk1 := hbk.below hb1 hbk.lt
  have HS := Lib.hid hS
  clear hN1 hr hg hS hal r0 hq
  go_upto_region 2 with fail
  go_cut [6] from 18 to 24 (fun s6 wx => EnVar w1 (keyB q.ra) (listedP [q]) s6 wx)
  case first =>
    have lt0 := hk1.lt
    have bN := (Below.refl w1.heap.size w1).drew
    have bR := ((Below.refl w1.heap.size w1).alloc (Nat.le_refl _) (.cells #[.int .i64 q.kd, .int .i64 q.ra, .int .i64 q.rb, .string (str q.tx)] 42)).drew
    have bZ := ((Below.refl w1.heap.size w1).alloc (Nat.le_refl _) (.cells #[.string ⟨#[]⟩, .slice none 0 0, .int .i64 0, .int .i64 0] 28)).drew
    have bRZ := (((Below.refl w1.heap.size w1).alloc (Nat.le_refl _) (.cells #[.int .i64 q.kd, .int .i64 q.ra, .int .i64 q.rb, .string (str q.tx)] 42)).alloc (by simp) (.cells #[.string ⟨#[]⟩, .slice none 0 0, .int .i64 0, .int .i64 0] 28)).drew
    have bZR := (((Below.refl w1.heap.size w1).alloc (Nat.le_refl _) (.cells #[.string ⟨#[]⟩, .slice none 0 0, .int .i64 0, .int .i64 0] 28)).alloc (by simp) (.cells #[.int .i64 q.kd, .int .i64 q.ra, .int .i64 q.rb, .string (str q.tx)] 42)).drew
    have rowR := (raw_row w1 q).drew
    have zZ := (Blk.new w1 28 [.string ⟨#[]⟩, .slice none 0 0, .int .i64 0, .int .i64 0]).drew
    have rowRZ := ((raw_row w1 q).below ((Below.refl _ _).alloc (Nat.le_refl _) (.cells #[.string ⟨#[]⟩, .slice none 0 0, .int .i64 0, .int .i64 0] 28))).drew
    have zRZ := (new_blk1 w1 (.cells #[.int .i64 q.kd, .int .i64 q.ra, .int .i64 q.rb, .string (str q.tx)] 42) 28 [.string ⟨#[]⟩, .slice none 0 0, .int .i64 0, .int .i64 0]).drew
    have rowZR := (raw_row1 w1 (.cells #[.string ⟨#[]⟩, .slice none 0 0, .int .i64 0, .int .i64 0] 28) q).drew
    have zZR := ((Blk.new w1 28 [.string ⟨#[]⟩, .slice none 0 0, .int .i64 0, .int .i64 0]).alloc (.cells #[.int .i64 q.kd, .int .i64 q.ra, .int .i64 q.rb, .string (str q.tx)] 42)).drew
    go_region_held_law (fun W => W.cell? ⟨w.heap.size, 0, none⟩ = some (.int .i64 q.kd) ∧ W.cell? ⟨w.heap.size, 1, none⟩ = some (.int .i64 q.ra) ∧ W.cell? ⟨w.heap.size, 2, none⟩ = some (.int .i64 q.rb) ∧ W.cell? ⟨w.heap.size, 3, none⟩ = some (.string (str q.tx))) (first | with_reducible exact raw4 hk1.drew | with_reducible exact raw4 (hk1.alloc _).drew | with_reducible exact raw4 ((hk1.alloc _).alloc _).drew | with_reducible exact raw4 h1k | with_reducible exact raw4 (h1k.alloc _) | with_reducible exact raw4 ((h1k.alloc _).alloc _) | with_reducible exact raw4 h2k | with_reducible exact raw4 (h2k.alloc _) | with_reducible exact raw4 (h2k.farE (by omega) _ _ _ _) | with_reducible exact raw4 ((h2k.alloc _).farE (by omega) _ _ _ _) | go_keep)
     (first
      | (go_at_call 24; with_reducible refine (key_any _ _ hra).mono ?_; rintro e w2 ⟨rfl, hb2⟩; first | (with_reducible (have h1k := hk1.drew.below hb2 hk1.drew.lt; have hB2 := below_step bN hb2; have cN := True.intro)) | (with_reducible (have h1k := (hk1.alloc (.cells #[.int .i64 q.kd, .int .i64 q.ra, .int .i64 q.rb, .string (str q.tx)] 42)).drew.below hb2 (hk1.alloc (.cells #[.int .i64 q.kd, .int .i64 q.ra, .int .i64 q.rb, .string (str q.tx)] 42)).drew.lt; have hB2 := below_step bR hb2; have rowP := rowR.below hb2; have cR := True.intro)) | (with_reducible (have h1k := (hk1.alloc (.cells #[.string ⟨#[]⟩, .slice none 0 0, .int .i64 0, .int .i64 0] 28)).drew.below hb2 (hk1.alloc (.cells #[.string ⟨#[]⟩, .slice none 0 0, .int .i64 0, .int .i64 0] 28)).drew.lt; have hB2 := below_step bZ hb2; have zP := zZ.below hb2 zZ.lt; have cZ := True.intro)) | (with_reducible (have h1k := ((hk1.alloc (.cells #[.int .i64 q.kd, .int .i64 q.ra, .int .i64 q.rb, .string (str q.tx)] 42)).alloc (.cells #[.string ⟨#[]⟩, .slice none 0 0, .int .i64 0, .int .i64 0] 28)).drew.below hb2 ((hk1.alloc (.cells #[.int .i64 q.kd, .int .i64 q.ra, .int .i64 q.rb, .string (str q.tx)] 42)).alloc (.cells #[.string ⟨#[]⟩, .slice none 0 0, .int .i64 0, .int .i64 0] 28)).drew.lt; have hB2 := below_step bRZ hb2; have rowP := rowRZ.below hb2; have zP := zRZ.below hb2 zRZ.lt; have cB := True.intro)) | (with_reducible (have h1k := ((hk1.alloc (.cells #[.string ⟨#[]⟩, .slice none 0 0, .int .i64 0, .int .i64 0] 28)).alloc (.cells #[.int .i64 q.kd, .int .i64 q.ra, .int .i64 q.rb, .string (str q.tx)] 42)).drew.below hb2 ((hk1.alloc (.cells #[.string ⟨#[]⟩, .slice none 0 0, .int .i64 0, .int .i64 0] 28)).alloc (.cells #[.int .i64 q.kd, .int .i64 q.ra, .int .i64 q.rb, .string (str q.tx)] 42)).drew.lt; have hB2 := below_step bZR hb2; have rowP := rowZR.below hb2; have zP := zZR.below hb2 zZR.lt; have cB := True.intro)))
      | (go_at_call 25; have := cN; with_reducible refine (HL _ _ (raw_row w2 q)).mono ?_; rintro e w3 ⟨v5, rfl, hown5, hb3⟩; obtain ⟨A5, c5, rfl, hr5, hA5, hF5⟩ := own_rdK hown5; have h2k := (h1k.alloc (.cells #[.int .i64 q.kd, .int .i64 q.ra, .int .i64 q.rb, .string (str q.tx)] 42)).below hb3 (h1k.alloc (.cells #[.int .i64 q.kd, .int .i64 q.ra, .int .i64 q.rb, .string (str q.tx)] 42)).lt; have hB3 := below_step (below_step hB2 ((Below.refl _ _).alloc (Nat.le_refl _) (.cells #[.int .i64 q.kd, .int .i64 q.ra, .int .i64 q.rb, .string (str q.tx)] 42))) hb3; have sz3 := hB3.size; have sz2 := hB2.size)
      | (go_at_call 25; have := cN; with_reducible refine (HL _ _ ((raw_row w2 q).below ((Below.refl _ _).alloc (Nat.le_refl _) (.cells #[.string ⟨#[]⟩, .slice none 0 0, .int .i64 0, .int .i64 0] 28)))).mono ?_; rintro e w3 ⟨v5, rfl, hown5, hb3⟩; obtain ⟨A5, c5, rfl, hr5, hA5, hF5⟩ := own_rdK hown5; have h2k := ((h1k.alloc (.cells #[.int .i64 q.kd, .int .i64 q.ra, .int .i64 q.rb, .string (str q.tx)] 42)).alloc (.cells #[.string ⟨#[]⟩, .slice none 0 0, .int .i64 0, .int .i64 0] 28)).below hb3 ((h1k.alloc (.cells #[.int .i64 q.kd, .int .i64 q.ra, .int .i64 q.rb, .string (str q.tx)] 42)).alloc (.cells #[.string ⟨#[]⟩, .slice none 0 0, .int .i64 0, .int .i64 0] 28)).lt; have hB3 := below_step (below_step (below_step hB2 ((Below.refl _ _).alloc (Nat.le_refl _) (.cells #[.int .i64 q.kd, .int .i64 q.ra, .int .i64 q.rb, .string (str q.tx)] 42))) ((Below.refl _ _).alloc (Nat.le_refl _) (.cells #[.string ⟨#[]⟩, .slice none 0 0, .int .i64 0, .int .i64 0] 28))) hb3; have sz3 := hB3.size; have sz2 := hB2.size; have zE := (new_blk1 w2 (.cells #[.int .i64 q.kd, .int .i64 q.ra, .int .i64 q.rb, .string (str q.tx)] 42) 28 [.string ⟨#[]⟩, .slice none 0 0, .int .i64 0, .int .i64 0]).below hb3 (new_blk1 w2 (.cells #[.int .i64 q.kd, .int .i64 q.ra, .int .i64 q.rb, .string (str q.tx)] 42) 28 [.string ⟨#[]⟩, .slice none 0 0, .int .i64 0, .int .i64 0]).lt; have zl := zE.lt; have zq := (new_blk1 w2 (.cells #[.int .i64 q.kd, .int .i64 q.ra, .int .i64 q.rb, .string (str q.tx)] 42) 28 [.string ⟨#[]⟩, .slice none 0 0, .int .i64 0, .int .i64 0]).lt; have hne5 := ne_of (fun a h => (hF5 a h).1) zq; have e0 := zE.cell 0; have f0 := zE.frozen 0; have e1 := zE.cell 1; have f1 := zE.frozen 1; have e2 := zE.cell 2; have f2 := zE.frozen 2; have e3 := zE.cell 3; have f3 := zE.frozen 3; simp only [List.getElem?_cons_succ, List.getElem?_cons_zero] at e0 e1 e2 e3)
      | (go_at_call 25; have := cN; with_reducible refine (HL _ _ (raw_row1 w2 (.cells #[.string ⟨#[]⟩, .slice none 0 0, .int .i64 0, .int .i64 0] 28) q)).mono ?_; rintro e w3 ⟨v5, rfl, hown5, hb3⟩; obtain ⟨A5, c5, rfl, hr5, hA5, hF5⟩ := own_rdK hown5; have h2k := ((h1k.alloc (.cells #[.string ⟨#[]⟩, .slice none 0 0, .int .i64 0, .int .i64 0] 28)).alloc (.cells #[.int .i64 q.kd, .int .i64 q.ra, .int .i64 q.rb, .string (str q.tx)] 42)).below hb3 ((h1k.alloc (.cells #[.string ⟨#[]⟩, .slice none 0 0, .int .i64 0, .int .i64 0] 28)).alloc (.cells #[.int .i64 q.kd, .int .i64 q.ra, .int .i64 q.rb, .string (str q.tx)] 42)).lt; have hB3 := below_step (below_step (below_step hB2 ((Below.refl _ _).alloc (Nat.le_refl _) (.cells #[.string ⟨#[]⟩, .slice none 0 0, .int .i64 0, .int .i64 0] 28))) ((Below.refl _ _).alloc (Nat.le_refl _) (.cells #[.int .i64 q.kd, .int .i64 q.ra, .int .i64 q.rb, .string (str q.tx)] 42))) hb3; have sz3 := hB3.size; have sz2 := hB2.size; have zE := ((Blk.new w2 28 [.string ⟨#[]⟩, .slice none 0 0, .int .i64 0, .int .i64 0]).alloc (.cells #[.int .i64 q.kd, .int .i64 q.ra, .int .i64 q.rb, .string (str q.tx)] 42)).below hb3 ((Blk.new w2 28 [.string ⟨#[]⟩, .slice none 0 0, .int .i64 0, .int .i64 0]).alloc (.cells #[.int .i64 q.kd, .int .i64 q.ra, .int .i64 q.rb, .string (str q.tx)] 42)).lt; have zl := zE.lt; have zq := ((Blk.new w2 28 [.string ⟨#[]⟩, .slice none 0 0, .int .i64 0, .int .i64 0]).alloc (.cells #[.int .i64 q.kd, .int .i64 q.ra, .int .i64 q.rb, .string (str q.tx)] 42)).lt; have hne5 := ne_of (fun a h => (hF5 a h).1) zq; have e0 := zE.cell 0; have f0 := zE.frozen 0; have e1 := zE.cell 1; have f1 := zE.frozen 1; have e2 := zE.cell 2; have f2 := zE.frozen 2; have e3 := zE.cell 3; have f3 := zE.frozen 3; simp only [List.getElem?_cons_succ, List.getElem?_cons_zero] at e0 e1 e2 e3)
      | (go_at_call 25; have := cR; with_reducible refine (HL _ _ rowP).mono ?_; rintro e w3 ⟨v5, rfl, hown5, hb3⟩; obtain ⟨A5, c5, rfl, hr5, hA5, hF5⟩ := own_rdK hown5; have h2k := h1k.below hb3 h1k.lt; have hB3 := below_step hB2 hb3; have sz3 := hB3.size; have sz2 := hB2.size)
      | (go_at_call 25; have := cR; with_reducible refine (HL _ _ (rowP.below ((Below.refl _ _).alloc (Nat.le_refl _) (.cells #[.string ⟨#[]⟩, .slice none 0 0, .int .i64 0, .int .i64 0] 28)))).mono ?_; rintro e w3 ⟨v5, rfl, hown5, hb3⟩; obtain ⟨A5, c5, rfl, hr5, hA5, hF5⟩ := own_rdK hown5; have h2k := (h1k.alloc (.cells #[.string ⟨#[]⟩, .slice none 0 0, .int .i64 0, .int .i64 0] 28)).below hb3 (h1k.alloc (.cells #[.string ⟨#[]⟩, .slice none 0 0, .int .i64 0, .int .i64 0] 28)).lt; have hB3 := below_step (below_step hB2 ((Below.refl _ _).alloc (Nat.le_refl _) (.cells #[.string ⟨#[]⟩, .slice none 0 0, .int .i64 0, .int .i64 0] 28))) hb3; have sz3 := hB3.size; have sz2 := hB2.size; have zE := (Blk.new w2 28 [.string ⟨#[]⟩, .slice none 0 0, .int .i64 0, .int .i64 0]).below hb3 (Blk.new w2 28 [.string ⟨#[]⟩, .slice none 0 0, .int .i64 0, .int .i64 0]).lt; have zl := zE.lt; have zq := (Blk.new w2 28 [.string ⟨#[]⟩, .slice none 0 0, .int .i64 0, .int .i64 0]).lt; have hne5 := ne_of (fun a h => (hF5 a h).1) zq; have e0 := zE.cell 0; have f0 := zE.frozen 0; have e1 := zE.cell 1; have f1 := zE.frozen 1; have e2 := zE.cell 2; have f2 := zE.frozen 2; have e3 := zE.cell 3; have f3 := zE.frozen 3; simp only [List.getElem?_cons_succ, List.getElem?_cons_zero] at e0 e1 e2 e3)
      | (go_at_call 25; have := cZ; with_reducible refine (HL _ _ (raw_row w2 q)).mono ?_; rintro e w3 ⟨v5, rfl, hown5, hb3⟩; obtain ⟨A5, c5, rfl, hr5, hA5, hF5⟩ := own_rdK hown5; have h2k := (h1k.alloc (.cells #[.int .i64 q.kd, .int .i64 q.ra, .int .i64 q.rb, .string (str q.tx)] 42)).below hb3 (h1k.alloc (.cells #[.int .i64 q.kd, .int .i64 q.ra, .int .i64 q.rb, .string (str q.tx)] 42)).lt; have hB3 := below_step (below_step hB2 ((Below.refl _ _).alloc (Nat.le_refl _) (.cells #[.int .i64 q.kd, .int .i64 q.ra, .int .i64 q.rb, .string (str q.tx)] 42))) hb3; have sz3 := hB3.size; have sz2 := hB2.size; have zE := (zP.alloc (.cells #[.int .i64 q.kd, .int .i64 q.ra, .int .i64 q.rb, .string (str q.tx)] 42)).below hb3 (zP.alloc (.cells #[.int .i64 q.kd, .int .i64 q.ra, .int .i64 q.rb, .string (str q.tx)] 42)).lt; have zl := zE.lt; have zq := (zP.alloc (.cells #[.int .i64 q.kd, .int .i64 q.ra, .int .i64 q.rb, .string (str q.tx)] 42)).lt; have hne5 := ne_of (fun a h => (hF5 a h).1) zq; have e0 := zE.cell 0; have f0 := zE.frozen 0; have e1 := zE.cell 1; have f1 := zE.frozen 1; have e2 := zE.cell 2; have f2 := zE.frozen 2; have e3 := zE.cell 3; have f3 := zE.frozen 3; simp only [List.getElem?_cons_succ, List.getElem?_cons_zero] at e0 e1 e2 e3)
      | (go_at_call 25; have := cB; with_reducible refine (HL _ _ rowP).mono ?_; rintro e w3 ⟨v5, rfl, hown5, hb3⟩; obtain ⟨A5, c5, rfl, hr5, hA5, hF5⟩ := own_rdK hown5; have h2k := h1k.below hb3 h1k.lt; have hB3 := below_step hB2 hb3; have sz3 := hB3.size; have sz2 := hB2.size; have zE := zP.below hb3 zP.lt; have zl := zE.lt; have zq := zP.lt; have hne5 := ne_of (fun a h => (hF5 a h).1) zq; have e0 := zE.cell 0; have f0 := zE.frozen 0; have e1 := zE.cell 1; have f1 := zE.frozen 1; have e2 := zE.cell 2; have f2 := zE.frozen 2; have e3 := zE.cell 3; have f3 := zE.frozen 3; simp only [List.getElem?_cons_succ, List.getElem?_cons_zero] at e0 e1 e2 e3))
    all_goals
      go_wp2_with fail
      go_meet
      first
        | with_reducible exact en_new hB3 hr5 hA5
        | with_reducible exact en_put zE (by omega) hB3 hr5 hA5 hne5
  case rest =>
    obtain ⟨g6, A6, n6, c6, rfl, z6, r6, hA6, hB⟩ := hcut
    have rL := r1.below hB
    have hbB := below_step hbA hB
    clear hk1 hbk r1 hbA HL raw4
    obtain ⟨x, hx⟩ : ∃ x : En, x = ⟨keyB q.ra, listedP [q], 0, 9⟩ := ⟨_, rfl⟩
    have hxf : x.fine := by rw [hx]; exact ⟨cErr_dig _, listedP_ok _, by show (0 : Int) ≤ 0; omega, by show (0 : Int) ≤ 5; omega, by show (0 : Int) ≤ 9; omega, by show (9 : Int) ≤ 1099511627776; omega⟩
    obtain ⟨M, hM⟩ := xPut_ok (x := x) HS.out.err (by have := HS.out.len; omega) hxf
    have hL7 := HS.out.len
    have hLg : ∀ e ∈ L, e.good := fun e he => fine_good_en (HS.out.fine e he)
    have hMg : ∀ e ∈ M, e.good := fun e he => fine_good_en (hM.fine e he)
    have hM10 := (xsErr_zero.1 hM.err).1
    obtain ⟨ko, hko, hat, hst, hps⟩ := hM.own
    have hP := iput_any _ _ _ L x ⟨A6, n6, c6⟩ _ rL hLg (by rw [hx]; exact ⟨r6, hA6⟩) (fine_good_en hxf)
    rw [hM.put, hx] at hP
    have HP := Lib.hid hP
    have HC : Hid (∀ W A n c, KRd kEn W A n c M → Calls Try.prog 11 #[.slice A n c] W fun e w' => e = .returned (.int .i64 0) ∧ Below W.heap.size W w') := fun W A n c h => by
      have := icheck_any A n c M W h hMg
      rw [hM.err] at this
      exact this
    have HF : Hid (∀ W A n c d k, KRd kEn W A n c M → xAt M d = k → k < M.length → Calls Try.prog 16 #[.slice A n c, .string (str d)] W fun e w' => e = .returned (.tuple #[.int .i64 (k : Nat), .int .i64 0]) ∧ Below W.heap.size W w') := fun W A n c d k h hk hl => by
      have := ifind_any A n c M d W h
      unfold xFAt xFErr at this
      rw [hk, if_pos hl, if_pos hl] at this
      exact this
    have hkx : x.ky = keyB q.ra := by rw [hx]
    have hsx : M[ko].st = 9 := by rw [hst, hx]
    have hpx : M[ko].ps = listedP [q] := by rw [hps, hx]
    have HA := Lib.hid hM.all
    rw [hkx] at hat HA
    have HAT := Lib.hid hat
    clear hP hM hst hps hat hxf hkx HS hLg hMg
    clear hx x
    generalize keyB q.ra = K at *
    generalize listedP [q] = ps at *
    have hko2 : (ko : Int) < (M.length : Int) := by omega
    have e0 := z6.cell 0
    have e1 := z6.cell 1
    have e2 := z6.cell 2
    have e3 := z6.cell 3
    simp only [List.getElem?_cons_succ, List.getElem?_cons_zero] at e0 e1 e2 e3
    go_wp2_with fail
    with_reducible refine HP.out.mono ?_
    rintro e w3 ⟨A3, n3, c3, rfl, hN3, hb3⟩
    have r3 := hN3.rd
    obtain rfl : n3 = M.length := r3.len
    have z3 := z6.below hb3 z6.lt
    have p3 := r6.below hb3
    have rL3 := rL.below hb3
    have hbC := below_step hbB hb3
    clear hN3 z6 r6 rL hb3 hB e0 e1 e2 e3 hbB HP
    go_wp2_with fail
    with_reducible refine (indexed_ok _).mono ?_
    rintro e w4 ⟨rfl, hb4⟩
    have r4 := r3.below hb4
    have z4 := z3.below hb4 z3.lt
    have p4 := p3.below hb4
    have rL4 := rL3.below hb4
    have hbD := below_step hbC hb4
    clear r3 z3 p3 rL3 hb4 hbC
    go_wp2_with fail
    with_reducible refine (HC.out _ _ _ _ r4).mono ?_
    rintro e w5 ⟨rfl, hb5⟩
    have r5 := r4.below hb5
    have z5 := z4.below hb5 z4.lt
    have p5 := p4.below hb5
    have rL5 := rL4.below hb5
    have hbE := below_step hbD hb5
    clear r4 z4 p4 rL4 hb5 hbD
    have e0 := z5.cell 0
    simp only [List.getElem?_cons_zero] at e0
    go_wp2_with fail
    with_reducible refine (HF.out _ _ _ _ _ ko r5 HAT.out hko).mono ?_
    rintro e w6 ⟨rfl, hb6⟩
    have r6 := r5.below hb6
    have z6 := z5.below hb6 z5.lt
    have p6 := p5.below hb6
    have rL6 := rL5.below hb6
    have hbF := below_step hbE hb6
    clear r5 z5 p5 rL5 hb6 hbE e0
    obtain ⟨b, off, D, dn, dc, rfl, hc0, hc1, hc2, hc3, hrD, hDn⟩ := r6.entry hko
    rw [hsx] at hc3
    rw [hpx] at hrD
    have e1 := z6.cell 1
    simp only [List.getElem?_cons_succ, List.getElem?_cons_zero] at e1
    go_upto_region 7 with fail
    go_cut [69] from 49 to 69 (fun s69 wx => s69 = .bool false ∧ Below w6.heap.size w6 wx)
    case first =>
      go_quiet (first | (go_at_call 27; exact equalParts_quiet _ _ _ _ _ _ _ _ hrD p6 _))
      go_wp2_with fail
      go_meet
      exact ⟨rfl, below_drewN (Below.refl _ _) _⟩
    case rest =>
      obtain ⟨rfl, hb7⟩ := hcut
      have r7 := r6.below hb7
      have z7 := z6.below hb7 z6.lt
      have rL7 := rL6.below hb7
      have hbG := below_step hbF hb7
      clear r6 z6 p6 rL6 hb7 hbF hc0 hc1 hc2 hc3 hrD hDn e1 hsx hpx
      go_wp2_with fail
      go_loopw [4, 12, 13, 14, 72, 76] (fun s4 _ _ _ s72 _ wr => ∃ k : Nat, k ≤ L.length ∧ s72 = .int .i64 k ∧ s4 = .bool false ∧ Below wc.heap.size wc wr) (fun _ _ _ _ s72 _ _ => L.length - (intOf s72).toNat)
      case atStart => exact ⟨0, Nat.zero_le _, rfl, rfl, Below.refl _ _⟩
      case round =>
        obtain ⟨k, hk, rfl, rfl, hbel⟩ := hrel
        by_cases hlt : k < L.length
        · have rk := r7.below hbel
          have zk := z7.below hbel z7.lt
          have rLk := rL7.below hbel
          obtain ⟨b', off', D, dn, dc, rfl, hc0, hc1, hc2, hc3, hrD, hDn⟩ := rLk.entry hlt
          have hki : (k : Int) < (L.length : Int) := by omega
          obtain ⟨i, hi, hai, hpi, hoi⟩ := HA.out L[k] (List.getElem_mem hlt)
          have hii : (i : Int) < (M.length : Int) := by omega
          have HAI := Lib.hid hai
          generalize L[k] = y at *
          have hal := (Below.refl wr.heap.size wr).alloc (Nat.le_refl _) (.cells #[.string (str y.ky), .slice D dn dc, .int .i64 y.pn, .int .i64 y.st] 28)
          have hbk := Blk.new wr 28 [.string (str y.ky), .slice D dn dc, .int .i64 y.pn, .int .i64 y.st]
          have e0 := hbk.cell 0
          simp only [List.getElem?_cons_zero] at e0
          have hFi := HF.out _ _ _ _ y.ky i (rk.below hal) HAI.out hi
          have HFI := Lib.hid hFi
          clear hFi hai
          go_wp2_with fail
          with_reducible refine HFI.out.mono ?_
          rintro e w8 ⟨rfl, hb8⟩
          have hb9 := below_step hal hb8
          have r8 := rk.below hb9
          have z8 := zk.below hb9 zk.lt
          have k8 := hbk.below hb8 hbk.lt
          have d8 := hrD.below hb9
          have hbH := below_step hbel hb9
          obtain ⟨b2, off2, D2, dn2, dc2, hAA, ic0, ic1, ic2, ic3, id8, -⟩ := r8.entry hi
          injection hAA with hAA
          injection hAA with ha1 ha2
          subst ha1 ha2
          rw [hpi] at ic2
          have f0 := z8.cell 0
          have g0 := k8.cell 0
          have g1 := k8.cell 1
          have g2 := k8.cell 2
          have g3 := k8.cell 3
          simp only [List.getElem?_cons_succ, List.getElem?_cons_zero] at f0 g0 g1 g2 g3
          clear rk zk rLk hbel hc0 hc1 hc2 hc3 hrD hDn hal hbk e0 HFI hb8 hb9 r8 z8 k8 HAI
          by_cases hkk : y.ky = K
          · have d1 : (y.ky == K) = true := by rw [beq_iff_eq]; exact hkk
            clear hkk hoi hpi ic0 ic1 ic3 id8 d8
            generalize M[i] = v at *
            go_wp2_with fail
            go_quiet (fail)
            go_wp2
            go_roundw
            case rel => exact ⟨k + 1, by omega, by go_num, rfl, below_drewN hbH _⟩
            case measure => simp [intOf] <;> omega
          · have d1 : (y.ky == K) = false := by rw [beq_eq_false_iff_ne]; exact hkk
            rw [hoi hkk] at ic0 ic3 id8
            clear hkk hoi hpi
            go_wp2_with fail
            go_quiet (first | (go_at_call 27; exact equalParts_quiet _ _ _ _ _ _ _ _ id8 d8 _))
            go_wp2
            go_roundw
            case rel => exact ⟨k + 1, by omega, by go_num, rfl, below_drewN hbH _⟩
            case measure => simp [intOf] <;> omega
        · have hd2 : decide ((k : Int) < (L.length : Int)) = false := by rw [decide_eq_false_iff_not]; omega
          have hbZ := below_step hbG hbel
          go_wp2
          go_ret
          exact ⟨rfl, hbZ⟩
end Go.Proofs.Ytfleegidlncmjaa

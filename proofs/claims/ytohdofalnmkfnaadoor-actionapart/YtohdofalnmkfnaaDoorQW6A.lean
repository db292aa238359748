/- The law ActionApart: the walk. -/
import Derived.Test.YtohdofalnmkfnaaDoorQQk
import Derived.Test.YtohdofalnmkfnaaDoorGJ
import Derived.Test.YtohdofalnmkfnaaDoorGE
import Derived.Deep.RegionHeldLaw
import Derived.Deep.CutRange
namespace Go.Proofs.YtohdofalnmkfnaaDoor
open Go.RowKit
theorem Blk.apart {w : World} {g g' : Nat} {t t' : TypeId} {xs ys : List Value} (h : Blk w g t xs) (h' : Blk w g' t' ys) (hl : xs.length ≠ ys.length) : g ≠ g' := by
  rintro rfl
  unfold Blk at h h'
  rw [h] at h'
  injection h' with h'
  injection h' with h1 _ _
  exact hl (by rw [List.toArray_inj h1])
theorem Blk.far2 {w : World} {g g' : Nat} {t t' : TypeId} {x0 x1 x2 x3 a b : Value} (h : Blk w g t [x0, x1, x2, x3]) (h' : Blk w g' t' [a, b]) (c d : Value) :
    Blk ((w.setCell ⟨g', 0, none⟩ c).setCell ⟨g', 1, none⟩ d) g t [x0, x1, x2, x3] :=
  have hne : g ≠ g' := h.apart h' (by simp)
  (h.far (p := ⟨g', 0, none⟩) hne c).far (p := ⟨g', 1, none⟩) hne d
theorem Blk.far4 {w : World} {g g' g'' : Nat} {t t' t'' : TypeId} {x0 x1 x2 x3 a b a' b' : Value} (h : Blk w g t [x0, x1, x2, x3]) (h' : Blk w g' t' [a, b]) (h'' : Blk w g'' t'' [a', b']) (c d c' d' : Value) :
    Blk ((((w.setCell ⟨g', 0, none⟩ c).setCell ⟨g', 1, none⟩ d).setCell ⟨g'', 0, none⟩ c').setCell ⟨g'', 1, none⟩ d') g t [x0, x1, x2, x3] :=
  have hne : g ≠ g'' := h.apart h'' (by simp)
  ((h.far2 h' c d).far (p := ⟨g'', 0, none⟩) hne c').far (p := ⟨g'', 1, none⟩) hne d'
theorem rawS {W : World} {g g' : Nat} {t : TypeId} {x0 x1 x2 x3 y0 y1 y2 y3 : Value} (h : Blk W g t [x0, x1, x2, x3]) (h' : Blk W g' t [y0, y1, y2, y3]) :
    W.cell? ⟨g, 0, none⟩ = some x0 ∧ W.cell? ⟨g, 1, none⟩ = some x1 ∧ W.cell? ⟨g, 2, none⟩ = some x2 ∧ W.cell? ⟨g, 3, none⟩ = some x3 ∧ W.cell? ⟨g', 0, none⟩ = some y0 ∧ W.cell? ⟨g', 1, none⟩ = some y1 ∧ W.cell? ⟨g', 2, none⟩ = some y2 ∧ W.cell? ⟨g', 3, none⟩ = some y3 :=
  ⟨h.cell 0, h.cell 1, h.cell 2, h.cell 3, h'.cell 0, h'.cell 1, h'.cell 2, h'.cell 3⟩
/-- what stands behind the making of two actions -/
def TwoActs (w : World) (t : TypeId) (cm1 cm2 : List UInt8) (ps1 ps2 : List Prt) (s9 s10 : Value) (wx : World) : Prop :=
  ∃ g9 g10 A1 n1 c1 A2 n2 c2, s9 = .pointer (some ⟨g9, 0, none⟩) ∧ s10 = .pointer (some ⟨g10, 0, none⟩) ∧ Blk wx g9 t [.string (str cm1), .slice A1 n1 c1] ∧ Blk wx g10 t [.string (str cm2), .slice A2 n2 c2] ∧
    Rd wx 3 A1 n1 c1 (pcs ps1) ∧ Rd wx 3 A2 n2 c2 (pcs ps2) ∧ Below w.heap.size w wx
theorem Blk.new1 (w : World) (o : Obj) (t : TypeId) (xs : List Value) : Blk ((w.alloc o).alloc (.cells xs.toArray t)) (w.heap.size + 1) t xs := by
  have := Blk.new (w.alloc o) t xs
  rwa [show (w.alloc o).heap.size = w.heap.size + 1 by simp] at this
theorem Blk.farP {w : World} {g g' : Nat} {t : TypeId} {xs : List Value} (h : Blk w g t xs) (hne : g ≠ g') (c d : Value) : Blk ((w.setCell ⟨g', 0, none⟩ c).setCell ⟨g', 1, none⟩ d) g t xs :=
  (h.far (p := ⟨g', 0, none⟩) hne c).far (p := ⟨g', 1, none⟩) hne d
theorem Rd.part_far2 {w : World} {A : Option Addr} {n c : Nat} {l : List Prt} (h : Rd w 3 A n c (pcs l)) {g : Nat} {t : TypeId} {x y : Value} (hg : Blk w g t [x, y]) (a b : Value) : Rd ((w.setCell ⟨g, 0, none⟩ a).setCell ⟨g, 1, none⟩ b) 3 A n c (pcs l) :=
  (h.part_far hg 0 a).part_far (y := y) (x := a) (hg.put 0 a) 1 b
theorem Rd.alloc {w : World} {size n c : Nat} {A : Option Addr} {xs : List Value} (h : Rd w size A n c xs) (o : Obj) : Rd (w.alloc o) size A n c xs := h.below ((Below.refl _ _).alloc (Nat.le_refl _) o)
section
variable {w w2 : World} {t : TypeId} {cm1 cm2 : List UInt8} {ps1 ps2 : List Prt} {A1 A2 : Option Addr} {n1 n2 c1 c2 : Nat}
theorem two_new (hB : Below w.heap.size w w2) (h1 : Rd w2 3 A1 n1 c1 (pcs ps1)) (h2 : Rd w2 3 A2 n2 c2 (pcs ps2)) :
    TwoActs w t cm1 cm2 ps1 ps2 (.pointer (some ⟨w2.heap.size, 0, none⟩)) (.pointer (some ⟨w2.heap.size + 1, 0, none⟩)) ((w2.alloc (.cells #[.string (str cm1), .slice A1 n1 c1] t)).alloc (.cells #[.string (str cm2), .slice A2 n2 c2] t)) :=
  ⟨_, _, _, _, _, _, _, _, rfl, rfl, (Blk.new w2 t [_, _]).alloc _, Blk.new1 w2 _ t [_, _], (h1.alloc _).alloc _, (h2.alloc _).alloc _, (hB.alloc hB.size _).alloc (hB.alloc hB.size _).size _⟩
theorem two_new' (hB : Below w.heap.size w w2) (h1 : Rd w2 3 A1 n1 c1 (pcs ps1)) (h2 : Rd w2 3 A2 n2 c2 (pcs ps2)) :
    TwoActs w t cm1 cm2 ps1 ps2 (.pointer (some ⟨w2.heap.size + 1, 0, none⟩)) (.pointer (some ⟨w2.heap.size, 0, none⟩)) ((w2.alloc (.cells #[.string (str cm2), .slice A2 n2 c2] t)).alloc (.cells #[.string (str cm1), .slice A1 n1 c1] t)) :=
  ⟨_, _, _, _, _, _, _, _, rfl, rfl, Blk.new1 w2 _ t [_, _], (Blk.new w2 t [_, _]).alloc _, (h1.alloc _).alloc _, (h2.alloc _).alloc _, (hB.alloc hB.size _).alloc (hB.alloc hB.size _).size _⟩
theorem two_one {g : Nat} {x y : Value} (z : Blk w2 g t [x, y]) (hg : w.heap.size ≤ g) (hB : Below w.heap.size w w2) (h1 : Rd w2 3 A1 n1 c1 (pcs ps1)) (h2 : Rd w2 3 A2 n2 c2 (pcs ps2)) :
    TwoActs w t cm1 cm2 ps1 ps2 (.pointer (some ⟨g, 0, none⟩)) (.pointer (some ⟨w2.heap.size, 0, none⟩)) (((w2.setCell ⟨g, 0, none⟩ (.string (str cm1))).setCell ⟨g, 1, none⟩ (.slice A1 n1 c1)).alloc (.cells #[.string (str cm2), .slice A2 n2 c2] t)) := by
  have hs : ((w2.setCell ⟨g, 0, none⟩ (.string (str cm1))).setCell ⟨g, 1, none⟩ (.slice A1 n1 c1)).heap.size = w2.heap.size := by simp
  have hz := Blk.new ((w2.setCell ⟨g, 0, none⟩ (.string (str cm1))).setCell ⟨g, 1, none⟩ (.slice A1 n1 c1)) t [.string (str cm2), .slice A2 n2 c2]
  rw [hs] at hz
  have hb := below_set2 (i := 0) (j := 1) hB hg (.string (str cm1)) (.slice A1 n1 c1)
  exact ⟨_, _, _, _, _, _, _, _, rfl, rfl, (z.put2 _ _).alloc _, hz, (h1.part_far2 z _ _).alloc _, (h2.part_far2 z _ _).alloc _, hb.alloc hb.size _⟩
theorem two_one' {g : Nat} {x y : Value} (z : Blk w2 g t [x, y]) (hg : w.heap.size ≤ g) (hB : Below w.heap.size w w2) (h1 : Rd w2 3 A1 n1 c1 (pcs ps1)) (h2 : Rd w2 3 A2 n2 c2 (pcs ps2)) :
    TwoActs w t cm1 cm2 ps1 ps2 (.pointer (some ⟨w2.heap.size, 0, none⟩)) (.pointer (some ⟨g, 0, none⟩)) (((w2.setCell ⟨g, 0, none⟩ (.string (str cm2))).setCell ⟨g, 1, none⟩ (.slice A2 n2 c2)).alloc (.cells #[.string (str cm1), .slice A1 n1 c1] t)) := by
  have hs : ((w2.setCell ⟨g, 0, none⟩ (.string (str cm2))).setCell ⟨g, 1, none⟩ (.slice A2 n2 c2)).heap.size = w2.heap.size := by simp
  have hz := Blk.new ((w2.setCell ⟨g, 0, none⟩ (.string (str cm2))).setCell ⟨g, 1, none⟩ (.slice A2 n2 c2)) t [.string (str cm1), .slice A1 n1 c1]
  rw [hs] at hz
  have hb := below_set2 (i := 0) (j := 1) hB hg (.string (str cm2)) (.slice A2 n2 c2)
  exact ⟨_, _, _, _, _, _, _, _, rfl, rfl, hz, (z.put2 _ _).alloc _, (h1.part_far2 z _ _).alloc _, (h2.part_far2 z _ _).alloc _, hb.alloc hb.size _⟩
theorem two_two {g g' : Nat} {x y x' y' : Value} (z : Blk w2 g t [x, y]) (z' : Blk w2 g' t [x', y']) (hne : g ≠ g') (hg : w.heap.size ≤ g) (hg' : w.heap.size ≤ g') (hB : Below w.heap.size w w2) (h1 : Rd w2 3 A1 n1 c1 (pcs ps1)) (h2 : Rd w2 3 A2 n2 c2 (pcs ps2)) :
    TwoActs w t cm1 cm2 ps1 ps2 (.pointer (some ⟨g, 0, none⟩)) (.pointer (some ⟨g', 0, none⟩)) ((((w2.setCell ⟨g, 0, none⟩ (.string (str cm1))).setCell ⟨g, 1, none⟩ (.slice A1 n1 c1)).setCell ⟨g', 0, none⟩ (.string (str cm2))).setCell ⟨g', 1, none⟩ (.slice A2 n2 c2)) := by
  have hz := z.put2 (.string (str cm1)) (.slice A1 n1 c1)
  have hz' := z'.farP (Ne.symm hne) (.string (str cm1)) (.slice A1 n1 c1)
  have hb := below_set2 (i := 0) (j := 1) hB hg (.string (str cm1)) (.slice A1 n1 c1)
  exact ⟨_, _, _, _, _, _, _, _, rfl, rfl, hz.farP hne _ _, hz'.put2 _ _, (h1.part_far2 z _ _).part_far2 hz' _ _, (h2.part_far2 z _ _).part_far2 hz' _ _, below_set2 hb hg' _ _⟩
end
set_option maxRecDepth 100000 in
set_option maxHeartbeats 8000000 in
theorem actionApart_walk (q s : Rw) (A B : Option Addr) (n n' c c' : Nat) (l l' : List Rw) (w : World) (hK : Kon w) (hq : (Lit.int .i64 q.ra).wf = true) (hs : (Lit.int .i64 s.ra).wf = true) (hr : Rd w 4 A n c (rcs l)) (hr' : Rd w 4 B n' c' (rcs l')) (hg : ∀ p ∈ l, p.good) (hg' : ∀ p ∈ l', p.good) (hn : n ≤ 4294967296000) (hn' : n' ≤ 4294967296000) :
    Calls Tryd.prog 4 #[.agg #[.int .i64 q.kd, .int .i64 q.ra, .int .i64 q.rb, .string (str q.tx)], .agg #[.int .i64 s.kd, .int .i64 s.ra, .int .i64 s.rb, .string (str s.tx)], .slice A n c, .slice B n' c'] w fun e w' => e = .returned (.bool true) ∧ Below w.heap.size w w' := by
  have HG := Lib.hid hg
  have HG' := Lib.hid hg'
  have HQ := Lib.hid hq
  have HQ' := Lib.hid hs
  obtain ⟨ps1, hps1⟩ : ∃ ps, listedP l = ps := ⟨_, rfl⟩
  obtain ⟨ps2, hps2⟩ : ∃ ps, listedP l' = ps := ⟨_, rfl⟩
  obtain ⟨cm1, hcm1⟩ : ∃ cm, cmd q.ra = cm := ⟨_, rfl⟩
  obtain ⟨cm2, hcm2⟩ : ∃ cm, cmd s.ra = cm := ⟨_, rfl⟩
  have HK1 := fun w hr => kaction_any q A n c l w HQ.out hr HG.out hn
  have HK2 := fun w hr => kaction_any s B n' c' l' w HQ'.out hr HG'.out hn'
  rw [hps1, hcm1] at HK1
  rw [hps2, hcm2] at HK2
  have ha1 : aErr cm1 ps1 = 0 := aErr_of (by rw [← hcm1]; exact cmd_err _) (by rw [← hps1]; exact listedP_ok l)
  have ha2 : aErr cm2 ps2 = 0 := aErr_of (by rw [← hcm2]; exact cmd_err _) (by rw [← hps2]; exact listedP_ok l')
  have HA1 := Lib.hid ha1
  have HA2 := Lib.hid ha2
  have hx1 : ∀ p ∈ ps1, p.good := by rw [← hps1]; exact listedP_good l
  have hx2 : ∀ p ∈ ps2, p.good := by rw [← hps2]; exact listedP_good l'
  have HX1 := Lib.hid hx1
  have HX2 := Lib.hid hx2
  generalize q.kd = kd at *
  generalize q.ra = ra at *
  generalize q.rb = rb at *
  generalize q.tx = tx at *
  generalize s.kd = kd' at *
  generalize s.ra = ra' at *
  generalize s.rb = rb' at *
  generalize s.tx = tx' at *
  have hal := ((Below.refl w.heap.size w).alloc (Nat.le_refl _) (.cells #[.int .i64 kd, .int .i64 ra, .int .i64 rb, .string (str tx)] 30)).alloc (by simp) (.cells #[.int .i64 kd', .int .i64 ra', .int .i64 rb', .string (str tx')] 30)
  have hbk := (Blk.new w 30 [.int .i64 kd, .int .i64 ra, .int .i64 rb, .string (str tx)]).alloc (.cells #[.int .i64 kd', .int .i64 ra', .int .i64 rb', .string (str tx')] 30)
  have hbk' := Blk.new (w.alloc (.cells #[.int .i64 kd, .int .i64 ra, .int .i64 rb, .string (str tx)] 30)) 30 [.int .i64 kd', .int .i64 ra', .int .i64 rb', .string (str tx')]
  have hs1 : (w.alloc (.cells #[.int .i64 kd, .int .i64 ra, .int .i64 rb, .string (str tx)] 30)).heap.size = w.heap.size + 1 := by simp
  rw [hs1] at hbk'
  clear hg hg' hq hs hps1 hps2 hcm1 hcm2 ha1 ha2 hx1 hx2 hs1 HQ HQ' HG HG' hn hn'
  go_enter Tryd.func4, Tryd.ntmps4
  go_upto_region 1 with fail
  generalize (w.alloc (.cells [Value.int .i64 kd, .int .i64 ra, .int .i64 rb, .string (str tx)].toArray 30)).alloc (.cells [Value.int .i64 kd', .int .i64 ra', .int .i64 rb', .string (str tx')].toArray 30) = u at *
  go_cut [9, 10] from 20 to 25 (fun s9 s10 wx => TwoActs w 24 cm1 cm2 ps1 ps2 s9 s10 wx)
  case first =>
    have bU0 := hal.drew
    have bU1 := (hal.alloc hal.size (.cells #[.string ⟨#[]⟩, .slice none 0 0] 24)).drew
    have bU2 := ((hal.alloc hal.size (.cells #[.string ⟨#[]⟩, .slice none 0 0] 24)).alloc (hal.alloc hal.size (.cells #[.string ⟨#[]⟩, .slice none 0 0] 24)).size (.cells #[.string ⟨#[]⟩, .slice none 0 0] 24)).drew
    have rA0 := hr.below bU0
    have rA1 := hr.below bU1
    have rA2 := hr.below bU2
    have rB0 := hr'.below bU0
    have rB1 := hr'.below bU1
    have rB2 := hr'.below bU2
    have p0U1 := (Blk.new u 24 [.string ⟨#[]⟩, .slice none 0 0]).drew
    have p0U2 := ((Blk.new u 24 [.string ⟨#[]⟩, .slice none 0 0]).alloc (.cells #[.string ⟨#[]⟩, .slice none 0 0] 24)).drew
    have p1U2 := (Blk.new (u.alloc (.cells #[.string ⟨#[]⟩, .slice none 0 0] 24)) 24 [.string ⟨#[]⟩, .slice none 0 0]).drew
    rw [show (u.alloc (.cells #[.string ⟨#[]⟩, .slice none 0 0] 24)).heap.size = u.heap.size + 1 by simp] at p1U2
    go_region_held_law (fun W => W.cell? ⟨w.heap.size, 0, none⟩ = some (.int .i64 kd) ∧ W.cell? ⟨w.heap.size, 1, none⟩ = some (.int .i64 ra) ∧ W.cell? ⟨w.heap.size, 2, none⟩ = some (.int .i64 rb) ∧ W.cell? ⟨w.heap.size, 3, none⟩ = some (.string (str tx)) ∧ W.cell? ⟨w.heap.size + 1, 0, none⟩ = some (.int .i64 kd') ∧ W.cell? ⟨w.heap.size + 1, 1, none⟩ = some (.int .i64 ra') ∧ W.cell? ⟨w.heap.size + 1, 2, none⟩ = some (.int .i64 rb') ∧ W.cell? ⟨w.heap.size + 1, 3, none⟩ = some (.string (str tx'))) (first | with_reducible exact rawS hbk.drew hbk'.drew | with_reducible exact rawS (hbk.alloc _).drew (hbk'.alloc _).drew | with_reducible exact rawS ((hbk.alloc _).alloc _).drew ((hbk'.alloc _).alloc _).drew | with_reducible exact rawS h1k h1k' | with_reducible exact rawS (h1k.alloc _) (h1k'.alloc _) | with_reducible exact rawS ((h1k.alloc _).alloc _) ((h1k'.alloc _).alloc _) | with_reducible exact rawS h2k h2k' | with_reducible exact rawS (h2k.alloc _) (h2k'.alloc _) | with_reducible exact rawS ((h2k.alloc _).alloc _) ((h2k'.alloc _).alloc _) | with_reducible exact rawS (h2k.far2 z0 _ _) (h2k'.far2 z0 _ _) | with_reducible exact rawS ((h2k.far2 z0 _ _).alloc _) ((h2k'.far2 z0 _ _).alloc _) | with_reducible exact rawS (h2k.far2 z1 _ _) (h2k'.far2 z1 _ _) | with_reducible exact rawS ((h2k.far2 z1 _ _).alloc _) ((h2k'.far2 z1 _ _).alloc _) | with_reducible exact rawS (h2k.far4 z0 z1 _ _ _ _) (h2k'.far4 z0 z1 _ _ _ _) | with_reducible exact rawS (h2k.far4 z1 z0 _ _ _ _) (h2k'.far4 z1 z0 _ _ _ _) | go_keep)
     (first
      | (go_at_call 8; with_reducible refine (HK1 _ rA0).mono ?_; rintro e w1 ⟨A1, n1, c1, rfl, hr1, hA1, hb1⟩; have hB1 := below_step bU0 hb1; have h1k := hbk.drew.below hb1 hbk.drew.lt; have h1k' := hbk'.drew.below hb1 hbk'.drew.lt; have rB1 := rB0.below hb1; have bV1 := hB1.alloc hB1.size (.cells #[.string ⟨#[]⟩, .slice none 0 0] 24); have bV2 := bV1.alloc bV1.size (.cells #[.string ⟨#[]⟩, .slice none 0 0] 24); have rBV1 := rB1.below ((Below.refl _ _).alloc (Nat.le_refl _) (.cells #[.string ⟨#[]⟩, .slice none 0 0] 24)); have rBV2 := rBV1.below ((Below.refl _ _).alloc (Nat.le_refl _) (.cells #[.string ⟨#[]⟩, .slice none 0 0] 24)); have na0 := True.intro)
      | (go_at_call 8; with_reducible refine (HK1 _ rA1).mono ?_; rintro e w1 ⟨A1, n1, c1, rfl, hr1, hA1, hb1⟩; have hB1 := below_step bU1 hb1; have h1k := (hbk.alloc (.cells #[.string ⟨#[]⟩, .slice none 0 0] 24)).drew.below hb1 (hbk.alloc (.cells #[.string ⟨#[]⟩, .slice none 0 0] 24)).drew.lt; have h1k' := (hbk'.alloc (.cells #[.string ⟨#[]⟩, .slice none 0 0] 24)).drew.below hb1 (hbk'.alloc (.cells #[.string ⟨#[]⟩, .slice none 0 0] 24)).drew.lt; have rB1 := rB1.below hb1; have p0A := p0U1.below hb1 p0U1.lt; have bV1 := hB1.alloc hB1.size (.cells #[.string ⟨#[]⟩, .slice none 0 0] 24); have bV2 := bV1.alloc bV1.size (.cells #[.string ⟨#[]⟩, .slice none 0 0] 24); have rBV1 := rB1.below ((Below.refl _ _).alloc (Nat.le_refl _) (.cells #[.string ⟨#[]⟩, .slice none 0 0] 24)); have rBV2 := rBV1.below ((Below.refl _ _).alloc (Nat.le_refl _) (.cells #[.string ⟨#[]⟩, .slice none 0 0] 24)); have na1 := True.intro)
      | (go_at_call 8; with_reducible refine (HK1 _ rA2).mono ?_; rintro e w1 ⟨A1, n1, c1, rfl, hr1, hA1, hb1⟩; have hB1 := below_step bU2 hb1; have h1k := ((hbk.alloc (.cells #[.string ⟨#[]⟩, .slice none 0 0] 24)).alloc (.cells #[.string ⟨#[]⟩, .slice none 0 0] 24)).drew.below hb1 ((hbk.alloc (.cells #[.string ⟨#[]⟩, .slice none 0 0] 24)).alloc (.cells #[.string ⟨#[]⟩, .slice none 0 0] 24)).drew.lt; have h1k' := ((hbk'.alloc (.cells #[.string ⟨#[]⟩, .slice none 0 0] 24)).alloc (.cells #[.string ⟨#[]⟩, .slice none 0 0] 24)).drew.below hb1 ((hbk'.alloc (.cells #[.string ⟨#[]⟩, .slice none 0 0] 24)).alloc (.cells #[.string ⟨#[]⟩, .slice none 0 0] 24)).drew.lt; have rB1 := rB2.below hb1; have p0A := p0U2.below hb1 p0U2.lt; have p1A := p1U2.below hb1 p1U2.lt; have bV1 := hB1.alloc hB1.size (.cells #[.string ⟨#[]⟩, .slice none 0 0] 24); have bV2 := bV1.alloc bV1.size (.cells #[.string ⟨#[]⟩, .slice none 0 0] 24); have rBV1 := rB1.below ((Below.refl _ _).alloc (Nat.le_refl _) (.cells #[.string ⟨#[]⟩, .slice none 0 0] 24)); have rBV2 := rBV1.below ((Below.refl _ _).alloc (Nat.le_refl _) (.cells #[.string ⟨#[]⟩, .slice none 0 0] 24)); have na2 := True.intro)
      | (go_at_call 8; have := na0; with_reducible refine (HK2 _ rB1).mono ?_; rintro e w2 ⟨A2, n2, c2, rfl, hr2, hA2, hb2⟩; have hB2 := below_step hB1 hb2; have h2k := h1k.below hb2 h1k.lt; have h2k' := h1k'.below hb2 h1k'.lt; have hr1' := hr1.below hb2)
      | (go_at_call 8; have := na0; with_reducible refine (HK2 _ rBV1).mono ?_; rintro e w2 ⟨A2, n2, c2, rfl, hr2, hA2, hb2⟩; have hB2 := below_step bV1 hb2; have h2k := (h1k.alloc (.cells #[.string ⟨#[]⟩, .slice none 0 0] 24)).below hb2 (h1k.alloc (.cells #[.string ⟨#[]⟩, .slice none 0 0] 24)).lt; have h2k' := (h1k'.alloc (.cells #[.string ⟨#[]⟩, .slice none 0 0] 24)).below hb2 (h1k'.alloc (.cells #[.string ⟨#[]⟩, .slice none 0 0] 24)).lt; have hr1' := (hr1.below ((Below.refl _ _).alloc (Nat.le_refl _) (.cells #[.string ⟨#[]⟩, .slice none 0 0] 24))).below hb2; have z0 := (Blk.new w1 24 [.string ⟨#[]⟩, .slice none 0 0]).below hb2 (Blk.new w1 24 [.string ⟨#[]⟩, .slice none 0 0]).lt; have e00 := z0.cell 0; have f00 := z0.frozen 0; have e00' := (z0.alloc (.cells #[.string ⟨#[]⟩, .slice none 0 0] 24)).cell 0; have f00' := (z0.alloc (.cells #[.string ⟨#[]⟩, .slice none 0 0] 24)).frozen 0; have e01 := z0.cell 1; have f01 := z0.frozen 1; have e01' := (z0.alloc (.cells #[.string ⟨#[]⟩, .slice none 0 0] 24)).cell 1; have f01' := (z0.alloc (.cells #[.string ⟨#[]⟩, .slice none 0 0] 24)).frozen 1; simp only [List.getElem?_cons_succ, List.getElem?_cons_zero] at e00 e01 e00' e01'; have l0 := z0.lt)
      | (go_at_call 8; have := na0; with_reducible refine (HK2 _ rBV2).mono ?_; rintro e w2 ⟨A2, n2, c2, rfl, hr2, hA2, hb2⟩; have hB2 := below_step bV2 hb2; have h2k := ((h1k.alloc (.cells #[.string ⟨#[]⟩, .slice none 0 0] 24)).alloc (.cells #[.string ⟨#[]⟩, .slice none 0 0] 24)).below hb2 ((h1k.alloc (.cells #[.string ⟨#[]⟩, .slice none 0 0] 24)).alloc (.cells #[.string ⟨#[]⟩, .slice none 0 0] 24)).lt; have h2k' := ((h1k'.alloc (.cells #[.string ⟨#[]⟩, .slice none 0 0] 24)).alloc (.cells #[.string ⟨#[]⟩, .slice none 0 0] 24)).below hb2 ((h1k'.alloc (.cells #[.string ⟨#[]⟩, .slice none 0 0] 24)).alloc (.cells #[.string ⟨#[]⟩, .slice none 0 0] 24)).lt; have hr1' := ((hr1.below ((Below.refl _ _).alloc (Nat.le_refl _) (.cells #[.string ⟨#[]⟩, .slice none 0 0] 24))).below ((Below.refl _ _).alloc (Nat.le_refl _) (.cells #[.string ⟨#[]⟩, .slice none 0 0] 24))).below hb2; have z0 := ((Blk.new w1 24 [.string ⟨#[]⟩, .slice none 0 0]).alloc (.cells #[.string ⟨#[]⟩, .slice none 0 0] 24)).below hb2 ((Blk.new w1 24 [.string ⟨#[]⟩, .slice none 0 0]).alloc (.cells #[.string ⟨#[]⟩, .slice none 0 0] 24)).lt; have z1 := (Blk.new (w1.alloc (.cells #[.string ⟨#[]⟩, .slice none 0 0] 24)) 24 [.string ⟨#[]⟩, .slice none 0 0]).below hb2 (Blk.new (w1.alloc (.cells #[.string ⟨#[]⟩, .slice none 0 0] 24)) 24 [.string ⟨#[]⟩, .slice none 0 0]).lt; rw [show (w1.alloc (.cells #[.string ⟨#[]⟩, .slice none 0 0] 24)).heap.size = w1.heap.size + 1 by simp] at z1; have e00 := z0.cell 0; have f00 := z0.frozen 0; have e00' := (z0.alloc (.cells #[.string ⟨#[]⟩, .slice none 0 0] 24)).cell 0; have f00' := (z0.alloc (.cells #[.string ⟨#[]⟩, .slice none 0 0] 24)).frozen 0; have e01 := z0.cell 1; have f01 := z0.frozen 1; have e01' := (z0.alloc (.cells #[.string ⟨#[]⟩, .slice none 0 0] 24)).cell 1; have f01' := (z0.alloc (.cells #[.string ⟨#[]⟩, .slice none 0 0] 24)).frozen 1; simp only [List.getElem?_cons_succ, List.getElem?_cons_zero] at e00 e01 e00' e01'; have l0 := z0.lt; have e10 := z1.cell 0; have f10 := z1.frozen 0; have e10' := (z1.alloc (.cells #[.string ⟨#[]⟩, .slice none 0 0] 24)).cell 0; have f10' := (z1.alloc (.cells #[.string ⟨#[]⟩, .slice none 0 0] 24)).frozen 0; have e11 := z1.cell 1; have f11 := z1.frozen 1; have e11' := (z1.alloc (.cells #[.string ⟨#[]⟩, .slice none 0 0] 24)).cell 1; have f11' := (z1.alloc (.cells #[.string ⟨#[]⟩, .slice none 0 0] 24)).frozen 1; simp only [List.getElem?_cons_succ, List.getElem?_cons_zero] at e10 e11 e10' e11'; have l1 := z1.lt)
      | (go_at_call 8; have := na1; with_reducible refine (HK2 _ rB1).mono ?_; rintro e w2 ⟨A2, n2, c2, rfl, hr2, hA2, hb2⟩; have hB2 := below_step hB1 hb2; have h2k := h1k.below hb2 h1k.lt; have h2k' := h1k'.below hb2 h1k'.lt; have hr1' := hr1.below hb2; have z0 := p0A.below hb2 p0A.lt; have e00 := z0.cell 0; have f00 := z0.frozen 0; have e00' := (z0.alloc (.cells #[.string ⟨#[]⟩, .slice none 0 0] 24)).cell 0; have f00' := (z0.alloc (.cells #[.string ⟨#[]⟩, .slice none 0 0] 24)).frozen 0; have e01 := z0.cell 1; have f01 := z0.frozen 1; have e01' := (z0.alloc (.cells #[.string ⟨#[]⟩, .slice none 0 0] 24)).cell 1; have f01' := (z0.alloc (.cells #[.string ⟨#[]⟩, .slice none 0 0] 24)).frozen 1; simp only [List.getElem?_cons_succ, List.getElem?_cons_zero] at e00 e01 e00' e01'; have l0 := z0.lt)
      | (go_at_call 8; have := na1; with_reducible refine (HK2 _ rBV1).mono ?_; rintro e w2 ⟨A2, n2, c2, rfl, hr2, hA2, hb2⟩; have hB2 := below_step bV1 hb2; have h2k := (h1k.alloc (.cells #[.string ⟨#[]⟩, .slice none 0 0] 24)).below hb2 (h1k.alloc (.cells #[.string ⟨#[]⟩, .slice none 0 0] 24)).lt; have h2k' := (h1k'.alloc (.cells #[.string ⟨#[]⟩, .slice none 0 0] 24)).below hb2 (h1k'.alloc (.cells #[.string ⟨#[]⟩, .slice none 0 0] 24)).lt; have hr1' := (hr1.below ((Below.refl _ _).alloc (Nat.le_refl _) (.cells #[.string ⟨#[]⟩, .slice none 0 0] 24))).below hb2; have z0 := (p0A.alloc (.cells #[.string ⟨#[]⟩, .slice none 0 0] 24)).below hb2 (p0A.alloc (.cells #[.string ⟨#[]⟩, .slice none 0 0] 24)).lt; have z1 := (Blk.new w1 24 [.string ⟨#[]⟩, .slice none 0 0]).below hb2 (Blk.new w1 24 [.string ⟨#[]⟩, .slice none 0 0]).lt; have e00 := z0.cell 0; have f00 := z0.frozen 0; have e00' := (z0.alloc (.cells #[.string ⟨#[]⟩, .slice none 0 0] 24)).cell 0; have f00' := (z0.alloc (.cells #[.string ⟨#[]⟩, .slice none 0 0] 24)).frozen 0; have e01 := z0.cell 1; have f01 := z0.frozen 1; have e01' := (z0.alloc (.cells #[.string ⟨#[]⟩, .slice none 0 0] 24)).cell 1; have f01' := (z0.alloc (.cells #[.string ⟨#[]⟩, .slice none 0 0] 24)).frozen 1; simp only [List.getElem?_cons_succ, List.getElem?_cons_zero] at e00 e01 e00' e01'; have l0 := z0.lt; have e10 := z1.cell 0; have f10 := z1.frozen 0; have e10' := (z1.alloc (.cells #[.string ⟨#[]⟩, .slice none 0 0] 24)).cell 0; have f10' := (z1.alloc (.cells #[.string ⟨#[]⟩, .slice none 0 0] 24)).frozen 0; have e11 := z1.cell 1; have f11 := z1.frozen 1; have e11' := (z1.alloc (.cells #[.string ⟨#[]⟩, .slice none 0 0] 24)).cell 1; have f11' := (z1.alloc (.cells #[.string ⟨#[]⟩, .slice none 0 0] 24)).frozen 1; simp only [List.getElem?_cons_succ, List.getElem?_cons_zero] at e10 e11 e10' e11'; have l1 := z1.lt; have hx : ¬ u.heap.size = w1.heap.size := (by have := p0A.lt; omega); have hx' : ¬ w1.heap.size = u.heap.size := (by have := p0A.lt; omega))
      | (go_at_call 8; have := na2; with_reducible refine (HK2 _ rB1).mono ?_; rintro e w2 ⟨A2, n2, c2, rfl, hr2, hA2, hb2⟩; have hB2 := below_step hB1 hb2; have h2k := h1k.below hb2 h1k.lt; have h2k' := h1k'.below hb2 h1k'.lt; have hr1' := hr1.below hb2; have z0 := p0A.below hb2 p0A.lt; have z1 := p1A.below hb2 p1A.lt; have e00 := z0.cell 0; have f00 := z0.frozen 0; have e00' := (z0.alloc (.cells #[.string ⟨#[]⟩, .slice none 0 0] 24)).cell 0; have f00' := (z0.alloc (.cells #[.string ⟨#[]⟩, .slice none 0 0] 24)).frozen 0; have e01 := z0.cell 1; have f01 := z0.frozen 1; have e01' := (z0.alloc (.cells #[.string ⟨#[]⟩, .slice none 0 0] 24)).cell 1; have f01' := (z0.alloc (.cells #[.string ⟨#[]⟩, .slice none 0 0] 24)).frozen 1; simp only [List.getElem?_cons_succ, List.getElem?_cons_zero] at e00 e01 e00' e01'; have l0 := z0.lt; have e10 := z1.cell 0; have f10 := z1.frozen 0; have e10' := (z1.alloc (.cells #[.string ⟨#[]⟩, .slice none 0 0] 24)).cell 0; have f10' := (z1.alloc (.cells #[.string ⟨#[]⟩, .slice none 0 0] 24)).frozen 0; have e11 := z1.cell 1; have f11 := z1.frozen 1; have e11' := (z1.alloc (.cells #[.string ⟨#[]⟩, .slice none 0 0] 24)).cell 1; have f11' := (z1.alloc (.cells #[.string ⟨#[]⟩, .slice none 0 0] 24)).frozen 1; simp only [List.getElem?_cons_succ, List.getElem?_cons_zero] at e10 e11 e10' e11'; have l1 := z1.lt))
    all_goals
      go_wp2_with fail
      go_meet
      first
        | with_reducible exact two_new hB2 hr1' hr2
        | with_reducible exact two_new' hB2 hr1' hr2
        | with_reducible exact two_one z0 (by have := hal.size; have := hB1.size; omega) hB2 hr1' hr2
        | with_reducible exact two_one' z0 (by have := hal.size; have := hB1.size; omega) hB2 hr1' hr2
        | with_reducible exact two_two z0 z1 (by omega) (by have := hal.size; have := hB1.size; omega) (by have := hal.size; have := hB1.size; omega) hB2 hr1' hr2
        | with_reducible exact two_two z1 z0 (by omega) (by have := hal.size; have := hB1.size; omega) (by have := hal.size; have := hB1.size; omega) hB2 hr1' hr2
  case rest =>
    obtain ⟨g9, g10, A1, n1, c1, A2, n2, c2, rfl, rfl, z9, z10, r1, r2, hB⟩ := hcut
    obtain ⟨B1, hB1⟩ : ∃ B1, aB cm1 ps1 = B1 := ⟨_, rfl⟩
    obtain ⟨B2, hB2⟩ : ∃ B2, aB cm2 ps2 = B2 := ⟨_, rfl⟩
    have HB1 := Lib.hid hB1
    have HB2 := Lib.hid hB2
    have hlen := aB_length HA1.out
    rw [hB1] at hlen
    clear hal hbk hbk' hr hr' HK1 HK2 hB1 hB2
    have hKc := hK.below hB
    have e0 := z9.cell 0
    have e1 := z9.cell 1
    simp only [List.getElem?_cons_succ, List.getElem?_cons_zero] at e0 e1
    go_wp2_with fail
    with_reducible refine (aencode_ok _ _ _ _ _ _ r1 HX1.out HA1.out B1 HB1.out).mono ?_
    rintro e w3 ⟨A3, n3, c3, rfl, hr3, hb3⟩
    have z9a := z9.below hb3 z9.lt
    have z10a := z10.below hb3 z10.lt
    have bA := below_step hB hb3
    have r1a := r1.below hb3
    have r2a := r2.below hb3
    clear e0 e1 z9 z10 hB hb3 r1 r2
    have e0 := z10a.cell 0
    have e1 := z10a.cell 1
    simp only [List.getElem?_cons_succ, List.getElem?_cons_zero] at e0 e1
    go_wp2_with fail
    with_reducible refine (aencode_ok _ _ _ _ _ _ r2a HX2.out HA2.out B2 HB2.out).mono ?_
    rintro e w4 ⟨A4, n4, c4, rfl, hr4, hb4⟩
    have z9b := z9a.below hb4 z9a.lt
    have z10b := z10a.below hb4 z10a.lt
    have bB := below_step bA hb4
    have r1b := r1a.below hb4
    have r2b := r2a.below hb4
    have hr3b := hr3.below hb4
    clear e0 e1 z9a z10a bA hb4 r1a r2a hr3
    have e0 := z9b.cell 0
    have e1 := z9b.cell 1
    simp only [List.getElem?_cons_succ, List.getElem?_cons_zero] at e0 e1
    go_wp2_with fail
    with_reducible refine (akey_yes _ _ _ _ _ _ (hK.below bB) r1b HX1.out HA1.out B1 HB1.out).mono ?_
    rintro e w5 ⟨rfl, hb5⟩
    have z9c := z9b.below hb5 z9b.lt
    have z10c := z10b.below hb5 z10b.lt
    have bC := below_step bB hb5
    have r1c := r1b.below hb5
    have r2c := r2b.below hb5
    have hr3c := hr3b.below hb5
    have hr4c := hr4.below hb5
    clear e0 e1 z9b z10b bB hb5 r1b r2b hr3b hr4
    have e0 := z9c.cell 0
    have e1 := z9c.cell 1
    have d0 := z10c.cell 0
    have d1 := z10c.cell 1
    simp only [List.getElem?_cons_succ, List.getElem?_cons_zero] at e0 e1 d0 d1
    by_cases hc : cm1 = cm2
    · have q1 : (cm1 == cm2) = true := by rw [beq_iff_eq]; exact hc
      by_cases hp : ps1 = ps2
      · have hBB : B1 = B2 := by rw [← HB1.out, ← HB2.out, hc, hp]
        subst hBB
        have HP := Lib.hid hp
        have q2 : (B1 == B1) = true := by simp
        have q3 : (dig B1 == dig B1) = true := by simp
        clear hc hp
        go_wp2_with fail
        refine ((equalParts_any _ _ _ _ _ _ _ _ _ r1c r2c).mono fun _ _ h => h.yes HP.out).mono ?_
        rintro e w6 ⟨rfl, hb6⟩
        have z10d := z10c.below hb6 z10c.lt
        have bD := below_step bC hb6
        have r2d := r2c.below hb6
        have hr3d := hr3c.below hb6
        have hr4d := hr4c.below hb6
        clear e0 e1 d0 d1 z9c z10c bC hb6 r1c r2c hr3c hr4c
        have e0 := z10d.cell 0
        have e1 := z10d.cell 1
        simp only [List.getElem?_cons_succ, List.getElem?_cons_zero] at e0 e1
        go_wp2_with fail
        with_reducible refine (akey_yes _ _ _ _ _ _ (hK.below bD) r2d HX2.out HA2.out B1 HB2.out).mono ?_
        rintro e w7 ⟨rfl, hb7⟩
        have bE := below_step bD hb7
        have hr3e := hr3d.below hb7
        have hr4e := hr4d.below hb7
        have k1 := run_bytes_str (P := Tryd.prog) Tryd.underlying33 Tryd.underlying5 Tryd.underlying9 hr3e.as
        have k2 := run_bytes_str (P := Tryd.prog) Tryd.underlying33 Tryd.underlying5 Tryd.underlying9 hr4e.as
        have hn3 := hr3e.len
        have hn4 := hr4e.len
        rw [← hn3] at k1
        rw [← hn4] at k2
        have hn3' : n3 ≤ 600 := by omega
        clear e0 e1 z10d bD hb7 r2d hr3d hr4d hn3 hn4
        go_wp2_with fail
        with_reducible refine (digest_ok _ _ _ _ _ hr3e (by omega)).mono ?_
        rintro e w8 ⟨rfl, hb8⟩
        go_wp2
        go_ret
        exact ⟨rfl, below_step bE hb8⟩
      · have q2 : (B1 == B2) = false := by
          rw [beq_eq_false_iff_ne]
          intro hh
          exact hp (aB_inj HA1.out HA2.out (by rw [HB1.out, HB2.out]; exact hh)).2
        have HP := Lib.hid hp
        have q3 : (dig B1 == dig B1) = true := by simp
        clear hc hp
        go_wp2_with fail
        refine ((equalParts_any _ _ _ _ _ _ _ _ _ r1c r2c).mono fun _ _ h => h.no HP.out).mono ?_
        rintro e w6 ⟨rfl, hb6⟩
        have z10d := z10c.below hb6 z10c.lt
        have bD := below_step bC hb6
        have r2d := r2c.below hb6
        have hr3d := hr3c.below hb6
        have hr4d := hr4c.below hb6
        clear e0 e1 d0 d1 z9c z10c bC hb6 r1c r2c hr3c hr4c
        have e0 := z10d.cell 0
        have e1 := z10d.cell 1
        simp only [List.getElem?_cons_succ, List.getElem?_cons_zero] at e0 e1
        go_wp2_with fail
        with_reducible refine (akey_yes _ _ _ _ _ _ (hK.below bD) r2d HX2.out HA2.out B2 HB2.out).mono ?_
        rintro e w7 ⟨rfl, hb7⟩
        have bE := below_step bD hb7
        have hr3e := hr3d.below hb7
        have hr4e := hr4d.below hb7
        have k1 := run_bytes_str (P := Tryd.prog) Tryd.underlying33 Tryd.underlying5 Tryd.underlying9 hr3e.as
        have k2 := run_bytes_str (P := Tryd.prog) Tryd.underlying33 Tryd.underlying5 Tryd.underlying9 hr4e.as
        have hn3 := hr3e.len
        have hn4 := hr4e.len
        rw [← hn3] at k1
        rw [← hn4] at k2
        have hn3' : n3 ≤ 600 := by omega
        clear e0 e1 z10d bD hb7 r2d hr3d hr4d hn3 hn4
        go_wp2_with fail
        with_reducible refine (digest_ok _ _ _ _ _ hr3e (by omega)).mono ?_
        rintro e w8 ⟨rfl, hb8⟩
        go_wp2
        go_ret
        exact ⟨rfl, below_step bE hb8⟩
    · have q1 : (cm1 == cm2) = false := by rw [beq_eq_false_iff_ne]; exact hc
      have q2 : (B1 == B2) = false := by
        rw [beq_eq_false_iff_ne]
        intro hh
        exact hc (aB_inj HA1.out HA2.out (by rw [HB1.out, HB2.out]; exact hh)).1
      have q3 : (dig B1 == dig B1) = true := by simp
      clear hc
      go_wp2_with fail
      with_reducible refine (akey_yes _ _ _ _ _ _ (hK.below bC) r2c HX2.out HA2.out B2 HB2.out).mono ?_
      rintro e w7 ⟨rfl, hb7⟩
      have bE := below_step bC hb7
      have hr3e := hr3c.below hb7
      have hr4e := hr4c.below hb7
      have k1 := run_bytes_str (P := Tryd.prog) Tryd.underlying33 Tryd.underlying5 Tryd.underlying9 hr3e.as
      have k2 := run_bytes_str (P := Tryd.prog) Tryd.underlying33 Tryd.underlying5 Tryd.underlying9 hr4e.as
      have hn3 := hr3e.len
      have hn4 := hr4e.len
      rw [← hn3] at k1
      rw [← hn4] at k2
      have hn3' : n3 ≤ 600 := by omega
      clear e0 e1 z10c bC hb7 r2c hr3c hr4c hn3 hn4
      go_wp2_with fail
      with_reducible refine (digest_ok _ _ _ _ _ hr3e (by omega)).mono ?_
      rintro e w8 ⟨rfl, hb8⟩
      go_wp2
      go_ret
      exact ⟨rfl, below_step bE hb8⟩
end Go.Proofs.YtohdofalnmkfnaaDoor

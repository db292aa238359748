/- The landed mark: Step. -/
import Derived.Test.YtdbdigcpibmgjaaGreatDoorQLmb
import Derived.Test.YtdbdigcpibmgjaaGreatDoorQLad
import Derived.Test.YtdbdigcpibmgjaaGreatDoorGRD
import Derived.Test.YtdbdigcpibmgjaaGreatDoorGRD
import Derived.Deep.CutBlock
import Derived.Deep.CutRange
namespace Go.Proofs.YtdbdigcpibmgjaaGreatDoor
open Go.RowKit
set_option maxRecDepth 100000 in
set_option maxHeartbeats 8000000 in
theorem lMStep_any {A B : Option Addr} {n c m k : Nat} {s : Sto} {cl : Col} {P : Option Addr} {pn pf : Nat} {w : World} (h : StA w A B n c m k s) (hq : Rd w 1 P pn pf (cl.gr.map sv)) (hP : P = none → pf = 0) (hz : pn * 16 ≤ 140737488351232) :
    Calls Tryz.prog 14 #[.agg #[.slice A n c, .slice B m k, .int .i64 s.rm, .int .i64 s.ck], .agg #[.int .i64 cl.ph, .slice P pn pf, .string (str cl.at_)]] w (GivesSC (cStep s cl) w) := by
  obtain ⟨l, es, rm, ck⟩ := s
  obtain ⟨ph, gr, att⟩ := cl
  obtain rfl : n = l.length := h.hr.len
  obtain rfl : m = es.length := h.he.len
  simp only at hq ⊢
  have hal := ((((Below.refl w.heap.size w).alloc (Nat.le_refl _) (.cells #[.slice A l.length c, .slice B es.length k, .int .i64 rm, .int .i64 ck] 25)).alloc (by simp) (.cells #[.int .i64 ph, .slice P pn pf, .string (str att)] 28)).alloc (by simp; omega) (.cells #[.slice none 0 0, .slice none 0 0, .int .i64 0, .int .i64 0] 25)).alloc (by simp; omega) (.cells #[.int .i64 0, .slice none 0 0, .string ⟨#[]⟩] 28)
  have hb0 := (((Blk.new w 25 [.slice A l.length c, .slice B es.length k, .int .i64 rm, .int .i64 ck]).alloc (.cells #[.int .i64 ph, .slice P pn pf, .string (str att)] 28)).alloc (.cells #[.slice none 0 0, .slice none 0 0, .int .i64 0, .int .i64 0] 25)).alloc (.cells #[.int .i64 0, .slice none 0 0, .string ⟨#[]⟩] 28)
  have hb1 := ((Blk.new (w.alloc (.cells #[.slice A l.length c, .slice B es.length k, .int .i64 rm, .int .i64 ck] 25)) 28 [.int .i64 ph, .slice P pn pf, .string (str att)]).alloc (.cells #[.slice none 0 0, .slice none 0 0, .int .i64 0, .int .i64 0] 25)).alloc (.cells #[.int .i64 0, .slice none 0 0, .string ⟨#[]⟩] 28)
  have hb2 := (Blk.new ((w.alloc (.cells #[.slice A l.length c, .slice B es.length k, .int .i64 rm, .int .i64 ck] 25)).alloc (.cells #[.int .i64 ph, .slice P pn pf, .string (str att)] 28)) 25 [.slice none 0 0, .slice none 0 0, .int .i64 0, .int .i64 0]).alloc (.cells #[.int .i64 0, .slice none 0 0, .string ⟨#[]⟩] 28)
  have hb3 := Blk.new (((w.alloc (.cells #[.slice A l.length c, .slice B es.length k, .int .i64 rm, .int .i64 ck] 25)).alloc (.cells #[.int .i64 ph, .slice P pn pf, .string (str att)] 28)).alloc (.cells #[.slice none 0 0, .slice none 0 0, .int .i64 0, .int .i64 0] 25)) 28 [.int .i64 0, .slice none 0 0, .string ⟨#[]⟩]
  have e1 : (w.alloc (.cells #[.slice A l.length c, .slice B es.length k, .int .i64 rm, .int .i64 ck] 25)).heap.size = w.heap.size + 1 := by simp
  have e2 : ((w.alloc (.cells #[.slice A l.length c, .slice B es.length k, .int .i64 rm, .int .i64 ck] 25)).alloc (.cells #[.int .i64 ph, .slice P pn pf, .string (str att)] 28)).heap.size = w.heap.size + 1 + 1 := by simp
  have e3 : (((w.alloc (.cells #[.slice A l.length c, .slice B es.length k, .int .i64 rm, .int .i64 ck] 25)).alloc (.cells #[.int .i64 ph, .slice P pn pf, .string (str att)] 28)).alloc (.cells #[.slice none 0 0, .slice none 0 0, .int .i64 0, .int .i64 0] 25)).heap.size = w.heap.size + 1 + 1 + 1 := by simp
  rw [e1] at hb1
  rw [e2] at hb2
  rw [e3] at hb3
  clear e1 e2 e3
  have HC := Lib.hid (lCheck_any (h.below hal))
  have HQ := Lib.hid hq
  obtain ⟨a0, a1, a2, a3⟩ := blk4 hb0
  by_cases q : sErr ⟨l, es, rm, ck⟩ = 0
  · have hok := sErr_zero.1 q
    rw [q] at HC
    have HCP := Lib.hid (fun (W : World) (hb : Below w.heap.size w W) => lCopyO (h.below hb))
    have hl24 : l.length ≤ 24 := (bsErr_zero.1 hok.be).1
    by_cases p1 : ph = 1
    · subst p1
      have HX1 : Hid (gr = [] → cStep ⟨l, es, rm, ck⟩ ⟨1, gr, att⟩ = (0, ⟨l, es, rm, ck⟩, ⟨2, [], []⟩)) := fun e => step_end q rfl e
      have HX2 : Hid (gr ≠ [] → cStep ⟨l, es, rm, ck⟩ ⟨1, gr, att⟩ = (0, ⟨(mSt l gr).1, es, rm, ck⟩, ⟨1, (mSt l gr).2, []⟩)) := fun e => step_go q rfl e
      generalize cStep ⟨l, es, rm, ck⟩ ⟨1, gr, att⟩ = X at *
      clear h hok q hq
      go_enter Tryz.func14, Tryz.ntmps14
      go_wp2_with fail
      with_reducible refine HC.out.mono ?_
      rintro e w1 ⟨rfl, hc1⟩
      have k0 := hb0.below hc1 hb0.lt
      have k1 := hb1.below hc1 hb1.lt
      have k2 := hb2.below hc1 hb2.lt
      have k3 := hb3.below hc1 hb3.lt
      have hbA := below_step hal hc1
      clear HC hb0 hb1 hb2 hb3 hal hc1 a0 a1 a2 a3
      obtain ⟨a0, a1, a2, a3⟩ := blk4 k0
      obtain ⟨c0, c1, c2⟩ := blk3 k1
      go_wp2_with fail
      with_reducible refine (HCP.out _ hbA).mono ?_
      rintro e w2 ⟨v5, u5, M, rfl, hO, hE, hM, hg5, -, hc2⟩
      obtain ⟨A5, c5, rfl, hN5⟩ := hO.new
      obtain ⟨B5, d5, rfl, -⟩ := hE.new
      simp only at hO hE hN5 ⊢
      clear hN5
      have p0 := k0.below hc2 k0.lt
      have p1 := k1.below hc2 k1.lt
      have p2 := k2.below hc2 k2.lt
      have p3 := k3.below hc2 k3.lt
      have hbB := below_step hbA hc2
      have hk3 := k3.lt
      obtain ⟨z0, z1, z2, z3⟩ := blk4 p0
      obtain ⟨y0, y1, y2, y3⟩ := blk4z p0
      have v6 := p0.put4s (.slice A5 l.length c5) (.slice B5 es.length d5) (.int .i64 rm) (.int .i64 ck)
      have s6 := p1.far4s (q := w.heap.size) (by omega) (.slice A5 l.length c5) (.slice B5 es.length d5) (.int .i64 rm) (.int .i64 ck)
      have r6 := p2.far4s (q := w.heap.size) (by omega) (.slice A5 l.length c5) (.slice B5 es.length d5) (.int .i64 rm) (.int .i64 ck)
      have t6 := p3.far4s (q := w.heap.size) (by omega) (.slice A5 l.length c5) (.slice B5 es.length d5) (.int .i64 rm) (.int .i64 ck)
      have hb6 := below4s hbB (q := w.heap.size) (Nat.le_refl _) (.slice A5 l.length c5) (.slice B5 es.length d5) (.int .i64 rm) (.int .i64 ck)
      have hO6 := hO.set4s (q := w.heap.size) (by omega) (.slice A5 l.length c5) (.slice B5 es.length d5) (.int .i64 rm) (.int .i64 ck)
      have hE6 := hE.set4s (q := w.heap.size) (by omega) (.slice A5 l.length c5) (.slice B5 es.length d5) (.int .i64 rm) (.int .i64 ck)
      have hq6 := HQ.out.below hb6
      have hb5 : w.heap.size + 3 < w1.heap.size + 2 := by omega
      have hM5 : w.heap.size + 3 < M := by omega
      generalize w1.heap.size + 2 = base at *
      clear HCP k0 k1 k2 k3 hbA hc2 hO hE p0 p1 p2 p3 hbB a0 a1 a2 a3 c0 c1 c2 HQ
      go_upto_region 7 with fail
      generalize hw6 : (((w2.setCell ⟨w.heap.size, 0, none⟩ (.slice A5 l.length c5)).setCell ⟨w.heap.size, 1, none⟩ (.slice B5 es.length d5)).setCell ⟨w.heap.size, 2, none⟩ (.int .i64 rm)).setCell ⟨w.heap.size, 3, none⟩ (.int .i64 ck) = w6 at *
      clear hw6 z0 z1 z2 z3 y0 y1 y2 y3
      obtain ⟨a0, a1, a2, a3⟩ := blk4 v6
      obtain ⟨c0, c1, c2⟩ := blk3 s6
      rcases gr with _ | ⟨d, r⟩
      · have hX := HX1.out rfl
        obtain rfl : pn = 0 := by have := hq6.tlen; simpa using this
        obtain ⟨z0, z1, z2, z3⟩ := blk4 r6
        obtain ⟨y0, y1, y2, y3⟩ := blk4z r6
        obtain ⟨x0, x1, x2⟩ := blk3 t6
        obtain ⟨x3, x4, x5⟩ := blk3z t6
        have HXX := Lib.hid hX
        have HB := Lib.hid (two_cells r6 t6 (.slice A5 l.length c5) (.slice B5 es.length d5) (.int .i64 rm) (.int .i64 ck) (.int .i64 2) (.slice none 0 0) (.string ⟨#[]⟩))
        have HBL := Lib.hid (below7 hb6 (q := w.heap.size + 1 + 1) (by omega) (.slice A5 l.length c5) (.slice B5 es.length d5) (.int .i64 rm) (.int .i64 ck) (.int .i64 2) (.slice none 0 0) (.string ⟨#[]⟩))
        have HO := Lib.hid (hO6.set7 (q := w.heap.size + 1 + 1) (by omega) (.slice A5 l.length c5) (.slice B5 es.length d5) (.int .i64 rm) (.int .i64 ck) (.int .i64 2) (.slice none 0 0) (.string ⟨#[]⟩))
        have HE := Lib.hid (hE6.set7 (q := w.heap.size + 1 + 1) (by omega) (.slice A5 l.length c5) (.slice B5 es.length d5) (.int .i64 rm) (.int .i64 ck) (.int .i64 2) (.slice none 0 0) (.string ⟨#[]⟩))
        clear hX HX1 HX2 v6 s6 r6 t6 hO6 hE6 hb6 hq6
        go_wp2
        refine bodyPost_ret (results_cells_row3 rfl _ _ (w.heap.size + 1 + 1) (w.heap.size + 1 + 1 + 1) 25 28 _ _ (0, 0) (0, 0) _ _ rfl HB.out.1 rfl HB.out.2 Tryz.underlying25 rfl store_size Tryz.underlying28 rfl col_size) rfl ?_
        rw [HXX.out]
        exact givesSC_mk (gr := []) (at_ := []) rfl HO.out HE.out (Rd.nil _ _) (fun _ => rfl) (fun a e => by cases e) (by omega) (by omega) HBL.out
      · have HXX := Lib.hid (HX2.out (by simp))
        clear HX1 HX2
        obtain ⟨pb, poff, rfl, hd0⟩ := hq6.text (k := 0) (by simp)
        simp only [List.getElem_cons_zero, Nat.add_zero] at hd0
        have hpn : pn = r.length + 1 := by have := hq6.tlen; simpa using this
        have hpc := hq6.2.1
        have hpm := hq6.2.2.1
        unfold maxLen at hpm
        have d3 : ((pn : Int) == 0) = false := by rw [beq_eq_false_iff_ne]; omega
        have hrT := hq6.drop 1 (by omega)
        rw [← List.map_drop, List.drop_one, List.tail_cons] at hrT
        have hi1 : (1 : Int) ≤ (pf : Int) := by omega
        have hi2 : (1 : Int) ≤ (pn : Int) := by omega
        have hi3 : 1 ≤ pf := by omega
        have hi4 : 1 ≤ pn := by omega
        have hi5 : 0 < pn := by omega
        have hi6 : (0 : Int) < (pn : Int) := by omega
        have HPN := Lib.hid hpn
        clear hpn
        go_upto_region 9 with fail
        go_cut [8] from 31 to 34 (fun s8 wx => ∃ A8 c8, s8 = .slice A8 r.length c8 ∧ Rd wx 1 A8 r.length c8 (r.map sv) ∧ (A8 = none → c8 = 0) ∧ (∀ a : Addr, A8 = some a → w6.heap.size ≤ a.block) ∧ Below w6.heap.size w6 wx)
        case first =>
          by_cases hpf : pf = 1
          · have hr0 : r = [] := List.eq_nil_of_length_eq_zero (by have := HPN.out; omega)
            subst hr0
            subst hpf
            obtain rfl : pn = 1 := HPN.out
            clear HPN
            have H8 := Lib.hid (tclone_any (some ⟨pb, poff, none⟩) 0 0 [] w6 (Rd.none0 _ _ _ (by unfold maxLen; omega)) (fun q => by cases q) (by omega))
            clear hrT
            go_wp2_with fail
            with_reducible refine H8.out.mono ?_
            rintro e w8 ⟨v8, rfl, hown8, hb8⟩
            obtain ⟨A8, c8, rfl, hr8, hA8, hF8⟩ := own_rdK hown8
            go_wp2
            go_meet
            exact ⟨A8, c8, rfl, hr8, hA8, fun a e => (hF8 a e).1, hb8⟩
          · have H8 := Lib.hid (tclone_any (some ⟨pb, poff + 1, none⟩) (pn - 1) (pf - 1) r w6 hrT (fun q => by cases q) (by omega))
            have hi7 : ¬ pf - 1 = 0 := by omega
            clear hrT
            go_wp2_with fail
            with_reducible refine H8.out.mono ?_
            rintro e w8 ⟨v8, rfl, hown8, hb8⟩
            obtain ⟨A8, c8, rfl, hr8, hA8, hF8⟩ := own_rdK hown8
            go_wp2
            go_meet
            exact ⟨A8, c8, rfl, hr8, hA8, fun a e => (hF8 a e).1, hb8⟩
        case rest =>
          obtain ⟨A8, c8, rfl, hr8, hA8, hF8, hb8⟩ := hcut
          rename World => w8
          obtain ⟨_, _, qz6, hN6⟩ := hO6.new
          injection qz6 with q1 q2 q3
          subst q1
          subst q3
          obtain ⟨_, -, -, -, hgA6, -⟩ := hN6
          clear q2
          have v8 := v6.below hb8 v6.lt
          have s8 := s6.below hb8 s6.lt
          have r8 := r6.below hb8 r6.lt
          have t8 := t6.below hb8 t6.lt
          have hO8 := hO6.below hb8
          have hE8 := hE6.below hb8
          have hbC := below_step hb6 hb8
          have hq8 := hq6.below hb8
          have hw68 : w.heap.size + 3 < w6.heap.size := by have := t6.lt; omega
          obtain ⟨pb', poff', ep, hd8⟩ := hq8.text (k := 0) (by simp)
          injection ep with ep
          injection ep with e1 e2
          subst e1
          subst e2
          simp only [List.getElem_cons_zero, Nat.add_zero] at hd8
          obtain ⟨_, _, qz, hNB⟩ := hO8.new
          injection qz with q1 q2 q3
          subst q1
          subst q3
          have hrB := hNB.rd
          have hdr := (Below.refl w8.heap.size w8).drew
          have HF := Lib.hid (find_any _ _ _ l d w8.drew (hrB.below hdr))
          have f1 : w8.drew.cell? ⟨w.heap.size, 0, none⟩ = some (.slice A5 l.length c5) := (blk4 v8.drew).1
          have f2 : w8.drew.cell? ⟨w.heap.size + 1, 1, none⟩ = some (.slice (some ⟨pb, poff, none⟩) pn pf) := (blk3 s8.drew).2.1
          have f3 : w8.drew.cell? ⟨pb, poff, none⟩ = some (.string (str d)) := hd8
          clear q2 hNB hrB v6 s6 r6 t6 hO6 hE6 hb6 hq6 hq8 hd0 hd8 a0 a1 a2 a3 c0 c1 c2 hrT
          go_upto_region 10 with fail
          go_cut [9, 10] from 35 to 44 (fun s9 s10 wx => ∃ (i : Nat) (e : Int), s9 = .int .i64 (i : Int) ∧ s10 = .int .i64 e ∧ i = fAt l d ∧ e = fErr l d ∧ Below w8.heap.size w8 wx)
          case first =>
            go_region_held_law (fun W => W.cell? ⟨w.heap.size, 0, none⟩ = some (.slice A5 l.length c5) ∧ W.cell? ⟨w.heap.size + 1, 1, none⟩ = some (.slice (some ⟨pb, poff, none⟩) pn pf) ∧ W.cell? ⟨pb, poff, none⟩ = some (.string (str d)))
              (first | with_reducible exact ⟨f1, f2, f3⟩ | with_reducible exact ⟨g1, g2, g3⟩ | go_keep)
              ((go_at_call 38; (with_reducible refine HF.out.mono ?_); rintro e w9 ⟨rfl, hb9⟩; have g1 := (hb9.cell (cell_lt f1)).trans f1; have g2 := (hb9.cell (cell_lt f2)).trans f2; have g3 := (hb9.cell (cell_lt f3)).trans f3))
            all_goals
              go_wp2
              go_meet
              exact ⟨_, _, rfl, rfl, rfl, rfl, below_step hdr hb9⟩
          case rest =>
            obtain ⟨i, e9, rfl, rfl, hi, he, hb9⟩ := hcut
            rename World => w9
            have v9 := v8.below hb9 v8.lt
            have r9 := r8.below hb9 r8.lt
            have t9 := t8.below hb9 t8.lt
            have hO9 := hO8.below hb9
            have hE9 := hE8.below hb9
            have hbD := below_step hbC hb9
            have hr9 := hr8.below hb9
            clear HF f1 f2 f3 v8 s8 r8 t8 hO8 hE8 hb8 hr8 hb9 hdr hbC
            by_cases hlt : bAt l d < l.length
            · have hi' : i = bAt l d := by rw [hi]; unfold fAt; rw [if_pos hlt]
              obtain rfl : e9 = 0 := by rw [he]; unfold fErr; rw [if_pos hlt]
              have hXo : ∀ (h : i < l.length), l[i].mr = true → X = (0, ⟨l, es, rm, ck⟩, ⟨1, r, []⟩) := by subst hi'; intro h hm; rw [HXX.out, mst_old h hm]
              have hXn : ∀ (h : i < l.length), l[i].mr = false → X = (0, ⟨l.modify i (mkB true), es, rm, ck⟩, ⟨1, ris (r ++ pOf l[i]), []⟩) := by subst hi'; intro h hm; rw [HXX.out, mst_new h hm]
              have hil : i < l.length := by rw [hi']; exact hlt
              clear hi he hi' hlt HXX
              have hii : (i : Int) < (l.length : Int) := by omega
              obtain ⟨g, c', qw, hgB, hgl, hcl, hfr, hO10⟩ := hO9.markB hil true
              injection qw with q1 q2 q3
              subst q1
              subst q3
              have hgM := hg5 g rfl
              obtain ⟨a0, a1, a2, a3⟩ := blk4 v9
              by_cases hm : l[i].mr = true
              · have hX := hXo hil hm
                rw [hm] at hcl
                clear hXo hXn hO10 q2
                go_upto_region 14 with fail
                clear a0 a1 a2 a3
                obtain ⟨a0, a1, a2, a3⟩ := blk4 v9
                obtain ⟨z0, z1, z2, z3⟩ := blk4 r9
                obtain ⟨y0, y1, y2, y3⟩ := blk4z r9
                obtain ⟨x0, x1, x2⟩ := blk3 t9
                obtain ⟨x3, x4, x5⟩ := blk3z t9
                have HXZ := Lib.hid hX
                have HB := Lib.hid (two_cells r9 t9 (.slice (some ⟨g, 0, none⟩) l.length c5) (.slice B5 es.length d5) (.int .i64 rm) (.int .i64 ck) (.int .i64 1) (.slice A8 r.length c8) (.string ⟨#[]⟩))
                have HBL := Lib.hid (below7 hbD (q := w.heap.size + 1 + 1) (by omega) (.slice (some ⟨g, 0, none⟩) l.length c5) (.slice B5 es.length d5) (.int .i64 rm) (.int .i64 ck) (.int .i64 1) (.slice A8 r.length c8) (.string ⟨#[]⟩))
                have HO := Lib.hid (hO9.set7 (q := w.heap.size + 1 + 1) (by omega) (.slice (some ⟨g, 0, none⟩) l.length c5) (.slice B5 es.length d5) (.int .i64 rm) (.int .i64 ck) (.int .i64 1) (.slice A8 r.length c8) (.string ⟨#[]⟩))
                have HE := Lib.hid (hE9.set7 (q := w.heap.size + 1 + 1) (by omega) (.slice (some ⟨g, 0, none⟩) l.length c5) (.slice B5 es.length d5) (.int .i64 rm) (.int .i64 ck) (.int .i64 1) (.slice A8 r.length c8) (.string ⟨#[]⟩))
                have HR := Lib.hid (rd_set7 hr9 (q := w.heap.size + 1 + 1) (fun a e => by have h1 := hF8 a e; omega) (.slice (some ⟨g, 0, none⟩) l.length c5) (.slice B5 es.length d5) (.int .i64 rm) (.int .i64 ck) (.int .i64 1) (.slice A8 r.length c8) (.string ⟨#[]⟩))
                clear hX v9 r9 t9 hO9 hE9 hr9 hbD
                go_wp2
                refine bodyPost_ret (results_cells_row3 rfl _ _ (w.heap.size + 1 + 1) (w.heap.size + 1 + 1 + 1) 25 28 _ _ (0, 0) (0, 0) _ _ rfl HB.out.1 rfl HB.out.2 Tryz.underlying25 rfl store_size Tryz.underlying28 rfl col_size) rfl ?_
                rw [HXZ.out]
                exact givesSC_mk (at_ := []) rfl (by have e := HO.out; first | exact e | (rw [List.length_modify]; exact e)) HE.out HR.out hA8 (fun a e => by have h1 := hF8 a e; omega) (by omega) (by omega) HBL.out
              · have hm' : l[i].mr = false := by simpa using hm
                have hX := hXn hil hm'
                rw [hm'] at hcl
                clear hXo hXn q2 hm
                have hHl : ∀ (L : List Bl), L = l.modify i (mkB true) → L.length = l.length := fun L e => by rw [e, List.length_modify]
                obtain ⟨L, hL⟩ : ∃ L, l.modify i (mkB true) = L := ⟨_, rfl⟩
                have hLl := hHl L hL.symm
                have hget : ∀ (h : i < L.length), L[i] = mkB true l[i] := by subst hL; intro h; rw [List.getElem_modify, if_pos rfl]
                have hp8 : (pOf l[i]).length ≤ 8 := pIn_len _
                rw [hL] at hX hO10
                have v10 := v9.far (p := ⟨g, i * 4 + 3, none⟩) (by show w.heap.size ≠ g; omega) (.bool true)
                have r10 := r9.far (p := ⟨g, i * 4 + 3, none⟩) (by show w.heap.size + 1 + 1 ≠ g; omega) (.bool true)
                have t10 := t9.far (p := ⟨g, i * 4 + 3, none⟩) (by show w.heap.size + 1 + 1 + 1 ≠ g; omega) (.bool true)
                have hE10 := hE9.set1 (g := g) (i := i * 4 + 3) hgM (.bool true)
                have hbE := hbD.setCell (p := ⟨g, i * 4 + 3, none⟩) (by show w.heap.size ≤ g; omega) (.bool true)
                have hgw6 : g < w6.heap.size := (hgA6 _ rfl).2
                have hr10 := hr9.keepLt (w' := w9.setCell ⟨g, i * 4 + 3, none⟩ (.bool true)) (fun a e _ => Below.heap_setCell _ ⟨g, i * 4 + 3, none⟩ _ _ (by have := hF8 a e; show a.block ≠ g; omega))
                clear hL hHl v9 r9 t9 hE9 hbD hr9 hO9
                go_upto_region 13 with fail
                generalize hw10 : w9.setCell ⟨g, i * 4 + 3, none⟩ (.bool true) = w10 at *
                clear hw10 hcl hfr a0 a1 a2 a3
                obtain ⟨a0, a1, a2, a3⟩ := blk4 v10
                obtain ⟨_, _, qz, hNB⟩ := hO10.new
                injection qz with q1 q2 q3
                subst q1
                subst q3
                have hrB := hNB.rd
                obtain ⟨gb, off, D, m, dd, q4, b0, b1, b2, b3, hrD, -⟩ := hrB.blob (k := i) (by omega)
                rw [hget (by omega)] at b0 b2 b3 hrD
                injection q4 with q4
                injection q4 with q5 q6
                subst q5
                subst q6
                have HP := Lib.hid (rparts_any (mkB true l[i]) D m dd w10 hrD)
                have hpo : pOf (mkB true l[i]) = pOf l[i] := rfl
                rw [hpo] at HP
                obtain ⟨dg, hdg⟩ : ∃ x, (mkB true l[i]).dg = x := ⟨_, rfl⟩
                obtain ⟨pp, hpp⟩ : ∃ x, (mkB true l[i]).pn = x := ⟨_, rfl⟩
                have hmt : (mkB true l[i]).mr = true := rfl
                rw [hdg] at b0 HP
                rw [hpp] at b2 HP
                rw [hmt] at b3 HP
                simp only [Nat.zero_add] at b0 b1 b2 b3
                obtain ⟨Q, hQ⟩ : ∃ Q, pOf l[i] = Q := ⟨_, rfl⟩
                rw [hQ] at HP hX hp8
                clear hdg hpp hmt hpo hQ hget hrB hNB hrD q2 hm' hil
                go_wp2_with fail
                with_reducible refine HP.out.mono ?_
                rintro e w11 h11
                obtain ⟨A11, c11, rfl, r11, hA11, -, hb11⟩ := h11.rd
                clear h11 HP
                have HA := Lib.hid (lAdd_any A8 A11 r.length Q.length c8 c11 r Q w11 (hr10.below hb11) r11 hA8 hA11 (by have := HPN.out; omega))
                go_wp2_with fail
                with_reducible refine HA.out.mono ?_
                rintro e w12 h12
                obtain ⟨A12, c12, rfl, r12, hA12, hF12, hb12⟩ := h12.rd
                have hbx := hb11.trans (hb12.mono hb11.size)
                have v12 := v10.below hbx v10.lt
                have r12' := r10.below hbx r10.lt
                have t12 := t10.below hbx t10.lt
                have hO12 := hO10.below hbx
                have hE12 := hE10.below hbx
                have hbF := below_step hbE hbx
                have hz11 := hb11.size
                have ht10 := t10.lt
                obtain ⟨G, hG⟩ : ∃ G, ris (r ++ Q) = G := ⟨_, rfl⟩
                rw [hG] at hX r12 ⊢
                clear hG h12 HA v10 r10 t10 hO10 hE10 hbE hbx hb11 hb12 a0 a1 a2 a3 b0 b1 b2 b3
                obtain ⟨a0, a1, a2, a3⟩ := blk4 v12
                obtain ⟨z0, z1, z2, z3⟩ := blk4 r12'
                obtain ⟨y0, y1, y2, y3⟩ := blk4z r12'
                obtain ⟨x0, x1, x2⟩ := blk3 t12
                obtain ⟨x3, x4, x5⟩ := blk3z t12
                have HXZ := Lib.hid hX
                have HB := Lib.hid (two_cells r12' t12 (.slice (some ⟨g, 0, none⟩) l.length c5) (.slice B5 es.length d5) (.int .i64 rm) (.int .i64 ck) (.int .i64 1) (.slice A12 G.length c12) (.string ⟨#[]⟩))
                have HBL := Lib.hid (below7 hbF (q := w.heap.size + 1 + 1) (by omega) (.slice (some ⟨g, 0, none⟩) l.length c5) (.slice B5 es.length d5) (.int .i64 rm) (.int .i64 ck) (.int .i64 1) (.slice A12 G.length c12) (.string ⟨#[]⟩))
                have HO := Lib.hid (hO12.set7 (q := w.heap.size + 1 + 1) (by omega) (.slice (some ⟨g, 0, none⟩) l.length c5) (.slice B5 es.length d5) (.int .i64 rm) (.int .i64 ck) (.int .i64 1) (.slice A12 G.length c12) (.string ⟨#[]⟩))
                have HE := Lib.hid (hE12.set7 (q := w.heap.size + 1 + 1) (by omega) (.slice (some ⟨g, 0, none⟩) l.length c5) (.slice B5 es.length d5) (.int .i64 rm) (.int .i64 ck) (.int .i64 1) (.slice A12 G.length c12) (.string ⟨#[]⟩))
                have HR := Lib.hid (rd_set7 r12 (q := w.heap.size + 1 + 1) (fun a e => by have h1 := (hF12 a e).1; omega) (.slice (some ⟨g, 0, none⟩) l.length c5) (.slice B5 es.length d5) (.int .i64 rm) (.int .i64 ck) (.int .i64 1) (.slice A12 G.length c12) (.string ⟨#[]⟩))
                clear hX v12 r12' t12 hO12 hE12 r12 hbF
                go_wp2
                refine bodyPost_ret (results_cells_row3 rfl _ _ (w.heap.size + 1 + 1) (w.heap.size + 1 + 1 + 1) 25 28 _ _ (0, 0) (0, 0) _ _ rfl HB.out.1 rfl HB.out.2 Tryz.underlying25 rfl store_size Tryz.underlying28 rfl col_size) rfl ?_
                rw [HXZ.out]
                exact givesSC_mk (at_ := []) rfl (by have e := HO.out; first | exact e | (rw [List.length_modify]; exact e)) HE.out HR.out hA12 (fun a e => by have h1 := hF12 a e; omega) (by omega) (by omega) HBL.out
            · have hXo : X = (0, ⟨l, es, rm, ck⟩, ⟨1, r, []⟩) := by rw [HXX.out, mst_none hlt]
              obtain rfl : e9 = 5 := by rw [he]; unfold fErr; rw [if_neg hlt]
              clear hi he hlt HXX
              obtain ⟨a0, a1, a2, a3⟩ := blk4 v9
              go_upto_region 14 with fail
              clear a0 a1 a2 a3
              obtain ⟨a0, a1, a2, a3⟩ := blk4 v9
              obtain ⟨z0, z1, z2, z3⟩ := blk4 r9
              obtain ⟨y0, y1, y2, y3⟩ := blk4z r9
              obtain ⟨x0, x1, x2⟩ := blk3 t9
              obtain ⟨x3, x4, x5⟩ := blk3z t9
              have HXZ := Lib.hid hXo
              have HB := Lib.hid (two_cells r9 t9 (.slice A5 l.length c5) (.slice B5 es.length d5) (.int .i64 rm) (.int .i64 ck) (.int .i64 1) (.slice A8 r.length c8) (.string ⟨#[]⟩))
              have HBL := Lib.hid (below7 hbD (q := w.heap.size + 1 + 1) (by omega) (.slice A5 l.length c5) (.slice B5 es.length d5) (.int .i64 rm) (.int .i64 ck) (.int .i64 1) (.slice A8 r.length c8) (.string ⟨#[]⟩))
              have HO := Lib.hid (hO9.set7 (q := w.heap.size + 1 + 1) (by omega) (.slice A5 l.length c5) (.slice B5 es.length d5) (.int .i64 rm) (.int .i64 ck) (.int .i64 1) (.slice A8 r.length c8) (.string ⟨#[]⟩))
              have HE := Lib.hid (hE9.set7 (q := w.heap.size + 1 + 1) (by omega) (.slice A5 l.length c5) (.slice B5 es.length d5) (.int .i64 rm) (.int .i64 ck) (.int .i64 1) (.slice A8 r.length c8) (.string ⟨#[]⟩))
              have HR := Lib.hid (rd_set7 hr9 (q := w.heap.size + 1 + 1) (fun a e => by have h1 := hF8 a e; omega) (.slice A5 l.length c5) (.slice B5 es.length d5) (.int .i64 rm) (.int .i64 ck) (.int .i64 1) (.slice A8 r.length c8) (.string ⟨#[]⟩))
              clear hXo v9 r9 t9 hO9 hE9 hr9 hbD
              go_wp2
              refine bodyPost_ret (results_cells_row3 rfl _ _ (w.heap.size + 1 + 1) (w.heap.size + 1 + 1 + 1) 25 28 _ _ (0, 0) (0, 0) _ _ rfl HB.out.1 rfl HB.out.2 Tryz.underlying25 rfl store_size Tryz.underlying28 rfl col_size) rfl ?_
              rw [HXZ.out]
              exact givesSC_mk (at_ := []) rfl (by have e := HO.out; first | exact e | (rw [List.length_modify]; exact e)) HE.out HR.out hA8 (fun a e => by have h1 := hF8 a e; omega) (by omega) (by omega) HBL.out
    · have hX : cStep ⟨l, es, rm, ck⟩ ⟨ph, gr, att⟩ = (11, sNil, cNil) := step_idle q p1
      generalize cStep ⟨l, es, rm, ck⟩ ⟨ph, gr, att⟩ = X at *
      have d1 : (ph != 1) = true := by rw [bne_iff_ne]; exact p1
      obtain ⟨c0, c1, c2⟩ := blk3 hb1
      have HXX := Lib.hid hX
      clear h hok q hq p1 hX
      go_enter Tryz.func14, Tryz.ntmps14
      go_wp2_with fail
      with_reducible refine HC.out.mono ?_
      rintro e w2 ⟨rfl, hc2⟩
      have k1 := hb1.below hc2 hb1.lt
      have k2 := hb2.below hc2 hb2.lt
      have k3 := hb3.below hc2 hb3.lt
      have hbB := below_step hal hc2
      clear HC hb0 hb1 hb2 hb3 hal hc2 a0 a1 a2 a3 c0 c1 c2
      obtain ⟨c0, c1, c2⟩ := blk3 k1
      obtain ⟨z0, z1, z2, z3⟩ := blk4 k2
      obtain ⟨y0, y1, y2, y3⟩ := blk4z k2
      obtain ⟨x0, x1, x2⟩ := blk3 k3
      obtain ⟨x3, x4, x5⟩ := blk3z k3
      have HB := Lib.hid (two_cells k2 k3 (.slice none 0 0) (.slice none 0 0) (.int .i64 0) (.int .i64 0) (.int .i64 0) (.slice none 0 0) (.string ⟨#[]⟩))
      have HBL := Lib.hid (below7 hbB (q := w.heap.size + 1 + 1) (by omega) (.slice none 0 0) (.slice none 0 0) (.int .i64 0) (.int .i64 0) (.int .i64 0) (.slice none 0 0) (.string ⟨#[]⟩))
      go_wp2
      refine bodyPost_ret (results_cells_row3 rfl _ _ (w.heap.size + 1 + 1) (w.heap.size + 1 + 1 + 1) 25 28 _ _ (0, 0) (0, 0) _ _ rfl HB.out.1 rfl HB.out.2 Tryz.underlying25 rfl store_size Tryz.underlying28 rfl col_size) rfl ?_
      rw [HXX.out]
      exact givesSC_no rfl HBL.out
  · have hX := step_no q ⟨ph, gr, att⟩
    generalize cStep ⟨l, es, rm, ck⟩ ⟨ph, gr, att⟩ = X at *
    generalize sErr ⟨l, es, rm, ck⟩ = E at *
    have d1 : (E != 0) = true := by rw [bne_iff_ne]; exact q
    have HXX := Lib.hid hX
    clear h q hq hX
    go_enter Tryz.func14, Tryz.ntmps14
    go_wp2_with fail
    with_reducible refine HC.out.mono ?_
    rintro e w2 ⟨rfl, hc2⟩
    have k2 := hb2.below hc2 hb2.lt
    have k3 := hb3.below hc2 hb3.lt
    have hbB := below_step hal hc2
    clear HC hb0 hb1 hb2 hb3 hal hc2 a0 a1 a2 a3
    obtain ⟨z0, z1, z2, z3⟩ := blk4 k2
    obtain ⟨y0, y1, y2, y3⟩ := blk4z k2
    obtain ⟨x0, x1, x2⟩ := blk3 k3
    obtain ⟨x3, x4, x5⟩ := blk3z k3
    have HB := Lib.hid (two_cells k2 k3 (.slice none 0 0) (.slice none 0 0) (.int .i64 0) (.int .i64 0) (.int .i64 0) (.slice none 0 0) (.string ⟨#[]⟩))
    have HBL := Lib.hid (below7 hbB (q := w.heap.size + 1 + 1) (by omega) (.slice none 0 0) (.slice none 0 0) (.int .i64 0) (.int .i64 0) (.int .i64 0) (.slice none 0 0) (.string ⟨#[]⟩))
    go_wp2
    refine bodyPost_ret (results_cells_row3 rfl _ _ (w.heap.size + 1 + 1) (w.heap.size + 1 + 1 + 1) 25 28 _ _ (0, 0) (0, 0) _ _ rfl HB.out.1 rfl HB.out.2 Tryz.underlying25 rfl store_size Tryz.underlying28 rfl col_size) rfl ?_
    rw [HXX.out]
    exact givesSC_no rfl HBL.out
end Go.Proofs.YtdbdigcpibmgjaaGreatDoor

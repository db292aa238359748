/- The landed store: Put. -/
import Derived.Test.YtnadgdjaldemhaaGreatDoorGSC
import Derived.Test.YtnadgdjaldemhaaGreatDoorGSC
import Derived.Test.YtnadgdjaldemhaaGreatDoorGSB
import Derived.Test.YtnadgdjaldemhaaGreatDoorGB
import Derived.Test.YtnadgdjaldemhaaGreatDoorGD
import Derived.Test.YtnadgdjaldemhaaGreatDoorGEE
namespace Go.Proofs.YtnadgdjaldemhaaGreatDoor
open Go.RowKit
set_option maxRecDepth 100000 in
set_option maxHeartbeats 4000000 in
theorem lPut_any {A B P : Option Addr} {n c m k np cp : Nat} {s : Sto} {dg : List UInt8} {ps : List Prt} {w : World} (h : StA w A B n c m k s) (hp : Rd w 3 P np cp (pcs ps)) (hpn : P = none → cp = 0) (hpg : ∀ p ∈ ps, p.good) (hpl : ps.length * 40 ≤ 140737488351232) (hdl : dg.length ≤ maxLen) :
    Calls Tryz.prog 16 #[.agg #[.slice A n c, .slice B m k, .int .i64 s.rm, .int .i64 s.ck], .string (str dg), .slice P np cp] w (GivesS2 (sPut s dg ps) w) := by
  obtain ⟨l, es, rm, ck⟩ := s
  have hr := h.hr
  have he := h.he
  have hgl := h.hgl
  have hge := h.hge
  have hz := h.hz
  simp only at hr he hgl hge ⊢
  have hx1 : l.length ≤ maxLen := by have h1 := hr.len; have h2 := hr.cap; omega
  have hal := ((Below.refl w.heap.size w).alloc (Nat.le_refl _) (.cells #[.slice A n c, .slice B m k, .int .i64 rm, .int .i64 ck] 28)).alloc (by simp) (.cells #[.slice none 0 0, .slice none 0 0, .int .i64 0, .int .i64 0] 28)
  have hb1 := (Blk.new w 28 [.slice A n c, .slice B m k, .int .i64 rm, .int .i64 ck]).alloc (.cells #[.slice none 0 0, .slice none 0 0, .int .i64 0, .int .i64 0] 28)
  have hb2 := Blk.new (w.alloc (.cells #[.slice A n c, .slice B m k, .int .i64 rm, .int .i64 ck] 28)) 28 [.slice none 0 0, .slice none 0 0, .int .i64 0, .int .i64 0]
  have hsz : (w.alloc (.cells #[.slice A n c, .slice B m k, .int .i64 rm, .int .i64 ck] 28)).heap.size = w.heap.size + 1 := by simp
  rw [hsz] at hb2
  have HS := Lib.hid (lCheck_any (h.below hal))
  have hne : w.heap.size + 1 ≠ w.heap.size := by omega
  clear hsz h
  obtain ⟨X, hX⟩ : ∃ X, sPut ⟨l, es, rm, ck⟩ dg ps = X := ⟨_, rfl⟩
  rw [hX]
  have hX' : (if (if sErr ⟨l, es, rm, ck⟩ ≠ 0 then sErr ⟨l, es, rm, ck⟩ else if cErr dg ≠ 0 then cErr dg else if psErr ps ≠ 0 then psErr ps else if pThere l ps ≠ 0 then pThere l ps else if ck = 1099511627776 then 4
      else (xPut es ⟨dg, ps, 0, ck + 1⟩).1) ≠ 0 then ((if sErr ⟨l, es, rm, ck⟩ ≠ 0 then sErr ⟨l, es, rm, ck⟩ else if cErr dg ≠ 0 then cErr dg else if psErr ps ≠ 0 then psErr ps else if pThere l ps ≠ 0 then pThere l ps else if ck = 1099511627776 then 4
      else (xPut es ⟨dg, ps, 0, ck + 1⟩).1), sNil) else (0, (⟨l, (xPut es ⟨dg, ps, 0, ck + 1⟩).2, rm, ck + 1⟩ : Sto))) = X := hX
  have HXX := Lib.hid hX'
  have HOK := Lib.hid (fun h : sErr ⟨l, es, rm, ck⟩ = 0 => (⟨(sErr_zero.1 h).c0, (sErr_zero.1 h).c1⟩ : 0 ≤ ck ∧ ck ≤ 1099511627776))
  have HHF := Lib.hid (fun W => hcheck_all dg W hdl)
  have HPF := Lib.hid (fun (W : World) (hb : Below w.heap.size w W) => mcheck_any P np cp ps W (hp.below hb) hpg)
  have HPT := Lib.hid (fun (W : World) (hb : Below w.heap.size w W) => present_any A n c l P np cp ps W (hr.below hb) (hp.below hb))
  have HBC := Lib.hid (fun (W : World) (hb : Below w.heap.size w W) => bcopy_any A n c l W (hr.below hb) hgl hz)
  have HEP := Lib.hid (fun (W : World) (hb : Below w.heap.size w W) (h1 : 0 ≤ ck) (h2 : ck ≤ 1099511627776) => iput_any B m k es ⟨dg, ps, 0, ck + 1⟩ ⟨P, np, cp⟩ W (he.below hb) hge (show kEn.deep W ⟨dg, ps, 0, ck + 1⟩ ⟨P, np, cp⟩ from ⟨hp.below hb, hpn⟩) ⟨hdl, hpg, (by decide : (Lit.int .i64 0).wf = true), wf_ck h1 h2, hpl⟩)
  clear hX hX' hr he hp hgl hge hpg hz
  go_enter Tryz.func16, Tryz.ntmps16
  go_upto_region 1 with fail
  generalize hu : (w.alloc (.cells [Value.slice A n c, Value.slice B m k, Value.int .i64 rm, Value.int .i64 ck].toArray 28)).alloc (.cells [Value.slice none 0 0, Value.slice none 0 0, Value.int .i64 0, Value.int .i64 0].toArray 28) = u at *
  clear hu
  obtain ⟨a0, a1, a2, a3⟩ := blk4 hb1
  go_wp2_with fail
  with_reducible refine HS.out.mono ?_
  rintro e w2 ⟨rfl, hc2⟩
  have k1 := hb1.below hc2 hb1.lt
  have k2 := hb2.below hc2 hb2.lt
  have hbB := below_step hal hc2
  have hz3 : w.heap.size + 2 ≤ w2.heap.size := by have h1 := hc2.size; have h2 := hb2.lt; omega
  clear hb1 hb2 hal hc2 HS a0 a1 a2 a3
  generalize sErr ⟨l, es, rm, ck⟩ = S at *
  by_cases p1 : S = 0
  · subst p1
    obtain ⟨r0, r1⟩ := HOK.out rfl
    have HR1 := HXX.out
    simp only [ne_eq, not_true_eq_false, if_false] at HR1
    have HX2 := Lib.hid HR1
    clear HR1 HXX HOK
    generalize cErr dg = E at *
    by_cases p2 : E = 0
    · subst p2
      have HR1 := HX2.out
      simp only [not_true_eq_false, if_false] at HR1
      have HX3 := Lib.hid HR1
      clear HR1 HX2
      go_wp2_with fail
      with_reducible refine (HHF.out _).mono ?_
      rintro e w3 ⟨rfl, rfl⟩
      go_wp2_with fail
      with_reducible refine (HPF.out _ hbB).mono ?_
      rintro e w4 ⟨rfl, hc4⟩
      have k4 := k1.below hc4 k1.lt
      have j4 := k2.below hc4 k2.lt
      have hbD := below_step hbB hc4
      have hz4 := hc4.size
      clear k1 k2 hbB hc4 HHF HPF
      generalize psErr ps = F at *
      by_cases p3 : F = 0
      · subst p3
        have HR1 := HX3.out
        simp only [not_true_eq_false, if_false] at HR1
        have HX4 := Lib.hid HR1
        clear HR1 HX3
        obtain ⟨x0, -, -, -⟩ := blk4 k4
        go_wp2_with fail
        with_reducible refine (HPT.out _ hbD).mono ?_
        rintro e w5 ⟨rfl, hc5⟩
        have k5 := k4.below hc5 k4.lt
        have j5 := j4.below hc5 j4.lt
        have hbE := below_step hbD hc5
        have hz5 := hc5.size
        clear k4 j4 hbD hc5 HPT x0
        generalize pThere l ps = G at *
        by_cases p4 : G = 0
        · subst p4
          have HR1 := HX4.out
          simp only [not_true_eq_false, if_false] at HR1
          have HX5 := Lib.hid HR1
          clear HR1 HX4
          obtain ⟨-, -, -, x3⟩ := blk4 k5
          by_cases p5 : ck = 1099511627776
          · have HF : Hid (X = (4, sNil)) := by show _ = _; rw [← HX5.out]; simp [p5]
            have HN := Lib.hid (fun W => next_at ck 0 4 W (.inl ⟨p5, rfl, rfl⟩))
            clear p5 HX5 r0 r1
            go_wp2_with fail
            with_reducible refine (HN.out _).mono ?_
            rintro e w6 ⟨rfl, rfl⟩
            obtain ⟨z0, z1, z2, z3⟩ := blk4 j5
            obtain ⟨y0, y1, y2, y3⟩ := blk4z j5
            have HK := Lib.hid (j5.put4s (.slice none 0 0) (.slice none 0 0) (.int .i64 0) (.int .i64 0))
            have HBL := Lib.hid (below4s hbE (q := w.heap.size + 1) (by omega) (.slice none 0 0) (.slice none 0 0) (.int .i64 0) (.int .i64 0))
            go_wp2
            refine bodyPost_ret (results_cell_row2 rfl _ _ (w.heap.size + 1) 28 _ (0, 0) _ rfl HK.out Tryz.underlying28 rfl store_size) rfl ?_
            rw [HF.out]
            exact givesS2_no rfl HBL.out
          · have HN := Lib.hid (fun W => next_at ck (ck + 1) 0 W (.inr ⟨r0, by omega, rfl, rfl⟩))
            have HR1 := HX5.out
            rw [if_neg p5] at HR1
            have HX6 := Lib.hid HR1
            have HE1 := Lib.hid (HEP.out _ hbE r0 r1)
            clear HR1 HX5 p5 r0 r1 HEP
            obtain ⟨OE, OL, hO⟩ : ∃ OE OL, xPut es ⟨dg, ps, 0, ck + 1⟩ = (OE, OL) := ⟨_, _, rfl⟩
            rw [hO] at HX6 HE1
            simp only at HX6 HE1
            clear hO
            obtain ⟨-, x1, -, -⟩ := blk4 k5
            go_wp2_with fail
            with_reducible refine (HN.out _).mono ?_
            rintro e w6 ⟨rfl, rfl⟩
            go_wp2_with fail
            with_reducible refine HE1.out.mono ?_
            rintro e w6 ⟨A6, n6, c6, rfl, hN6, hc6⟩
            obtain rfl : n6 = OL.length := hN6.rd.len
            have k6 := k5.below hc6 k5.lt
            have j6 := j5.below hc6 j5.lt
            have hbF := below_step hbE hc6
            have hz6 := hc6.size
            have HN6 := Lib.hid (hN6.rebase (base' := w.heap.size + 2) (by omega))
            clear k5 j5 hbE hc6 HE1 HN x1 x3 hN6
            by_cases p6 : OE = 0
            · subst p6
              have HF : Hid (X = (0, ⟨l, OL, rm, ck + 1⟩)) := by show _ = _; rw [← HX6.out]; simp
              clear HX6
              obtain ⟨x0, -, -, -⟩ := blk4 k6
              go_wp2_with fail
              with_reducible refine (HBC.out _ hbF).mono ?_
              rintro e w7 ⟨g7, hs7, rfl, hm7, hkb7, hc7⟩
              have hl7 := map_len hm7
              have k7 := k6.below hc7 k6.lt
              have j7 := j6.below hc7 j6.lt
              have hbG := below_step hbF hc7
              have hz7 := hc7.size
              have hN7 := kb_new hkb7 hm7 (by omega)
              have hE7 := HN6.out.below hc7
              have hzz : w.heap.size + 2 ≤ w6.heap.size := by omega
              obtain ⟨y0, y1, y2, y3⟩ := blk4z k7
              clear x0
              obtain ⟨x0, x1, x2, x3⟩ := blk4 k7
              have kA := k7.put3 (.slice (some ⟨g7, 0, none⟩) l.length l.length) (.slice A6 OL.length c6) (.int .i64 (ck + 1))
              have jA := j7.far3 (q := w.heap.size) hne (.slice (some ⟨g7, 0, none⟩) l.length l.length) (.slice A6 OL.length c6) (.int .i64 (ck + 1))
              have hbH := below3 hbG (q := w.heap.size) (Nat.le_refl _) (.slice (some ⟨g7, 0, none⟩) l.length l.length) (.slice A6 OL.length c6) (.int .i64 (ck + 1))
              have hN8 := (hN7.rebase (base' := w.heap.size + 2) hzz).set3 (q := w.heap.size) (by omega) (.slice (some ⟨g7, 0, none⟩) l.length l.length) (.slice A6 OL.length c6) (.int .i64 (ck + 1))
              have hE8 := hE7.set3 (q := w.heap.size) (by omega) (.slice (some ⟨g7, 0, none⟩) l.length l.length) (.slice A6 OL.length c6) (.int .i64 (ck + 1))
              clear k6 j6 k7 j7 hbF hbG hc7 hkb7 hN7 hE7 HN6 HBC hz7 hz6 hz5 hz4 hm7 hl7
              go_upto_region 22 with fail
              generalize hw8 : ((w7.setCell ⟨w.heap.size, 0, none⟩ (.slice (some ⟨g7, 0, none⟩) l.length l.length)).setCell ⟨w.heap.size, 1, none⟩ (.slice A6 OL.length c6)).setCell ⟨w.heap.size, 3, none⟩ (.int .i64 (ck + 1)) = w8 at *
              clear hw8 x0 x1 x2 x3 y0 y1 y2 y3
              obtain ⟨x0, x1, x2, x3⟩ := blk4 kA
              obtain ⟨z0, z1, z2, z3⟩ := blk4 jA
              obtain ⟨y0, y1, y2, y3⟩ := blk4z jA
              have HK := Lib.hid (jA.put4s (.slice (some ⟨g7, 0, none⟩) l.length l.length) (.slice A6 OL.length c6) (.int .i64 rm) (.int .i64 (ck + 1)))
              have HBL := Lib.hid (below4s hbH (q := w.heap.size + 1) (by omega) (.slice (some ⟨g7, 0, none⟩) l.length l.length) (.slice A6 OL.length c6) (.int .i64 rm) (.int .i64 (ck + 1)))
              have HN := Lib.hid ((hN8.set4s (q := w.heap.size + 1) (by omega) (.slice (some ⟨g7, 0, none⟩) l.length l.length) (.slice A6 OL.length c6) (.int .i64 rm) (.int .i64 (ck + 1))).rebase (base' := w.heap.size) (by omega))
              have HM := Lib.hid ((hE8.set4s (q := w.heap.size + 1) (by omega) (.slice (some ⟨g7, 0, none⟩) l.length l.length) (.slice A6 OL.length c6) (.int .i64 rm) (.int .i64 (ck + 1))).rebase (base' := w.heap.size) (by omega))
              clear kA jA hbH hN8 hE8
              go_wp2
              refine bodyPost_ret (results_cell_row2 rfl _ _ (w.heap.size + 1) 28 _ (0, 0) _ rfl HK.out Tryz.underlying28 rfl store_size) rfl ?_
              rw [HF.out]
              exact ⟨some ⟨g7, 0, none⟩, l.length, A6, c6, rfl, HN.out, HM.out, HBL.out⟩
            · have d6 : (OE != 0) = true := by rw [bne_iff_ne]; exact p6
              have HF : Hid (X = (OE, sNil)) := by show _ = _; rw [← HX6.out, if_pos p6]
              clear HX6 HBC HN6
              obtain ⟨z0, z1, z2, z3⟩ := blk4 j6
              obtain ⟨y0, y1, y2, y3⟩ := blk4z j6
              have HK := Lib.hid (j6.put4s (.slice none 0 0) (.slice none 0 0) (.int .i64 0) (.int .i64 0))
              have HBL := Lib.hid (below4s hbF (q := w.heap.size + 1) (by omega) (.slice none 0 0) (.slice none 0 0) (.int .i64 0) (.int .i64 0))
              go_wp2
              refine bodyPost_ret (results_cell_row2 rfl _ _ (w.heap.size + 1) 28 _ (0, 0) _ rfl HK.out Tryz.underlying28 rfl store_size) rfl ?_
              rw [HF.out]
              exact givesS2_no rfl HBL.out
        · have d4 : (G != 0) = true := by rw [bne_iff_ne]; exact p4
          have HF : Hid (X = (G, sNil)) := by show _ = _; rw [← HX4.out]; simp [p4]
          clear HX4 HBC HEP
          obtain ⟨z0, z1, z2, z3⟩ := blk4 j5
          obtain ⟨y0, y1, y2, y3⟩ := blk4z j5
          have HK := Lib.hid (j5.put4s (.slice none 0 0) (.slice none 0 0) (.int .i64 0) (.int .i64 0))
          have HBL := Lib.hid (below4s hbE (q := w.heap.size + 1) (by omega) (.slice none 0 0) (.slice none 0 0) (.int .i64 0) (.int .i64 0))
          go_wp2
          refine bodyPost_ret (results_cell_row2 rfl _ _ (w.heap.size + 1) 28 _ (0, 0) _ rfl HK.out Tryz.underlying28 rfl store_size) rfl ?_
          rw [HF.out]
          exact givesS2_no rfl HBL.out
      · have d3 : (F != 0) = true := by rw [bne_iff_ne]; exact p3
        have HF : Hid (X = (F, sNil)) := by show _ = _; rw [← HX3.out]; simp [p3]
        clear HX3 HBC HEP HPT
        obtain ⟨z0, z1, z2, z3⟩ := blk4 j4
        obtain ⟨y0, y1, y2, y3⟩ := blk4z j4
        have HK := Lib.hid (j4.put4s (.slice none 0 0) (.slice none 0 0) (.int .i64 0) (.int .i64 0))
        have HBL := Lib.hid (below4s hbD (q := w.heap.size + 1) (by omega) (.slice none 0 0) (.slice none 0 0) (.int .i64 0) (.int .i64 0))
        go_wp2
        refine bodyPost_ret (results_cell_row2 rfl _ _ (w.heap.size + 1) 28 _ (0, 0) _ rfl HK.out Tryz.underlying28 rfl store_size) rfl ?_
        rw [HF.out]
        exact givesS2_no rfl HBL.out
    · have d2 : (E != 0) = true := by rw [bne_iff_ne]; exact p2
      have HF : Hid (X = (E, sNil)) := by show _ = _; rw [← HX2.out]; simp [p2]
      clear HX2 HBC HEP HPT HPF
      go_wp2_with fail
      with_reducible refine (HHF.out _).mono ?_
      rintro e w3 ⟨rfl, rfl⟩
      obtain ⟨z0, z1, z2, z3⟩ := blk4 k2
      obtain ⟨y0, y1, y2, y3⟩ := blk4z k2
      have HK := Lib.hid (k2.put4s (.slice none 0 0) (.slice none 0 0) (.int .i64 0) (.int .i64 0))
      have HBL := Lib.hid (below4s hbB (q := w.heap.size + 1) (by omega) (.slice none 0 0) (.slice none 0 0) (.int .i64 0) (.int .i64 0))
      go_wp2
      refine bodyPost_ret (results_cell_row2 rfl _ _ (w.heap.size + 1) 28 _ (0, 0) _ rfl HK.out Tryz.underlying28 rfl store_size) rfl ?_
      rw [HF.out]
      exact givesS2_no rfl HBL.out
  · have d1 : (S != 0) = true := by rw [bne_iff_ne]; exact p1
    have HF : Hid (X = (S, sNil)) := by show _ = _; rw [← HXX.out]; simp [p1]
    clear HXX HBC HEP HPT HPF HHF HOK
    obtain ⟨z0, z1, z2, z3⟩ := blk4 k2
    obtain ⟨y0, y1, y2, y3⟩ := blk4z k2
    have HK := Lib.hid (k2.put4s (.slice none 0 0) (.slice none 0 0) (.int .i64 0) (.int .i64 0))
    have HBL := Lib.hid (below4s hbB (q := w.heap.size + 1) (by omega) (.slice none 0 0) (.slice none 0 0) (.int .i64 0) (.int .i64 0))
    go_wp2
    refine bodyPost_ret (results_cell_row2 rfl _ _ (w.heap.size + 1) 28 _ (0, 0) _ rfl HK.out Tryz.underlying28 rfl store_size) rfl ?_
    rw [HF.out]
    exact givesS2_no rfl HBL.out
end Go.Proofs.YtnadgdjaldemhaaGreatDoor

/- The reference's StorePut. -/
import Derived.Test.YtnadgdjaldemhaaDoorQZd
import Derived.Test.YtnadgdjaldemhaaDoorQZhb
import Derived.Test.YtnadgdjaldemhaaDoorGY
import Derived.Test.YtnadgdjaldemhaaDoorGB
import Derived.Test.YtnadgdjaldemhaaDoorGC
import Derived.Deep.CutRange
namespace Go.Proofs.YtnadgdjaldemhaaDoor
open Go.RowKit
set_option maxRecDepth 100000 in
set_option maxHeartbeats 1000000 in
theorem storePut_any (A B : Option Addr) (n c m k : Nat) (l : List Bl) (es : List En) (rm ck : Int) (dg : List UInt8) (P : Option Addr) (np cp : Nat) (ps : List Prt) (w : World) (hr : KRd kBl w A n c l) (he : KRd kEn w B m k es) (hgl : ∀ p ∈ l, p.good) (hge : ∀ p ∈ es, p.good) (hz : n * 56 ≤ 140737488351232) (hz2 : m * 56 ≤ 140737488351232)
    (hp : Rd w 3 P np cp (pcs ps)) (hpn : P = none → cp = 0) (hpg : ∀ p ∈ ps, p.good) (hpl : ps.length * 40 ≤ 140737488351232) (hdl : dg.length ≤ maxLen) :
    Calls Tryd.prog 20 #[.agg #[.slice A n c, .slice B m k, .int .i64 rm, .int .i64 ck], .string (str dg), .slice P np cp] w (GivesS2 (sPut ⟨l, es, rm, ck⟩ dg ps) w) := by
  have hal := ((Below.refl w.heap.size w).alloc (Nat.le_refl _) (.cells #[.slice A n c, .slice B m k, .int .i64 rm, .int .i64 ck] 25)).alloc (by simp) (.cells #[.slice none 0 0, .slice none 0 0, .int .i64 0, .int .i64 0] 25)
  have hb1 := (Blk.new w 25 [.slice A n c, .slice B m k, .int .i64 rm, .int .i64 ck]).alloc (.cells #[.slice none 0 0, .slice none 0 0, .int .i64 0, .int .i64 0] 25)
  have hb2 := Blk.new (w.alloc (.cells #[.slice A n c, .slice B m k, .int .i64 rm, .int .i64 ck] 25)) 25 [.slice none 0 0, .slice none 0 0, .int .i64 0, .int .i64 0]
  have hsz : (w.alloc (.cells #[.slice A n c, .slice B m k, .int .i64 rm, .int .i64 ck] 25)).heap.size = w.heap.size + 1 := by simp
  rw [hsz] at hb2
  have HS := Lib.hid (storeFault_any A B n c m k l es rm ck _ (hr.below hal) (he.below hal) hgl hge)
  obtain ⟨a0, a1, a2, a3⟩ := blk4 hb1
  clear hsz
  obtain ⟨X, hX⟩ : ∃ X, sPut ⟨l, es, rm, ck⟩ dg ps = X := ⟨_, rfl⟩
  rw [hX]
  have hX' : (if e1 (e1 (e1 (e1 (e1 (sErr ⟨l, es, rm, ck⟩) (cErr dg)) (psErr ps)) (pThere l ps)) (if ck = 1099511627776 then 4 else 0)) (xPut es ⟨dg, ps, 0, ck + 1⟩).1 ≠ 0 then (e1 (e1 (e1 (e1 (e1 (sErr ⟨l, es, rm, ck⟩) (cErr dg)) (psErr ps)) (pThere l ps)) (if ck = 1099511627776 then 4 else 0)) (xPut es ⟨dg, ps, 0, ck + 1⟩).1, sNil)
      else (0, (⟨l, (xPut es ⟨dg, ps, 0, ck + 1⟩).2, rm, ck + 1⟩ : Sto))) = X := by rw [← hX, sPut, sPutErr_e1]
  have HXX := Lib.hid hX'
  have HOK := Lib.hid (fun h : sErr ⟨l, es, rm, ck⟩ = 0 => (⟨(sErr_zero.1 h).c0, (sErr_zero.1 h).c1⟩ : 0 ≤ ck ∧ ck ≤ 1099511627776))
  have HHF := Lib.hid (fun W => hexFault_all dg W hdl)
  have HPF := Lib.hid (fun (W : World) (hb : Below w.heap.size w W) => partsFault_any P np cp ps W (hp.below hb) hpg)
  have HPT := Lib.hid (fun (W : World) (hb : Below w.heap.size w W) => partsThere_any A n c l P np cp ps W (hr.below hb) (hp.below hb))
  have HSC := Lib.hid (fun (W : World) (hb : Below w.heap.size w W) => storeCopy_any A B n c m k l es rm ck W (hr.below hb) (he.below hb) hgl hge hz hz2)
  have HEP := Lib.hid (fun (W : World) (hb : Below w.heap.size w W) (h1 : 0 ≤ ck) (h2 : ck ≤ 1099511627776) => entriesPut_any B m k es ⟨dg, ps, 0, ck + 1⟩ ⟨P, np, cp⟩ W (he.below hb) hge (show kEn.deep W ⟨dg, ps, 0, ck + 1⟩ ⟨P, np, cp⟩ from ⟨hp.below hb, hpn⟩) ⟨hdl, hpg, (by decide : (Lit.int .i64 0).wf = true), wf_ck h1 h2, hpl⟩)
  clear hX hX'
  go_enter Tryd.func20, Tryd.ntmps20
  go_wp2_with fail
  with_reducible refine HS.out.mono ?_
  rintro e w2 ⟨rfl, hc2⟩
  have k1 := hb1.below hc2 hb1.lt
  have k2 := hb2.below hc2 hb2.lt
  have hbB := below_step hal hc2
  clear hb1 hb2 hal hc2 HS a0 a1 a2 a3 hr he hp hgl hge hpg
  generalize sErr ⟨l, es, rm, ck⟩ = S at *
  obtain ⟨f0, f1, f2, f3⟩ := blk4 k1
  obtain ⟨E1, hE1⟩ : ∃ E1, e1 S (cErr dg) = E1 := ⟨_, rfl⟩
  have HE1 := Lib.hid hE1
  rw [hE1] at HXX
  clear hE1
  go_upto_if 13 with fail
  go_cut [8] from 14 to 16 (fun s8 wx => s8 = .int .i64 E1 ∧ Below w2.heap.size w2 wx)
  case first =>
    by_cases p : S = 0
    · have HF : Hid (E1 = cErr dg) := by show _ = _; rw [← HE1.out, e1_ok p]
      subst p
      go_wp2_with fail
      with_reducible refine (HHF.out _).mono ?_
      rintro e w3 ⟨rfl, hb3⟩
      go_wp2_with fail
      go_meet
      exact ⟨by rw [HF.out], hb3⟩
    · have d1 : (S == 0) = false := by rw [beq_eq_false_iff_ne]; exact p
      have HF : Hid (E1 = S) := by show _ = _; rw [← HE1.out, e1_no p]
      go_wp2_with fail
      go_meet
      exact ⟨by rw [HF.out], Below.refl _ _⟩
  case rest =>
  obtain ⟨rfl, hcut⟩ := hcut
  have k3 := k1.below hcut k1.lt
  have k4 := k2.below hcut k2.lt
  have hbC := below_step hbB hcut
  clear k1 k2 hbB hcut f0 f1 f2 f3
  obtain ⟨f0, f1, f2, f3⟩ := blk4 k3
  obtain ⟨E2, hE2⟩ : ∃ E2, e1 E1 (psErr ps) = E2 := ⟨_, rfl⟩
  have HE2 := Lib.hid hE2
  rw [hE2] at HXX
  clear hE2
  go_upto_if 17 with fail
  go_cut [8] from 18 to 20 (fun s8 wx => s8 = .int .i64 E2 ∧ Below wc.heap.size wc wx)
  case first =>
    by_cases p : E1 = 0
    · have HF : Hid (E2 = psErr ps) := by show _ = _; rw [← HE2.out, e1_ok p]
      subst p
      go_wp2_with fail
      with_reducible refine (HPF.out _ hbC).mono ?_
      rintro e w3 ⟨rfl, hb3⟩
      go_wp2_with fail
      go_meet
      exact ⟨by rw [HF.out], hb3⟩
    · have d1 : (E1 == 0) = false := by rw [beq_eq_false_iff_ne]; exact p
      have HF : Hid (E2 = E1) := by show _ = _; rw [← HE2.out, e1_no p]
      go_wp2_with fail
      go_meet
      exact ⟨by rw [HF.out], Below.refl _ _⟩
  case rest =>
  obtain ⟨rfl, hcut⟩ := hcut
  have k5 := k3.below hcut k3.lt
  have k6 := k4.below hcut k4.lt
  have hbD := below_step hbC hcut
  clear k3 k4 hbC hcut f0 f1 f2 f3
  obtain ⟨f0, f1, f2, f3⟩ := blk4 k5
  obtain ⟨E3, hE3⟩ : ∃ E3, e1 E2 (pThere l ps) = E3 := ⟨_, rfl⟩
  have HE3 := Lib.hid hE3
  rw [hE3] at HXX
  clear hE3
  go_upto_if 21 with fail
  go_cut [8] from 22 to 26 (fun s8 wx => s8 = .int .i64 E3 ∧ Below wc.heap.size wc wx)
  case first =>
    by_cases p : E2 = 0
    · have HF : Hid (E3 = pThere l ps) := by show _ = _; rw [← HE3.out, e1_ok p]
      subst p
      go_wp2_with fail
      with_reducible refine (HPT.out _ hbD).mono ?_
      rintro e w3 ⟨rfl, hb3⟩
      go_wp2_with fail
      go_meet
      exact ⟨by rw [HF.out], hb3⟩
    · have d1 : (E2 == 0) = false := by rw [beq_eq_false_iff_ne]; exact p
      have HF : Hid (E3 = E2) := by show _ = _; rw [← HE3.out, e1_no p]
      go_wp2_with fail
      go_meet
      exact ⟨by rw [HF.out], Below.refl _ _⟩
  case rest =>
  obtain ⟨rfl, hcut⟩ := hcut
  have k7 := k5.below hcut k5.lt
  have k8 := k6.below hcut k6.lt
  have hbE := below_step hbD hcut
  clear k5 k6 hbD hcut f0 f1 f2 f3
  obtain ⟨f0, f1, f2, f3⟩ := blk4 k7
  have hwc : w.heap.size + 2 ≤ wc.heap.size := by have := k8.lt; omega
  by_cases p : E3 = 0
  · by_cases q : ck = 1099511627776
    · have d1 : (ck == 1099511627776) = true := by rw [beq_iff_eq]; exact q
      have HF : Hid (X = (4, sNil)) := by show _ = _; rw [← HXX.out, e1_ok p, if_pos q, e1_no (by decide), if_pos (by decide)]
      subst p
      clear q HXX
      go_wp2_with fail
      with_reducible refine (HSC.out _ hbE).mono ?_
      rintro e w4 ⟨A5, c5, B5, d5, rfl, hN5, hM5, hc4⟩
      have j4 := k8.below hc4 k8.lt
      have hbF := below_step hbE hc4
      have hw4 : w.heap.size + 2 ≤ w4.heap.size := Nat.le_trans hwc hc4.size
      simp only
      have jg := j4.alloc (.cells #[.slice A5 l.length c5, .slice B5 es.length d5, .int .i64 rm, .int .i64 ck] 25)
      have hb6 := hbF.alloc hbF.size (.cells #[.slice A5 l.length c5, .slice B5 es.length d5, .int .i64 rm, .int .i64 ck] 25)
      clear k7 k8 f0 f1 f2 f3 hbE j4 hbF hN5 hM5 hc4 HSC HEP HHF HPF HPT
      go_upto_region 11 with fail
      generalize hw6 : w4.alloc (.cells [Value.slice A5 l.length c5, .slice B5 es.length d5, .int .i64 rm, .int .i64 ck].toArray 25) = w6 at *
      clear hw6
      obtain ⟨z0, z1, z2, z3⟩ := blk4 jg
      obtain ⟨y0, y1, y2, y3⟩ := blk4z jg
      have HK := Lib.hid (jg.put4s (.slice none 0 0) (.slice none 0 0) (.int .i64 0) (.int .i64 0))
      have HBL := Lib.hid (below4s hb6 (q := w.heap.size + 1) (by omega) (.slice none 0 0) (.slice none 0 0) (.int .i64 0) (.int .i64 0))
      go_wp2
      refine bodyPost_ret (results_cell_row2 rfl _ _ (w.heap.size + 1) 25 _ (0, 0) _ rfl HK.out Tryd.underlying25 rfl store_size) rfl ?_
      rw [HF.out]
      exact givesS2_no rfl HBL.out
    · have d1 : (ck == 1099511627776) = false := by rw [beq_eq_false_iff_ne]; exact q
      obtain ⟨E, L, hE⟩ : ∃ E L, xPut es ⟨dg, ps, 0, ck + 1⟩ = (E, L) := ⟨_, _, rfl⟩
      obtain ⟨r0, r1⟩ := HOK.out (e1_zero (HE1.out.trans (e1_zero (HE2.out.trans (e1_zero (HE3.out.trans p)).1)).1)).1
      have HXY : Hid ((if E ≠ 0 then (E, sNil) else (0, (⟨l, L, rm, ck + 1⟩ : Sto))) = X) := by show _ = _; rw [← HXX.out, hE, if_neg q, e1_ok p, e1_ok rfl]
      have HEQ := Lib.hid (fun W hb => HEP.out W hb r0 r1)
      rw [hE] at HEQ
      subst p
      clear q HXX hE HEP HE1 HE2 HE3 HOK
      go_wp2_with fail
      with_reducible refine (HSC.out _ hbE).mono ?_
      rintro e w4 ⟨A5, c5, B5, d5, rfl, hN5, hM5, hc4⟩
      have i4 := k7.below hc4 k7.lt
      have j4 := k8.below hc4 k8.lt
      have hbF := below_step hbE hc4
      have hw4 : w.heap.size + 2 ≤ w4.heap.size := Nat.le_trans hwc hc4.size
      have hN4 := Lib.hid (hN5.rebase (base' := w.heap.size + 2) hwc)
      simp only
      have kg := Blk.new w4 25 [.slice A5 l.length c5, .slice B5 es.length d5, .int .i64 rm, .int .i64 ck]
      have ig := i4.alloc (.cells #[.slice A5 l.length c5, .slice B5 es.length d5, .int .i64 rm, .int .i64 ck] 25)
      have jg := j4.alloc (.cells #[.slice A5 l.length c5, .slice B5 es.length d5, .int .i64 rm, .int .i64 ck] 25)
      have hb6 := hbF.alloc hbF.size (.cells #[.slice A5 l.length c5, .slice B5 es.length d5, .int .i64 rm, .int .i64 ck] 25)
      have hb46 := (Below.refl w4.heap.size w4).alloc (Nat.le_refl _) (.cells #[.slice A5 l.length c5, .slice B5 es.length d5, .int .i64 rm, .int .i64 ck] 25)
      clear k7 k8 f0 f1 f2 f3 hbE i4 j4 hbF hN5 hM5 hc4 HSC HHF HPF HPT
      have hq1 : w.heap.size ≠ w4.heap.size := by omega
      have hq2 : w.heap.size + 1 ≠ w4.heap.size := by omega
      go_upto_region 11 with fail
      generalize hw6 : w4.alloc (.cells [Value.slice A5 l.length c5, .slice B5 es.length d5, .int .i64 rm, .int .i64 ck].toArray 25) = w6 at *
      clear hw6
      obtain ⟨t0, t1, t2, t3⟩ := blk4 kg
      obtain ⟨y0, y1, y2, y3⟩ := blk4z kg
      obtain ⟨f0, f1, f2, f3⟩ := blk4 ig
      have kg7 : Blk _ _ _ [.slice A5 l.length c5, .slice B5 es.length d5, .int .i64 rm, .int .i64 (ck + 1)] := kg.put 3 (.int .i64 (ck + 1))
      have ig7 := ig.far (p := ⟨w4.heap.size, 3, none⟩) hq1 (.int .i64 (ck + 1))
      have jg7 := jg.far (p := ⟨w4.heap.size, 3, none⟩) hq2 (.int .i64 (ck + 1))
      have hb7 := hb6.setCell (p := ⟨w4.heap.size, 3, none⟩) (by show w.heap.size ≤ w4.heap.size; omega) (.int .i64 (ck + 1))
      have hb47 := hb46.setCell (p := ⟨w4.heap.size, 3, none⟩) (Nat.le_refl _) (.int .i64 (ck + 1))
      go_upto_region 13 with fail
      generalize hw7 : w6.setCell ⟨w4.heap.size, 3, none⟩ (.int .i64 (ck + 1)) = w7 at *
      clear hw7 kg ig jg hb6 hb46 t0 t1 t2 t3 y0 y1 y2 y3 f0 f1 f2 f3
      obtain ⟨t0, t1, t2, t3⟩ := blk4 kg7
      obtain ⟨f0, f1, f2, f3⟩ := blk4 ig7
      go_wp2_with fail
      with_reducible refine (HEQ.out _ hb7).mono ?_
      rintro e w8 ⟨A8, n8, c8, rfl, hN8, hc8⟩
      obtain rfl := hN8.rd.len
      have hs47 : w4.heap.size < w7.heap.size := kg7.lt
      have kg8 := kg7.below hc8 kg7.lt
      have jg8 := jg7.below hc8 jg7.lt
      have hb8 := below_step hb7 hc8
      have hb48 := hb47.trans (hc8.mono (Nat.le_of_lt hs47))
      clear kg7 jg7 ig7 hb7 hb47 t0 t1 t2 t3 f0 f1 f2 f3 HEQ hc8
      obtain ⟨y0, y1, y2, y3⟩ := blk4z kg8
      obtain ⟨t0, t1, t2, t3⟩ := blk4 kg8
      have kg9 : Blk _ _ _ [.slice A5 l.length c5, .slice A8 L.length c8, .int .i64 rm, .int .i64 (ck + 1)] := kg8.put 1 (.slice A8 L.length c8)
      have jg9 := jg8.far (p := ⟨w4.heap.size, 1, none⟩) hq2 (.slice A8 L.length c8)
      have hb9 := hb8.setCell (p := ⟨w4.heap.size, 1, none⟩) (by show w.heap.size ≤ w4.heap.size; omega) (.slice A8 L.length c8)
      have hN9 := hN4.out.below (hb48.setCell (p := ⟨w4.heap.size, 1, none⟩) (Nat.le_refl _) (.slice A8 L.length c8))
      have hE9 := hN8.set (g := w4.heap.size) (i := 1) hs47 (.slice A8 L.length c8)
      go_upto_region 14 with fail
      generalize hw9 : w8.setCell ⟨w4.heap.size, 1, none⟩ (.slice A8 L.length c8) = w9 at *
      clear hw9 kg8 jg8 hb8 hb48 hN8 hN4 t0 t1 t2 t3 y0 y1 y2 y3
      obtain ⟨t0, t1, t2, t3⟩ := blk4 kg9
      obtain ⟨z0, z1, z2, z3⟩ := blk4 jg9
      obtain ⟨y0, y1, y2, y3⟩ := blk4z jg9
      by_cases v : E = 0
      · subst v
        have HF : Hid (X = (0, ⟨l, L, rm, ck + 1⟩)) := by show _ = _; rw [← HXY.out, if_neg (by simp)]
        have HK := Lib.hid (jg9.put4s (.slice A5 l.length c5) (.slice A8 L.length c8) (.int .i64 rm) (.int .i64 (ck + 1)))
        have HBL := Lib.hid (below4s hb9 (q := w.heap.size + 1) (by omega) (.slice A5 l.length c5) (.slice A8 L.length c8) (.int .i64 rm) (.int .i64 (ck + 1)))
        have HN := Lib.hid ((hN9.set4s (q := w.heap.size + 1) (by omega) (.slice A5 l.length c5) (.slice A8 L.length c8) (.int .i64 rm) (.int .i64 (ck + 1))).rebase (base' := w.heap.size) (by omega))
        have HM := Lib.hid ((hE9.set4s (q := w.heap.size + 1) (by omega) (.slice A5 l.length c5) (.slice A8 L.length c8) (.int .i64 rm) (.int .i64 (ck + 1))).rebase (base' := w.heap.size) (by omega))
        clear HXY kg9 jg9 hb9 hN9 hE9
        go_wp2
        refine bodyPost_ret (results_cell_row2 rfl _ _ (w.heap.size + 1) 25 _ (0, 0) _ rfl HK.out Tryd.underlying25 rfl store_size) rfl ?_
        rw [HF.out]
        exact ⟨A5, c5, A8, c8, rfl, HN.out, HM.out, HBL.out⟩
      · have d2 : (E != 0) = true := by rw [bne_iff_ne]; exact v
        have HF : Hid (X = (E, sNil)) := by show _ = _; rw [← HXY.out, if_pos v]
        have HK := Lib.hid (jg9.put4s (.slice none 0 0) (.slice none 0 0) (.int .i64 0) (.int .i64 0))
        have HBL := Lib.hid (below4s hb9 (q := w.heap.size + 1) (by omega) (.slice none 0 0) (.slice none 0 0) (.int .i64 0) (.int .i64 0))
        clear HXY kg9 jg9 hb9 hN9 hE9 v
        go_wp2
        refine bodyPost_ret (results_cell_row2 rfl _ _ (w.heap.size + 1) 25 _ (0, 0) _ rfl HK.out Tryd.underlying25 rfl store_size) rfl ?_
        rw [HF.out]
        exact givesS2_no rfl HBL.out
  · have d0 : (E3 == 0) = false := by rw [beq_eq_false_iff_ne]; exact p
    have d2 : (E3 != 0) = true := by rw [bne_iff_ne]; exact p
    have HF : Hid (X = (E3, sNil)) := by show _ = _; rw [← HXX.out, e1_no p, e1_no p, if_pos p]
    clear p HXX
    go_wp2_with fail
    with_reducible refine (HSC.out _ hbE).mono ?_
    rintro e w4 ⟨A5, c5, B5, d5, rfl, hN5, hM5, hc4⟩
    have j4 := k8.below hc4 k8.lt
    have hbF := below_step hbE hc4
    have hw4 : w.heap.size + 2 ≤ w4.heap.size := Nat.le_trans hwc hc4.size
    simp only
    have jg := j4.alloc (.cells #[.slice A5 l.length c5, .slice B5 es.length d5, .int .i64 rm, .int .i64 ck] 25)
    have hb6 := hbF.alloc hbF.size (.cells #[.slice A5 l.length c5, .slice B5 es.length d5, .int .i64 rm, .int .i64 ck] 25)
    clear k7 k8 f0 f1 f2 f3 hbE j4 hbF hN5 hM5 hc4 HSC HEP HHF HPF HPT
    go_upto_region 11 with fail
    generalize hw6 : w4.alloc (.cells [Value.slice A5 l.length c5, .slice B5 es.length d5, .int .i64 rm, .int .i64 ck].toArray 25) = w6 at *
    clear hw6
    obtain ⟨z0, z1, z2, z3⟩ := blk4 jg
    obtain ⟨y0, y1, y2, y3⟩ := blk4z jg
    have HK := Lib.hid (jg.put4s (.slice none 0 0) (.slice none 0 0) (.int .i64 0) (.int .i64 0))
    have HBL := Lib.hid (below4s hb6 (q := w.heap.size + 1) (by omega) (.slice none 0 0) (.slice none 0 0) (.int .i64 0) (.int .i64 0))
    go_wp2
    refine bodyPost_ret (results_cell_row2 rfl _ _ (w.heap.size + 1) 25 _ (0, 0) _ rfl HK.out Tryd.underlying25 rfl store_size) rfl ?_
    rw [HF.out]
    exact givesS2_no rfl HBL.out
end Go.Proofs.YtnadgdjaldemhaaDoor

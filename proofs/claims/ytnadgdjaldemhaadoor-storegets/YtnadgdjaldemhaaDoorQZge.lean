/- The reference's StoreGet. -/
import Derived.Test.YtnadgdjaldemhaaDoorQZd
import Derived.Test.YtnadgdjaldemhaaDoorQZhe
namespace Go.Proofs.YtnadgdjaldemhaaDoor
open Go.RowKit
set_option maxRecDepth 100000 in
set_option maxHeartbeats 1000000 in
theorem storeGet_any (A B : Option Addr) (n c m k : Nat) (l : List Bl) (es : List En) (rm ck : Int) (dg : List UInt8) (w : World) (hr : KRd kBl w A n c l) (he : KRd kEn w B m k es) (hgl : ∀ p ∈ l, p.good) (hge : ∀ p ∈ es, p.good) (hz : n * 56 ≤ 140737488351232) (hz2 : m * 56 ≤ 140737488351232) :
    Calls Tryd.prog 22 #[.agg #[.slice A n c, .slice B m k, .int .i64 rm, .int .i64 ck], .string (str dg)] w (GivesSG (sGet ⟨l, es, rm, ck⟩ dg) w) := by
  obtain rfl := he.len
  have hal := ((Below.refl w.heap.size w).alloc (Nat.le_refl _) (.cells #[.slice A n c, .slice B es.length k, .int .i64 rm, .int .i64 ck] 25)).alloc (by simp) (.cells #[.slice none 0 0, .slice none 0 0, .int .i64 0, .int .i64 0] 25)
  have hb1 := (Blk.new w 25 [.slice A n c, .slice B es.length k, .int .i64 rm, .int .i64 ck]).alloc (.cells #[.slice none 0 0, .slice none 0 0, .int .i64 0, .int .i64 0] 25)
  have hb2 := Blk.new (w.alloc (.cells #[.slice A n c, .slice B es.length k, .int .i64 rm, .int .i64 ck] 25)) 25 [.slice none 0 0, .slice none 0 0, .int .i64 0, .int .i64 0]
  have hsz : (w.alloc (.cells #[.slice A n c, .slice B es.length k, .int .i64 rm, .int .i64 ck] 25)).heap.size = w.heap.size + 1 := by simp
  rw [hsz] at hb2
  have HS := Lib.hid (storeFault_any A B n c es.length k l es rm ck _ (hr.below hal) (he.below hal) hgl hge)
  obtain ⟨a0, a1, a2, a3⟩ := blk4 hb1
  clear hsz
  obtain ⟨X, hX⟩ : ∃ X, sGet ⟨l, es, rm, ck⟩ dg = X := ⟨_, rfl⟩
  rw [hX]
  have hX' : (if sErr ⟨l, es, rm, ck⟩ ≠ 0 then (sErr ⟨l, es, rm, ck⟩, sNil, []) else if h : xAt es dg < es.length then (if ck = 1099511627776 then (4, sNil, []) else (0, (⟨l, xStamp es (xAt es dg) (ck + 1), rm, ck + 1⟩ : Sto), es[xAt es dg].ps)) else (5, sNil, [])) = X := hX
  have HXX := Lib.hid hX'
  have HOK : sErr ⟨l, es, rm, ck⟩ = 0 → 0 ≤ ck ∧ ck ≤ 1099511627776 := fun h => ⟨(sErr_zero.1 h).c0, (sErr_zero.1 h).c1⟩
  clear hX hX'
  go_enter Tryd.func22, Tryd.ntmps22
  go_wp2_with fail
  with_reducible refine HS.out.mono ?_
  rintro e w2 ⟨rfl, hc2⟩
  have k1 := hb1.below hc2 hb1.lt
  have k2 := hb2.below hc2 hb2.lt
  have hbB := below_step hal hc2
  have H1 := Lib.hid (hr.below hbB)
  have H2 := Lib.hid (he.below hbB)
  have H0 := Lib.hid he
  clear hb1 hb2 hal hc2 HS a0 a1 a2 a3 hr he
  obtain ⟨S, hS⟩ : ∃ S, sErr ⟨l, es, rm, ck⟩ = S := ⟨_, rfl⟩
  rw [hS] at HXX HOK ⊢
  clear hS
  obtain ⟨e0, e1, e2, e3⟩ := blk4 k1
  obtain ⟨z0, z1, z2, z3⟩ := blk4 k2
  obtain ⟨y0, y1, y2, y3⟩ := blk4z k2
  have HK := Lib.hid (k2.put4s (.slice none 0 0) (.slice none 0 0) (.int .i64 0) (.int .i64 0))
  have HBL := Lib.hid (below4s hbB (q := w.heap.size + 1) (by omega) (.slice none 0 0) (.slice none 0 0) (.int .i64 0) (.int .i64 0))
  by_cases p1 : S = 0
  · subst p1
    obtain ⟨r0, r1⟩ := HOK rfl
    have HR1 := HXX.out
    rw [if_neg (by simp)] at HR1
    have HX2 := Lib.hid HR1
    clear HR1 HXX HOK
    have HAT := Lib.hid (entryAt_any _ _ _ es dg w2 H2.out)
    have hle := xAt_le es dg
    by_cases hb : xAt es dg < es.length
    · obtain ⟨b, boff, D, dn, dc, rfl, -, ic1, -, -, hrD, hDn⟩ := H0.out.entry hb
      have hbw : b < w.heap.size := cell_lt ic1
      have HR1 := HX2.out
      rw [dif_pos hb] at HR1
      have HX3 := Lib.hid HR1
      obtain ⟨K, hK⟩ : ∃ K, xAt es dg = K := ⟨_, rfl⟩
      rw [hK] at HAT ic1
      have hKl : K < es.length := by rw [← hK]; exact hb
      have hpk : es[xAt es dg].ps = es[K].ps := by congr 2
      rw [hpk] at hrD
      have HX4 : Hid ((if ck = 1099511627776 then (4, sNil, []) else (0, (⟨l, xStamp es K (ck + 1), rm, ck + 1⟩ : Sto), es[K].ps)) = X) := by
        show _ = _
        rw [← HX3.out, hpk, hK]
      have hbi : (K : Int) < (es.length : Int) := by omega
      have hbe : ((K : Int) == (es.length : Int)) = false := by rw [beq_eq_false_iff_ne]; omega
      have HD := Lib.hid hrD
      have HIC := Lib.hid ic1
      clear HX2 HX3 HR1 hrD ic1 hK hle hb hpk
      generalize es[K].ps = ps at *
      by_cases p2 : ck = 1099511627776
      · have d2 : (ck == 1099511627776) = true := by rw [beq_iff_eq]; exact p2
        have HF : Hid (X = (4, sNil, [])) := by show _ = _; rw [← HX4.out, if_pos p2]
        clear HX4 p2 r0 r1
        go_wp2_with fail
        with_reducible refine HAT.out.mono ?_
        rintro e w3 ⟨rfl, rfl⟩
        go_wp2
        refine bodyPost_ret (results_cell_row3 rfl _ _ (w.heap.size + 1) 25 _ (0, 0) _ rfl HK.out Tryd.underlying25 rfl store_size) rfl ?_
        rw [HF.out]
        exact givesSG_no rfl HBL.out
      · have d2 : (ck == 1099511627776) = false := by rw [beq_eq_false_iff_ne]; exact p2
        have HF : Hid (X = (0, ⟨l, xStamp es K (ck + 1), rm, ck + 1⟩, ps)) := by show _ = _; rw [← HX4.out, if_neg p2]
        clear HX4 HK HBL
        have HC := Lib.hid (storeCopy_own A _ n c es.length k l es rm ck w2 H1.out H2.out hgl hge hz hz2)
        go_wp2_with fail
        with_reducible refine HAT.out.mono ?_
        rintro e w3 ⟨rfl, rfl⟩
        go_wp2_with fail
        with_reducible refine HC.out.mono ?_
        rintro e w4 ⟨v5, u5, M, rfl, hO, hE, hM, hg5, hup, hc4⟩
        obtain ⟨g5, d5, rfl, -, hgl5, -, -, -⟩ := hE.stampE hKl (ck + 1)
        obtain ⟨A5, c5, rfl, -⟩ := hO.new
        have hbE := below_step hbB hc4
        have i4 := k1.below hc4 k1.lt
        have j4 := k2.below hc4 k2.lt
        have hw2 : w.heap.size + 2 ≤ w2.heap.size := by have := k2.lt; omega
        have hw4 : w.heap.size + 2 ≤ w4.heap.size := Nat.le_trans hw2 hc4.size
        simp only
        have kg := Blk.new w4 25 [.slice A5 l.length c5, .slice (some ⟨g5, 0, none⟩) es.length d5, .int .i64 rm, .int .i64 ck]
        have ig := i4.alloc (.cells #[.slice A5 l.length c5, .slice (some ⟨g5, 0, none⟩) es.length d5, .int .i64 rm, .int .i64 ck] 25)
        have jg := j4.alloc (.cells #[.slice A5 l.length c5, .slice (some ⟨g5, 0, none⟩) es.length d5, .int .i64 rm, .int .i64 ck] 25)
        have hb6 := hbE.alloc hbE.size (.cells #[.slice A5 l.length c5, .slice (some ⟨g5, 0, none⟩) es.length d5, .int .i64 rm, .int .i64 ck] 25)
        have HE := Lib.hid hE
        have hb46 := (Below.refl w4.heap.size w4).alloc (Nat.le_refl _) (.cells #[.slice A5 l.length c5, .slice (some ⟨g5, 0, none⟩) es.length d5, .int .i64 rm, .int .i64 ck] 25)
        have hs6 : w4.heap.size < (w4.alloc (.cells #[.slice A5 l.length c5, .slice (some ⟨g5, 0, none⟩) es.length d5, .int .i64 rm, .int .i64 ck] 25)).heap.size := by simp
        clear k1 k2 z0 z1 z2 z3 y0 y1 y2 y3 e0 e1 e2 e3 hbB H1 H2 HC HAT hO hE hc4 hg5 i4 j4 hbE
        go_upto_region 10 with fail
        generalize hw6 : w4.alloc (.cells [Value.slice A5 l.length c5, .slice (some ⟨g5, 0, none⟩) es.length d5, .int .i64 rm, .int .i64 ck].toArray 25) = w6 at *
        clear hw6
        obtain ⟨t0, t1, t2, t3⟩ := blk4 kg
        obtain ⟨y0, y1, y2, y3⟩ := blk4z kg
        have kg7 : Blk _ _ _ [.slice A5 l.length c5, .slice (some ⟨g5, 0, none⟩) es.length d5, .int .i64 rm, .int .i64 (ck + 1)] := kg.put 3 (.int .i64 (ck + 1))
        have hq1 : w.heap.size ≠ w4.heap.size := by omega
        have hq2 : w.heap.size + 1 ≠ w4.heap.size := by omega
        have ig7 := ig.far (p := ⟨w4.heap.size, 3, none⟩) hq1 (.int .i64 (ck + 1))
        have jg7 := jg.far (p := ⟨w4.heap.size, 3, none⟩) hq2 (.int .i64 (ck + 1))
        have hb7 := hb6.setCell (p := ⟨w4.heap.size, 3, none⟩) (by show w.heap.size ≤ w4.heap.size; omega) (.int .i64 (ck + 1))
        have hb47 := hb46.setCell (p := ⟨w4.heap.size, 3, none⟩) (Nat.le_refl _) (.int .i64 (ck + 1))
        have hE7 := HE.out.below hb47
        have hs7 : w4.heap.size < (w6.setCell ⟨w4.heap.size, 3, none⟩ (.int .i64 (ck + 1))).heap.size := by simpa using hs6
        clear HE kg ig jg hb6 hb46 hs6
        go_upto_region 11 with fail
        generalize hw7 : w6.setCell ⟨w4.heap.size, 3, none⟩ (.int .i64 (ck + 1)) = w7 at *
        clear hw7 t0 t1 t2 t3 y0 y1 y2 y3
        obtain ⟨t0, t1, t2, t3⟩ := blk4 kg7
        obtain ⟨g', c', q, hgB, hg6, hcl, hfr, hE8⟩ := hE7.stampE hKl (ck + 1)
        injection q with q1 _ q2
        injection q1 with q1
        injection q1 with q1
        subst q1; subst q2
        have hne1 : w4.heap.size ≠ g5 := by omega
        have hne2 : w.heap.size + 1 ≠ g5 := by omega
        have hne3 : w.heap.size ≠ g5 := by omega
        have kg8 := kg7.far (p := ⟨g5, K * 4 + 3, none⟩) hne1 (.int .i64 (ck + 1))
        have jg8 := jg7.far (p := ⟨g5, K * 4 + 3, none⟩) hne2 (.int .i64 (ck + 1))
        have ig8 := ig7.far (p := ⟨g5, K * 4 + 3, none⟩) hne3 (.int .i64 (ck + 1))
        have hb8 := hb7.setCell (p := ⟨g5, K * 4 + 3, none⟩) (by show w.heap.size ≤ g5; omega) (.int .i64 (ck + 1))
        have hk8 : ∀ k, w2.heap.size + 2 ≤ k → k < M → (w7.setCell ⟨g5, K * 4 + 3, none⟩ (.int .i64 (ck + 1))).heap[k]? = w4.heap[k]? := fun k _ k2 => by
          rw [Below.heap_setCell _ ⟨g5, K * 4 + 3, none⟩ _ _ (by show k ≠ g5; omega)]
          exact hb47.block k (by omega)
        clear kg7 jg7 ig7 hb7 hb47 hE7
        go_upto_region 12 with fail
        generalize hw8 : w7.setCell ⟨g5, K * 4 + 3, none⟩ (.int .i64 (ck + 1)) = w8 at *
        have hz8 : w7.heap.size = w8.heap.size := by rw [← hw8]; simp
        have hic8 : w8.drew.cell? ⟨b, boff + K * 4 + 1, none⟩ = some (.slice D dn dc) := (hb8.drew.cell (p := ⟨b, boff + K * 4 + 1, none⟩) hbw).trans HIC.out
        have hs8 : w4.heap.size ≤ w8.heap.size := by omega
        have hM1 : w.heap.size ≤ w2.heap.size + 2 := by omega
        have hM2 : w.heap.size + 1 < M := by omega
        have hM3 : w.heap.size ≤ M := by omega
        have hne4 : w4.heap.size ≠ w.heap.size + 1 := by omega
        have hne5 : w.heap.size ≠ w.heap.size + 1 := by omega
        have hic9 : (((((w8.setCell ⟨w.heap.size + 1, 0, none⟩ (.slice A5 l.length c5)).setCell ⟨w.heap.size + 1, 1, none⟩ (.slice (some ⟨g5, 0, none⟩) es.length d5)).setCell ⟨w.heap.size + 1, 2, none⟩ (.int .i64 rm)).setCell ⟨w.heap.size + 1, 3, none⟩ (.int .i64 (ck + 1)))).drew.cell? ⟨b, boff + K * 4 + 1, none⟩ = some (.slice D dn dc) := (cell4s hb8 (p := ⟨b, boff + K * 4 + 1, none⟩) hbw (q := w.heap.size + 1) (by omega) _ _ _ _).trans HIC.out
        obtain ⟨z0, z1, z2, z3⟩ := blk4 jg8
        obtain ⟨y0, y1, y2, y3⟩ := blk4z jg8
        have kd := kg8.drew
        have id := ig8.drew
        have HK := Lib.hid (jg8.put4s (.slice A5 l.length c5) (.slice (some ⟨g5, 0, none⟩) es.length d5) (.int .i64 rm) (.int .i64 (ck + 1))).drew
        have HBL := Lib.hid (below4s hb8 (q := w.heap.size + 1) (by omega) (.slice A5 l.length c5) (.slice (some ⟨g5, 0, none⟩) es.length d5) (.int .i64 rm) (.int .i64 (ck + 1))).drew
        have HE := Lib.hid (show KOwn kEn (((((w8.setCell ⟨w.heap.size + 1, 0, none⟩ (.slice A5 l.length c5)).setCell ⟨w.heap.size + 1, 1, none⟩ (.slice (some ⟨g5, 0, none⟩) es.length d5)).setCell ⟨w.heap.size + 1, 2, none⟩ (.int .i64 rm)).setCell ⟨w.heap.size + 1, 3, none⟩ (.int .i64 (ck + 1)))).drew M 55 _ _ from hE8.set4s (q := w.heap.size + 1) hM2 (.slice A5 l.length c5) (.slice (some ⟨g5, 0, none⟩) es.length d5) (.int .i64 rm) (.int .i64 (ck + 1)))
        have HO := Lib.hid (hup (((((w8.setCell ⟨w.heap.size + 1, 0, none⟩ (.slice A5 l.length c5)).setCell ⟨w.heap.size + 1, 1, none⟩ (.slice (some ⟨g5, 0, none⟩) es.length d5)).setCell ⟨w.heap.size + 1, 2, none⟩ (.int .i64 rm)).setCell ⟨w.heap.size + 1, 3, none⟩ (.int .i64 (ck + 1)))).drew (by show w4.heap.size ≤ (((((w8.setCell ⟨w.heap.size + 1, 0, none⟩ (.slice A5 l.length c5)).setCell ⟨w.heap.size + 1, 1, none⟩ (.slice (some ⟨g5, 0, none⟩) es.length d5)).setCell ⟨w.heap.size + 1, 2, none⟩ (.int .i64 rm)).setCell ⟨w.heap.size + 1, 3, none⟩ (.int .i64 (ck + 1)))).heap.size; simpa using hs8) (fun k k1 k2 => by
          have e1 : k ≠ w.heap.size + 1 := by omega
          show (((((w8.setCell ⟨w.heap.size + 1, 0, none⟩ (.slice A5 l.length c5)).setCell ⟨w.heap.size + 1, 1, none⟩ (.slice (some ⟨g5, 0, none⟩) es.length d5)).setCell ⟨w.heap.size + 1, 2, none⟩ (.int .i64 rm)).setCell ⟨w.heap.size + 1, 3, none⟩ (.int .i64 (ck + 1)))).heap[k]? = _
          rw [Below.heap_setCell _ ⟨w.heap.size + 1, 3, none⟩ _ _ e1, Below.heap_setCell _ ⟨w.heap.size + 1, 2, none⟩ _ _ e1, Below.heap_setCell _ ⟨w.heap.size + 1, 1, none⟩ _ _ e1, Below.heap_setCell _ ⟨w.heap.size + 1, 0, none⟩ _ _ e1]
          exact hk8 k k1 k2))
        have HDD := Lib.hid (HD.out.below HBL.out)
        clear hw8 hE8 hup hk8 hb8 t0 t1 t2 t3 hcl hfr
        go_region_held_law (fun W => W.cell? ⟨w4.heap.size, 0, none⟩ = some (.slice A5 l.length c5) ∧ W.cell? ⟨w4.heap.size, 1, none⟩ = some (.slice (some ⟨g5, 0, none⟩) es.length d5) ∧ W.cell? ⟨w4.heap.size, 2, none⟩ = some (.int .i64 rm) ∧ W.cell? ⟨w4.heap.size, 3, none⟩ = some (.int .i64 (ck + 1)) ∧ W.cell? ⟨w.heap.size, 1, none⟩ = some (.slice (some ⟨b, boff, none⟩) es.length k) ∧ W.cell? ⟨b, boff + K * 4 + 1, none⟩ = some (.slice D dn dc))
          (first | with_reducible exact sg6 kd id hic8 | with_reducible exact sg6 (kg8.far4s hne4 _ _ _ _).drew (ig8.far4s hne5 _ _ _ _).drew hic9 | go_keep) (fail)
        all_goals
          go_wp2
          refine bodyPost_ret (results_cell_row3 rfl _ _ (w.heap.size + 1) 25 _ (0, 0) _ rfl HK.out Tryd.underlying25 rfl store_size) rfl ?_
          rw [HF.out]
          exact givesSG_mk rfl HO.out HE.out HDD.out hDn hM1 hM3 HBL.out
    · have hbe : xAt es dg = es.length := by omega
      have HF : Hid (X = (5, sNil, [])) := by show _ = _; rw [← HX2.out, dif_neg hb]
      rw [hbe] at HAT
      have hq : ((es.length : Int) == (es.length : Int)) = true := by simp
      clear HX2 hbe hb hle
      go_wp2_with fail
      with_reducible refine HAT.out.mono ?_
      rintro e w3 ⟨rfl, rfl⟩
      go_wp2
      refine bodyPost_ret (results_cell_row3 rfl _ _ (w.heap.size + 1) 25 _ (0, 0) _ rfl HK.out Tryd.underlying25 rfl store_size) rfl ?_
      rw [HF.out]
      exact givesSG_no rfl HBL.out
  · have d1 : (S != 0) = true := by rw [bne_iff_ne]; exact p1
    have HF : Hid (X = (S, sNil, [])) := by show _ = _; rw [← HXX.out, if_pos p1]
    go_wp2
    refine bodyPost_ret (results_cell_row3 rfl _ _ (w.heap.size + 1) 25 _ (0, 0) _ rfl HK.out Tryd.underlying25 rfl store_size) rfl ?_
    rw [HF.out]
    exact givesSG_no rfl HBL.out
end Go.Proofs.YtnadgdjaldemhaaDoor

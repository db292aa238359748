/- The reference's StorePutBlob. -/
import Derived.Test.YtnadgdjaldemhaaDoorQZd
import Derived.Test.YtnadgdjaldemhaaDoorQZf
import Derived.Test.YtnadgdjaldemhaaDoorQZc
import Derived.Test.YtnadgdjaldemhaaDoorGR
import Derived.Test.YtnadgdjaldemhaaDoorQMr3
namespace Go.Proofs.YtnadgdjaldemhaaDoor
open Go.RowKit
set_option maxRecDepth 100000 in
set_option maxHeartbeats 4000000 in
theorem storePutBlob_any (A B : Option Addr) (n c m k : Nat) (l : List Bl) (es : List En) (rm ck : Int) (D : Option Addr) (q d : Nat) (b : List UInt8) (w : World) (hr : KRd kBl w A n c l) (he : KRd kEn w B m k es) (hA : A = none → c = 0) (hgl : ∀ p ∈ l, p.good) (hge : ∀ p ∈ es, p.good) (hz : n * 56 ≤ 140737488351232) (hz2 : m * 56 ≤ 140737488351232) (hb : Rd w 1 D q d (b.map bv8)) (hD : D = none → d = 0) :
    Calls Tryd.prog 15 #[.agg #[.slice A n c, .slice B m k, .int .i64 rm, .int .i64 ck], .slice D q d] w (GivesPB (sPutBlob ⟨l, es, rm, ck⟩ b) w) := by
  have hal := ((Below.refl w.heap.size w).alloc (Nat.le_refl _) (.cells #[.slice A n c, .slice B m k, .int .i64 rm, .int .i64 ck] 25)).alloc (by simp) (.cells #[.slice none 0 0, .slice none 0 0, .int .i64 0, .int .i64 0] 25)
  have hb1 := (Blk.new w 25 [.slice A n c, .slice B m k, .int .i64 rm, .int .i64 ck]).alloc (.cells #[.slice none 0 0, .slice none 0 0, .int .i64 0, .int .i64 0] 25)
  have hb2 := Blk.new (w.alloc (.cells #[.slice A n c, .slice B m k, .int .i64 rm, .int .i64 ck] 25)) 25 [.slice none 0 0, .slice none 0 0, .int .i64 0, .int .i64 0]
  have hsz : (w.alloc (.cells #[.slice A n c, .slice B m k, .int .i64 rm, .int .i64 ck] 25)).heap.size = w.heap.size + 1 := by simp
  rw [hsz] at hb2
  have HS := Lib.hid (storeFault_any A B n c m k l es rm ck _ (hr.below hal) (he.below hal) hgl hge)
  obtain ⟨a0, a1, a2, a3⟩ := blk4 hb1
  clear hsz
  obtain ⟨X, hX⟩ : ∃ X, sPutBlob ⟨l, es, rm, ck⟩ b = X := ⟨_, rfl⟩
  rw [hX]
  have hX' : (if sErr ⟨l, es, rm, ck⟩ ≠ 0 then (sErr ⟨l, es, rm, ck⟩, sNil, []) else if (bPut l b).1 ≠ 0 then ((bPut l b).1, sNil, []) else if rm < wrap64 (uS (bPut l b).2.1) then (7, sNil, [])
    else (0, (⟨(bPut l b).2.1, es, rm, ck⟩ : Sto), (bPut l b).2.2)) = X := hX
  have HXX := Lib.hid hX'
  clear hX hX'
  go_enter Tryd.func15, Tryd.ntmps15
  go_wp2_with fail
  with_reducible refine HS.out.mono ?_
  rintro e w2 ⟨rfl, hc2⟩
  have k1 := hb1.below hc2 hb1.lt
  have k2 := hb2.below hc2 hb2.lt
  have hbB := below_step hal hc2
  have hz3 : w.heap.size + 2 ≤ w2.heap.size := by have h1 := hc2.size; have h2 := hb2.lt; omega
  have H1 := Lib.hid (hr.below hbB)
  have H2 := Lib.hid (he.below hbB)
  have H3 := Lib.hid (hb.below hbB)
  clear hb1 hb2 hal hc2 HS a0 a1 a2 a3 hr he hb
  obtain ⟨S, hS⟩ : ∃ S, sErr ⟨l, es, rm, ck⟩ = S := ⟨_, rfl⟩
  rw [hS] at HXX ⊢
  clear hS
  by_cases p1 : S = 0
  · subst p1
    have HR1 := HXX.out
    rw [if_neg (by simp)] at HR1
    have HX2 := Lib.hid HR1
    clear HR1 HXX
    have e0 := k1.cell 0
    simp only [List.getElem?_cons_zero] at e0
    have HP := Lib.hid (blobsPut_any A n c l D q d b w2 H1.out hA hgl H3.out hD)
    go_wp2_with fail
    with_reducible refine HP.out.mono ?_
    rintro e w3 ⟨A3, n3, c3, rfl, hN3, hc3⟩
    have k3 := k1.below hc3 k1.lt
    have j3 := k2.below hc3 k2.lt
    have r3 := H1.out.below hc3
    have s3 := H2.out.below hc3
    have hbC := below_step hbB hc3
    have hz3' := hc3.size
    have hN := Lib.hid (hN3.rebase (base' := w.heap.size + 2) hz3)
    clear hN3 H1 H2 H3 k1 k2 hc3 hbB e0 HP
    obtain ⟨E, L3, dg, hE⟩ : ∃ E L3 dg, bPut l b = (E, L3, dg) := ⟨_, _, _, rfl⟩
    rw [hE] at HX2 hN
    simp only [hE] at hN ⊢
    simp only at HX2
    clear hE
    obtain rfl : n3 = L3.length := hN.out.rd.len
    by_cases p2 : E = 0
    · subst p2
      have HR1 := HX2.out
      rw [if_neg (by simp)] at HR1
      have HX3 := Lib.hid HR1
      clear HR1 HX2
      have HU := Lib.hid (fun W h => roomUsed_quiet A3 L3.length c3 L3 W h)
      obtain ⟨U, hU⟩ : ∃ U, wrap64 (uS L3) = U := ⟨_, rfl⟩
      rw [hU] at HX3 HU
      clear hU
      obtain ⟨g0, g1, g2, g3⟩ := blk4 k3
      have H31 := Lib.hid hN.out.rd
      by_cases p3 : rm < U
      · have d3 : decide (rm < U) = true := by simpa using p3
        have HF : Hid (X = (7, sNil, [])) := by show _ = _; rw [← HX3.out, if_pos p3]
        clear p3 HX3
        go_upto_region 7 with fail
        go_quiet (first | (go_at_call 36; with_reducible exact Calls.quiet_of_same (HU.out _ (H31.out.below (below_drewN (Below.refl _ _) _)))))
        have j4 := j3.drewN nq
        have hbD := below_drewN hbC nq
        clear k3 j3 r3 s3 hbC g0 g1 g2 g3 HU hN H31
        generalize w3.drewN nq = w4 at *
        obtain ⟨z0, z1, z2, z3⟩ := blk4 j4
        obtain ⟨y0, y1, y2, y3⟩ := blk4z j4
        have HK := Lib.hid (j4.put4s (.slice none 0 0) (.slice none 0 0) (.int .i64 0) (.int .i64 0))
        have HBL := Lib.hid (below4s hbD (q := w.heap.size + 1) (by omega) (.slice none 0 0) (.slice none 0 0) (.int .i64 0) (.int .i64 0))
        go_wp2
        refine bodyPost_ret (results_cell_row3 rfl _ _ (w.heap.size + 1) 25 _ (0, 0) _ rfl HK.out Tryd.underlying25 rfl store_size) rfl ?_
        rw [HF.out]
        exact givesPB_no rfl HBL.out
      · have d3 : decide (rm < U) = false := by simpa using p3
        have HF : Hid (X = (0, ⟨L3, es, rm, ck⟩, dg)) := by show _ = _; rw [← HX3.out, if_neg p3]
        clear p3 HX3
        go_upto_region 7 with fail
        go_quiet (first | (go_at_call 36; with_reducible exact Calls.quiet_of_same (HU.out _ (H31.out.below (below_drewN (Below.refl _ _) _)))))
        have j4 := j3.drewN nq
        have k4 := k3.drewN nq
        have r4 := r3.below (below_drewN (Below.refl w3.heap.size w3) nq)
        have s4 := s3.below (below_drewN (Below.refl w3.heap.size w3) nq)
        have hN4 := hN.out.below (below_drewN (Below.refl w3.heap.size w3) nq)
        have hbD := below_drewN hbC nq
        have hz4' : w.heap.size + 2 ≤ (w3.drewN nq).heap.size := Nat.le_trans hz3 hz3'
        clear k3 j3 r3 s3 hbC g0 g1 g2 g3 HU hN H31
        generalize w3.drewN nq = w4 at *
        obtain ⟨g0, g1, g2, g3⟩ := blk4 k4
        have HC := Lib.hid (storeCopy_any A B n c m k l es rm ck w4 r4 s4 hgl hge hz hz2)
        go_wp2_with fail
        with_reducible refine HC.out.mono ?_
        rintro e w5 ⟨A5, c5, B5, d5, rfl, hN5, hM5, hc5⟩
        have j5 := j4.below hc5 j4.lt
        have hN6 := hN4.below hc5
        have hz4 := hz4'
        have hM6 := hM5.rebase (base' := w.heap.size + 2) (by omega)
        have hbE := below_step hbD hc5
        have hz5 := hbE.size
        have hjl := j5.lt
        clear j4 k4 r4 s4 hN4 hbD hc5 HC hN5 hM5 g0 g1 g2 g3
        simp only
        have hal6 := (Below.refl w5.heap.size w5).alloc (Nat.le_refl _) (.cells #[.slice A5 l.length c5, .slice B5 es.length d5, .int .i64 rm, .int .i64 ck] 25)
        have kg := Blk.new w5 25 [.slice A5 l.length c5, .slice B5 es.length d5, .int .i64 rm, .int .i64 ck]
        have jg := j5.alloc (.cells #[.slice A5 l.length c5, .slice B5 es.length d5, .int .i64 rm, .int .i64 ck] 25)
        have hne : w5.heap.size ≠ w.heap.size + 1 := by omega
        have hne' : w.heap.size + 1 ≠ w5.heap.size := by omega
        have q0 := kg.cell 0
        have q9 := kg.frozen 0
        have kg2 := kg.put 0 (.slice A3 L3.length c3)
        have jg2 := jg.far (p := ⟨w5.heap.size, 0, none⟩) hne' (.slice A3 L3.length c3)
        simp only [List.set_cons_zero, List.getElem?_cons_zero] at kg2 q0
        obtain ⟨t0, t1, t2, t3⟩ := blk4 kg2
        obtain ⟨u0, u1, u2, u3⟩ := blk4 jg2
        obtain ⟨y0, y1, y2, y3⟩ := blk4z jg2
        have HK := Lib.hid (jg2.put4s (.slice A3 L3.length c3) (.slice B5 es.length d5) (.int .i64 rm) (.int .i64 ck))
        have hb7 := (hbE.alloc hbE.size (.cells #[.slice A5 l.length c5, .slice B5 es.length d5, .int .i64 rm, .int .i64 ck] 25)).setCell (p := ⟨w5.heap.size, 0, none⟩) hz5 (.slice A3 L3.length c3)
        have HBL := Lib.hid (below4s hb7 (q := w.heap.size + 1) (by omega) (.slice A3 L3.length c3) (.slice B5 es.length d5) (.int .i64 rm) (.int .i64 ck))
        have hzw : w.heap.size + 2 ≤ w5.heap.size := by omega
        have HN := Lib.hid ((hN6.keepSto (o := .cells #[.slice A5 l.length c5, .slice B5 es.length d5, .int .i64 rm, .int .i64 ck] 25) (q := w.heap.size + 1) (by omega) (.slice A3 L3.length c3) (.slice A3 L3.length c3) (.slice B5 es.length d5) (.int .i64 rm) (.int .i64 ck)).rebase (base' := w.heap.size) (by omega))
        have HM := Lib.hid ((hM6.keepSto (o := .cells #[.slice A5 l.length c5, .slice B5 es.length d5, .int .i64 rm, .int .i64 ck] 25) (q := w.heap.size + 1) (by omega) (.slice A3 L3.length c3) (.slice A3 L3.length c3) (.slice B5 es.length d5) (.int .i64 rm) (.int .i64 ck)).rebase (base' := w.heap.size) (by omega))
        clear hN6 hM6 hb7 hal6 kg jg kg2 jg2 j5 hbE hz4 hz5 hjl hzw
        go_upto_region 10 with fail
        generalize hw6 : w5.alloc (.cells [Value.slice A5 l.length c5, .slice B5 es.length d5, .int .i64 rm, .int .i64 ck].toArray 25) = w6 at *
        clear hw6
        go_wp2
        refine bodyPost_ret (results_cell_row3 rfl _ _ (w.heap.size + 1) 25 _ (0, 0) _ rfl HK.out Tryd.underlying25 rfl store_size) rfl ?_
        rw [HF.out]
        exact ⟨A3, c3, B5, d5, rfl, HN.out, HM.out, HBL.out⟩
    · have d2 : (E != 0) = true := by rw [bne_iff_ne]; exact p2
      have HF : Hid (X = (E, sNil, [])) := by show _ = _; rw [← HX2.out, if_pos p2]
      obtain ⟨z0, z1, z2, z3⟩ := blk4 j3
      obtain ⟨y0, y1, y2, y3⟩ := blk4z j3
      have HK := Lib.hid (j3.put4s (.slice none 0 0) (.slice none 0 0) (.int .i64 0) (.int .i64 0))
      have HBL := Lib.hid (below4s hbC (q := w.heap.size + 1) (by omega) (.slice none 0 0) (.slice none 0 0) (.int .i64 0) (.int .i64 0))
      go_wp2
      refine bodyPost_ret (results_cell_row3 rfl _ _ (w.heap.size + 1) 25 _ (0, 0) _ rfl HK.out Tryd.underlying25 rfl store_size) rfl ?_
      rw [HF.out]
      exact givesPB_no rfl HBL.out
  · have d1 : (S != 0) = true := by rw [bne_iff_ne]; exact p1
    have HF : Hid (X = (S, sNil, [])) := by show _ = _; rw [← HXX.out, if_pos p1]
    obtain ⟨z0, z1, z2, z3⟩ := blk4 k2
    obtain ⟨y0, y1, y2, y3⟩ := blk4z k2
    have HK := Lib.hid (k2.put4s (.slice none 0 0) (.slice none 0 0) (.int .i64 0) (.int .i64 0))
    have HBL := Lib.hid (below4s hbB (q := w.heap.size + 1) (by omega) (.slice none 0 0) (.slice none 0 0) (.int .i64 0) (.int .i64 0))
    go_wp2
    refine bodyPost_ret (results_cell_row3 rfl _ _ (w.heap.size + 1) 25 _ (0, 0) _ rfl HK.out Tryd.underlying25 rfl store_size) rfl ?_
    rw [HF.out]
    exact givesPB_no rfl HBL.out
end Go.Proofs.YtnadgdjaldemhaaDoor

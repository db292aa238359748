/- The reference's StoreHoldBlob. -/
import Derived.Test.YtnadgdjaldemhaaDoorQZd
import Derived.Test.YtnadgdjaldemhaaDoorQZf
import Derived.Test.YtnadgdjaldemhaaDoorQZc
import Derived.Test.YtnadgdjaldemhaaDoorQZk2
import Derived.Test.YtnadgdjaldemhaaDoorQPj
import Derived.Test.YtnadgdjaldemhaaDoorQMr3
namespace Go.Proofs.YtnadgdjaldemhaaDoor
open Go.RowKit
set_option maxRecDepth 100000 in
set_option maxHeartbeats 1000000 in
theorem storeHoldBlob_any (A B : Option Addr) (n c m k : Nat) (l : List Bl) (es : List En) (rm ck : Int) (dg : List UInt8) (up : Bool) (w : World) (hr : KRd kBl w A n c l) (he : KRd kEn w B m k es) (hgl : ∀ p ∈ l, p.good) (hge : ∀ p ∈ es, p.good) (hz : n * 56 ≤ 140737488351232) (hz2 : m * 56 ≤ 140737488351232) :
    Calls Tryd.prog 26 #[.agg #[.slice A n c, .slice B m k, .int .i64 rm, .int .i64 ck], .string (str dg), .bool up] w (GivesS2 (sHoldBlob ⟨l, es, rm, ck⟩ dg up) w) := by
  obtain rfl := hr.len
  have hal := ((Below.refl w.heap.size w).alloc (Nat.le_refl _) (.cells #[.slice A l.length c, .slice B m k, .int .i64 rm, .int .i64 ck] 25)).alloc (by simp) (.cells #[.slice none 0 0, .slice none 0 0, .int .i64 0, .int .i64 0] 25)
  have hb1 := (Blk.new w 25 [.slice A l.length c, .slice B m k, .int .i64 rm, .int .i64 ck]).alloc (.cells #[.slice none 0 0, .slice none 0 0, .int .i64 0, .int .i64 0] 25)
  have hb2 := Blk.new (w.alloc (.cells #[.slice A l.length c, .slice B m k, .int .i64 rm, .int .i64 ck] 25)) 25 [.slice none 0 0, .slice none 0 0, .int .i64 0, .int .i64 0]
  have hsz : (w.alloc (.cells #[.slice A l.length c, .slice B m k, .int .i64 rm, .int .i64 ck] 25)).heap.size = w.heap.size + 1 := by simp
  rw [hsz] at hb2
  have HS := Lib.hid (storeFault_any A B l.length c m k l es rm ck _ (hr.below hal) (he.below hal) hgl hge)
  obtain ⟨a0, a1, a2, a3⟩ := blk4 hb1
  clear hsz
  obtain ⟨X, hX⟩ : ∃ X, sHoldBlob ⟨l, es, rm, ck⟩ dg up = X := ⟨_, rfl⟩
  rw [hX]
  have hX' : (if sErr ⟨l, es, rm, ck⟩ ≠ 0 then (sErr ⟨l, es, rm, ck⟩, sNil) else if h : bAt l dg < l.length then (if mvE l[bAt l dg].pn up ≠ 0 then (mvE l[bAt l dg].pn up, sNil) else (0, (⟨bHold l (bAt l dg) (mvN l[bAt l dg].pn up), es, rm, ck⟩ : Sto))) else (5, sNil)) = X := hX
  have HXX := Lib.hid hX'
  clear hX hX'
  go_enter Tryd.func26, Tryd.ntmps26
  go_wp2_with fail
  with_reducible refine HS.out.mono ?_
  rintro e w2 ⟨rfl, hc2⟩
  have k1 := hb1.below hc2 hb1.lt
  have k2 := hb2.below hc2 hb2.lt
  have hbB := below_step hal hc2
  have H1 := Lib.hid (hr.below hbB)
  have H2 := Lib.hid (he.below hbB)
  clear hb1 hb2 hal hc2 HS a0 a1 a2 a3 hr he
  obtain ⟨S, hS⟩ : ∃ S, sErr ⟨l, es, rm, ck⟩ = S := ⟨_, rfl⟩
  rw [hS] at HXX ⊢
  clear hS
  obtain ⟨e0, e1, e2, e3⟩ := blk4 k1
  obtain ⟨z0, z1, z2, z3⟩ := blk4 k2
  obtain ⟨y0, y1, y2, y3⟩ := blk4z k2
  have HK := Lib.hid (k2.put4s (.slice none 0 0) (.slice none 0 0) (.int .i64 0) (.int .i64 0))
  have HBL := Lib.hid (below4s hbB (q := w.heap.size + 1) (by omega) (.slice none 0 0) (.slice none 0 0) (.int .i64 0) (.int .i64 0))
  by_cases p1 : S = 0
  · subst p1
    have HR1 := HXX.out
    rw [if_neg (by simp)] at HR1
    have HX2 := Lib.hid HR1
    clear HR1 HXX
    have HAT := Lib.hid (blobAt_any _ _ _ l dg w2 H1.out)
    have hle := bAt_le l dg
    by_cases hb : bAt l dg < l.length
    · obtain ⟨b, boff, D, dn, dc, rfl, ic0, ic1, ic2, ic3, hrD, hDn⟩ := H1.out.blob hb
      have HR1 := HX2.out
      rw [dif_pos hb] at HR1
      have HX3 := Lib.hid HR1
      have HMV := mv_at l[bAt l dg].pn up
      obtain ⟨K, hK⟩ : ∃ K, bAt l dg = K := ⟨_, rfl⟩
      rw [hK] at HAT
      have hKl : K < l.length := by rw [← hK]; exact hb
      have hpk : l[bAt l dg].pn = l[K].pn := by congr 2
      rw [hpk] at ic2 HMV
      have HX4 : Hid ((if mvE l[K].pn up ≠ 0 then (mvE l[K].pn up, sNil) else (0, (⟨bHold l K (mvN l[K].pn up), es, rm, ck⟩ : Sto))) = X) := by
        show _ = _
        rw [← HX3.out, hpk, hK]
      have ic2' : w2.cell? ⟨b, boff + K * 4 + 2, none⟩ = some (.int .i64 l[K].pn) := by rw [hK] at ic2; exact ic2
      have hbi : (K : Int) < (l.length : Int) := by omega
      have hbe : ((K : Int) == (l.length : Int)) = false := by rw [beq_eq_false_iff_ne]; omega
      have HPM := Lib.hid (fun W => moved_at l[K].pn up _ _ W HMV)
      clear HX2 HX3 HR1 hrD ic0 ic1 ic2 ic3 hK hle hDn hb hpk HMV
      generalize mvE l[K].pn up = E at *
      generalize mvN l[K].pn up = N at *
      by_cases p2 : E = 0
      · subst p2
        have HF : Hid (X = (0, ⟨bHold l K N, es, rm, ck⟩)) := by show _ = _; rw [← HX4.out, if_neg (by simp)]
        clear HX4 HK HBL
        have HC := Lib.hid (storeCopy_own _ B l.length c m k l es rm ck w2 H1.out H2.out hgl hge hz hz2)
        go_wp2_with fail
        with_reducible refine HAT.out.mono ?_
        rintro e w3 ⟨rfl, rfl⟩
        go_wp2_with fail
        with_reducible refine (HPM.out _).mono ?_
        rintro e w3 ⟨rfl, rfl⟩
        go_wp2_with fail
        with_reducible refine HC.out.mono ?_
        rintro e w4 ⟨v5, u5, M, rfl, hO, hE, hM, hg5, hup, hc4⟩
        obtain ⟨g5, c5, rfl, -, hgl5, -, -, -⟩ := hO.pinB hKl N
        obtain ⟨B5, d5, rfl, -⟩ := hE.new
        have hgM : g5 < M := hg5 g5 rfl
        have hbE := below_step hbB hc4
        have j4 := k2.below hc4 k2.lt
        have hw2 : w.heap.size + 2 ≤ w2.heap.size := by have := k2.lt; omega
        have hw4 : w.heap.size + 2 ≤ w4.heap.size := Nat.le_trans hw2 hc4.size
        simp only
        have kg := Blk.new w4 25 [.slice (some ⟨g5, 0, none⟩) l.length c5, .slice B5 es.length d5, .int .i64 rm, .int .i64 ck]
        have jg := j4.alloc (.cells #[.slice (some ⟨g5, 0, none⟩) l.length c5, .slice B5 es.length d5, .int .i64 rm, .int .i64 ck] 25)
        have hb6 := hbE.alloc hbE.size (.cells #[.slice (some ⟨g5, 0, none⟩) l.length c5, .slice B5 es.length d5, .int .i64 rm, .int .i64 ck] 25)
        have hE6 := hE.below ((Below.refl w4.heap.size w4).alloc (Nat.le_refl _) (.cells #[.slice (some ⟨g5, 0, none⟩) l.length c5, .slice B5 es.length d5, .int .i64 rm, .int .i64 ck] 25))
        have hO6 := hO.below ((Below.refl w4.heap.size w4).alloc (Nat.le_refl _) (.cells #[.slice (some ⟨g5, 0, none⟩) l.length c5, .slice B5 es.length d5, .int .i64 rm, .int .i64 ck] 25))
        have hs6 : w4.heap.size < (w4.alloc (.cells #[.slice (some ⟨g5, 0, none⟩) l.length c5, .slice B5 es.length d5, .int .i64 rm, .int .i64 ck] 25)).heap.size := by simp
        clear k1 k2 z0 z1 z2 z3 y0 y1 y2 y3 e0 e1 e2 e3 ic2' hbB H1 H2 HC HPM HAT hO hE hup hc4 hg5 j4 hbE
        go_upto_region 11 with fail
        generalize hw6 : w4.alloc (.cells [Value.slice (some ⟨g5, 0, none⟩) l.length c5, .slice B5 es.length d5, .int .i64 rm, .int .i64 ck].toArray 25) = w6 at *
        clear hw6
        obtain ⟨g', c', q, hgB, hg6, hcl, hfr, hO7⟩ := hO6.pinB hKl N
        injection q with q1 _ q2
        injection q1 with q1
        injection q1 with q1
        subst q1; subst q2
        have hne1 : w4.heap.size ≠ g5 := by omega
        have hne2 : w.heap.size + 1 ≠ g5 := by omega
        have kg0 := kg.cell 0
        simp only [List.getElem?_cons_zero] at kg0
        have kg7 := kg.far (p := ⟨g5, K * 4 + 2, none⟩) hne1 (.int .i64 N)
        have jg7 := jg.far (p := ⟨g5, K * 4 + 2, none⟩) hne2 (.int .i64 N)
        obtain ⟨t0, t1, t2, t3⟩ := blk4 kg7
        obtain ⟨u0, u1, u2, u3⟩ := blk4 jg7
        obtain ⟨y0, y1, y2, y3⟩ := blk4z jg7
        have HK := Lib.hid (jg7.put4s (.slice (some ⟨g5, 0, none⟩) l.length c5) (.slice B5 es.length d5) (.int .i64 rm) (.int .i64 ck))
        have hb7 := hb6.setCell (p := ⟨g5, K * 4 + 2, none⟩) (by show w.heap.size ≤ g5; omega) (.int .i64 N)
        have HBL := Lib.hid (below4s hb7 (q := w.heap.size + 1) (by omega) (.slice (some ⟨g5, 0, none⟩) l.length c5) (.slice B5 es.length d5) (.int .i64 rm) (.int .i64 ck))
        have HO := Lib.hid (hO7.set4s (q := w.heap.size + 1) (by omega) (.slice (some ⟨g5, 0, none⟩) l.length c5) (.slice B5 es.length d5) (.int .i64 rm) (.int .i64 ck))
        have HE := Lib.hid ((hE6.set1 (g := g5) (i := K * 4 + 2) hgM (.int .i64 N)).set4s (q := w.heap.size + 1) (by omega) (.slice (some ⟨g5, 0, none⟩) l.length c5) (.slice B5 es.length d5) (.int .i64 rm) (.int .i64 ck))
        have hM1 : w.heap.size ≤ w2.heap.size + 2 := by omega
        have hM2 : w.heap.size ≤ M := by omega
        clear kg jg kg7 jg7 hb6 hb7 hE6 hO6 hO7 hne1 hne2
        go_wp2
        refine bodyPost_ret (results_cell_row2 rfl _ _ (w.heap.size + 1) 25 _ (0, 0) _ rfl HK.out Tryd.underlying25 rfl store_size) rfl ?_
        rw [HF.out]
        exact givesS2_mk rfl HO.out HE.out hM1 hM2 HBL.out
      · have d2 : (E != 0) = true := by rw [bne_iff_ne]; exact p2
        have HF : Hid (X = (E, sNil)) := by show _ = _; rw [← HX4.out, if_pos p2]
        clear HX4
        go_wp2_with fail
        with_reducible refine HAT.out.mono ?_
        rintro e w3 ⟨rfl, rfl⟩
        go_wp2_with fail
        with_reducible refine (HPM.out _).mono ?_
        rintro e w3 ⟨rfl, rfl⟩
        go_wp2
        refine bodyPost_ret (results_cell_row2 rfl _ _ (w.heap.size + 1) 25 _ (0, 0) _ rfl HK.out Tryd.underlying25 rfl store_size) rfl ?_
        rw [HF.out]
        exact givesS2_no rfl HBL.out
    · have hbe : bAt l dg = l.length := by omega
      have HF : Hid (X = (5, sNil)) := by show _ = _; rw [← HX2.out, dif_neg hb]
      rw [hbe] at HAT
      have hq : ((l.length : Int) == (l.length : Int)) = true := by simp
      clear HX2 hbe hb hle
      go_wp2_with fail
      with_reducible refine HAT.out.mono ?_
      rintro e w3 ⟨rfl, rfl⟩
      go_wp2
      refine bodyPost_ret (results_cell_row2 rfl _ _ (w.heap.size + 1) 25 _ (0, 0) _ rfl HK.out Tryd.underlying25 rfl store_size) rfl ?_
      rw [HF.out]
      exact givesS2_no rfl HBL.out
  · have d1 : (S != 0) = true := by rw [bne_iff_ne]; exact p1
    have HF : Hid (X = (S, sNil)) := by show _ = _; rw [← HXX.out, if_pos p1]
    go_wp2
    refine bodyPost_ret (results_cell_row2 rfl _ _ (w.heap.size + 1) 25 _ (0, 0) _ rfl HK.out Tryd.underlying25 rfl store_size) rfl ?_
    rw [HF.out]
    exact givesS2_no rfl HBL.out
end Go.Proofs.YtnadgdjaldemhaaDoor

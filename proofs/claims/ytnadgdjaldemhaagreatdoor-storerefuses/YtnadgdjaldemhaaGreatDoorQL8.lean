/- The landed store: HoldBlob. -/
import Derived.Test.YtnadgdjaldemhaaGreatDoorGSC
import Derived.Test.YtnadgdjaldemhaaGreatDoorGSC
namespace Go.Proofs.YtnadgdjaldemhaaGreatDoor
open Go.RowKit
set_option maxRecDepth 100000 in
set_option maxHeartbeats 1000000 in
theorem lHoldBlob_any {A B : Option Addr} {n c m k : Nat} {s : Sto} {dg : List UInt8} {up : Bool} {w : World} (h : StA w A B n c m k s) (_hd : dg.length ≤ maxLen) :
    Calls Tryz.prog 20 #[.agg #[.slice A n c, .slice B m k, .int .i64 s.rm, .int .i64 s.ck], .string (str dg), .bool up] w (GivesS2 (sHoldBlob s dg up) w) := by
  obtain ⟨l, es, rm, ck⟩ := s
  have hr := h.hr
  simp only at hr ⊢
  obtain rfl := hr.len
  have hal := ((Below.refl w.heap.size w).alloc (Nat.le_refl _) (.cells #[.slice A l.length c, .slice B m k, .int .i64 rm, .int .i64 ck] 28)).alloc (by simp) (.cells #[.slice none 0 0, .slice none 0 0, .int .i64 0, .int .i64 0] 28)
  have hb1 := (Blk.new w 28 [.slice A l.length c, .slice B m k, .int .i64 rm, .int .i64 ck]).alloc (.cells #[.slice none 0 0, .slice none 0 0, .int .i64 0, .int .i64 0] 28)
  have hb2 := Blk.new (w.alloc (.cells #[.slice A l.length c, .slice B m k, .int .i64 rm, .int .i64 ck] 28)) 28 [.slice none 0 0, .slice none 0 0, .int .i64 0, .int .i64 0]
  have hsz : (w.alloc (.cells #[.slice A l.length c, .slice B m k, .int .i64 rm, .int .i64 ck] 28)).heap.size = w.heap.size + 1 := by simp
  rw [hsz] at hb2
  have HS := Lib.hid (lCheck_any (h.below hal))
  have hne : w.heap.size + 1 ≠ w.heap.size := by omega
  clear hsz
  obtain ⟨X, hX⟩ : ∃ X, sHoldBlob ⟨l, es, rm, ck⟩ dg up = X := ⟨_, rfl⟩
  rw [hX]
  have hX' : (if sErr ⟨l, es, rm, ck⟩ ≠ 0 then (sErr ⟨l, es, rm, ck⟩, sNil) else if h : bAt l dg < l.length then (if mvE l[bAt l dg].pn up ≠ 0 then (mvE l[bAt l dg].pn up, sNil) else (0, (⟨bHold l (bAt l dg) (mvN l[bAt l dg].pn up), es, rm, ck⟩ : Sto))) else (5, sNil)) = X := hX
  have HXX := Lib.hid hX'
  clear hX hX'
  have HA := Lib.hid h
  clear h
  go_enter Tryz.func20, Tryz.ntmps20
  go_upto_region 1 with fail
  generalize hu : (w.alloc (.cells [Value.slice A l.length c, Value.slice B m k, Value.int .i64 rm, Value.int .i64 ck].toArray 28)).alloc (.cells [Value.slice none 0 0, Value.slice none 0 0, Value.int .i64 0, Value.int .i64 0].toArray 28) = u at *
  clear hu
  obtain ⟨a0, a1, a2, a3⟩ := blk4 hb1
  go_wp2_with fail
  with_reducible refine HS.out.mono ?_
  rintro e w2 ⟨rfl, hc2⟩
  have k1 := hb1.below hc2 hb1.lt
  have k2 := hb2.below hc2 hb2.lt
  have hbB := below_step hal hc2
  have H1 := Lib.hid (hr.below hbB)
  clear hb1 hb2 hal hc2 HS a0 a1 a2 a3 hr
  obtain ⟨S, hS⟩ : ∃ S, sErr ⟨l, es, rm, ck⟩ = S := ⟨_, rfl⟩
  rw [hS] at HXX ⊢
  clear hS
  by_cases p1 : S = 0
  · subst p1
    have HR1 := HXX.out
    rw [if_neg (by simp)] at HR1
    have HX2 := Lib.hid HR1
    clear HR1 HXX
    obtain ⟨e0, -, -, -⟩ := blk4 k1
    have HAT := Lib.hid (find_any _ _ _ l dg w2 H1.out)
    have hle := bAt_le l dg
    by_cases hb : bAt l dg < l.length
    · have hfe : fErr l dg = 0 := if_pos hb
      have hfa : fAt l dg = bAt l dg := if_pos hb
      rw [hfe, hfa] at HAT
      have HR1 := HX2.out
      rw [dif_pos hb] at HR1
      have HX3 := Lib.hid HR1
      have HMV := mv_at l[bAt l dg].pn up
      obtain ⟨K, hK⟩ : ∃ K, bAt l dg = K := ⟨_, rfl⟩
      rw [hK] at HAT
      have hKl : K < l.length := by rw [← hK]; exact hb
      have hpk : l[bAt l dg].pn = l[K].pn := by congr 2
      rw [hpk] at HMV
      have HX4 : Hid ((if mvE l[K].pn up ≠ 0 then (mvE l[K].pn up, sNil) else (0, (⟨bHold l K (mvN l[K].pn up), es, rm, ck⟩ : Sto))) = X) := by
        show _ = _
        rw [← HX3.out, hpk, hK]
      have hbi : (K : Int) < (l.length : Int) := by omega
      have HPM := Lib.hid (fun W => move_at l[K].pn up _ _ W HMV)
      clear HX2 HX3 HR1 hK hle hb hpk HMV hfe hfa
      go_wp2_with fail
      with_reducible refine HAT.out.mono ?_
      rintro e w3 ⟨rfl, hc3⟩
      have k3 := k1.below hc3 k1.lt
      have j3 := k2.below hc3 k2.lt
      have r3 := H1.out.below hc3
      have hbC := below_step hbB hc3
      clear k1 k2 H1 HAT hbB hc3 e0
      obtain ⟨x0, -, -, -⟩ := blk4 k3
      obtain ⟨b, boff, D, dn, dc, rfl, ic0, ic1, ic2, ic3, hrD, hDn⟩ := r3.blob hKl
      clear ic0 ic1 ic3 hrD hDn r3
      generalize hpn : l[K].pn = pn0 at *
      generalize mvE pn0 up = E at *
      generalize mvN pn0 up = N at *
      clear hpn
      by_cases p2 : E = 0
      · subst p2
        have HF : Hid (X = (0, ⟨bHold l K N, es, rm, ck⟩)) := by show _ = _; rw [← HX4.out, if_neg (by simp)]
        clear HX4
        have HC := Lib.hid (lCopyO (HA.out.below hbC))
        obtain ⟨f0, f1, f2, f3⟩ := blk4 k3
        go_wp2_with fail
        with_reducible refine (HPM.out _).mono ?_
        rintro e w4 ⟨rfl, rfl⟩
        go_wp2_with fail
        with_reducible refine HC.out.mono ?_
        rintro e w4 ⟨v5, u5, M, rfl, hO, hE, hM, hg5, hup, hc4⟩
        obtain ⟨g5, c5, rfl, -, hgl5, -, -, -⟩ := hO.pinB hKl N
        obtain ⟨B5, d5, rfl, -⟩ := hE.new
        have hgM : g5 < M := hg5 g5 rfl
        have hbE := below_step hbC hc4
        have k4 := k3.below hc4 k3.lt
        have j4 := j3.below hc4 j3.lt
        have hw3 : w.heap.size + 2 ≤ w3.heap.size := by have := j3.lt; omega
        have hw4 : w.heap.size + 2 ≤ w4.heap.size := Nat.le_trans hw3 hc4.size
        simp only at hO hE ⊢
        obtain ⟨x0, x1, x2, x3⟩ := blk4 k4
        obtain ⟨y0, y1, y2, y3⟩ := blk4z k4
        have kg := k4.put4s (.slice (some ⟨g5, 0, none⟩) l.length c5) (.slice B5 es.length d5) (.int .i64 rm) (.int .i64 ck)
        have jg := j4.far4s hne (.slice (some ⟨g5, 0, none⟩) l.length c5) (.slice B5 es.length d5) (.int .i64 rm) (.int .i64 ck)
        have hb6 := below4s hbE (q := w.heap.size) (Nat.le_refl _) (.slice (some ⟨g5, 0, none⟩) l.length c5) (.slice B5 es.length d5) (.int .i64 rm) (.int .i64 ck)
        have hE6 := hE.set4s (q := w.heap.size) (by omega) (.slice (some ⟨g5, 0, none⟩) l.length c5) (.slice B5 es.length d5) (.int .i64 rm) (.int .i64 ck)
        have hO6 := hO.set4s (q := w.heap.size) (by omega) (.slice (some ⟨g5, 0, none⟩) l.length c5) (.slice B5 es.length d5) (.int .i64 rm) (.int .i64 ck)
        clear k3 j3 f0 f1 f2 f3 hbC HC HPM hO hE hup hc4 hg5 j4 k4 hbE ic2
        go_upto_region 11 with fail
        generalize hw6 : (((w4.setCell ⟨w.heap.size, 0, none⟩ (.slice (some ⟨g5, 0, none⟩) l.length c5)).setCell ⟨w.heap.size, 1, none⟩ (.slice B5 es.length d5)).setCell ⟨w.heap.size, 2, none⟩ (.int .i64 rm)).setCell ⟨w.heap.size, 3, none⟩ (.int .i64 ck) = w6 at *
        clear hw6 x0 x1 x2 x3 y0 y1 y2 y3
        obtain ⟨g', c', q, hgB, hg6, hcl, hfr, hO7⟩ := hO6.pinB hKl N
        injection q with q1 _ q2
        injection q1 with q1
        injection q1 with q1
        subst q1; subst q2
        have hne1 : w.heap.size ≠ g5 := by omega
        have hne2 : w.heap.size + 1 ≠ g5 := by omega
        have kg0 := kg.cell 0
        simp only [List.getElem?_cons_zero] at kg0
        have kg7 := kg.far (p := ⟨g5, K * 4 + 2, none⟩) hne1 (.int .i64 N)
        have jg7 := jg.far (p := ⟨g5, K * 4 + 2, none⟩) hne2 (.int .i64 N)
        obtain ⟨t0, t1, t2, t3⟩ := blk4 kg7
        obtain ⟨u0, u1, u2, u3⟩ := blk4 jg7
        obtain ⟨y0, y1, y2, y3⟩ := blk4z jg7
        have HK := Lib.hid (jg7.put4s (.slice (some ⟨g5, 0, none⟩) l.length c5) (.slice B5 es.length d5) (.int .i64 rm) (.int .i64 ck))
        have hb7 := hb6.setCell (p := ⟨g5, K * 4 + 2, none⟩) (by show w.heap.size ≤ g5; omega) (.int .i64 N)
        have HBL := Lib.hid (below4s hb7 (q := w.heap.size + 1) (by omega) (.slice (some ⟨g5, 0, none⟩) l.length c5) (.slice B5 es.length d5) (.int .i64 rm) (.int .i64 ck))
        have HO := Lib.hid (hO7.set4s (q := w.heap.size + 1) (by omega) (.slice (some ⟨g5, 0, none⟩) l.length c5) (.slice B5 es.length d5) (.int .i64 rm) (.int .i64 ck))
        have HE := Lib.hid ((hE6.set1 (g := g5) (i := K * 4 + 2) hgM (.int .i64 N)).set4s (q := w.heap.size + 1) (by omega) (.slice (some ⟨g5, 0, none⟩) l.length c5) (.slice B5 es.length d5) (.int .i64 rm) (.int .i64 ck))
        have hM1 : w.heap.size ≤ w3.heap.size + 2 := by omega
        have hM2 : w.heap.size ≤ M := by omega
        clear kg jg kg7 jg7 hb6 hb7 hE6 hO6 hO7 hne1 hne2
        go_wp2
        refine bodyPost_ret (results_cell_row2 rfl _ _ (w.heap.size + 1) 28 _ (0, 0) _ rfl HK.out Tryz.underlying28 rfl store_size) rfl ?_
        rw [HF.out]
        exact givesS2_mk rfl HO.out HE.out hM1 hM2 HBL.out
      · have d2 : (E != 0) = true := by rw [bne_iff_ne]; exact p2
        have HF : Hid (X = (E, sNil)) := by show _ = _; rw [← HX4.out, if_pos p2]
        clear HX4
        obtain ⟨z0, z1, z2, z3⟩ := blk4 j3
        obtain ⟨y0, y1, y2, y3⟩ := blk4z j3
        have HK := Lib.hid (j3.put4s (.slice none 0 0) (.slice none 0 0) (.int .i64 0) (.int .i64 0))
        have HBL := Lib.hid (below4s hbC (q := w.heap.size + 1) (by omega) (.slice none 0 0) (.slice none 0 0) (.int .i64 0) (.int .i64 0))
        go_wp2_with fail
        with_reducible refine (HPM.out _).mono ?_
        rintro e w4 ⟨rfl, rfl⟩
        go_wp2
        refine bodyPost_ret (results_cell_row2 rfl _ _ (w.heap.size + 1) 28 _ (0, 0) _ rfl HK.out Tryz.underlying28 rfl store_size) rfl ?_
        rw [HF.out]
        exact givesS2_no rfl HBL.out
    · have hfe : fErr l dg = 5 := if_neg hb
      have hfa : fAt l dg = 0 := if_neg hb
      rw [hfe, hfa] at HAT
      have HF : Hid (X = (5, sNil)) := by show _ = _; rw [← HX2.out, dif_neg hb]
      clear HX2 hb hle hfe hfa
      go_wp2_with fail
      with_reducible refine HAT.out.mono ?_
      rintro e w3 ⟨rfl, hc3⟩
      have j3 := k2.below hc3 k2.lt
      have hbC := below_step hbB hc3
      obtain ⟨z0, z1, z2, z3⟩ := blk4 j3
      obtain ⟨y0, y1, y2, y3⟩ := blk4z j3
      have HK := Lib.hid (j3.put4s (.slice none 0 0) (.slice none 0 0) (.int .i64 0) (.int .i64 0))
      have HBL := Lib.hid (below4s hbC (q := w.heap.size + 1) (by omega) (.slice none 0 0) (.slice none 0 0) (.int .i64 0) (.int .i64 0))
      go_wp2
      refine bodyPost_ret (results_cell_row2 rfl _ _ (w.heap.size + 1) 28 _ (0, 0) _ rfl HK.out Tryz.underlying28 rfl store_size) rfl ?_
      rw [HF.out]
      exact givesS2_no rfl HBL.out
  · have d1 : (S != 0) = true := by rw [bne_iff_ne]; exact p1
    have HF : Hid (X = (S, sNil)) := by show _ = _; rw [← HXX.out, if_pos p1]
    obtain ⟨z0, z1, z2, z3⟩ := blk4 k2
    obtain ⟨y0, y1, y2, y3⟩ := blk4z k2
    have HK := Lib.hid (k2.put4s (.slice none 0 0) (.slice none 0 0) (.int .i64 0) (.int .i64 0))
    have HBL := Lib.hid (below4s hbB (q := w.heap.size + 1) (by omega) (.slice none 0 0) (.slice none 0 0) (.int .i64 0) (.int .i64 0))
    go_wp2
    refine bodyPost_ret (results_cell_row2 rfl _ _ (w.heap.size + 1) 28 _ (0, 0) _ rfl HK.out Tryz.underlying28 rfl store_size) rfl ?_
    rw [HF.out]
    exact givesS2_no rfl HBL.out
end Go.Proofs.YtnadgdjaldemhaaGreatDoor

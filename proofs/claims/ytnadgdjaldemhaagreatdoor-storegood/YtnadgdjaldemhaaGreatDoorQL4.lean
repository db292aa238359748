/- The landed store: PutBlob. -/
import Derived.Test.YtnadgdjaldemhaaGreatDoorQL2
import Derived.Test.YtnadgdjaldemhaaGreatDoorQL3
import Derived.Test.YtnadgdjaldemhaaGreatDoorGQ
import Derived.Deep.RegionHeldLaw
import Derived.Deep.CutBlock
import Derived.Deep.CutRange
namespace Go.Proofs.YtnadgdjaldemhaaGreatDoor
open Go.RowKit
/-- putting bytes, by what fitting says -/
theorem sPutBlob_way (s : Sto) (D : List UInt8) : sPutBlob s D = if sErr s ≠ 0 then (sErr s, sNil, []) else if (bPut s.bs D).1 ≠ 0 then ((bPut s.bs D).1, sNil, []) else if rF (bPut s.bs D).2.1 s.rm 0 ≠ 0 then (rF (bPut s.bs D).2.1 s.rm 0, sNil, [])
    else (0, { s with bs := (bPut s.bs D).2.1 }, (bPut s.bs D).2.2) := by
  unfold sPutBlob
  by_cases h1 : sErr s = 0
  · by_cases h2 : (bPut s.bs D).1 = 0
    · have hs := sErr_zero.1 h1
      have h3 := hs.r0
      have h4 := hs.r1
      have h6 : ¬ (s.rm < 0 ∨ 4000 < s.rm) := by omega
      rw [rF_of (bPut_ok h2).2.1.err, if_neg h6]
      by_cases h5 : s.rm < wrap64 (uS (bPut s.bs D).2.1)
      · simp [h1, h2, h5]
      · simp [h1, h2, h5]
    · simp [h1, h2]
  · simp [h1]
set_option maxRecDepth 100000 in
set_option maxHeartbeats 2000000 in
theorem lPutBlob_any {A B D : Option Addr} {n c m k q d : Nat} {s : Sto} {b : List UInt8} {w : World} (h : StA w A B n c m k s) (hb : Rd w 1 D q d (b.map bv8)) (_hD : D = none → d = 0) :
    Calls Tryz.prog 14 #[.agg #[.slice A n c, .slice B m k, .int .i64 s.rm, .int .i64 s.ck], .slice D q d] w (GivesPB (sPutBlob s b) w) := by
  obtain ⟨l, es, rm, ck⟩ := s
  have hK := h.hK
  have hr := h.hr
  have he := h.he
  have hgl := h.hgl
  have hge := h.hge
  have hz2 := h.hz2
  simp only at hr he hgl hge ⊢
  have hx2 : es.length ≤ maxLen := by have h1 := he.len; have h2 := he.cap; omega
  have hal := ((Below.refl w.heap.size w).alloc (Nat.le_refl _) (.cells #[.slice A n c, .slice B m k, .int .i64 rm, .int .i64 ck] 28)).alloc (by simp) (.cells #[.slice none 0 0, .slice none 0 0, .int .i64 0, .int .i64 0] 28)
  have hb1 := (Blk.new w 28 [.slice A n c, .slice B m k, .int .i64 rm, .int .i64 ck]).alloc (.cells #[.slice none 0 0, .slice none 0 0, .int .i64 0, .int .i64 0] 28)
  have hb2 := Blk.new (w.alloc (.cells #[.slice A n c, .slice B m k, .int .i64 rm, .int .i64 ck] 28)) 28 [.slice none 0 0, .slice none 0 0, .int .i64 0, .int .i64 0]
  have hsz : (w.alloc (.cells #[.slice A n c, .slice B m k, .int .i64 rm, .int .i64 ck] 28)).heap.size = w.heap.size + 1 := by simp
  rw [hsz] at hb2
  have HS := Lib.hid (lCheck_any (h.below hal))
  have hne : w.heap.size + 1 ≠ w.heap.size := by omega
  clear hsz h
  obtain ⟨X, hX⟩ : ∃ X, sPutBlob ⟨l, es, rm, ck⟩ b = X := ⟨_, rfl⟩
  rw [hX]
  rw [sPutBlob_way] at hX
  simp only at hX
  have HXX := Lib.hid hX
  clear hX
  go_enter Tryz.func14, Tryz.ntmps14
  go_upto_region 1 with fail
  generalize hu : (w.alloc (.cells [Value.slice A n c, Value.slice B m k, Value.int .i64 rm, Value.int .i64 ck].toArray 28)).alloc (.cells [Value.slice none 0 0, Value.slice none 0 0, Value.int .i64 0, Value.int .i64 0].toArray 28) = u at *
  clear hu
  obtain ⟨a0, a1, a2, a3⟩ := blk4 hb1
  go_wp2_with fail
  with_reducible refine HS.out.mono ?_
  rintro e w2 ⟨rfl, hc2⟩
  have k1 := hb1.below hc2 hb1.lt
  have k2 := hb2.below hc2 hb2.lt
  have hbB := below_step hal hc2
  have hz3 : w.heap.size + 2 ≤ w2.heap.size := by have h1 := hc2.size; have h2 := hb2.lt; omega
  clear hb1 hb2 hal hc2 HS a0 a1 a2 a3
  obtain ⟨S, hS⟩ : ∃ S, sErr ⟨l, es, rm, ck⟩ = S := ⟨_, rfl⟩
  rw [hS] at HXX ⊢
  clear hS
  by_cases p1 : S = 0
  · subst p1
    have HR1 := HXX.out
    rw [if_neg (by simp)] at HR1
    have HX2 := Lib.hid HR1
    clear HR1 HXX
    obtain ⟨e0, -, -, -⟩ := blk4 k1
    have HP := Lib.hid (put_any A n c l D q d b w2 (hK.below hbB) (hr.below hbB) hgl (hb.below hbB))
    go_wp2_with fail
    with_reducible refine HP.out.mono ?_
    rintro e w3 ⟨A3, n3, c3, rfl, hN3, hc3⟩
    have k3 := k1.below hc3 k1.lt
    have j3 := k2.below hc3 k2.lt
    have hbC := below_step hbB hc3
    have hz3' := hc3.size
    have hN := Lib.hid (hN3.rebase (base' := w.heap.size + 2) hz3)
    clear hN3 k1 k2 hc3 hbB e0 HP
    obtain ⟨E, L3, dg, hE⟩ : ∃ E L3 dg, bPut l b = (E, L3, dg) := ⟨_, _, _, rfl⟩
    rw [hE] at HX2 hN
    simp only [hE] at hN ⊢
    simp only at HX2
    clear hE
    obtain rfl : n3 = L3.length := hN.out.rd.len
    by_cases p2 : E = 0
    · subst p2
      have HR1 := HX2.out
      rw [if_neg (by simp)] at HR1
      have HX3 := Lib.hid HR1
      clear HR1 HX2
      obtain ⟨-, -, e2, -⟩ := blk4 k3
      have HF1 := Lib.hid (fits_any A3 L3.length c3 L3 rm 0 w3 hN.out.rd)
      go_wp2_with fail
      with_reducible refine HF1.out.mono ?_
      rintro e w4 ⟨rfl, hc4⟩
      have k4 := k3.below hc4 k3.lt
      have j4 := j3.below hc4 j3.lt
      have hbD := below_step hbC hc4
      have hz4 := hc4.size
      have hN4 := Lib.hid (hN.out.below hc4)
      clear k3 j3 hc4 hbC e2 HF1 hN
      generalize rF L3 rm 0 = U at *
      by_cases p3 : U = 0
      · subst p3
        have HF : Hid (X = (0, ⟨L3, es, rm, ck⟩, dg)) := by show _ = _; rw [← HX3.out, if_neg (by simp)]
        clear HX3
        obtain ⟨x0, -, -, -⟩ := blk4 k4
        obtain ⟨y0, -, -, -⟩ := blk4z k4
        have kA := k4.put 0 (.slice A3 L3.length c3)
        have jA := j4.far (p := ⟨w.heap.size, 0, none⟩) hne (.slice A3 L3.length c3)
        have hbA' := hbD.setCell (p := ⟨w.heap.size, 0, none⟩) (Nat.le_refl _) (.slice A3 L3.length c3)
        simp only [List.set_cons_zero] at kA
        have hNA := Lib.hid (hN4.out.set (g := w.heap.size) (i := 0) (by omega) (.slice A3 L3.length c3))
        have HE := Lib.hid (icopy_any B m k es _ (he.below hbA') hge hz2)
        clear k4 j4 hbD hN4
        obtain ⟨a0, a1, a2, a3⟩ := blk4 kA
        go_wp2_with fail
        with_reducible refine HE.out.mono ?_
        rintro e w5 ⟨g5, hs5, rfl, hm5, hke5, hc5⟩
        have hz5 := hc5.size
        have k5 := kA.below hc5 kA.lt
        have j5 := jA.below hc5 jA.lt
        have hbE := below_step hbA' hc5
        have hl5 := map_len hm5
        have hO5 := hke5.new hm5 (by omega)
        have hN5 := hNA.out.below hc5
        have hs5' : (w4.setCell ⟨w.heap.size, 0, none⟩ (.slice A3 L3.length c3)).heap.size = w4.heap.size := by simp
        rw [hs5'] at hO5 hz5
        obtain ⟨-, x1, -, -⟩ := blk4 k5
        obtain ⟨-, y1, -, -⟩ := blk4z k5
        have kB := k5.put 1 (.slice (some ⟨g5, 0, none⟩) es.length es.length)
        have jB := j5.far (p := ⟨w.heap.size, 1, none⟩) hne (.slice (some ⟨g5, 0, none⟩) es.length es.length)
        simp only [List.set_cons_succ, List.set_cons_zero] at kB
        clear a0 a1 a2 a3 kA jA k5 j5 HE hke5 x0 y0 hNA hbA'
        obtain ⟨a0, a1, a2, a3⟩ := blk4 kB
        obtain ⟨b0, b1, b2, b3⟩ := blk4 jB
        obtain ⟨c0, c1, c2, c3'⟩ := blk4z jB
        have HJ := Lib.hid (jB.put4s (.slice A3 L3.length c3) (.slice (some ⟨g5, 0, none⟩) es.length es.length) (.int .i64 rm) (.int .i64 ck))
        have HB1 := Lib.hid (below4s (hbE.setCell (p := ⟨w.heap.size, 1, none⟩) (Nat.le_refl _) (.slice (some ⟨g5, 0, none⟩) es.length es.length)) (q := w.heap.size + 1) (by omega) (.slice A3 L3.length c3) (.slice (some ⟨g5, 0, none⟩) es.length es.length) (.int .i64 rm) (.int .i64 ck))
        have HN := Lib.hid (((hN5.set (g := w.heap.size) (i := 1) (by omega) (.slice (some ⟨g5, 0, none⟩) es.length es.length)).set4s (q := w.heap.size + 1) (by omega) (.slice A3 L3.length c3) (.slice (some ⟨g5, 0, none⟩) es.length es.length) (.int .i64 rm) (.int .i64 ck)).rebase (base' := w.heap.size) (by omega))
        have HM := Lib.hid (((hO5.set (g := w.heap.size) (i := 1) (by omega) (.slice (some ⟨g5, 0, none⟩) es.length es.length)).set4s (q := w.heap.size + 1) (by omega) (.slice A3 L3.length c3) (.slice (some ⟨g5, 0, none⟩) es.length es.length) (.int .i64 rm) (.int .i64 ck)).rebase (base' := w.heap.size) (by omega))
        clear kB jB hO5 hN5 hbE hz5 hz4
        go_wp2
        refine bodyPost_ret (results_cell_row3 rfl _ _ (w.heap.size + 1) 28 _ (0, 0) _ rfl HJ.out Tryz.underlying28 rfl store_size) rfl ?_
        rw [HF.out]
        exact ⟨A3, c3, some ⟨g5, 0, none⟩, es.length, rfl, HN.out, HM.out, HB1.out⟩
      · have d3 : (U != 0) = true := by rw [bne_iff_ne]; exact p3
        have HF : Hid (X = (U, sNil, [])) := by show _ = _; rw [← HX3.out, if_pos p3]
        clear p3 HX3
        obtain ⟨z0, z1, z2, z3⟩ := blk4 j4
        obtain ⟨y0, y1, y2, y3⟩ := blk4z j4
        have HK := Lib.hid (j4.put4s (.slice none 0 0) (.slice none 0 0) (.int .i64 0) (.int .i64 0))
        have HBL := Lib.hid (below4s hbD (q := w.heap.size + 1) (by omega) (.slice none 0 0) (.slice none 0 0) (.int .i64 0) (.int .i64 0))
        go_wp2
        refine bodyPost_ret (results_cell_row3 rfl _ _ (w.heap.size + 1) 28 _ (0, 0) _ rfl HK.out Tryz.underlying28 rfl store_size) rfl ?_
        rw [HF.out]
        exact givesPB_no rfl HBL.out
    · have d2 : (E != 0) = true := by rw [bne_iff_ne]; exact p2
      have HF : Hid (X = (E, sNil, [])) := by show _ = _; rw [← HX2.out, if_pos p2]
      obtain ⟨z0, z1, z2, z3⟩ := blk4 j3
      obtain ⟨y0, y1, y2, y3⟩ := blk4z j3
      have HK := Lib.hid (j3.put4s (.slice none 0 0) (.slice none 0 0) (.int .i64 0) (.int .i64 0))
      have HBL := Lib.hid (below4s hbC (q := w.heap.size + 1) (by omega) (.slice none 0 0) (.slice none 0 0) (.int .i64 0) (.int .i64 0))
      go_wp2
      refine bodyPost_ret (results_cell_row3 rfl _ _ (w.heap.size + 1) 28 _ (0, 0) _ rfl HK.out Tryz.underlying28 rfl store_size) rfl ?_
      rw [HF.out]
      exact givesPB_no rfl HBL.out
  · have d1 : (S != 0) = true := by rw [bne_iff_ne]; exact p1
    have HF : Hid (X = (S, sNil, [])) := by show _ = _; rw [← HXX.out, if_pos p1]
    obtain ⟨z0, z1, z2, z3⟩ := blk4 k2
    obtain ⟨y0, y1, y2, y3⟩ := blk4z k2
    have HK := Lib.hid (k2.put4s (.slice none 0 0) (.slice none 0 0) (.int .i64 0) (.int .i64 0))
    have HBL := Lib.hid (below4s hbB (q := w.heap.size + 1) (by omega) (.slice none 0 0) (.slice none 0 0) (.int .i64 0) (.int .i64 0))
    go_wp2
    refine bodyPost_ret (results_cell_row3 rfl _ _ (w.heap.size + 1) 28 _ (0, 0) _ rfl HK.out Tryz.underlying28 rfl store_size) rfl ?_
    rw [HF.out]
    exact givesPB_no rfl HBL.out
end Go.Proofs.YtnadgdjaldemhaaGreatDoor

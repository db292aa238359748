/- The law StoreHolds: the walk. -/
import Derived.Test.YtnadgdjaldemhaaDoorQL8
import Derived.Test.YtnadgdjaldemhaaDoorQL9
import Derived.Test.YtnadgdjaldemhaaDoorQZhb
import Derived.Test.YtnadgdjaldemhaaDoorQZhe
import Derived.Test.YtnadgdjaldemhaaDoorQZq
namespace Go.Proofs.YtnadgdjaldemhaaDoor
open Go.RowKit
set_option maxRecDepth 100000 in
set_option maxHeartbeats 2000000 in
theorem storeHolds_walk (A B : Option Addr) (n c m k : Nat) (s : Sto) (dg : List UInt8) (up : Bool) (w : World) (h : StA w A B n c m k s) (hdl : dg.length ≤ maxLen) :
    Calls Tryd.prog 8 #[.agg #[.slice A n c, .slice B m k, .int .i64 s.rm, .int .i64 s.ck], .string (str dg), .bool up] w fun e w' => e = .returned (.bool true) ∧ Below w.heap.size w w' := by
  have hb0 := (Below.refl w.heap.size w).alloc (Nat.le_refl _) (.cells #[.slice A n c, .slice B m k, .int .i64 s.rm, .int .i64 s.ck] 25)
  have k0 := Blk.new w 25 [.slice A n c, .slice B m k, .int .i64 s.rm, .int .i64 s.ck]
  have H1 := Lib.hid (fun (W : World) (hw : Below w.heap.size w W) => lHoldBlob_any (up := up) (h.below hw) hdl)
  have H2 := Lib.hid (fun (W : World) (hw : Below w.heap.size w W) => lHold_any (up := up) (h.below hw) hdl)
  have H3 := Lib.hid (fun (W : World) (hw : Below w.heap.size w W) => storeHoldBlob_any A B n c m k s.bs s.es s.rm s.ck dg up W (h.hr.below hw) (h.he.below hw) h.hgl h.hge h.hz h.hz2)
  have H4 := Lib.hid (fun (W : World) (hw : Below w.heap.size w W) => storeHold_any A B n c m k s.bs s.es s.rm s.ck dg up W (h.hr.below hw) (h.he.below hw) h.hgl h.hge h.hz h.hz2)
  obtain ⟨l, es, rm, ck⟩ := s
  simp only at hb0 k0 H1 H2 H3 H4 ⊢
  obtain ⟨⟨E, ⟨L, M, r, t⟩⟩, hX⟩ : ∃ x, sHoldBlob ⟨l, es, rm, ck⟩ dg up = x := ⟨_, rfl⟩
  rw [hX] at H1 H3
  obtain ⟨⟨E', ⟨L', M', r', t'⟩⟩, hX'⟩ : ∃ x, sHold ⟨l, es, rm, ck⟩ dg up = x := ⟨_, rfl⟩
  rw [hX'] at H2 H4
  obtain ⟨a0, a1, a2, a3⟩ := blk4 k0
  clear hX hX' h
  go_enter Tryd.func8, Tryd.ntmps8
  go_wp2_with fail
  with_reducible refine (H1.out _ hb0).mono ?_
  rintro e w2 ⟨A1, c1, B1, d1, rfl, hN1, hM1, hc⟩
  have hbx := below_step hb0 hc
  have hl := (Below.refl w2.heap.size w2).alloc (Nat.le_refl _) (.cells #[.slice A1 L.length c1, .slice B1 M.length d1, .int .i64 r, .int .i64 t] 25)
  have k1 := (k0.below hc k0.lt).alloc (.cells #[.slice A1 L.length c1, .slice B1 M.length d1, .int .i64 r, .int .i64 t] 25)
  have x1 := Blk.new w2 25 [.slice A1 L.length c1, .slice B1 M.length d1, .int .i64 r, .int .i64 t]
  have HN11 := Lib.hid (hN1.rd.below hl)
  have HM11 := Lib.hid (hM1.rd.below hl)
  have hb1 := below_step hbx hl
  clear H1 hN1 hM1 hc hl hbx hb0 a0 a1 a2 a3 k0 
  simp only
  go_upto_region 2 with fail
  generalize hw : w2.alloc (.cells [Value.slice A1 L.length c1, .slice B1 M.length d1, .int .i64 r, .int .i64 t].toArray 25) = u1 at *
  clear hw
  obtain ⟨a0, a1, a2, a3⟩ := blk4 k1
  go_wp2_with fail
  with_reducible refine (H2.out _ hb1).mono ?_
  rintro e w4 ⟨A2, c2, B2, d2, rfl, hN2, hM2, hc⟩
  have hbx := below_step hb1 hc
  have hl := (Below.refl w4.heap.size w4).alloc (Nat.le_refl _) (.cells #[.slice A2 L'.length c2, .slice B2 M'.length d2, .int .i64 r', .int .i64 t'] 25)
  have k2 := (k1.below hc k1.lt).alloc (.cells #[.slice A2 L'.length c2, .slice B2 M'.length d2, .int .i64 r', .int .i64 t'] 25)
  have x2 := (x1.below hc x1.lt).alloc (.cells #[.slice A2 L'.length c2, .slice B2 M'.length d2, .int .i64 r', .int .i64 t'] 25)
  have y2 := Blk.new w4 25 [.slice A2 L'.length c2, .slice B2 M'.length d2, .int .i64 r', .int .i64 t']
  have HN12 := Lib.hid ((HN11.out.below hc).below hl)
  have HM12 := Lib.hid ((HM11.out.below hc).below hl)
  have HN22 := Lib.hid (hN2.rd.below hl)
  have HM22 := Lib.hid (hM2.rd.below hl)
  have hb2 := below_step hbx hl
  clear H2 hN2 hM2 hc hl hbx hb1 a0 a1 a2 a3 k1 x1 HN11 HM11
  simp only
  go_upto_region 3 with fail
  generalize hw : w4.alloc (.cells [Value.slice A2 L'.length c2, .slice B2 M'.length d2, .int .i64 r', .int .i64 t'].toArray 25) = u2 at *
  clear hw
  obtain ⟨a0, a1, a2, a3⟩ := blk4 k2
  go_wp2_with fail
  with_reducible refine (H3.out _ hb2).mono ?_
  rintro e w6 ⟨A3, c3, B3, d3, rfl, hN3, hM3, hc⟩
  have hbx := below_step hb2 hc
  have hl := (Below.refl w6.heap.size w6).alloc (Nat.le_refl _) (.cells #[.slice A3 L.length c3, .slice B3 M.length d3, .int .i64 r, .int .i64 t] 25)
  have k3 := (k2.below hc k2.lt).alloc (.cells #[.slice A3 L.length c3, .slice B3 M.length d3, .int .i64 r, .int .i64 t] 25)
  have x3 := (x2.below hc x2.lt).alloc (.cells #[.slice A3 L.length c3, .slice B3 M.length d3, .int .i64 r, .int .i64 t] 25)
  have y3 := (y2.below hc y2.lt).alloc (.cells #[.slice A3 L.length c3, .slice B3 M.length d3, .int .i64 r, .int .i64 t] 25)
  have z3 := Blk.new w6 25 [.slice A3 L.length c3, .slice B3 M.length d3, .int .i64 r, .int .i64 t]
  have HN13 := Lib.hid ((HN12.out.below hc).below hl)
  have HM13 := Lib.hid ((HM12.out.below hc).below hl)
  have HN23 := Lib.hid ((HN22.out.below hc).below hl)
  have HM23 := Lib.hid ((HM22.out.below hc).below hl)
  have HN33 := Lib.hid (hN3.rd.below hl)
  have HM33 := Lib.hid (hM3.rd.below hl)
  have hb3 := below_step hbx hl
  clear H3 hN3 hM3 hc hl hbx hb2 a0 a1 a2 a3 k2 x2 y2 HN12 HM12 HN22 HM22
  simp only
  go_upto_region 4 with fail
  generalize hw : w6.alloc (.cells [Value.slice A3 L.length c3, .slice B3 M.length d3, .int .i64 r, .int .i64 t].toArray 25) = u3 at *
  clear hw
  obtain ⟨a0, a1, a2, a3⟩ := blk4 k3
  go_wp2_with fail
  with_reducible refine (H4.out _ hb3).mono ?_
  rintro e w8 ⟨A4, c4, B4, d4, rfl, hN4, hM4, hc⟩
  have hbx := below_step hb3 hc
  have hl := (Below.refl w8.heap.size w8).alloc (Nat.le_refl _) (.cells #[.slice A4 L'.length c4, .slice B4 M'.length d4, .int .i64 r', .int .i64 t'] 25)
  have k4 := (k3.below hc k3.lt).alloc (.cells #[.slice A4 L'.length c4, .slice B4 M'.length d4, .int .i64 r', .int .i64 t'] 25)
  have x4 := (x3.below hc x3.lt).alloc (.cells #[.slice A4 L'.length c4, .slice B4 M'.length d4, .int .i64 r', .int .i64 t'] 25)
  have y4 := (y3.below hc y3.lt).alloc (.cells #[.slice A4 L'.length c4, .slice B4 M'.length d4, .int .i64 r', .int .i64 t'] 25)
  have z4 := (z3.below hc z3.lt).alloc (.cells #[.slice A4 L'.length c4, .slice B4 M'.length d4, .int .i64 r', .int .i64 t'] 25)
  have v4 := Blk.new w8 25 [.slice A4 L'.length c4, .slice B4 M'.length d4, .int .i64 r', .int .i64 t']
  have HN14 := Lib.hid ((HN13.out.below hc).below hl)
  have HM14 := Lib.hid ((HM13.out.below hc).below hl)
  have HN24 := Lib.hid ((HN23.out.below hc).below hl)
  have HM24 := Lib.hid ((HM23.out.below hc).below hl)
  have HN34 := Lib.hid ((HN33.out.below hc).below hl)
  have HM34 := Lib.hid ((HM33.out.below hc).below hl)
  have HN44 := Lib.hid (hN4.rd.below hl)
  have HM44 := Lib.hid (hM4.rd.below hl)
  have hb4 := below_step hbx hl
  clear H4 hN4 hM4 hc hl hbx hb3 a0 a1 a2 a3 k3 x3 y3 z3 HN13 HM13 HN23 HM23 HN33 HM33
  simp only
  go_upto_region 5 with fail
  generalize hw : w8.alloc (.cells [Value.slice A4 L'.length c4, .slice B4 M'.length d4, .int .i64 r', .int .i64 t'].toArray 25) = u4 at *
  clear hw
  obtain ⟨p0, p1, p2, p3⟩ := blk4 x4
  obtain ⟨q0, q1, q2, q3⟩ := blk4 z4
  have HS1 := Lib.hid (sameStore_eq A1 B1 A3 B3 _ c1 _ d1 _ c3 _ d3 L M r t _ HN14.out HM14.out HN34.out HM34.out)
  have HS2 := Lib.hid (fun (W : World) (hw : Below _ _ W) => sameStore_eq A2 B2 A4 B4 _ c2 _ d2 _ c4 _ d4 L' M' r' t' W (HN24.out.below hw) (HM24.out.below hw) (HN44.out.below hw) (HM44.out.below hw))
  have e1 : (E == E) = true := by simp
  have e2 : (E' == E') = true := by simp
  clear HN14 HM14 HN34 HM34 HN24 HM24 HN44 HM44
  go_wp2_with fail
  with_reducible refine HS1.out.mono ?_
  rintro e w9 ⟨rfl, hc9⟩
  obtain ⟨g0, g1, g2, g3⟩ := blk4 (y4.below hc9 y4.lt)
  obtain ⟨h0, h1, h2, h3⟩ := blk4 (v4.below hc9 v4.lt)
  clear p0 p1 p2 p3 q0 q1 q2 q3 HS1
  go_wp2_with fail
  with_reducible refine (HS2.out _ hc9).mono ?_
  rintro e w10 ⟨rfl, hc10⟩
  go_wp2
  go_ret
  exact ⟨by simp, below_step (below_step hb4 hc9) hc10⟩
end Go.Proofs.YtnadgdjaldemhaaDoor

/- The law MarkSteps: the walk. -/
import Derived.Test.YtdbdigcpibmgjaaGreatDoorQLms
import Derived.Test.YtdbdigcpibmgjaaGreatDoorQRms
import Derived.Test.YtdbdigcpibmgjaaGreatDoorQScq
import Derived.Test.YtdbdigcpibmgjaaGreatDoorQZq
namespace Go.Proofs.YtdbdigcpibmgjaaGreatDoor
open Go.RowKit
set_option maxRecDepth 100000 in
set_option maxHeartbeats 2000000 in
theorem markSteps_walk (A B : Option Addr) (n c m k : Nat) (s : Sto) (cl : Col) (P : Option Addr) (pn pf : Nat) (w : World) (h : StA w A B n c m k s) (hq : Rd w 1 P pn pf (cl.gr.map sv)) (hP : P = none → pf = 0) (hz : pn * 16 ≤ 140737488351232) :
    Calls Tryz.prog 4 #[.agg #[.slice A n c, .slice B m k, .int .i64 s.rm, .int .i64 s.ck], .agg #[.int .i64 cl.ph, .slice P pn pf, .string (str cl.at_)]] w fun e w' => e = .returned (.bool true) ∧ Below w.heap.size w w' := by
  have hb0 := ((Below.refl w.heap.size w).alloc (Nat.le_refl _) (.cells #[.slice A n c, .slice B m k, .int .i64 s.rm, .int .i64 s.ck] 25)).alloc (by simp) (.cells #[.int .i64 cl.ph, .slice P pn pf, .string (str cl.at_)] 28)
  have k0 := (Blk.new w 25 [.slice A n c, .slice B m k, .int .i64 s.rm, .int .i64 s.ck]).alloc (.cells #[.int .i64 cl.ph, .slice P pn pf, .string (str cl.at_)] 28)
  have j0 := Blk.new (w.alloc (.cells #[.slice A n c, .slice B m k, .int .i64 s.rm, .int .i64 s.ck] 25)) 28 [.int .i64 cl.ph, .slice P pn pf, .string (str cl.at_)]
  have e1 : (w.alloc (.cells #[.slice A n c, .slice B m k, .int .i64 s.rm, .int .i64 s.ck] 25)).heap.size = w.heap.size + 1 := by simp
  rw [e1] at j0
  have H1 := Lib.hid (fun (W : World) (hw : Below w.heap.size w W) => lMStep_any (cl := cl) (h.below hw) (hq.below hw) hP hz)
  have H2 := Lib.hid (fun (W : World) (hw : Below w.heap.size w W) => rStepped_any (cl := cl) (h.below hw) (hq.below hw) hP hz)
  obtain ⟨l, es, rm, ck⟩ := s
  obtain ⟨ph0, gr0, at0⟩ := cl
  simp only at hb0 k0 j0 H1 H2 ⊢
  obtain ⟨⟨E, ⟨L, M, r, t⟩, ⟨ph, G, at_⟩⟩, hX⟩ : ∃ x, cStep ⟨l, es, rm, ck⟩ ⟨ph0, gr0, at0⟩ = x := ⟨_, rfl⟩
  rw [hX] at H1 H2
  obtain ⟨a0, a1, a2, a3⟩ := blk4 k0
  obtain ⟨c0, c1, c2⟩ := blk3 j0
  clear hX h hq e1
  go_enter Tryz.func4, Tryz.ntmps4
  go_wp2_with fail
  with_reducible refine (H1.out _ hb0).mono ?_
  rintro e w2 ⟨A1, c1', B1, d1, P1, f1, rfl, hN1, hM1, hR1, -, -, hc⟩
  have hbx := below_step hb0 hc
  have hl := ((Below.refl w2.heap.size w2).alloc (Nat.le_refl _) (.cells #[.slice A1 L.length c1', .slice B1 M.length d1, .int .i64 r, .int .i64 t] 25)).alloc (by simp) (.cells #[.int .i64 ph, .slice P1 G.length f1, .string (str at_)] 28)
  have k1 := ((k0.below hc k0.lt).alloc (.cells #[.slice A1 L.length c1', .slice B1 M.length d1, .int .i64 r, .int .i64 t] 25)).alloc (.cells #[.int .i64 ph, .slice P1 G.length f1, .string (str at_)] 28)
  have j1 := ((j0.below hc j0.lt).alloc (.cells #[.slice A1 L.length c1', .slice B1 M.length d1, .int .i64 r, .int .i64 t] 25)).alloc (.cells #[.int .i64 ph, .slice P1 G.length f1, .string (str at_)] 28)
  have x1 := (Blk.new w2 25 [.slice A1 L.length c1', .slice B1 M.length d1, .int .i64 r, .int .i64 t]).alloc (.cells #[.int .i64 ph, .slice P1 G.length f1, .string (str at_)] 28)
  have y1 := Blk.new (w2.alloc (.cells #[.slice A1 L.length c1', .slice B1 M.length d1, .int .i64 r, .int .i64 t] 25)) 28 [.int .i64 ph, .slice P1 G.length f1, .string (str at_)]
  have e1 : (w2.alloc (.cells #[.slice A1 L.length c1', .slice B1 M.length d1, .int .i64 r, .int .i64 t] 25)).heap.size = w2.heap.size + 1 := by simp
  rw [e1] at y1
  have HN1 := Lib.hid (hN1.rd.below hl)
  have HM1 := Lib.hid (hM1.rd.below hl)
  have HR1 := Lib.hid (hR1.below hl)
  have hb1 := below_step hbx hl
  clear H1 hN1 hM1 hR1 hc hl hbx hb0 a0 a1 a2 a3 c0 c1 c2 k0 j0 e1
  simp only
  go_upto_region 2 with fail
  generalize hw : (w2.alloc (.cells [Value.slice A1 L.length c1', .slice B1 M.length d1, .int .i64 r, .int .i64 t].toArray 25)).alloc (.cells [Value.int .i64 ph, .slice P1 G.length f1, .string (str at_)].toArray 28) = u1 at *
  clear hw
  obtain ⟨a0, a1, a2, a3⟩ := blk4 k1
  obtain ⟨c0, c1, c2⟩ := blk3 j1
  go_wp2_with fail
  with_reducible refine (H2.out _ hb1).mono ?_
  rintro e w4 ⟨A2, c2', B2, d2, P2, f2, rfl, hN2, hM2, hR2, -, -, hc⟩
  have hbx := below_step hb1 hc
  have hl := ((Below.refl w4.heap.size w4).alloc (Nat.le_refl _) (.cells #[.slice A2 L.length c2', .slice B2 M.length d2, .int .i64 r, .int .i64 t] 25)).alloc (by simp) (.cells #[.int .i64 ph, .slice P2 G.length f2, .string (str at_)] 28)
  have x2 := ((x1.below hc x1.lt).alloc (.cells #[.slice A2 L.length c2', .slice B2 M.length d2, .int .i64 r, .int .i64 t] 25)).alloc (.cells #[.int .i64 ph, .slice P2 G.length f2, .string (str at_)] 28)
  have y2 := ((y1.below hc y1.lt).alloc (.cells #[.slice A2 L.length c2', .slice B2 M.length d2, .int .i64 r, .int .i64 t] 25)).alloc (.cells #[.int .i64 ph, .slice P2 G.length f2, .string (str at_)] 28)
  have x3 := (Blk.new w4 25 [.slice A2 L.length c2', .slice B2 M.length d2, .int .i64 r, .int .i64 t]).alloc (.cells #[.int .i64 ph, .slice P2 G.length f2, .string (str at_)] 28)
  have y3 := Blk.new (w4.alloc (.cells #[.slice A2 L.length c2', .slice B2 M.length d2, .int .i64 r, .int .i64 t] 25)) 28 [.int .i64 ph, .slice P2 G.length f2, .string (str at_)]
  have e1 : (w4.alloc (.cells #[.slice A2 L.length c2', .slice B2 M.length d2, .int .i64 r, .int .i64 t] 25)).heap.size = w4.heap.size + 1 := by simp
  rw [e1] at y3
  have HS := Lib.hid (sameStore_eq A1 B1 A2 B2 _ c1' _ d1 _ c2' _ d2 L M r t _ ((HN1.out.below hc).below hl) ((HM1.out.below hc).below hl) (hN2.rd.below hl) (hM2.rd.below hl))
  have HC := Lib.hid (fun (W : World) (hw : Below _ _ W) => sameCollector_eq P1 P2 _ _ f1 f2 G ph at_ W (((HR1.out.below hc).below hl).below hw) ((hR2.below hl).below hw))
  have hb2 := below_step hbx hl
  clear H2 hN2 hM2 hR2 hc hl hbx hb1 a0 a1 a2 a3 c0 c1 c2 k1 j1 e1 x1 y1 HN1 HM1 HR1
  simp only
  go_upto_region 3 with fail
  generalize hw : (w4.alloc (.cells [Value.slice A2 L.length c2', .slice B2 M.length d2, .int .i64 r, .int .i64 t].toArray 25)).alloc (.cells [Value.int .i64 ph, .slice P2 G.length f2, .string (str at_)].toArray 28) = u2 at *
  clear hw
  obtain ⟨p0, p1, p2, p3⟩ := blk4 x2
  obtain ⟨q0, q1, q2, q3⟩ := blk4 x3
  have e1 : (E == E) = true := by simp
  go_wp2_with fail
  with_reducible refine HS.out.mono ?_
  rintro e w9 ⟨rfl, hc9⟩
  obtain ⟨g0, g1, g2⟩ := blk3 (y2.below hc9 y2.lt)
  obtain ⟨h0, h1, h2⟩ := blk3 (y3.below hc9 y3.lt)
  clear p0 p1 p2 p3 q0 q1 q2 q3 HS
  go_wp2_with fail
  with_reducible refine (HC.out _ hc9).mono ?_
  rintro e w10 ⟨rfl, hc10⟩
  go_wp2
  go_ret
  exact ⟨by simp, below_step (below_step hb2 hc9) hc10⟩
end Go.Proofs.YtdbdigcpibmgjaaGreatDoor

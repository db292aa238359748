/- The law MarkBegins: the walk. -/
import Derived.Test.YtdbdigcpibmgjaaGreatDoorQLmb
import Derived.Test.YtdbdigcpibmgjaaGreatDoorQRbg
import Derived.Test.YtdbdigcpibmgjaaGreatDoorQLad
import Derived.Test.YtdbdigcpibmgjaaGreatDoorQRad
import Derived.Test.YtdbdigcpibmgjaaGreatDoorQScq
import Derived.Test.YtdbdigcpibmgjaaGreatDoorQZq
namespace Go.Proofs.YtdbdigcpibmgjaaGreatDoor
open Go.RowKit
set_option maxRecDepth 100000 in
set_option maxHeartbeats 2000000 in
theorem markBegins_walk (A B : Option Addr) (n c m k : Nat) (s : Sto) (P : Option Addr) (pn pf : Nat) (la : List (List UInt8)) (Q : Option Addr) (qn qf : Nat) (lb : List (List UInt8)) (w : World) (h : StA w A B n c m k s) (hp : Rd w 1 P pn pf (la.map sv)) (hP : P = none → pf = 0) (hq : Rd w 1 Q qn qf (lb.map sv)) (hQ : Q = none → qf = 0) (hz : pn + qn ≤ 4194304) :
    Calls Tryz.prog 3 #[.agg #[.slice A n c, .slice B m k, .int .i64 s.rm, .int .i64 s.ck], .slice P pn pf, .slice Q qn qf] w fun e w' => e = .returned (.bool true) ∧ Below w.heap.size w w' := by
  have hb0 := (Below.refl w.heap.size w).alloc (Nat.le_refl _) (.cells #[.slice A n c, .slice B m k, .int .i64 s.rm, .int .i64 s.ck] 25)
  have k0 := Blk.new w 25 [.slice A n c, .slice B m k, .int .i64 s.rm, .int .i64 s.ck]
  have H1 := Lib.hid (fun (W : World) (hw : Below w.heap.size w W) => lMBegin_any (h.below hw))
  have H2 := Lib.hid (fun (W : World) (hw : Below w.heap.size w W) => lAdd_any P Q pn qn pf qf la lb W (hp.below hw) (hq.below hw) hP hQ (by omega))
  have H3 := Lib.hid (fun (W : World) (hw : Below w.heap.size w W) => rBegun_any (h.below hw))
  have H4 := Lib.hid (fun (W : World) (hw : Below w.heap.size w W) => rAdded_any P Q pn pf qn qf la lb W (hp.below hw) (hq.below hw) hP hQ (by omega))
  obtain ⟨l, es, rm, ck⟩ := s
  simp only at hb0 k0 H1 H3 ⊢
  obtain ⟨⟨E, ⟨L, M, r, t⟩, ⟨ph, G, at_⟩⟩, hX⟩ : ∃ x, sBegun ⟨l, es, rm, ck⟩ = x := ⟨_, rfl⟩
  rw [hX] at H1 H3
  obtain ⟨X, hXX⟩ : ∃ X, ris (la ++ lb) = X := ⟨_, rfl⟩
  rw [hXX] at H2 H4
  obtain ⟨a0, a1, a2, a3⟩ := blk4 k0
  clear hX hXX h hp hq
  go_enter Tryz.func3, Tryz.ntmps3
  go_wp2_with fail
  with_reducible refine (H1.out _ hb0).mono ?_
  rintro e w2 ⟨A1, c1', B1, d1, P1, f1, rfl, hN1, hM1, hR1, -, -, hc⟩
  have hbx := below_step hb0 hc
  have hl := ((Below.refl w2.heap.size w2).alloc (Nat.le_refl _) (.cells #[.slice A1 L.length c1', .slice B1 M.length d1, .int .i64 r, .int .i64 t] 25)).alloc (by simp) (.cells #[.int .i64 ph, .slice P1 G.length f1, .string (str at_)] 28)
  have k1 := ((k0.below hc k0.lt).alloc (.cells #[.slice A1 L.length c1', .slice B1 M.length d1, .int .i64 r, .int .i64 t] 25)).alloc (.cells #[.int .i64 ph, .slice P1 G.length f1, .string (str at_)] 28)
  have x1 := (Blk.new w2 25 [.slice A1 L.length c1', .slice B1 M.length d1, .int .i64 r, .int .i64 t]).alloc (.cells #[.int .i64 ph, .slice P1 G.length f1, .string (str at_)] 28)
  have y1 := Blk.new (w2.alloc (.cells #[.slice A1 L.length c1', .slice B1 M.length d1, .int .i64 r, .int .i64 t] 25)) 28 [.int .i64 ph, .slice P1 G.length f1, .string (str at_)]
  have e1 : (w2.alloc (.cells #[.slice A1 L.length c1', .slice B1 M.length d1, .int .i64 r, .int .i64 t] 25)).heap.size = w2.heap.size + 1 := by simp
  rw [e1] at y1
  have HN1 := Lib.hid (hN1.rd.below hl)
  have HM1 := Lib.hid (hM1.rd.below hl)
  have HR1 := Lib.hid (hR1.below hl)
  have hb1 := below_step hbx hl
  clear H1 hN1 hM1 hR1 hc hl hbx hb0 a0 a1 a2 a3 k0 e1
  simp only
  go_upto_region 2 with fail
  generalize hw : (w2.alloc (.cells [Value.slice A1 L.length c1', .slice B1 M.length d1, .int .i64 r, .int .i64 t].toArray 25)).alloc (.cells [Value.int .i64 ph, .slice P1 G.length f1, .string (str at_)].toArray 28) = u1 at *
  clear hw
  go_wp2_with fail
  with_reducible refine (H2.out _ hb1).mono ?_
  rintro e w3 h3
  obtain ⟨A3, c3, rfl, r3, hA3, -, hb3⟩ := h3.rd
  have k3 := k1.below hb3 k1.lt
  have x3 := x1.below hb3 x1.lt
  have y3 := y1.below hb3 y1.lt
  have HN3 := Lib.hid (HN1.out.below hb3)
  have HM3 := Lib.hid (HM1.out.below hb3)
  have HR3 := Lib.hid (HR1.out.below hb3)
  have hbB := below_step hb1 hb3
  clear h3 H2 k1 x1 y1 HN1 HM1 HR1 hb1 hb3
  obtain ⟨a0, a1, a2, a3⟩ := blk4 k3
  go_wp2_with fail
  with_reducible refine (H3.out _ hbB).mono ?_
  rintro e w4 ⟨A2, c2', B2, d2, P2, f2, rfl, hN2, hM2, hR2, -, -, hc⟩
  have hbx := below_step hbB hc
  have hl := ((Below.refl w4.heap.size w4).alloc (Nat.le_refl _) (.cells #[.slice A2 L.length c2', .slice B2 M.length d2, .int .i64 r, .int .i64 t] 25)).alloc (by simp) (.cells #[.int .i64 ph, .slice P2 G.length f2, .string (str at_)] 28)
  have x4 := ((x3.below hc x3.lt).alloc (.cells #[.slice A2 L.length c2', .slice B2 M.length d2, .int .i64 r, .int .i64 t] 25)).alloc (.cells #[.int .i64 ph, .slice P2 G.length f2, .string (str at_)] 28)
  have y4 := ((y3.below hc y3.lt).alloc (.cells #[.slice A2 L.length c2', .slice B2 M.length d2, .int .i64 r, .int .i64 t] 25)).alloc (.cells #[.int .i64 ph, .slice P2 G.length f2, .string (str at_)] 28)
  have x5 := (Blk.new w4 25 [.slice A2 L.length c2', .slice B2 M.length d2, .int .i64 r, .int .i64 t]).alloc (.cells #[.int .i64 ph, .slice P2 G.length f2, .string (str at_)] 28)
  have y5 := Blk.new (w4.alloc (.cells #[.slice A2 L.length c2', .slice B2 M.length d2, .int .i64 r, .int .i64 t] 25)) 28 [.int .i64 ph, .slice P2 G.length f2, .string (str at_)]
  have e1 : (w4.alloc (.cells #[.slice A2 L.length c2', .slice B2 M.length d2, .int .i64 r, .int .i64 t] 25)).heap.size = w4.heap.size + 1 := by simp
  rw [e1] at y5
  have HN4 := Lib.hid ((HN3.out.below hc).below hl)
  have HM4 := Lib.hid ((HM3.out.below hc).below hl)
  have HR4 := Lib.hid ((HR3.out.below hc).below hl)
  have HN5 := Lib.hid (hN2.rd.below hl)
  have HM5 := Lib.hid (hM2.rd.below hl)
  have HR5 := Lib.hid (hR2.below hl)
  have R4 := Lib.hid ((r3.below hc).below hl)
  have hb2 := below_step hbx hl
  clear H3 hN2 hM2 hR2 hc hl hbx hbB a0 a1 a2 a3 k3 e1 x3 y3 HN3 HM3 HR3 r3
  simp only
  go_upto_region 4 with fail
  generalize hw : (w4.alloc (.cells [Value.slice A2 L.length c2', .slice B2 M.length d2, .int .i64 r, .int .i64 t].toArray 25)).alloc (.cells [Value.int .i64 ph, .slice P2 G.length f2, .string (str at_)].toArray 28) = u2 at *
  clear hw
  go_wp2_with fail
  with_reducible refine (H4.out _ hb2).mono ?_
  rintro e w6 h6
  obtain ⟨A6, c6, rfl, r6, hA6, -, hb6⟩ := h6.rd
  have x6 := x4.below hb6 x4.lt
  have y6 := y4.below hb6 y4.lt
  have x7 := x5.below hb6 x5.lt
  have y7 := y5.below hb6 y5.lt
  have HS := Lib.hid (sameStore_eq A1 B1 A2 B2 _ c1' _ d1 _ c2' _ d2 L M r t w6 (HN4.out.below hb6) (HM4.out.below hb6) (HN5.out.below hb6) (HM5.out.below hb6))
  have HC := Lib.hid (fun (W : World) (hw : Below w6.heap.size w6 W) => sameCollector_eq P1 P2 _ _ f1 f2 G ph at_ W ((HR4.out.below hb6).below hw) ((HR5.out.below hb6).below hw))
  have HT := Lib.hid (fun (W : World) (hw : Below w6.heap.size w6 W) => sameTexts_eq A3 A6 _ c3 _ c6 X W ((R4.out.below hb6).below hw) (r6.below hw))
  have hbC := below_step hb2 hb6
  clear h6 H4 x4 y4 x5 y5 HN4 HM4 HR4 HN5 HM5 HR5 R4 r6 hb2 hb6
  obtain ⟨p0, p1, p2, p3⟩ := blk4 x6
  obtain ⟨q0, q1, q2, q3⟩ := blk4 x7
  have e1 : (E == E) = true := by simp
  go_wp2_with fail
  with_reducible refine HS.out.mono ?_
  rintro e w9 ⟨rfl, hc9⟩
  obtain ⟨g0, g1, g2⟩ := blk3 (y6.below hc9 y6.lt)
  obtain ⟨h0, h1, h2⟩ := blk3 (y7.below hc9 y7.lt)
  clear p0 p1 p2 p3 q0 q1 q2 q3 HS
  go_wp2_with fail
  with_reducible refine (HC.out _ hc9).mono ?_
  rintro e w10 ⟨rfl, hc10⟩
  have hcB := below_step hc9 hc10
  clear g0 g1 g2 h0 h1 h2 HC
  go_wp2_with fail
  with_reducible refine (HT.out _ hcB).mono ?_
  rintro e w11 ⟨rfl, hc11⟩
  go_wp2
  go_ret
  exact ⟨by simp, below_step (below_step hbC hcB) hc11⟩
end Go.Proofs.YtdbdigcpibmgjaaGreatDoor

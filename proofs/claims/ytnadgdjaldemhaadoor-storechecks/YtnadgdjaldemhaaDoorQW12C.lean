/- The law StoreChecks: the walk. -/
import Derived.Test.YtnadgdjaldemhaaDoorQL2
import Derived.Test.YtnadgdjaldemhaaDoorQL3
import Derived.Test.YtnadgdjaldemhaaDoorQZf
import Derived.Test.YtnadgdjaldemhaaDoorQZc
import Derived.Test.YtnadgdjaldemhaaDoorQZq
namespace Go.Proofs.YtnadgdjaldemhaaDoor
open Go.RowKit
set_option maxRecDepth 100000 in
set_option maxHeartbeats 1000000 in
theorem storeChecks_walk (A B : Option Addr) (n c m k : Nat) (s : Sto) (w : World) (h : StA w A B n c m k s) :
    Calls Tryd.prog 3 #[.agg #[.slice A n c, .slice B m k, .int .i64 s.rm, .int .i64 s.ck]] w fun e w' => e = .returned (.bool true) ∧ Below w.heap.size w w' := by
  have hal := (Below.refl w.heap.size w).alloc (Nat.le_refl _) (.cells #[.slice A n c, .slice B m k, .int .i64 s.rm, .int .i64 s.ck] 25)
  have hb1 := Blk.new w 25 [.slice A n c, .slice B m k, .int .i64 s.rm, .int .i64 s.ck]
  have HL := Lib.hid (lCheck_any (h.below hal))
  have HL2 := Lib.hid (fun (W : World) (hw : Below w.heap.size w W) => lCopy_any (h.below hw))
  have HR := Lib.hid (fun (W : World) (hw : Below w.heap.size w W) => storeFault_any A B n c m k s.bs s.es s.rm s.ck W (h.hr.below hw) (h.he.below hw) h.hgl h.hge)
  have HR2 := Lib.hid (fun (W : World) (hw : Below w.heap.size w W) => storeCopy_any A B n c m k s.bs s.es s.rm s.ck W (h.hr.below hw) (h.he.below hw) h.hgl h.hge h.hz h.hz2)
  obtain ⟨L, M, r, t⟩ := s
  simp only at hal hb1 HL HL2 HR HR2 ⊢
  obtain ⟨E, hX⟩ : ∃ x, sErr ⟨L, M, r, t⟩ = x := ⟨_, rfl⟩
  rw [hX] at HL HR
  obtain ⟨a0, a1, a2, a3⟩ := blk4 hb1
  clear hX h
  go_enter Tryd.func3, Tryd.ntmps3
  go_wp2_with fail
  with_reducible refine HL.out.mono ?_
  rintro e w1 ⟨rfl, hc1⟩
  have k1 := hb1.below hc1 hb1.lt
  have hbA := below_step hal hc1
  clear HL hb1 hal a0 a1 a2 a3 hc1
  obtain ⟨a0, a1, a2, a3⟩ := blk4 k1
  go_wp2_with fail
  with_reducible refine (HL2.out _ hbA).mono ?_
  rintro e w2 ⟨A2, c2, B2, d2, rfl, hN2, hM2, hc2⟩
  have k2 := k1.below hc2 k1.lt
  have hbB := below_step hbA hc2
  have k3 := k2.alloc (.cells #[.slice A2 L.length c2, .slice B2 M.length d2, .int .i64 r, .int .i64 t] 25)
  have x3 := Blk.new w2 25 [.slice A2 L.length c2, .slice B2 M.length d2, .int .i64 r, .int .i64 t]
  have hl3 := (Below.refl w2.heap.size w2).alloc (Nat.le_refl _) (.cells #[.slice A2 L.length c2, .slice B2 M.length d2, .int .i64 r, .int .i64 t] 25)
  have hbC := below_step hbB hl3
  have HN := Lib.hid (hN2.rd.below hl3)
  have HM := Lib.hid (hM2.rd.below hl3)
  clear HL2 a0 a1 a2 a3 k1 k2 hbA hbB hl3 hN2 hM2 hc2
  simp only
  go_upto_region 3 with fail
  generalize hw3 : w2.alloc (.cells [Value.slice A2 L.length c2, .slice B2 M.length d2, .int .i64 r, .int .i64 t].toArray 25) = w3 at *
  clear hw3
  obtain ⟨a0, a1, a2, a3⟩ := blk4 k3
  go_wp2_with fail
  with_reducible refine (HR.out _ hbC).mono ?_
  rintro e w4 ⟨rfl, hc4⟩
  have x4 := x3.below hc4 x3.lt
  have k4 := k3.below hc4 k3.lt
  have hbD := below_step hbC hc4
  have HN4 := Lib.hid (HN.out.below hc4)
  have HM4 := Lib.hid (HM.out.below hc4)
  clear HR HN HM k3 x3 hbC hc4 a0 a1 a2 a3
  obtain ⟨a0, a1, a2, a3⟩ := blk4 k4
  go_wp2_with fail
  with_reducible refine (HR2.out _ hbD).mono ?_
  rintro e w5 ⟨A4, c4, B4, d4, rfl, hN5, hM5, hc5⟩
  have x5 := x4.below hc5 x4.lt
  have hbE := below_step hbD hc5
  have x6 := x5.alloc (.cells #[.slice A4 L.length c4, .slice B4 M.length d4, .int .i64 r, .int .i64 t] 25)
  have y6 := Blk.new w5 25 [.slice A4 L.length c4, .slice B4 M.length d4, .int .i64 r, .int .i64 t]
  have hl6 := (Below.refl w5.heap.size w5).alloc (Nat.le_refl _) (.cells #[.slice A4 L.length c4, .slice B4 M.length d4, .int .i64 r, .int .i64 t] 25)
  have hbF := below_step hbE hl6
  have HSS := Lib.hid (sameStore_eq A2 B2 A4 B4 _ c2 _ d2 _ c4 _ d4 L M r t _ ((HN4.out.below hc5).below hl6) ((HM4.out.below hc5).below hl6) (hN5.rd.below hl6) (hM5.rd.below hl6))
  clear HR2 HN4 HM4 k4 x4 x5 hbD hbE hl6 hN5 hM5 hc5 a0 a1 a2 a3
  simp only
  go_upto_region 5 with fail
  generalize hw6 : w5.alloc (.cells [Value.slice A4 L.length c4, .slice B4 M.length d4, .int .i64 r, .int .i64 t].toArray 25) = w6 at *
  clear hw6
  obtain ⟨a0, a1, a2, a3⟩ := blk4 x6
  obtain ⟨f0, f1, f2, f3⟩ := blk4 y6
  have q2 : (E == E) = true := by simp
  go_wp2_with fail
  with_reducible refine HSS.out.mono ?_
  rintro e w7 ⟨rfl, hc7⟩
  go_wp2
  go_ret
  exact ⟨by simp, below_step hbF hc7⟩
end Go.Proofs.YtnadgdjaldemhaaDoor

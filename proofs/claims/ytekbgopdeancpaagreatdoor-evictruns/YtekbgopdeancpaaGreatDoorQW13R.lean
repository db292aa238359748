/- The law EvictRuns: the walk. -/
import Derived.Test.YtekbgopdeancpaaGreatDoorGVC
import Derived.Test.YtekbgopdeancpaaGreatDoorGVD
import Derived.Test.YtekbgopdeancpaaGreatDoorQZq
import Derived.Test.YtekbgopdeancpaaGreatDoorGRB
namespace Go.Proofs.YtekbgopdeancpaaGreatDoor
open Go.RowKit
set_option maxRecDepth 100000 in
set_option maxHeartbeats 1000000 in
theorem evictRuns_walk (A B : Option Addr) (n c m k : Nat) (s : Sto) (more : Int) (w : World) (h : StA w A B n c m k s) (hm : (Lit.int .i64 more).wf = true) :
    Calls Tryz.prog 5 #[.agg #[.slice A n c, .slice B m k, .int .i64 s.rm, .int .i64 s.ck], .int .i64 more] w fun e w' => e = .returned (.bool true) ∧ Below w.heap.size w w' := by
  have hal := (Below.refl w.heap.size w).alloc (Nat.le_refl _) (.cells #[.slice A n c, .slice B m k, .int .i64 s.rm, .int .i64 s.ck] 25)
  have hb1 := Blk.new w 25 [.slice A n c, .slice B m k, .int .i64 s.rm, .int .i64 s.ck]
  have HL := Lib.hid (lRun_any (h.below hal) hm)
  have HR := Lib.hid (fun (W : World) (hw : Below w.heap.size w W) => evicted_any (h.below hw) hm)
  obtain ⟨l, es, rm, ck⟩ := s
  simp only at hal hb1 HL HR ⊢
  obtain ⟨⟨E, ⟨L, M, r, t⟩, g⟩, hX⟩ : ∃ x, sRun ⟨l, es, rm, ck⟩ more = x := ⟨_, rfl⟩
  rw [hX] at HL HR
  obtain ⟨a0, a1, a2, a3⟩ := blk4 hb1
  clear hX h
  go_enter Tryz.func5, Tryz.ntmps5
  go_wp2_with fail
  with_reducible refine HL.out.mono ?_
  rintro e w2 ⟨A2, c2, B2, d2, P2, f2, rfl, hN2, hM2, hP2, -, hc2⟩
  have k2 := hb1.below hc2 hb1.lt
  have hbB := below_step hal hc2
  have k3 := k2.alloc (.cells #[.slice A2 L.length c2, .slice B2 M.length d2, .int .i64 r, .int .i64 t] 25)
  have x3 := Blk.new w2 25 [.slice A2 L.length c2, .slice B2 M.length d2, .int .i64 r, .int .i64 t]
  have hl3 := (Below.refl w2.heap.size w2).alloc (Nat.le_refl _) (.cells #[.slice A2 L.length c2, .slice B2 M.length d2, .int .i64 r, .int .i64 t] 25)
  have hbC := below_step hbB hl3
  have HN := Lib.hid (hN2.rd.below hl3)
  have HM := Lib.hid (hM2.rd.below hl3)
  have HP := Lib.hid (hP2.below hl3)
  clear HL hb1 hal a0 a1 a2 a3 k2 hbB hl3 hN2 hM2 hP2 hc2
  simp only
  go_upto_region 2 with fail
  generalize hw3 : w2.alloc (.cells [Value.slice A2 L.length c2, .slice B2 M.length d2, .int .i64 r, .int .i64 t].toArray 25) = w3 at *
  clear hw3
  obtain ⟨a0, a1, a2, a3⟩ := blk4 k3
  go_wp2_with fail
  with_reducible refine (HR.out _ hbC).mono ?_
  rintro e w4 ⟨A4, c4, B4, d4, P4, f4, rfl, hN4, hM4, hP4, -, hc4⟩
  have x4 := x3.below hc4 x3.lt
  have hbD := below_step hbC hc4
  have x5 := x4.alloc (.cells #[.slice A4 L.length c4, .slice B4 M.length d4, .int .i64 r, .int .i64 t] 25)
  have y5 := Blk.new w4 25 [.slice A4 L.length c4, .slice B4 M.length d4, .int .i64 r, .int .i64 t]
  have hl5 := (Below.refl w4.heap.size w4).alloc (Nat.le_refl _) (.cells #[.slice A4 L.length c4, .slice B4 M.length d4, .int .i64 r, .int .i64 t] 25)
  have hbE := below_step hbD hl5
  have HSS := Lib.hid (sameStore_eq A2 B2 A4 B4 _ c2 _ d2 _ c4 _ d4 L M r t _ ((HN.out.below hc4).below hl5) ((HM.out.below hc4).below hl5) (hN4.rd.below hl5) (hM4.rd.below hl5))
  have HQ := Lib.hid (fun (W : World) (hw : Below _ _ W) => sameTexts_eq P2 P4 _ f2 _ f4 g W (((HP.out.below hc4).below hl5).below hw) ((hP4.below hl5).below hw))
  clear HR HN HM HP hP4 k3 x3 x4 hbC hbD hl5 hN4 hM4 hc4 a0 a1 a2 a3
  simp only
  go_upto_region 3 with fail
  generalize hw5 : w4.alloc (.cells [Value.slice A4 L.length c4, .slice B4 M.length d4, .int .i64 r, .int .i64 t].toArray 25) = w5 at *
  clear hw5
  obtain ⟨a0, a1, a2, a3⟩ := blk4 x5
  obtain ⟨f0, f1, f2, f3⟩ := blk4 y5
  have q2 : (E == E) = true := by simp
  go_wp2_with fail
  with_reducible refine HSS.out.mono ?_
  rintro e w6 ⟨rfl, hc6⟩
  go_wp2_with fail
  with_reducible refine (HQ.out _ hc6).mono ?_
  rintro e w7 ⟨rfl, hc7⟩
  go_wp2
  go_ret
  exact ⟨by simp, below_step (below_step hbE hc6) hc7⟩
end Go.Proofs.YtekbgopdeancpaaGreatDoor

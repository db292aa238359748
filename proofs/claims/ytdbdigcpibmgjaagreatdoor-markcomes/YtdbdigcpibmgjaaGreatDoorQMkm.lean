/- The statements' own closed fact on marking. -/
import Derived.Test.YtdbdigcpibmgjaaGreatDoorQLms
import Derived.Test.YtdbdigcpibmgjaaGreatDoorQZn
import Derived.Test.YtdbdigcpibmgjaaGreatDoorGSB
import Derived.Test.YtdbdigcpibmgjaaGreatDoorGMB
namespace Go.Proofs.YtdbdigcpibmgjaaGreatDoor
open Go.RowKit
set_option maxRecDepth 100000 in
theorem sm_serr : sErr ⟨[smA, smM], [smE], 200, 1⟩ = 0 := by decide +kernel
set_option maxRecDepth 100000 in
theorem sm_next : (mSt [smA, smM] (ris (roots [smA, smM] [smE]))).2.length = 1 := by decide +kernel
theorem sm_begun : sBegun ⟨[smA, smM], [smE], 200, 1⟩ = (0, ⟨[smA, smM], [smE], 200, 1⟩, ⟨1, ris (roots [smA, smM] [smE]), []⟩) := by
  rw [begun_ok sm_serr]
  simp only
  rw [marks_off (fun b hb => by
    rcases List.mem_cons.1 hb with rfl | hb
    · rfl
    · rw [List.mem_singleton.1 hb]; rfl)]
theorem sm_stepped : cStep ⟨[smA, smM], [smE], 200, 1⟩ ⟨1, ris (roots [smA, smM] [smE]), []⟩ = (0, ⟨(mSt [smA, smM] (ris (roots [smA, smM] [smE]))).1, [smE], 200, 1⟩, ⟨1, (mSt [smA, smM] (ris (roots [smA, smM] [smE]))).2, []⟩) :=
  step_go sm_serr rfl (fun q => by have h := sm_roots; simp only at q; rw [q] at h; cases h)
set_option maxRecDepth 100000 in
set_option maxHeartbeats 2000000 in
theorem marks_ok (w : World) (hK : Kon w) : Calls Tryz.prog 17 #[] w fun e w' => e = .returned (.bool true) ∧ Below w.heap.size w w' := by
  obtain ⟨G, hG⟩ : ∃ G, ris (roots [smA, smM] [smE]) = G := ⟨_, rfl⟩
  obtain ⟨Y, hY⟩ : ∃ Y, mSt [smA, smM] G = Y := ⟨_, rfl⟩
  have hg1 : G.length = 1 := by rw [← hG]; exact sm_roots
  have hy1 : Y.2.length = 1 := by rw [← hY, ← hG]; exact sm_next
  have HS : Hid (∀ W : World, Calls Tryz.prog 56 #[] W (GivesSm W)) := fun W => small_any W
  have HB : Hid (∀ (A B : Option Addr) (c d : Nat) (W : World), StA W A B 2 c 1 d ⟨[smA, smM], [smE], 200, 1⟩ → Calls Tryz.prog 7 #[.agg #[.slice A 2 c, .slice B 1 d, .int .i64 200, .int .i64 1]] W fun e w' => ∃ A c B d P f, e = .returned (.tuple #[.agg #[.slice A 2 c, .slice B 1 d, .int .i64 200, .int .i64 1], .agg #[.int .i64 1, .slice P 1 f, .string (str [])], .int .i64 0]) ∧ StA w' A B 2 c 1 d ⟨[smA, smM], [smE], 200, 1⟩ ∧ Rd w' 1 P 1 f (G.map sv) ∧ (P = none → f = 0) ∧ Below W.heap.size W w') := fun A B c d W h => by
    have hb := lMBegin_any h
    rw [sm_begun, hG] at hb
    refine hb.mono ?_
    rintro e w' ⟨A, c, B, d, P, f, rfl, hN, hM, hR, hP, -, hc⟩
    simp only [hg1] at hR ⊢
    exact ⟨A, c, B, d, P, f, rfl, sta_of (h.hK.below hc) hN.rd hM.rd hN.nilCap hM.nilCap (sErr_zero.1 sm_serr), hR, hP, hc⟩
  have HP : Hid (∀ (A B P : Option Addr) (c d f : Nat) (W : World), StA W A B 2 c 1 d ⟨[smA, smM], [smE], 200, 1⟩ → Rd W 1 P 1 f (G.map sv) → (P = none → f = 0) → Calls Tryz.prog 14 #[.agg #[.slice A 2 c, .slice B 1 d, .int .i64 200, .int .i64 1], .agg #[.int .i64 1, .slice P 1 f, .string (str [])]] W fun e w' => ∃ A c n B d m P f, e = .returned (.tuple #[.agg #[.slice A n c, .slice B m d, .int .i64 200, .int .i64 1], .agg #[.int .i64 1, .slice P 1 f, .string (str [])], .int .i64 0]) ∧ Below W.heap.size W w') := fun A B P c d f W h hr hP => by
    have hb := lMStep_any (cl := ⟨1, G, []⟩) h hr hP (by omega)
    rw [← hG, sm_stepped, hG, hY] at hb
    refine hb.mono ?_
    rintro e w' ⟨A, c, B, d, P, f, rfl, -, -, -, -, -, hc⟩
    simp only [hy1]
    exact ⟨A, c, _, B, d, _, P, f, rfl, hc⟩
  have HK := Lib.hid hK
  have HZ := Lib.hid (sErr_zero.1 sm_serr)
  clear hG hY hg1 hy1 hK
  go_enter Tryz.func17, Tryz.ntmps17
  go_wp2_with fail
  with_reducible refine (HS.out _).mono ?_
  rintro e w1 ⟨A, c, B, d, rfl, hA, hB, hb1⟩
  have HA := Lib.hid (sta_of (HK.out.below hb1) hA.rd hB.rd hA.nilCap hB.nilCap HZ.out)
  clear hA hB
  go_wp2_with fail
  with_reducible refine (HB.out _ _ _ _ _ HA.out).mono ?_
  rintro e w2 ⟨A1, c1, B1, d1, P1, f1, rfl, hs2, hr2, hP2, hb2⟩
  have hbA := below_step hb1 hb2
  have hl := ((Below.refl w2.heap.size w2).alloc (Nat.le_refl _) (.cells #[.slice A1 2 c1, .slice B1 1 d1, .int .i64 200, .int .i64 1] 25)).alloc (by simp) (.cells #[.int .i64 1, .slice P1 1 f1, .string (str [])] 28)
  have x1 := (Blk.new w2 25 [.slice A1 2 c1, .slice B1 1 d1, .int .i64 200, .int .i64 1]).alloc (.cells #[.int .i64 1, .slice P1 1 f1, .string (str [])] 28)
  have y1 := Blk.new (w2.alloc (.cells #[.slice A1 2 c1, .slice B1 1 d1, .int .i64 200, .int .i64 1] 25)) 28 [.int .i64 1, .slice P1 1 f1, .string (str [])]
  have e1 : (w2.alloc (.cells #[.slice A1 2 c1, .slice B1 1 d1, .int .i64 200, .int .i64 1] 25)).heap.size = w2.heap.size + 1 := by simp
  rw [e1] at y1
  have HP3 := Lib.hid (HP.out _ _ _ _ _ _ _ (hs2.below hl) (hr2.below hl) hP2)
  have hbB := below_step hbA hl
  clear HB HP hs2 hr2 hP2 hl hb1 hb2 hbA e1
  go_upto_region 2 with fail
  generalize hw : (w2.alloc (.cells [Value.slice A1 2 c1, .slice B1 1 d1, .int .i64 200, .int .i64 1].toArray 25)).alloc (.cells [Value.int .i64 1, .slice P1 1 f1, .string (str [])].toArray 28) = w3 at *
  clear hw
  obtain ⟨a0, a1, a2, a3⟩ := blk4 x1
  obtain ⟨c0, c1', c2⟩ := blk3 y1
  go_wp2_with fail
  with_reducible refine HP3.out.mono ?_
  rintro e w4 ⟨A4, c4, n4, B4, d4, m4, P4, f4, rfl, hb4⟩
  have hbC := below_step hbB hb4
  have hl := ((Below.refl w4.heap.size w4).alloc (Nat.le_refl _) (.cells #[.slice A4 n4 c4, .slice B4 m4 d4, .int .i64 200, .int .i64 1] 25)).alloc (by simp) (.cells #[.int .i64 1, .slice P4 1 f4, .string (str [])] 28)
  have y4 := (y1.below hb4 y1.lt).below hl (y1.below hb4 y1.lt).lt
  have z4 := Blk.new (w4.alloc (.cells #[.slice A4 n4 c4, .slice B4 m4 d4, .int .i64 200, .int .i64 1] 25)) 28 [.int .i64 1, .slice P4 1 f4, .string (str [])]
  have e1 : (w4.alloc (.cells #[.slice A4 n4 c4, .slice B4 m4 d4, .int .i64 200, .int .i64 1] 25)).heap.size = w4.heap.size + 1 := by simp
  rw [e1] at z4
  have hbD := below_step hbC hl
  clear HP3 hbB hb4 hbC hl e1 a0 a1 a2 a3 c0 c1' c2 x1 y1
  go_upto_region 3 with fail
  generalize hw : (w4.alloc (.cells [Value.slice A4 n4 c4, .slice B4 m4 d4, .int .i64 200, .int .i64 1].toArray 25)).alloc (.cells [Value.int .i64 1, .slice P4 1 f4, .string (str [])].toArray 28) = w5 at *
  clear hw
  obtain ⟨c0, c1', c2⟩ := blk3 y4
  obtain ⟨d0, d1', d2⟩ := blk3 z4
  go_wp2
  go_ret
  exact ⟨by simp, hbD⟩
end Go.Proofs.YtdbdigcpibmgjaaGreatDoor

/- The law EvictWastes: the walk. -/
import Derived.Test.YtekbgopdeancpaaGreatDoorGVC
import Derived.Test.YtekbgopdeancpaaGreatDoorGVD
import Derived.Test.YtekbgopdeancpaaGreatDoorGRB
namespace Go.Proofs.YtekbgopdeancpaaGreatDoor
open Go.RowKit
set_option maxRecDepth 100000 in
set_option maxHeartbeats 1000000 in
theorem evictWastes_walk (A B : Option Addr) (n c m k : Nat) (s : Sto) (w : World) (h : StA w A B n c m k s) :
    Calls Tryz.prog 3 #[.agg #[.slice A n c, .slice B m k, .int .i64 s.rm, .int .i64 s.ck]] w fun e w' => e = .returned (.bool true) ∧ Below w.heap.size w w' := by
  have hal := (Below.refl w.heap.size w).alloc (Nat.le_refl _) (.cells #[.slice A n c, .slice B m k, .int .i64 s.rm, .int .i64 s.ck] 25)
  have hb1 := Blk.new w 25 [.slice A n c, .slice B m k, .int .i64 s.rm, .int .i64 s.ck]
  have HL := Lib.hid (lWaste_any (h.below hal))
  have HR := Lib.hid (fun (W : World) (hw : Below w.heap.size w W) => wasted_any (h.below hw))
  obtain ⟨l, es, rm, ck⟩ := s
  simp only at hal hb1 HL HR ⊢
  obtain ⟨⟨E, g⟩, hX⟩ : ∃ x, sWasted ⟨l, es, rm, ck⟩ = x := ⟨_, rfl⟩
  rw [hX] at HL HR
  obtain ⟨a0, a1, a2, a3⟩ := blk4 hb1
  clear hX h
  go_enter Tryz.func3, Tryz.ntmps3
  go_wp2_with fail
  with_reducible refine HL.out.mono ?_
  rintro e w2 ⟨A2, c2, rfl, hP2, -, hc2⟩
  have k2 := hb1.below hc2 hb1.lt
  have hbB := below_step hal hc2
  clear HL hb1 hal a0 a1 a2 a3
  obtain ⟨a0, a1, a2, a3⟩ := blk4 k2
  simp only
  go_wp2_with fail
  with_reducible refine (HR.out _ hbB).mono ?_
  rintro e w4 ⟨A4, c4, rfl, hP4, -, hc4⟩
  have hbD := below_step hbB hc4
  have HSS := Lib.hid (sameTexts_eq A2 A4 _ c2 _ c4 g _ (hP2.below hc4) hP4)
  have q2 : (E == E) = true := by simp
  clear HR hbB hP2 hP4 hc2 hc4 k2 a0 a1 a2 a3
  simp only
  go_wp2_with fail
  with_reducible refine HSS.out.mono ?_
  rintro e w6 ⟨rfl, hc6⟩
  go_wp2
  go_ret
  exact ⟨by simp, below_step hbD hc6⟩
end Go.Proofs.YtekbgopdeancpaaGreatDoor

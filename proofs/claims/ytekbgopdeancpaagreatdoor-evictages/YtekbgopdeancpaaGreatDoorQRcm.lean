/- The statements' own closed fact on what is come to. -/
import Derived.Test.YtekbgopdeancpaaGreatDoorGRD
import Derived.Test.YtekbgopdeancpaaGreatDoorQZn
namespace Go.Proofs.YtekbgopdeancpaaGreatDoor
open Go.RowKit
theorem sm_l : ∀ b ∈ [smA, smM], b.dg.length ≤ maxLen := by
  intro b hb
  have h : b.dg.length = 64 := by
    rcases List.mem_cons.1 hb with rfl | hb
    · exact dig_length _
    · rw [List.mem_singleton.1 hb]; exact dig_length _
  unfold maxLen; omega
theorem sm_e : ∀ e ∈ [smE], ∀ p ∈ e.ps, p.dg.length ≤ maxLen := by
  intro e he p hp
  rw [List.mem_singleton.1 he] at hp
  have h : p.dg.length = 64 := by
    rw [List.mem_singleton.1 hp]; exact dig_length _
  unfold maxLen; omega
theorem sm_rt : (roots [smA, smM] [smE]).length = 1 := rfl
set_option maxRecDepth 100000 in
set_option maxHeartbeats 1000000 in
theorem comes_ok (w : World) : Calls Tryz.prog 25 #[] w fun e w' => e = .returned (.bool true) ∧ Below w.heap.size w w' := by
  have HA : Hid (∀ (A B : Option Addr) (c d : Nat) (W : World), KRd kBl W A 2 c [smA, smM] → KRd kEn W B 1 d [smE] → Calls Tryz.prog 23 #[.agg #[.slice A 2 c, .slice B 1 d, .int .i64 200, .int .i64 1]] W fun e w' => ∃ A' c', e = .returned (.slice A' 2 c') ∧ Below W.heap.size W w') := fun A B c d W h1 h2 => by
    refine (rall_any A B 2 c 1 d _ _ 200 1 W h1 h2 sm_l sm_e (by omega) (by rw [sm_rt]; simp)).mono ?_
    intro e w' h
    obtain ⟨A', c', rfl, -, -, -, hb⟩ := h.rd
    exact ⟨A', c', by rw [show (sReach [smA, smM] [smE]).length = 2 from sm_all], hb⟩
  have HR : Hid (∀ (A B : Option Addr) (c d : Nat) (W : World), KRd kBl W A 2 c [smA, smM] → KRd kEn W B 1 d [smE] → Calls Tryz.prog 70 #[.agg #[.slice A 2 c, .slice B 1 d, .int .i64 200, .int .i64 1]] W fun e w' => ∃ A' c', e = .returned (.slice A' 1 c') ∧ Below W.heap.size W w') := fun A B c d W h1 h2 => by
    refine (rroots_any A B 2 c 1 d _ _ 200 1 W h1 h2 sm_l sm_e (by rw [sm_rt]; omega)).mono ?_
    intro e w' h
    obtain ⟨A', c', rfl, -, -, -, hb⟩ := h.rd
    exact ⟨A', c', by rw [sm_roots], hb⟩
  have HS : Hid (∀ W : World, Calls Tryz.prog 72 #[] W (GivesSm W)) := fun W => small_any W
  go_enter Tryz.func25, Tryz.ntmps25
  go_wp2_with fail
  with_reducible refine (HS.out _).mono ?_
  rintro e w1 ⟨A, c, B, d, rfl, hA, hB, hb1⟩
  go_wp2_with fail
  with_reducible refine (HA.out _ _ _ _ _ hA.rd hB.rd).mono ?_
  rintro e w2 ⟨A', c', rfl, hb2⟩
  have hbA := below_step hb1 hb2
  clear hA hB hb1 hb2
  go_wp2_with fail
  with_reducible refine (HS.out _).mono ?_
  rintro e w3 ⟨A, c, B, d, rfl, hA, hB, hb3⟩
  have hbB := below_step hbA hb3
  go_wp2_with fail
  with_reducible refine (HR.out _ _ _ _ _ hA.rd hB.rd).mono ?_
  rintro e w4 ⟨A'', c'', rfl, hb4⟩
  go_wp2
  go_ret
  exact ⟨by simp, below_step hbB hb4⟩
end Go.Proofs.YtekbgopdeancpaaGreatDoor

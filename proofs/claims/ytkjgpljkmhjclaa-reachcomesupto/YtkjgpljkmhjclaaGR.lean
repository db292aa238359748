/- The reference's BlobAt. -/
import Derived.Test.YtkjgpljkmhjclaaRows
import Derived.Test.YtkjgpljkmhjclaaGO
import Derived.Test.YtkjgpljkmhjclaaGQ
import Derived.Lib.Hide
import Derived.IntWalk
namespace Go.Proofs.Ytkjgpljkmhjclaa
open Go.RowKit
set_option maxRecDepth 100000 in
set_option maxHeartbeats 1000000 in
theorem blobAt_any (A : Option Addr) (n c : Nat) (l : List Bl) (d : List UInt8) (w : World) (hr : KRd kBl w A n c l) :
    Calls Try.prog 25 #[.slice A n c, .string (str d)] w fun e w' => e = .returned (.int .i64 (bAt l d : Int)) ∧ w = w' := by
  obtain rfl := hr.len
  have hc := hr.cap
  unfold maxLen at hc
  obtain ⟨K, hK⟩ : ∃ K, bAt l d = K := ⟨_, rfl⟩
  have HK := Lib.hid hK
  rw [hK]
  clear hK
  go_enter Try.func25, Try.ntmps25
  go_wp2
  go_loop [5] (fun i => ∃ k : Nat, k ≤ l.length ∧ i = .int .i64 k ∧ Hid (∀ j (h : j < l.length), j < k → l[j].dg ≠ d)) (fun i => l.length - (intOf i).toNat)
  case atStart => exact ⟨0, Nat.zero_le _, rfl, fun j _ h => absurd h (by omega)⟩
  case round =>
    obtain ⟨k, hk, rfl, HA⟩ := hrel
    by_cases hlt : k < l.length
    · obtain ⟨b, off, D, dn, dc, rfl, hc0, -, -, -, -, -⟩ := hr.blob hlt
      have hki : (k : Int) < (l.length : Int) := by omega
      have d1 : decide ((k : Int) < (l.length : Int)) = true := by simpa using hki
      by_cases he : l[k].dg = d
      · have q1 : (l[k].dg == d) = true := by rw [beq_iff_eq]; exact he
        have HF : Hid (K = k) := by show _ = _; rw [← HK.out]; exact bAt_eq hk HA.out (fun _ => he)
        clear he
        generalize l[k].dg = x at *
        go_wp2
        go_ret
        exact ⟨ret_int (by rw [HF.out]), rfl⟩
      · have q1 : (l[k].dg == d) = false := by rw [beq_eq_false_iff_ne]; exact he
        have HN : Hid (∀ j (h : j < l.length), j < k + 1 → l[j].dg ≠ d) := fun j h hj => by
          rcases Nat.lt_or_eq_of_le (Nat.le_of_lt_succ hj) with q | q
          · exact HA.out j h q
          · subst q; exact he
        clear he
        generalize l[k].dg = x at *
        go_wp2
        go_round
        case rel => exact ⟨k + 1, by omega, by go_num, HN.out⟩
        case measure => simp [intOf] <;> omega
    · have d1 : decide ((k : Int) < (l.length : Int)) = false := by simp; omega
      have HF : Hid (K = k) := by show _ = _; rw [← HK.out]; exact bAt_eq hk HA.out (fun h => absurd h hlt)
      go_wp2
      go_ret
      exact ⟨ret_int (by rw [HF.out]), rfl⟩
end Go.Proofs.Ytkjgpljkmhjclaa

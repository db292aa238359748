/- slices.Contains and slices.Equal over texts. -/
import Derived.Test.YtdbdigcpibmgjaaGreatDoorGRB
import Derived.Test.YtdbdigcpibmgjaaGreatDoorGA
namespace Go.Proofs.YtdbdigcpibmgjaaGreatDoor
open Go.RowKit
set_option maxRecDepth 100000 in
set_option maxHeartbeats 1000000 in
theorem indexT_any (A : Option Addr) (n c : Nat) (l : List (List UInt8)) (s : List UInt8) (w : World) (hr : Rd w 1 A n c (l.map sv)) :
    Calls Tryz.prog 57 #[.slice A n c, .string (str s)] w fun e w' => (∃ i : Int, e = .returned (.int .i64 i) ∧ Hid (0 ≤ i ↔ s ∈ l)) ∧ w = w' := by
  obtain rfl := hr.tlen
  have hcm := hr.2.1
  have hcx := hr.2.2.1
  unfold maxLen at hcx
  go_enter Tryz.func57, Tryz.ntmps57
  go_wp2
  go_loop [5, 8] (fun _ i => ∃ k : Nat, k ≤ l.length ∧ i = .int .i64 k ∧ Hid (∀ j (h : j < l.length), j < k → l[j] ≠ s)) (fun _ i => l.length - (intOf i).toNat)
  case atStart => exact ⟨0, Nat.zero_le _, rfl, fun j _ h => absurd h (by omega)⟩
  case round =>
    obtain ⟨k, hk, rfl, HA⟩ := hrel
    by_cases hlt : k < l.length
    · obtain ⟨b, off, rfl, hc0⟩ := hr.text hlt
      have hki : (k : Int) < (l.length : Int) := by omega
      by_cases hq : s = l[k]
      · have d1 : (s == l[k]) = true := by rw [beq_iff_eq]; exact hq
        have HF : Hid (0 ≤ (k : Int) ↔ s ∈ l) := by
          show _ ↔ _
          exact ⟨fun _ => by rw [hq]; exact List.getElem_mem hlt, fun _ => by omega⟩
        clear hq
        generalize l[k] = x at *
        go_wp2
        go_ret
        exact ⟨⟨_, rfl, HF⟩, rfl⟩
      · have d1 : (s == l[k]) = false := by rw [beq_eq_false_iff_ne]; exact hq
        have HN : Hid (∀ j (h : j < l.length), j < k + 1 → l[j] ≠ s) := fun j h hj => by
          rcases Nat.lt_or_eq_of_le (Nat.le_of_lt_succ hj) with q | q
          · exact HA.out j h q
          · subst q; exact fun e => hq e.symm
        clear hq
        generalize l[k] = x at *
        go_wp2
        go_round
        case rel => exact ⟨k + 1, by omega, by go_num, HN.out⟩
        case measure => simp [intOf] <;> omega
    · have hd2 : decide ((k : Int) < (l.length : Int)) = false := by rw [decide_eq_false_iff_not]; omega
      have HF : Hid (0 ≤ (-1 : Int) ↔ s ∈ l) := by
        show _ ↔ _
        refine ⟨fun h => by omega, fun h => ?_⟩
        obtain ⟨j, hj, e⟩ := List.mem_iff_getElem.1 h
        exact absurd e (HA.out j hj (by omega))
      go_wp2
      go_ret
      exact ⟨⟨_, rfl, HF⟩, rfl⟩
set_option maxRecDepth 100000 in
set_option maxHeartbeats 400000 in
theorem containsT_any (A : Option Addr) (n c : Nat) (l : List (List UInt8)) (s : List UInt8) (w : World) (hr : Rd w 1 A n c (l.map sv)) (b : Bool) (hb : b = true ↔ s ∈ l) :
    Calls Tryz.prog 19 #[.slice A n c, .string (str s)] w fun e w' => e = .returned (.bool b) ∧ w = w' := by
  have H := Lib.hid (indexT_any A n c l s w hr)
  have HB := Lib.hid hb
  clear hb hr
  go_enter Tryz.func19, Tryz.ntmps19
  go_wp2_with fail
  with_reducible refine H.out.mono ?_
  rintro e w' ⟨⟨i, rfl, hi⟩, rfl⟩
  have HF : Hid (decide (0 ≤ i) = b) := by
    show _ = _
    cases b with
    | true => rw [decide_eq_true_iff]; exact hi.out.2 (HB.out.1 rfl)
    | false => rw [decide_eq_false_iff_not]; exact fun q => by have := HB.out.2 (hi.out.1 q); cases this
  go_wp2
  go_ret
  exact ⟨ret_bool HF.out, rfl⟩
end Go.Proofs.YtdbdigcpibmgjaaGreatDoor

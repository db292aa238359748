/- Slices of words and of bytes compared. -/
import Derived.Test.YtbadpiennobdmaaDoorRows
import Derived.Test.YtbadpiennobdmaaDoorMem
import Derived.Lib.Hide
import Derived.IntWalk
import Derived.Deep.QuietTactic
import Derived.BigQuiet
namespace Go.Proofs.YtbadpiennobdmaaDoor
open Go.RowKit
theorem take_eq_succ {α : Type} {l m : List α} {k : Nat} (h : l.take k = m.take k) (hl : k < l.length) (hm : k < m.length) (e : l[k] = m[k]) : l.take (k + 1) = m.take (k + 1) := by
  rw [List.take_succ_eq_append_getElem hl, List.take_succ_eq_append_getElem hm, h, e]
set_option maxHeartbeats 1000000 in
theorem equalWords_any (A B : Option Addr) (n0 m0 c d : Nat) (l m : List (BitVec 32)) (w : World) (hr : Rd w 1 A n0 c (l.map wv)) (hs : Rd w 1 B m0 d (m.map wv)) :
    Calls Tryd.prog 28 #[.slice A n0 c, .slice B m0 d] w fun e w' => e = .returned (.bool (l == m)) ∧ ∃ n, w' = w.drewN n := by
  obtain rfl := hr.len
  obtain rfl := hs.len
  have hlm := hr.2.2.1
  have hlc := hr.2.1
  unfold maxLen at hlm
  by_cases hlen : l.length = m.length
  · have hne : ((l.length : Int) != (m.length : Int)) = false := by rw [bne_eq_false_iff_eq]; omega
    have Hlen := Lib.hid hlen
    have hle : m.length ≤ l.length := by omega
    have hge : l.length ≤ m.length := by omega
    clear hlen
    go_enter Tryd.func28, Tryd.ntmps28
    go_wp2
    go_loopw [5, 13] (fun _ i wr => ∃ k nd : Nat, k ≤ l.length ∧ i = .int .i64 k ∧ Hid (l.take k = m.take k) ∧ wr = w.drewN nd) (fun _ i _ => l.length - (intOf i).toNat)
    case atStart => exact ⟨0, 0, by omega, rfl, rfl, rfl⟩
    case round =>
      obtain ⟨k, nd, hk, rfl, HE, rfl⟩ := hrel
      by_cases hlt : k < l.length
      · obtain ⟨b, off, rfl, hbl, hcell⟩ := hr.addr (by simp; omega)
        obtain ⟨b2, off2, rfl, hbl2, hcell2⟩ := hs.addr (by simp; omega)
        have h0 : w.cell? ⟨b, off + k, none⟩ = some (.int .u32 (u (l[k]'(by omega)))) := hcell k _ (by rw [List.getElem?_map, List.getElem?_eq_getElem (by omega)]; rfl)
        have h1 : w.cell? ⟨b2, off2 + k, none⟩ = some (.int .u32 (u (m[k]'(by omega)))) := hcell2 k _ (by rw [List.getElem?_map, List.getElem?_eq_getElem (by omega)]; rfl)
        clear hcell hcell2
        have i0 : (k : Int) < l.length := by omega
        have i1 : (k : Int) < m.length := by omega
        by_cases he : l[k] = m[k]
        · have hb : (u (l[k]'(by omega)) != u (m[k]'(by omega))) = false := by rw [bne_eq_false_iff_eq, he]
          have He := Lib.hid he
          clear he
          go_wp2
          go_quiet (fail)
          go_wp2
          go_roundw
          case rel => exact ⟨k + 1, _, by omega, by go_num, take_eq_succ HE.out (by omega) (by omega) He.out, rfl⟩
          case measure => simp [intOf]; omega
        · have hb : (u (l[k]'(by omega)) != u (m[k]'(by omega))) = true := by rw [bne_iff_ne]; exact fun e => he (u_inj.1 e)
          have hf : Hid ((l == m) = false) := by
            show _ = _
            rw [beq_eq_false_iff_ne]; rintro rfl; exact he rfl
          clear he
          go_wp2
          go_quiet (fail)
          go_wp2
          go_ret
          exact ⟨ret_bool hf.out.symm, _, World.drewN_drewN ..⟩
      · have hf : Hid ((l == m) = true) := by
          show _ = _
          rw [beq_iff_eq]
          have e := HE.out
          rwa [List.take_of_length_le (by omega), List.take_of_length_le (by omega)] at e
        obtain rfl : k = l.length := by omega
        go_wp2
        go_ret
        exact ⟨ret_bool hf.out.symm, _, rfl⟩
  · have hne : ((l.length : Int) != (m.length : Int)) = true := by rw [bne_iff_ne]; omega
    have hf : Hid ((l == m) = false) := by
      show _ = _
      rw [beq_eq_false_iff_ne]; rintro rfl; exact hlen rfl
    clear hlen
    go_enter Tryd.func28, Tryd.ntmps28
    go_wp2
    go_ret
    exact ⟨ret_bool hf.out.symm, 0, rfl⟩
set_option maxHeartbeats 400000 in
theorem sameWords_any (A B : Option Addr) (n0 m0 c d : Nat) (l m : List (BitVec 32)) (w : World) (hr : Rd w 1 A n0 c (l.map wv)) (hs : Rd w 1 B m0 d (m.map wv)) :
    Calls Tryd.prog 11 #[.slice A n0 c, .slice B m0 d] w fun e w' => e = .returned (.bool (l == m)) ∧ ∃ n, w' = w.drewN n := by
  go_enter Tryd.func11, Tryd.ntmps11
  go_wp2_with fail
  with_reducible refine (equalWords_any _ _ _ _ _ _ _ _ _ hr hs).mono ?_
  rintro e w' ⟨rfl, n, rfl⟩
  go_wp2
  go_ret
  exact ⟨rfl, _, rfl⟩
end Go.Proofs.YtbadpiennobdmaaDoor

/- The reference's HexText. -/
import Derived.Test.YtaaeihkbnfcolaaH2t
namespace Go.Proofs.Ytaaeihkbnfcolaa
open Go.RowKit
theorem dg_small {n : UInt8} (h : y8 n ≤ 9) : 48 + y8 n = y8 (dg n) := by
  have : ∀ n : Fin 256, n.val ≤ 9 → 48 + (n.val : Int) = ((dg (UInt8.ofNat n.val)).toNat : Int) := by decide +kernel
  have h := this ⟨n.toNat, n.toNat_lt⟩ (by unfold y8 at h; simp; omega)
  simp only [UInt8.ofNat_toNat] at h
  exact h
theorem dg_great {n : UInt8} (h : 9 < y8 n) (h2 : n.toNat < 16) : 97 + y8 n - 10 = y8 (dg n) := by
  have : ∀ n : Fin 256, 9 < n.val → n.val < 16 → 97 + (n.val : Int) - 10 = ((dg (UInt8.ofNat n.val)).toNat : Int) := by decide +kernel
  have h := this ⟨n.toNat, n.toNat_lt⟩ (by unfold y8 at h; simp; omega) h2
  simp only [UInt8.ofNat_toNat] at h
  exact h
theorem hexT_even (l : List UInt8) (k : Nat) (h : k < 2 * l.length) (hm : k % 2 = 0) : (hexT l)[k]? = some (dg (l[k / 2]'(by omega) >>> 4)) := by
  have := (hexT_at l (k / 2) (by omega)).1
  rwa [show 2 * (k / 2) = k from by omega] at this
theorem hexT_odd (l : List UInt8) (k : Nat) (h : k < 2 * l.length) (hm : k % 2 ≠ 0) : (hexT l)[k]? = some (dg (l[k / 2]'(by omega) &&& 15)) := by
  have := (hexT_at l (k / 2) (by omega)).2
  rwa [show 2 * (k / 2) + 1 = k from by omega] at this
set_option maxHeartbeats 1000000 in
theorem hexText_any (A : Option Addr) (n c : Nat) (l : List UInt8) (w : World) (hr : Rd w 1 A n c (l.map bv8)) (hz : n ≤ 140737488351232) :
    Calls Try.prog 39 #[.slice A n c] w fun e w' => e = .returned (.string (str (hexT l))) ∧ Below w.heap.size w w' := by
  obtain rfl := hr.len
  obtain ⟨i0, hi0, hz0, hz1, hz2⟩ := info_parts u8_info
  have hmk := run_make1 (P := Try.prog) Try.underlying27 hi0 hz0 hz1 rfl hz2 (2 * (l.length : Int)) (2 * l.length) (by omega) (by omega) (by omega)
  have e2 : ((2 * l.length : Nat) : Int) = 2 * (l.length : Int) := by omega
  go_enter Try.func39, Try.ntmps39
  go_wp2
  go_loopw [4, 5, 12] (fun _ _ i wr => ∃ k : Nat, k ≤ 2 * l.length ∧ i = .int .i64 k ∧ Blk wr w.heap.size 5 (((hexT l).map bv8).take k ++ reps (2 * l.length - k) (.int .u8 0)) ∧ Below w.heap.size w wr) (fun _ _ i _ => 2 * l.length - (intOf i).toNat)
  case atStart => exact ⟨0, by omega, rfl, by simpa using Blk.new w _ _, (Below.refl _ _).alloc (Nat.le_refl _) _⟩
  case round =>
    obtain ⟨k, hk, rfl, hblk, hbel⟩ := hrel
    by_cases hlt : k < 2 * l.length
    · obtain ⟨b, off, rfl, hbl, hcell⟩ := hr.addr (by simp; omega)
      have h0 : wr.cell? ⟨b, off + k / 2, none⟩ = some (.int .u8 (y8 (l[k / 2]'(by omega)))) := (hbel.cell (p := ⟨b, off + k / 2, none⟩) hbl).trans (hcell (k / 2) _ (by rw [List.getElem?_map, List.getElem?_eq_getElem (by omega)]; rfl))
      have hL : ((hexT l).map bv8).length = 2 * l.length := by rw [List.length_map, hexT_length]
      have hq : ((k : Int) / 2).toNat = k / 2 := by omega
      have hq0 : 0 ≤ (k : Int) / 2 := by omega
      have hq1 : (k : Int) / 2 < l.length := by omega
      have hlt' : (k : Int) < 2 * (l.length : Int) := by omega
      have ha := and1 k (by omega)
      have c0 := (hblk.cell k).trans (fill_at hlt (by omega))
      have f0 := hblk.frozen k
      clear hcell
      by_cases hm : k % 2 = 0
      · have hp : (((k % 2 : Nat) : Int) == 1) = false := by rw [beq_eq_false_iff_ne]; omega
        by_cases hs : y8 (l[k / 2] >>> 4) ≤ 9
        · skip
          have at0 : ((hexT l).map bv8)[k]? = some (.int .u8 (y8 (dg (l[k / 2] >>> 4)))) := by rw [List.getElem?_map, hexT_even l k hlt hm]; rfl
          have hdg := dg_small hs
          have s0 := hblk.put k (.int .u8 (y8 (dg (l[k / 2] >>> 4))))
          rw [fill_step hlt at0] at s0
          have H1 := Lib.hid s0
          clear s0 at0 hL hblk hm
          go_wp2
          go_roundw
          case rel => exact ⟨k + 1, by omega, by go_num, H1.out, hbel.setCell (p := ⟨w.heap.size, k, none⟩) (Nat.le_refl _) _⟩
          case measure => simp [intOf]; omega
        · skip
          have at0 : ((hexT l).map bv8)[k]? = some (.int .u8 (y8 (dg (l[k / 2] >>> 4)))) := by rw [List.getElem?_map, hexT_even l k hlt hm]; rfl
          have hdg := dg_great (by omega) (hi_lt l[k / 2])
          have gl := hi_lt l[k / 2]
          have gm : y8 (l[k / 2] >>> 4) < 16 := by unfold y8; omega
          have hs' : 9 < y8 (l[k / 2] >>> 4) := by omega
          have s0 := hblk.put k (.int .u8 (48 + y8 (l[k / 2] >>> 4)))
          have s1 := s0.put k (.int .u8 (y8 (dg (l[k / 2] >>> 4))))
          have c1 := s0.cell k
          rw [List.getElem?_set_self (by rw [List.length_append, List.length_take, reps_length]; omega)] at c1
          have f1 := s0.frozen k
          rw [List.set_set, fill_step hlt at0] at s1
          have H1 := Lib.hid s1
          clear s0 s1 at0 hL hblk hm gl hs
          go_wp2
          go_roundw
          case rel => exact ⟨k + 1, by omega, by go_num, H1.out, (hbel.setCell (p := ⟨w.heap.size, k, none⟩) (Nat.le_refl _) _).setCell (p := ⟨w.heap.size, k, none⟩) (Nat.le_refl _) _⟩
          case measure => simp [intOf]; omega
      · have hp : (((k % 2 : Nat) : Int) == 1) = true := by rw [beq_iff_eq]; omega
        by_cases hs : y8 (l[k / 2] &&& 15) ≤ 9
        · skip
          have at0 : ((hexT l).map bv8)[k]? = some (.int .u8 (y8 (dg (l[k / 2] &&& 15)))) := by rw [List.getElem?_map, hexT_odd l k hlt hm]; rfl
          have hdg := dg_small hs
          have s0 := hblk.put k (.int .u8 (y8 (dg (l[k / 2] &&& 15))))
          rw [fill_step hlt at0] at s0
          have H1 := Lib.hid s0
          clear s0 at0 hL hblk hm
          go_wp2
          go_roundw
          case rel => exact ⟨k + 1, by omega, by go_num, H1.out, hbel.setCell (p := ⟨w.heap.size, k, none⟩) (Nat.le_refl _) _⟩
          case measure => simp [intOf]; omega
        · skip
          have at0 : ((hexT l).map bv8)[k]? = some (.int .u8 (y8 (dg (l[k / 2] &&& 15)))) := by rw [List.getElem?_map, hexT_odd l k hlt hm]; rfl
          have hdg := dg_great (by omega) (lo_lt l[k / 2])
          have gl := lo_lt l[k / 2]
          have gm : y8 (l[k / 2] &&& 15) < 16 := by unfold y8; omega
          have hs' : 9 < y8 (l[k / 2] &&& 15) := by omega
          have s0 := hblk.put k (.int .u8 (48 + y8 (l[k / 2] &&& 15)))
          have s1 := s0.put k (.int .u8 (y8 (dg (l[k / 2] &&& 15))))
          have c1 := s0.cell k
          rw [List.getElem?_set_self (by rw [List.length_append, List.length_take, reps_length]; omega)] at c1
          have f1 := s0.frozen k
          rw [List.set_set, fill_step hlt at0] at s1
          have H1 := Lib.hid s1
          clear s0 s1 at0 hL hblk hm gl hs
          go_wp2
          go_roundw
          case rel => exact ⟨k + 1, by omega, by go_num, H1.out, (hbel.setCell (p := ⟨w.heap.size, k, none⟩) (Nat.le_refl _) _).setCell (p := ⟨w.heap.size, k, none⟩) (Nat.le_refl _) _⟩
          case measure => simp [intOf]; omega
    · obtain rfl : k = 2 * l.length := by omega
      have hb2 := hblk
      rw [fill_end (by rw [List.length_map, hexT_length])] at hb2
      have hrd := blk_rd hb2 (n := (hexT l).length) (by rw [List.length_map]) (by rw [hexT_length]; omega)
      have k1 := run_bytes_str (P := Try.prog) Try.underlying27 Try.underlying5 Try.underlying9 hrd
      rw [hexT_length] at k1
      clear hblk hb2 hrd
      go_wp2
      go_ret
      exact ⟨rfl, hbel⟩
end Go.Proofs.Ytaaeihkbnfcolaa

/- The statements' own spoiling of a store: what it may write, and nothing else. -/
import Derived.Test.YtdohiioiollfhaaGreatDoorQWs
import Derived.Test.YtdohiioiollfhaaGreatDoorGB
import Derived.Test.YtdohiioiollfhaaGreatDoorRows
import Derived.IntWalk
import Derived.Deep.RegionHeldLaw
import Derived.Deep.CutBlock
import Derived.Deep.CutRange
namespace Go.Proofs.YtdohiioiollfhaaGreatDoor
open Go.RowKit
@[go_sem] theorem y8_xor255 (x : UInt8) : bits .xor .u8 (y8 x) 255 = y8 (x ^^^ 255) := by
  show IntKind.u8.wrap ((BitVec.ofInt 8 (y8 x) ^^^ BitVec.ofInt 8 (y8 255)).toNat : Int) = _
  rw [ofInt_y8, ofInt_y8]
  exact wrap8_y8 (x ^^^ 255)
set_option maxRecDepth 100000 in
set_option maxHeartbeats 4000000 in
theorem spoil_any (A B : Option Addr) (n c m d lo hi : Nat) (r t : Int) (w : World) (hb : Spr SpD w lo hi A n) (he : Spr SpP w lo hi B m) (hlo : lo ≤ w.heap.size) (hhi : hi ≤ w.heap.size) (hn : n ≤ 100) (hm : m ≤ 100) :
    Calls Tryz.prog 5 #[.agg #[.slice A n c, .slice B m d, .int .i64 r, .int .i64 t]] w fun e w' => e = .returned (.tuple #[]) ∧ Alk lo hi w w' := by
  have hal := (Below.refl w.heap.size w).alloc (Nat.le_refl _) (.cells #[.slice A n c, .slice B m d, .int .i64 r, .int .i64 t] 28)
  have hbk := Blk.new w 28 [.slice A n c, .slice B m d, .int .i64 r, .int .i64 t]
  have hbu := Spr.keep (F := SpD) (fun h k => SpD.keep h k) hb (w' := w.alloc (.cells #[.slice A n c, .slice B m d, .int .i64 r, .int .i64 t] 28)) fun k _ hk => hal.block k (by omega)
  have heu := Spr.keep (F := SpP) (fun h k => SpP.keep h k) he (w' := w.alloc (.cells #[.slice A n c, .slice B m d, .int .i64 r, .int .i64 t] 28)) fun k _ hk => hal.block k (by omega)
  have hA0 : Alk lo hi w (w.alloc (.cells #[.slice A n c, .slice B m d, .int .i64 r, .int .i64 t] 28)) := Alk.of_below hal hlo
  have HBU := Lib.hid hbu
  have HEU := Lib.hid heu
  clear hb he hbu heu hal hlo
  go_enter Tryz.func5, Tryz.ntmps5
  go_upto_region 1 with fail
  generalize hu : w.alloc (.cells [Value.slice A n c, Value.slice B m d, Value.int .i64 r, Value.int .i64 t].toArray 28) = u at *
  clear hu
  have x0 := hbk.cell 0
  simp only [List.getElem?_cons_zero] at x0
  go_wp2
  clear x0
  go_loopw [9] (fun s wr => ∃ i : Nat, i ≤ n ∧ s = .int .i64 i ∧ Alk lo hi u wr) (fun s _ => n - (intOf s).toNat)
  case atStart => exact ⟨0, Nat.zero_le _, rfl, Alk.refl _ _ _⟩
  case round =>
    obtain ⟨i, hi', rfl, hA⟩ := hrel
    by_cases hlt : i < n
    · obtain ⟨b, off, s, D, dn, dc, rfl, h1, h2, c0, f0, c1, hdn, hD⟩ := HBU.out i hlt
      have hii : (i : Int) < (n : Int) := by omega
      have HD := Lib.hid hD
      have c1' := hA.slice c1
      have kx := hA.blk hbk hhi
      have x0 := kx.cell 0
      simp only [List.getElem?_cons_zero] at x0
      unfold maxLen at hdn
      clear hD
      go_wp2
      clear x0 kx c1'
      rename World => wo
      go_loopw [19] (fun s wr => ∃ k : Nat, k ≤ dn ∧ s = .int .i64 k ∧ Alk lo hi u wr) (fun s _ => dn - (intOf s).toNat)
      case atStart => exact ⟨0, Nat.zero_le _, rfl, hA⟩
      case round =>
        clear hA
        obtain ⟨k, hk, rfl, hA⟩ := hrel
        have kx := hA.blk hbk hhi
        have x0 := kx.cell 0
        simp only [List.getElem?_cons_zero] at x0
        by_cases hlt2 : k < dn
        · obtain ⟨db, doff, y, rfl, g1, g2, d0, g0⟩ := HD.out k hlt2
          obtain ⟨y', d0'⟩ := hA.byte d0
          have fr := (hA.froz _ (cell_lt d0)).trans g0
          have c1' := hA.slice c1
          have hki : (k : Int) < (dn : Int) := by omega
          have HST := Lib.hid (fun v : UInt8 => hA.trans (Alk.set d0' (.inr (.inl ⟨y', v, rfl, rfl⟩)) g1 g2))
          clear d0 g0 kx
          unfold bv8 at d0'
          go_wp2
          go_roundw
          case rel => exact ⟨k + 1, by omega, by go_num, HST.out _⟩
          case measure => simp [intOf] <;> omega
        · have hki : decide ((k : Int) < (dn : Int)) = false := by rw [decide_eq_false_iff_not]; omega
          obtain ⟨s', c0'⟩ := hA.text c0
          have fr := (hA.froz _ (cell_lt c0)).trans f0
          have HST := Lib.hid (fun v : ByteArray => hA.trans (Alk.set c0' (.inr (.inr ⟨s', v, rfl, rfl⟩)) h1 h2))
          clear c0 f0 kx
          go_wp2
          go_roundw
          case rel => exact ⟨i + 1, by omega, by go_num, HST.out _⟩
          case measure => simp [intOf] <;> omega
    · have hii : decide ((i : Int) < (n : Int)) = false := by rw [decide_eq_false_iff_not]; omega
      have kx := hA.blk hbk hhi
      have x1 := kx.cell 1
      simp only [List.getElem?_cons_succ, List.getElem?_cons_zero] at x1
      go_wp2
      clear x1 kx
      rename World => wp
      go_loopw [43] (fun s wr => ∃ i : Nat, i ≤ m ∧ s = .int .i64 i ∧ Alk lo hi u wr) (fun s _ => m - (intOf s).toNat)
      case atStart => exact ⟨0, Nat.zero_le _, rfl, hA⟩
      case round =>
        clear hA
        obtain ⟨j, hj', rfl, hA⟩ := hrel
        by_cases hlt2 : j < m
        · obtain ⟨b, off, s, D, dn, dc, rfl, h1, h2, c0, f0, c1, hdn, hD⟩ := HEU.out j hlt2
          have hjj : (j : Int) < (m : Int) := by omega
          have HD := Lib.hid hD
          have c1' := hA.slice c1
          have kx := hA.blk hbk hhi
          have x1 := kx.cell 1
          simp only [List.getElem?_cons_succ, List.getElem?_cons_zero] at x1
          unfold maxLen at hdn
          clear hD
          go_wp2
          clear x1 kx c1'
          rename World => wq
          go_loopw [53] (fun s wr => ∃ k : Nat, k ≤ dn ∧ s = .int .i64 k ∧ Alk lo hi u wr) (fun s _ => dn - (intOf s).toNat)
          case atStart => exact ⟨0, Nat.zero_le _, rfl, hA⟩
          case round =>
            clear hA
            obtain ⟨k, hk, rfl, hA⟩ := hrel
            have kx := hA.blk hbk hhi
            have x1 := kx.cell 1
            simp only [List.getElem?_cons_succ, List.getElem?_cons_zero] at x1
            by_cases hlt3 : k < dn
            · obtain ⟨db, doff, y, rfl, g1, g2, d0, g0⟩ := HD.out k hlt3
              obtain ⟨y', d0'⟩ := hA.text d0
              have fr := (hA.froz _ (cell_lt d0)).trans g0
              have c1' := hA.slice c1
              have hki : (k : Int) < (dn : Int) := by omega
              have HST := Lib.hid (fun v : ByteArray => hA.trans (Alk.set d0' (.inr (.inr ⟨y', v, rfl, rfl⟩)) g1 g2))
              clear d0 g0 kx
              go_wp2
              go_roundw
              case rel => exact ⟨k + 1, by omega, by go_num, HST.out _⟩
              case measure => simp [intOf] <;> omega
            · have hki : decide ((k : Int) < (dn : Int)) = false := by rw [decide_eq_false_iff_not]; omega
              obtain ⟨s', c0'⟩ := hA.text c0
              have fr := (hA.froz _ (cell_lt c0)).trans f0
              have HST := Lib.hid (fun v : ByteArray => hA.trans (Alk.set c0' (.inr (.inr ⟨s', v, rfl, rfl⟩)) h1 h2))
              clear c0 f0 kx
              go_wp2
              go_roundw
              case rel => exact ⟨j + 1, by omega, by go_num, HST.out _⟩
              case measure => simp [intOf] <;> omega
        · have hjj : decide ((j : Int) < (m : Int)) = false := by rw [decide_eq_false_iff_not]; omega
          go_wp2
          go_end0
          exact ⟨rfl, hA0.trans hA⟩
end Go.Proofs.YtdohiioiollfhaaGreatDoor

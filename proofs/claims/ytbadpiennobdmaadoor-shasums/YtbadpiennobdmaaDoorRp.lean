/- The reference's ShaPad. -/
import Derived.Test.YtbadpiennobdmaaDoorApp
import Derived.Test.YtbadpiennobdmaaDoorI8
import Derived.Test.YtbadpiennobdmaaDoorShx
import Derived.RegionTactic
namespace Go.Proofs.YtbadpiennobdmaaDoor
open Go.RowKit
theorem bytes_one (l : List UInt8) : ∀ y ∈ l.map bv8, y.oneCell' = true := by
  intro y hy
  obtain ⟨x, _, rfl⟩ := List.mem_map.1 hy
  rfl
/-- the padded bytes with j zeros, the length left out -/
def padZ (l : List UInt8) (j : Nat) : List UInt8 := l ++ [128] ++ List.replicate j 0
theorem padZ_succ (l : List UInt8) (j : Nat) : padZ l j ++ [0] = padZ l (j + 1) := by
  unfold padZ; rw [List.append_assoc, ← List.replicate_succ']
theorem len8_small (n : Nat) (h : n ≤ 2000) : len8 n = [0, 0, 0, 0, UInt8.ofNat ((n * 8) >>> 24), UInt8.ofNat ((n * 8) >>> 16), UInt8.ofNat ((n * 8) >>> 8), UInt8.ofNat (n * 8)] := by
  have hz : ∀ k, 32 ≤ k → UInt8.ofNat ((n * 8) >>> k) = 0 := fun k hk => by
    have h2 : 2 ^ 32 ≤ 2 ^ k := Nat.pow_le_pow_right (by omega) hk
    rw [Nat.shiftRight_eq_div_pow, Nat.div_eq_of_lt (by omega)]; rfl
  show [UInt8.ofNat ((n * 8) >>> 56), UInt8.ofNat ((n * 8) >>> 48), UInt8.ofNat ((n * 8) >>> 40), UInt8.ofNat ((n * 8) >>> 32), UInt8.ofNat ((n * 8) >>> 24), UInt8.ofNat ((n * 8) >>> 16), UInt8.ofNat ((n * 8) >>> 8), UInt8.ofNat ((n * 8) >>> 0)] = _
  rw [hz 56 (by omega), hz 48 (by omega), hz 40 (by omega), hz 32 (by omega), Nat.shiftRight_zero]
theorem len_b (n k : Nat) (q : Int) (hq : q = ((2 ^ k : Nat) : Int)) (h : (n : Int) * 8 / q < 256) : (n : Int) * 8 / q = y8 (UInt8.ofNat ((n * 8) >>> k)) := by
  subst hq
  have e : (n : Int) * 8 / ((2 ^ k : Nat) : Int) = (((n * 8) / 2 ^ k : Nat) : Int) := by simp
  rw [e] at h ⊢
  unfold y8
  rw [Nat.shiftRight_eq_div_pow, UInt8.toNat_ofNat', Nat.mod_eq_of_lt (by omega)]
theorem len_b0 (n : Nat) : (n : Int) * 8 % 256 = y8 (UInt8.ofNat (n * 8)) := by
  unfold y8; rw [UInt8.toNat_ofNat']; simp
set_option maxHeartbeats 400000 in
theorem shaPad_big (A : Option Addr) (n c : Nat) (w : World) (h : 2000 < n) (hn : n ≤ 9223372036854775807) :
    Calls Tryd.prog 29 #[.slice A n c] w fun e w' => e = .returned (.tuple #[.slice none 0 0, .int .i64 1]) ∧ w = w' := by
  go_enter Tryd.func29, Tryd.ntmps29
  go_wp2
  go_ret2
  exact ⟨rfl, rfl⟩
set_option maxHeartbeats 1000000 in
theorem shaPad_ok (A : Option Addr) (n c : Nat) (l : List UInt8) (w : World) (hr : Rd w 1 A n c (l.map bv8)) (hA : A = none → c = 0) (h : n ≤ 2000) :
    Calls Tryd.prog 29 #[.slice A n c] w fun e w' => ∃ v, e = .returned (.tuple #[v, .int .i64 0]) ∧ w'.ownsRow w.heap.size 5 1 v (pad l).length ((pad l).map bv8) ∧ Below w.heap.size w w' := by
  obtain rfl := hr.len
  obtain ⟨i0, hi0, hz0, hz1, hz2⟩ := info_parts u8_info
  have hd : decide (2000 < (l.length : Int)) = false := by simp; omega
  have hb0 := (Below.refl w.heap.size w).alloc (Nat.le_refl _) (.cells #[] 5)
  have hown0 : (w.alloc (.cells #[] 5)).ownsRow w.heap.size 5 1 (.slice (some ⟨w.heap.size, 0, none⟩) 0 0) 0 [] :=
    ⟨rfl, .inr ⟨w.heap.size, 0, #[], rfl, Nat.le_refl _, heap_alloc_new w _, Nat.le_refl _, by simp [maxLen], rfl, rfl⟩⟩
  have hr0 := hr.below hb0
  go_enter Tryd.func29, Tryd.ntmps29
  go_wp2_with (first | (at_builtin; refine wpList_appendR rfl (.tmp 9) (.tmp 10) _ rfl Tryd.underlying27 hi0 hz0 hz1 hz2 rfl (by omega) _ 0 [] rfl hown0 hr0 hA (bytes_one l) rfl (by omega) (by unfold maxLen; omega) hb0.size ?_; rintro v1 w1 ⟨hown1, hb1⟩; rw [Nat.zero_add, List.nil_append] at hown1) | (at_builtin; refine wpList_append1 rfl (.tmp 11) (.tmp 12) _ rfl Tryd.underlying27 hi0 hz0 hz1 hz2 rfl (by omega) _ _ _ rfl hown1 [.int .u8 128] rfl (by simp [Value.oneCell']) rfl (by omega) (by omega) (hb0.trans hb1).size ?_; rintro v2 w2 ⟨hown2, hb2, hsz2, hfar2⟩))
  have hp0 : (l.map bv8) ++ [.int .u8 128] = (padZ l 0).map bv8 := by simp [padZ]; rfl
  rw [hp0] at hown2
  have hbel := (hb0.trans hb1).trans hb2
  clear hp0 hb0 hb1 hb2 hsz2 hfar2 hown1 hown0 hr0
  go_loopw [4] (fun v wr => ∃ j : Nat, j ≤ zeros l.length ∧ wr.ownsRow w.heap.size 5 1 v (l.length + 1 + j) ((padZ l j).map bv8) ∧ Below w.heap.size w wr) (fun v _ => zeros l.length + l.length + 1 - (match v with | .slice _ n _ => n | _ => 0))
  case atStart => exact ⟨0, Nat.zero_le _, hown2, hbel⟩
  case round =>
    clear hown2 hbel
    obtain ⟨j, hj, hown, hbel⟩ := hrel
    have hzl := zeros_lt l.length
    obtain ⟨A2, c2, rfl, hrd⟩ := own_rd hown
    clear hrd
    by_cases hlt : j < zeros l.length
    · have hne : (((l.length : Int) + 1 + (j : Int) + 8) % 64 != 0) = true := by rw [bne_iff_ne]; unfold zeros at hlt; omega
      have hap : (padZ l j).map bv8 ++ [.int .u8 0] = (padZ l (j + 1)).map bv8 := by rw [← padZ_succ, List.map_append]; rfl
      have Ha := Lib.hid hap
      clear hap
      go_wp2_with (at_builtin; refine wpList_append1 rfl (.tmp 19) (.tmp 20) _ rfl Tryd.underlying27 hi0 hz0 hz1 hz2 rfl (by omega) _ _ _ rfl hown [.int .u8 0] rfl (by simp [Value.oneCell']) rfl (by omega) (by omega) hbel.size ?_; rintro v3 w3 ⟨hown3, hb3, hsz3, hfar3⟩)
      obtain ⟨A3, c3, rfl, hrd3⟩ := own_rd hown3
      rw [Ha.out] at hown3
      go_roundw
      case rel => exact ⟨j + 1, by omega, hown3, hbel.trans hb3⟩
      case measure => simp; omega
    · have hjz : j = zeros l.length := by omega
      have hne : (((l.length : Int) + 1 + (j : Int) + 8) % 64 != 0) = false := by
        rw [bne_eq_false_iff_eq, hjz]; unfold zeros; omega
      have hpl : (pad l).length = l.length + 1 + j + 8 := by rw [pad_length, ← hjz]; omega
      have hpe : pad l = padZ l j ++ len8 l.length := by rw [hjz]; rfl
      rw [len8_small _ h] at hpe
      have Hpl := Lib.hid hpl
      have Hpe := Lib.hid hpe
      clear hjz hpl hpe
      have e24 := len_b l.length 24 16777216 rfl (by omega)
      have e16 := len_b l.length 16 65536 rfl (by omega)
      have e8 := len_b l.length 8 256 rfl (by omega)
      have e0 := len_b0 l.length
      generalize UInt8.ofNat ((l.length * 8) >>> 24) = x24 at *
      generalize UInt8.ofNat ((l.length * 8) >>> 16) = x16 at *
      generalize UInt8.ofNat ((l.length * 8) >>> 8) = x8 at *
      generalize UInt8.ofNat (l.length * 8) = x0 at *
      go_wp2_with (at_builtin; refine wpList_append2 rfl (.tmp 25) (.tmp 37) _ rfl Tryd.underlying27 hi0 hz0 hz1 hz2 rfl (by omega) _ _ _ rfl (own_alloc hown (.cells (([0, 0, 0, 0, x24, x16, x8, x0] : List UInt8).map bv8).toArray 5)) ⟨wr.heap.size, 0, none⟩ 8 8 (([0, 0, 0, 0, x24, x16, x8, x0] : List UInt8).map bv8) rfl (cells_new _ _ _) (bytes_one _) rfl (by omega) (by unfold maxLen; omega) (by simp; have := hbel.size; omega) ?_; rintro v4 w4 ⟨hown4, hb4⟩)
      go_ret2
      refine ⟨_, rfl, ?_, (hbel.alloc hbel.size _).trans hb4⟩
      rw [Hpl.out, Hpe.out, List.map_append]
      exact hown4
end Go.Proofs.YtbadpiennobdmaaDoor

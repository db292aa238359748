/- Texts that belong together: what the functions of the program and of the statements return. -/
import Derived.Test.YtdbdigcpibmgjaaGreatDoorGA
import Derived.Test.YtdbdigcpibmgjaaGreatDoorGA
import Derived.Test.YtdbdigcpibmgjaaGreatDoorGA
import Derived.Test.YtdbdigcpibmgjaaGreatDoorGF
import Derived.RegionTactic
import Derived.Test.YtdbdigcpibmgjaaGreatDoorGK
import Derived.StillTailTactics
import Derived.Deep.RegionLaw
import Derived.Test.YtdbdigcpibmgjaaGreatDoorGB
/- The reference's ShaPad. -/
namespace Go.Proofs.YtdbdigcpibmgjaaGreatDoor
open Go.RowKit
/-- the padded bytes with j zeros, the length left out -/
def padZ (l : List UInt8) (j : Nat) : List UInt8 := l ++ [128] ++ List.replicate j 0
theorem padZ_succ (l : List UInt8) (j : Nat) : padZ l j ++ [0] = padZ l (j + 1) := by
  unfold padZ; rw [List.append_assoc, ← List.replicate_succ']
theorem len8_small (n : Nat) (h : n ≤ 2000) : len8 n = [0, 0, 0, 0, UInt8.ofNat ((n * 8) >>> 24), UInt8.ofNat ((n * 8) >>> 16), UInt8.ofNat ((n * 8) >>> 8), UInt8.ofNat (n * 8)] := by
  have hz : ∀ k, 32 ≤ k → UInt8.ofNat ((n * 8) >>> k) = 0 := fun k hk => by
    have h2 : 2 ^ 32 ≤ 2 ^ k := Nat.pow_le_pow_right (by omega) hk
    rw [Nat.shiftRight_eq_div_pow, Nat.div_eq_of_lt (by omega)]; rfl
  show [UInt8.ofNat ((n * 8) >>> 56), UInt8.ofNat ((n * 8) >>> 48), UInt8.ofNat ((n * 8) >>> 40), UInt8.ofNat ((n * 8) >>> 32), UInt8.ofNat ((n * 8) >>> 24), UInt8.ofNat ((n * 8) >>> 16), UInt8.ofNat ((n * 8) >>> 8), UInt8.ofNat ((n * 8) >>> 0)] = _
  rw [hz 56 (by omega), hz 48 (by omega), hz 40 (by omega), hz 32 (by omega), Nat.shiftRight_zero]
theorem len_b (n k : Nat) (q : Int) (hq : q = ((2 ^ k : Nat) : Int)) (h : (n : Int) * 8 / q < 256) : (n : Int) * 8 / q = y8 (UInt8.ofNat ((n * 8) >>> k)) := by
  subst hq
  have e : (n : Int) * 8 / ((2 ^ k : Nat) : Int) = (((n * 8) / 2 ^ k : Nat) : Int) := by simp
  rw [e] at h ⊢
  unfold y8
  rw [Nat.shiftRight_eq_div_pow, UInt8.toNat_ofNat', Nat.mod_eq_of_lt (by omega)]
theorem len_b0 (n : Nat) : (n : Int) * 8 % 256 = y8 (UInt8.ofNat (n * 8)) := by
  unfold y8; rw [UInt8.toNat_ofNat']; simp
set_option maxRecDepth 100000 in
set_option maxHeartbeats 400000 in
theorem shaPad_big (A : Option Addr) (n c : Nat) (w : World) (h : 2000 < n) (hn : n ≤ 9223372036854775807) :
    Calls Tryz.prog 176 #[.slice A n c] w fun e w' => e = .returned (.tuple #[.slice none 0 0, .int .i64 1]) ∧ w = w' := by
  go_enter Tryz.func176, Tryz.ntmps176
  go_wp2
  go_ret2
  exact ⟨rfl, rfl⟩
set_option maxRecDepth 100000 in
set_option maxHeartbeats 1000000 in
theorem shaPad_ok (A : Option Addr) (n c : Nat) (l : List UInt8) (w : World) (hr : Rd w 1 A n c (l.map bv8)) (hA : A = none → c = 0) (h : n ≤ 2000) :
    Calls Tryz.prog 176 #[.slice A n c] w fun e w' => ∃ v, e = .returned (.tuple #[v, .int .i64 0]) ∧ w'.ownsRow w.heap.size 5 1 v (pad l).length ((pad l).map bv8) ∧ Below w.heap.size w w' := by
  obtain rfl := hr.len
  obtain ⟨i0, hi0, hz0, hz1, hz2⟩ := info_parts u8_info
  have hd : decide (2000 < (l.length : Int)) = false := by simp; omega
  have hb0 := (Below.refl w.heap.size w).alloc (Nat.le_refl _) (.cells #[] 5)
  have hown0 : (w.alloc (.cells #[] 5)).ownsRow w.heap.size 5 1 (.slice (some ⟨w.heap.size, 0, none⟩) 0 0) 0 [] :=
    ⟨rfl, .inr ⟨w.heap.size, 0, #[], rfl, Nat.le_refl _, heap_alloc_new w _, Nat.le_refl _, by simp [maxLen], rfl, rfl⟩⟩
  have hr0 := hr.below hb0
  go_enter Tryz.func176, Tryz.ntmps176
  go_wp2_with (first | (at_builtin; refine wpList_appendR rfl (.tmp 9) (.tmp 10) _ rfl Tryz.underlying43 hi0 hz0 hz1 hz2 rfl (by omega) _ 0 [] rfl hown0 hr0 hA (bytes_one l) rfl (by omega) (by unfold maxLen; omega) hb0.size ?_; rintro v1 w1 ⟨hown1, hb1⟩; rw [Nat.zero_add, List.nil_append] at hown1) | (at_builtin; refine wpList_append1 rfl (.tmp 11) (.tmp 12) _ rfl Tryz.underlying43 hi0 hz0 hz1 hz2 rfl (by omega) _ _ _ rfl hown1 [.int .u8 128] rfl (by simp [Value.oneCell']) rfl (by omega) (by omega) (hb0.trans hb1).size ?_; rintro v2 w2 ⟨hown2, hb2, hsz2, hfar2⟩))
  have hp0 : (l.map bv8) ++ [.int .u8 128] = (padZ l 0).map bv8 := by simp [padZ]; rfl
  rw [hp0] at hown2
  have hbel := (hb0.trans hb1).trans hb2
  clear hp0 hb0 hb1 hb2 hsz2 hfar2 hown1 hown0 hr0
  go_loopw [4] (fun v wr => ∃ j : Nat, j ≤ zeros l.length ∧ wr.ownsRow w.heap.size 5 1 v (l.length + 1 + j) ((padZ l j).map bv8) ∧ Below w.heap.size w wr) (fun v _ => zeros l.length + l.length + 1 - (match v with | .slice _ n _ => n | _ => 0))
  case atStart => exact ⟨0, Nat.zero_le _, hown2, hbel⟩
  case round =>
    clear hown2 hbel
    obtain ⟨j, hj, hown, hbel⟩ := hrel
    have hzl := zeros_lt l.length
    obtain ⟨A2, c2, rfl, hrd⟩ := own_rd hown
    clear hrd
    by_cases hlt : j < zeros l.length
    · have hne : (((l.length : Int) + 1 + (j : Int) + 8) % 64 != 0) = true := by rw [bne_iff_ne]; unfold zeros at hlt; omega
      have hap : (padZ l j).map bv8 ++ [.int .u8 0] = (padZ l (j + 1)).map bv8 := by rw [← padZ_succ, List.map_append]; rfl
      have Ha := Lib.hid hap
      clear hap
      go_wp2_with (at_builtin; refine wpList_append1 rfl (.tmp 19) (.tmp 20) _ rfl Tryz.underlying43 hi0 hz0 hz1 hz2 rfl (by omega) _ _ _ rfl hown [.int .u8 0] rfl (by simp [Value.oneCell']) rfl (by omega) (by omega) hbel.size ?_; rintro v3 w3 ⟨hown3, hb3, hsz3, hfar3⟩)
      obtain ⟨A3, c3, rfl, hrd3⟩ := own_rd hown3
      rw [Ha.out] at hown3
      go_roundw
      case rel => exact ⟨j + 1, by omega, hown3, hbel.trans hb3⟩
      case measure => simp; omega
    · have hjz : j = zeros l.length := by omega
      have hne : (((l.length : Int) + 1 + (j : Int) + 8) % 64 != 0) = false := by
        rw [bne_eq_false_iff_eq, hjz]; unfold zeros; omega
      have hpl : (pad l).length = l.length + 1 + j + 8 := by rw [pad_length, ← hjz]; omega
      have hpe : pad l = padZ l j ++ len8 l.length := by rw [hjz]; rfl
      rw [len8_small _ h] at hpe
      have Hpl := Lib.hid hpl
      have Hpe := Lib.hid hpe
      clear hjz hpl hpe
      have e24 := len_b l.length 24 16777216 rfl (by omega)
      have e16 := len_b l.length 16 65536 rfl (by omega)
      have e8 := len_b l.length 8 256 rfl (by omega)
      have e0 := len_b0 l.length
      generalize UInt8.ofNat ((l.length * 8) >>> 24) = x24 at *
      generalize UInt8.ofNat ((l.length * 8) >>> 16) = x16 at *
      generalize UInt8.ofNat ((l.length * 8) >>> 8) = x8 at *
      generalize UInt8.ofNat (l.length * 8) = x0 at *
      go_wp2_with (at_builtin; refine wpList_append2 rfl (.tmp 25) (.tmp 37) _ rfl Tryz.underlying43 hi0 hz0 hz1 hz2 rfl (by omega) _ _ _ rfl (own_alloc hown (.cells (([0, 0, 0, 0, x24, x16, x8, x0] : List UInt8).map bv8).toArray 5)) ⟨wr.heap.size, 0, none⟩ 8 8 (([0, 0, 0, 0, x24, x16, x8, x0] : List UInt8).map bv8) rfl (cells_new _ _ _) (bytes_one _) rfl (by omega) (by unfold maxLen; omega) (by simp; have := hbel.size; omega) ?_; rintro v4 w4 ⟨hown4, hb4⟩)
      go_ret2
      refine ⟨_, rfl, ?_, (hbel.alloc hbel.size _).trans hb4⟩
      rw [Hpl.out, Hpe.out, List.map_append]
      exact hown4
end Go.Proofs.YtdbdigcpibmgjaaGreatDoor
/- Words and bytes: what the reference's functions return. -/
namespace Go.Proofs.YtdbdigcpibmgjaaGreatDoor
open Go.RowKit
set_option maxRecDepth 100000 in
set_option maxHeartbeats 400000 in
theorem wordsOf_big (A : Option Addr) (n c : Nat) (w : World) (h : 2072 < n) (hn : n ≤ 9223372036854775807) :
    Calls Tryz.prog 177 #[.slice A n c] w fun e w' => e = .returned (.tuple #[.slice none 0 0, .int .i64 1]) ∧ w = w' := by
  go_enter Tryz.func177, Tryz.ntmps177
  go_wp2
  go_ret2
  exact ⟨rfl, rfl⟩
set_option maxRecDepth 100000 in
set_option maxHeartbeats 400000 in
theorem wordsOf_odd (A : Option Addr) (n c : Nat) (w : World) (h : n ≤ 2072) (hn : n % 4 ≠ 0) :
    Calls Tryz.prog 177 #[.slice A n c] w fun e w' => e = .returned (.tuple #[.slice none 0 0, .int .i64 3]) ∧ w = w' := by
  have ha := and3 n (by omega)
  have hne : (((n % 4 : Nat) : Int) != 0) = true := by rw [bne_iff_ne]; omega
  go_enter Tryz.func177, Tryz.ntmps177
  go_wp2
  all_goals (go_ret2; exact ⟨rfl, rfl⟩)
set_option maxRecDepth 100000 in
set_option maxHeartbeats 1000000 in
theorem wordsOf_ok (A : Option Addr) (n c : Nat) (l : List UInt8) (w : World) (hr : Rd w 1 A n c (l.map bv8)) (h : n ≤ 2072) (h4 : n % 4 = 0) :
    Calls Tryz.prog 177 #[.slice A n c] w fun e w' => ∃ v, e = .returned (.tuple #[v, .int .i64 0]) ∧ w'.ownsRow w.heap.size 115 1 v (n / 4) ((words l).map wv) ∧ Below w.heap.size w w' := by
  obtain rfl := hr.len
  have ha := and3 l.length (by omega)
  rw [h4] at ha
  obtain ⟨i0, hi0, hz0, hz1, hz2⟩ := info_parts u32_info
  have H4 := Lib.hid h4
  have hd : decide (2072 < (l.length : Int)) = false := by simp; omega
  clear h4
  go_enter Tryz.func177, Tryz.ntmps177
  go_wp2
  go_loopw [4, 5, 6, 16] (fun v _ _ i wr => ∃ k : Nat, k ≤ l.length ∧ i = .int .i64 k ∧ wr.ownsRow w.heap.size 115 1 v ((k + 3) / 4) ((wst l k).map wv) ∧ Below w.heap.size w wr) (fun _ _ _ i _ => l.length - (intOf i).toNat)
  case atStart => exact ⟨0, by omega, rfl, World.ownsRow_nil _ _ _ _, Below.refl _ _⟩
  case round =>
    obtain ⟨k, hk, rfl, hown, hbel⟩ := hrel
    by_cases hlt : k < l.length
    · obtain ⟨b, off, rfl, hbl, hcell⟩ := hr.addr (by simp; omega)
      have h0 : wr.cell? ⟨b, off + k, none⟩ = some (.int .u8 (y8 (l[k]'(by omega)))) := (hbel.cell (p := ⟨b, off + k, none⟩) hbl).trans (hcell k _ (by rw [List.getElem?_map, List.getElem?_eq_getElem (by omega)]; rfl))
      clear hcell
      by_cases hm : k % 4 = 0
      · have hmb : ((k : Int) % 4 == 0) = true := by rw [beq_iff_eq]; omega
        have hq : ((k : Int) / 4).toNat = k / 4 := by omega
        have hq0 : 0 ≤ (k : Int) / 4 := by omega
        have hw1 : wst l (k + 1) = (wst l k ++ [0#32]).set (k / 4) (0#32 <<< 8 + w8 l[k]) := by
          rw [wst, if_pos hm, List.getD_eq_getElem?_getD, List.getElem?_append_right (by rw [wst_length]; omega), wst_length, show k / 4 - (k + 3) / 4 = 0 from by omega, getD_lt hlt]; rfl
        have hap : (wst l k).map wv ++ [.int .u32 0] = (wst l k ++ [0#32]).map wv := by rw [List.map_append]; rfl
        have hz : ∃ z : BitVec 32, Hid (z = 0#32) := ⟨_, rfl⟩
        obtain ⟨z, hz⟩ := hz
        have Hw := Lib.hid hw1
        have Ha := Lib.hid hap
        clear hw1 hap
        go_wp2_with (at_builtin; refine wpList_append1 rfl (.tmp 24) (.tmp 25) _ rfl Tryz.underlying117 hi0 hz0 hz1 hz2 rfl (by omega) _ _ _ rfl hown [.int .u32 0] rfl (by simp [Value.oneCell']) rfl (by omega) (by omega) hbel.size ?_; rintro v1 w1 ⟨hown1, hb1, hsz1, hfar1⟩; obtain ⟨g, cap, rfl, hg, hglt⟩ := hown1.form (by omega); have hc1 : w1.cell? ⟨g, k / 4, none⟩ = some (.int .u32 (u z)) := (by rw [hown1.cellAt _ (by omega), List.getElem?_append_right (by rw [List.length_map, wst_length]; omega), List.length_map, wst_length, show k / 4 - (k + 3) / 4 = 0 from by omega, hz.out]; rfl); have hf1 := hown1.frozenAt (k / 4); have hi1 : (k : Int) / 4 < ((((k + 3) / 4 + 1 : Nat)) : Int) := (by omega))
        go_roundw
        case rel =>
          refine ⟨k + 1, by omega, by go_num, ?_, (hbel.trans hb1).setCell (p := ⟨g, k / 4, none⟩) hg _⟩
          have h5 := (hown1.stored (k / 4) (.int .u32 (u (z <<< 8 + w8 l[k])))).1
          rw [Ha.out] at h5
          have h6 : ((wst l k ++ [0#32]).map wv).set (k / 4) (.int .u32 (u (z <<< 8 + w8 l[k]))) = (wst l (k + 1)).map wv := by
            rw [Hw.out, List.map_set, hz.out]; rfl
          rw [h6] at h5
          rwa [show (k + 1 + 3) / 4 = (k + 3) / 4 + 1 from by omega]
        case measure => simp [intOf]; omega
      · have hmb : ((k : Int) % 4 == 0) = false := by rw [beq_eq_false_iff_ne]; omega
        have hq : ((k : Int) / 4).toNat = k / 4 := by omega
        have hq0 : 0 ≤ (k : Int) / 4 := by omega
        have hL := wst_length l k
        have hz : ∃ z : BitVec 32, Hid (z = (wst l k).getD (k / 4) 0#32) := ⟨_, rfl⟩
        obtain ⟨z, hz⟩ := hz
        have hw1 : wst l (k + 1) = (wst l k).set (k / 4) (z <<< 8 + w8 l[k]) := by
          rw [wst, if_neg hm, getD_lt hlt, hz.out]
        obtain ⟨g, cap, rfl, hg, hglt⟩ := hown.form (by omega)
        have hc1 : wr.cell? ⟨g, k / 4, none⟩ = some (.int .u32 (u z)) := by
          rw [hown.cellAt _ (by omega), List.getElem?_map, List.getElem?_eq_getElem (by omega), hz.out, getD_lt (by omega)]; rfl
        have hf1 := hown.frozenAt (k / 4)
        have hi1 : (k : Int) / 4 < ((((k + 3) / 4 : Nat)) : Int) := by omega
        have Hw := Lib.hid hw1
        clear hw1 hL
        go_wp2
        go_roundw
        case rel =>
          refine ⟨k + 1, by omega, by go_num, ?_, hbel.setCell (p := ⟨g, k / 4, none⟩) hg _⟩
          have h5 := (hown.stored (k / 4) (.int .u32 (u (z <<< 8 + w8 l[k])))).1
          have h6 : ((wst l k).map wv).set (k / 4) (.int .u32 (u (z <<< 8 + w8 l[k]))) = (wst l (k + 1)).map wv := by
            rw [Hw.out, List.map_set]; rfl
          rw [h6] at h5
          rwa [show (k + 1 + 3) / 4 = (k + 3) / 4 from by omega]
        case measure => simp [intOf]; omega
    · obtain rfl : k = l.length := by omega
      rw [wst_end l H4.out, show (l.length + 3) / 4 = l.length / 4 from by have := H4.out; omega] at hown
      go_wp2
      go_ret2
      exact ⟨_, rfl, hown, hbel⟩
end Go.Proofs.YtdbdigcpibmgjaaGreatDoor
/- Words to bytes: what the reference's WordBytes returns. -/
namespace Go.Proofs.YtdbdigcpibmgjaaGreatDoor
open Go.RowKit
set_option maxRecDepth 100000 in
set_option maxHeartbeats 400000 in
theorem wordBytes_big (A : Option Addr) (n c : Nat) (w : World) (h : 2000 < n) (hn : n ≤ 9223372036854775807) :
    Calls Tryz.prog 180 #[.slice A n c] w fun e w' => e = .returned (.tuple #[.slice none 0 0, .int .i64 1]) ∧ w = w' := by
  go_enter Tryz.func180, Tryz.ntmps180
  go_wp2
  go_ret2
  exact ⟨rfl, rfl⟩
theorem take_snoc {ys : List Value} {k : Nat} {v : Value} (h : ys[k]? = some v) : ys.take k ++ [v] = ys.take (k + 1) := by
  rw [List.take_add_one, h]; rfl
theorem td24 (x : BitVec 32) : (u x).tdiv (16777216 : Int) % (256 : Int) = y8 (by8 (x >>> 24)) := by
  rw [Int.tdiv_eq_ediv_of_nonneg (u_nonneg x), bv_div24, mod256_u]
theorem td16 (x : BitVec 32) : (u x).tdiv (65536 : Int) % (256 : Int) = y8 (by8 (x >>> 16)) := by
  rw [Int.tdiv_eq_ediv_of_nonneg (u_nonneg x), bv_div16, mod256_u]
theorem td8 (x : BitVec 32) : (u x).tdiv (256 : Int) % (256 : Int) = y8 (by8 (x >>> 8)) := by
  rw [Int.tdiv_eq_ediv_of_nonneg (u_nonneg x), bv_div256, mod256_u]
theorem td0 (x : BitVec 32) : (u x).tmod (256 : Int) % (256 : Int) = y8 (by8 x) := by
  rw [Int.tmod_eq_emod_of_nonneg (u_nonneg x), Int.emod_emod, mod256_u]
def units : List Value := [.int .u32 16777216, .int .u32 65536, .int .u32 256, .int .u32 1]
set_option maxRecDepth 100000 in
set_option maxHeartbeats 1000000 in
theorem wordBytes_ok (A : Option Addr) (n c : Nat) (l : List (BitVec 32)) (w : World) (hr : Rd w 1 A n c (l.map wv)) (h : n ≤ 2000) :
    Calls Tryz.prog 180 #[.slice A n c] w fun e w' => ∃ v, e = .returned (.tuple #[v, .int .i64 0]) ∧ w'.ownsRow w.heap.size 5 1 v (4 * n) ((bytesW l).map bv8) ∧ Below w.heap.size w w' := by
  obtain rfl := hr.len
  obtain ⟨i0, hi0, hz0, hz1, hz2⟩ := info_parts u8_info
  have hd : decide (2000 < (l.length : Int)) = false := by simp; omega
  go_enter Tryz.func180, Tryz.ntmps180
  go_wp2
  go_loopw [4, 6, 8, 14] (fun v _ _ i wr => ∃ k : Nat, k ≤ l.length ∧ i = .int .i64 k ∧ wr.ownsRow w.heap.size 5 1 v (4 * k) (((bytesW l).map bv8).take (4 * k)) ∧ Below w.heap.size w wr) (fun _ _ _ i _ => l.length - (intOf i).toNat)
  case atStart => exact ⟨0, by omega, rfl, World.ownsRow_nil _ _ _ _, Below.refl _ _⟩
  case round =>
    obtain ⟨k, hk, rfl, hown, hbel⟩ := hrel
    by_cases hlt : k < l.length
    · obtain ⟨b, off, rfl, hbl, hcell⟩ := hr.addr (by simp; omega)
      have h0 : wr.cell? ⟨b, off + k, none⟩ = some (.int .u32 (u (l[k]'(by omega)))) := (hbel.cell (p := ⟨b, off + k, none⟩) hbl).trans (hcell k _ (by rw [List.getElem?_map, List.getElem?_eq_getElem (by omega)]; rfl))
      clear hcell
      rename World => wo
      have hU := Blk.new wo 115 units
      have hneU : u4.ownBlock ≠ some wo.heap.size := fun e => by have := (hown.lt _ e).2; omega
      go_wp2
      go_loopw [4, 8, 20] (fun v _ i wi => ∃ j : Nat, j ≤ 4 ∧ i = .int .i64 j ∧ wi.ownsRow w.heap.size 5 1 v (4 * k + j) (((bytesW l).map bv8).take (4 * k + j)) ∧ Below w.heap.size w wi ∧ Blk wi wo.heap.size 115 units ∧ v.ownBlock ≠ some wo.heap.size) (fun _ _ i _ => 4 - (intOf i).toNat)
      case atStart => exact ⟨0, by omega, rfl, own_alloc hown _, hbel.alloc hbel.size _, hU, hneU⟩
      case round =>
        obtain ⟨j, hj, rfl, hown2, hbel2, hblk, hne⟩ := hrel
        have c0 := hblk.cell j
        rcases (by omega : j = 0 ∨ j = 1 ∨ j = 2 ∨ j = 3 ∨ j = 4) with rfl | rfl | rfl | rfl | rfl
        · have c1 : wr.cell? ⟨wo.heap.size, 0, none⟩ = some (.int .u32 16777216) := c0
          have hat : ((bytesW l).map bv8)[4 * k + 0]? = some (.int .u8 (y8 (by8 (l[k] >>> 24)))) := by rw [List.getElem?_map, bytesW_at l k hlt 0 (by omega)]; rfl
          have Hat := Lib.hid hat
          clear c0 hat
          go_wp2_with (at_builtin; refine wpList_append1 rfl (.tmp 24) (.tmp 30) _ rfl Tryz.underlying43 hi0 hz0 hz1 hz2 rfl (by omega) _ _ _ rfl hown2 [_] rfl (by intro y hy; rw [List.mem_singleton] at hy; subst hy; rfl) rfl (by omega) (by omega) hbel2.size ?_; rintro v1 w1 ⟨hown1, hb1, hsz1, hfar1⟩)
          go_roundw
          case rel =>
            obtain ⟨hf1, hf2⟩ := hfar1 _ hblk.lt hne
            refine ⟨0 + 1, by omega, by go_num, ?_, hbel2.trans hb1, hf2.trans hblk, hf1⟩
            rw [td24] at hown1
            rw [← take_snoc Hat.out]
            exact hown1
          case measure => simp [intOf]
        · have c1 : wr.cell? ⟨wo.heap.size, 1, none⟩ = some (.int .u32 65536) := c0
          have hat : ((bytesW l).map bv8)[4 * k + 1]? = some (.int .u8 (y8 (by8 (l[k] >>> 16)))) := by rw [List.getElem?_map, bytesW_at l k hlt 1 (by omega)]; rfl
          have Hat := Lib.hid hat
          clear c0 hat
          go_wp2_with (at_builtin; refine wpList_append1 rfl (.tmp 24) (.tmp 30) _ rfl Tryz.underlying43 hi0 hz0 hz1 hz2 rfl (by omega) _ _ _ rfl hown2 [_] rfl (by intro y hy; rw [List.mem_singleton] at hy; subst hy; rfl) rfl (by omega) (by omega) hbel2.size ?_; rintro v1 w1 ⟨hown1, hb1, hsz1, hfar1⟩)
          go_roundw
          case rel =>
            obtain ⟨hf1, hf2⟩ := hfar1 _ hblk.lt hne
            refine ⟨1 + 1, by omega, by go_num, ?_, hbel2.trans hb1, hf2.trans hblk, hf1⟩
            rw [td16] at hown1
            rw [← take_snoc Hat.out]
            exact hown1
          case measure => simp [intOf]
        · have c1 : wr.cell? ⟨wo.heap.size, 2, none⟩ = some (.int .u32 256) := c0
          have hat : ((bytesW l).map bv8)[4 * k + 2]? = some (.int .u8 (y8 (by8 (l[k] >>> 8)))) := by rw [List.getElem?_map, bytesW_at l k hlt 2 (by omega)]; rfl
          have Hat := Lib.hid hat
          clear c0 hat
          go_wp2_with (at_builtin; refine wpList_append1 rfl (.tmp 24) (.tmp 30) _ rfl Tryz.underlying43 hi0 hz0 hz1 hz2 rfl (by omega) _ _ _ rfl hown2 [_] rfl (by intro y hy; rw [List.mem_singleton] at hy; subst hy; rfl) rfl (by omega) (by omega) hbel2.size ?_; rintro v1 w1 ⟨hown1, hb1, hsz1, hfar1⟩)
          go_roundw
          case rel =>
            obtain ⟨hf1, hf2⟩ := hfar1 _ hblk.lt hne
            refine ⟨2 + 1, by omega, by go_num, ?_, hbel2.trans hb1, hf2.trans hblk, hf1⟩
            rw [td8] at hown1
            rw [← take_snoc Hat.out]
            exact hown1
          case measure => simp [intOf]
        · have c1 : wr.cell? ⟨wo.heap.size, 3, none⟩ = some (.int .u32 1) := c0
          have hat : ((bytesW l).map bv8)[4 * k + 3]? = some (.int .u8 (y8 (by8 l[k]))) := by rw [List.getElem?_map, bytesW_at l k hlt 3 (by omega)]; rfl
          have Hat := Lib.hid hat
          clear c0 hat
          go_wp2_with (at_builtin; refine wpList_append1 rfl (.tmp 24) (.tmp 30) _ rfl Tryz.underlying43 hi0 hz0 hz1 hz2 rfl (by omega) _ _ _ rfl hown2 [_] rfl (by intro y hy; rw [List.mem_singleton] at hy; subst hy; rfl) rfl (by omega) (by omega) hbel2.size ?_; rintro v1 w1 ⟨hown1, hb1, hsz1, hfar1⟩)
          go_roundw
          case rel =>
            obtain ⟨hf1, hf2⟩ := hfar1 _ hblk.lt hne
            refine ⟨3 + 1, by omega, by go_num, ?_, hbel2.trans hb1, hf2.trans hblk, hf1⟩
            rw [td0] at hown1
            rw [← take_snoc Hat.out]
            exact hown1
          case measure => simp [intOf]
        · go_wp2
          go_roundw
          case rel => exact ⟨k + 1, by omega, by go_num, hown2, hbel2⟩
          case measure => simp [intOf]; omega
    · obtain rfl : k = l.length := by omega
      rw [List.take_of_length_le (by rw [List.length_map, bytesW_length]; omega)] at hown
      go_wp2
      go_ret2
      exact ⟨_, rfl, hown, hbel⟩
end Go.Proofs.YtdbdigcpibmgjaaGreatDoor
/- The reference's rotated and compressed: one block of SHA-256. -/
namespace Go.Proofs.YtdbdigcpibmgjaaGreatDoor
open Go.RowKit
/-- how many elements a slice value has -/
def slen : Value → Nat
  | .slice _ n _ => n
  | _ => 0
theorem chs_alt (x y z : BitVec 32) : z ^^^ (x &&& (y ^^^ z)) = chs x y z := by
  unfold chs
  apply BitVec.eq_of_getLsbD_eq
  intro i hi
  simp only [BitVec.getLsbD_xor, BitVec.getLsbD_or, BitVec.getLsbD_and, BitVec.getLsbD_not, hi, decide_true, Bool.true_and]
  cases x.getLsbD i <;> cases y.getLsbD i <;> cases z.getLsbD i <;> rfl
theorem mst_alt (x y z : BitVec 32) : (x &&& y) ||| (z &&& (x ||| y)) = mst x y z := by
  unfold mst
  apply BitVec.eq_of_getLsbD_eq
  intro i hi
  simp only [BitVec.getLsbD_or, BitVec.getLsbD_and]
  cases x.getLsbD i <;> cases y.getLsbD i <;> cases z.getLsbD i <;> rfl
theorem t1_ref (s : St) (k w : BitVec 32) : s.h + (rotr s.e 6 ^^^ rotr s.e 11 ^^^ rotr s.e 25) + (s.g ^^^ (s.e &&& (s.f ^^^ s.g))) + k + w = t1 s k w := by
  rw [chs_alt]; rfl
theorem t2_ref (s : St) : (rotr s.a 2 ^^^ rotr s.a 13 ^^^ rotr s.a 22) + ((s.a &&& s.b) ||| (s.c &&& (s.a ||| s.b))) = t2 s := by
  rw [mst_alt]; rfl
theorem nxt_ref (l : List (BitVec 32)) (t : Nat) (x y : BitVec 32) (hx : l.getD (t - 15) 0 = x) (hy : l.getD (t - 2) 0 = y) :
    l.getD (t - 16) 0 + (rotr x 7 ^^^ rotr x 18 ^^^ x >>> 3) + l.getD (t - 7) 0 + (rotr y 17 ^^^ rotr y 19 ^^^ y >>> 10) = nxt l t := by
  subst hx; subst hy
  show _ + mix2 _ + _ + mix3 _ = _
  unfold nxt
  rw [BitVec.add_assoc (l.getD (t - 16) 0), BitVec.add_comm (mix2 _), ← BitVec.add_assoc]
theorem sch_at (b : List (BitVec 32)) (hb : b.length = 16) (t i : Nat) (h16 : 16 ≤ t) (hi : i < t) : ((sch b (t - 16)).map wv)[i]? = some (.int .u32 (u ((sch b (t - 16)).getD i 0))) := by
  have hL := sch_length b hb (t - 16)
  rw [List.getElem?_map, List.getElem?_eq_getElem (by omega), getD_lt (by omega)]; rfl
theorem sch_next (b : List (BitVec 32)) (t : Nat) (h16 : 16 ≤ t) : (sch b (t - 16)).map wv ++ [.int .u32 (u (nxt (sch b (t - 16)) t))] = (sch b (t + 1 - 16)).map wv := by
  rw [show t + 1 - 16 = (t - 16) + 1 from by omega, sch, show 16 + (t - 16) = t from by omega, List.map_append]; rfl
attribute [local irreducible] sch rnds kon nxt t1 t2 rotl rotr
set_option maxRecDepth 100000 in
set_option maxHeartbeats 400000 in
theorem rotated_st (x : BitVec 32) (n : Int) (w : World) (h0 : 0 ≤ n) (h1 : n ≤ 31) :
    Calls Tryz.prog 195 #[.int .u32 (u x), .int .i64 n] w fun e w' => e = .returned (.int .u32 (u (rotr x n))) ∧ w' = w := by
  have hr : rotr x n = rotl x (-n) := by unfold rotr; rfl
  have HR := Lib.hid hr
  clear hr
  go_enter Tryz.func195, Tryz.ntmps195
  go_wp2_with ((with_reducible refine (rotl_any _ _ _).mono ?_); rintro e w' ⟨rfl, rfl⟩)
  go_ret
  exact ⟨ret_u HR.out.symm, rfl⟩
set_option maxRecDepth 100000 in
set_option maxHeartbeats 4000000 in
theorem compressed_any (s : St) (bl : List (BitVec 32)) (Ah Ab Ak : Option Addr) (ch cb ck : Nat) (w : World) (hh : Rd w 1 Ah 8 ch (s.list.map wv)) (hb : Rd w 1 Ab 16 cb (bl.map wv)) (hk : Rd w 1 Ak 64 ck (kon.map wv)) :
    Calls Tryz.prog 179 #[.slice Ah 8 ch, .slice Ab 16 cb, .slice Ak 64 ck] w fun e w' => ∃ g, e = .returned (.slice (some ⟨g, 0, none⟩) 8 8) ∧ Blk w' g 115 ((stp s bl).list.map wv) ∧ Below w.heap.size w w' := by
  have hbl : bl.length = 16 := hb.len.symm
  obtain ⟨i0, hi0, hz0, hz1, hz2⟩ := info_parts u32_info
  obtain ⟨hB, ho, rfl, hhl, hhc⟩ := hh.addr (by simp [St.list])
  obtain ⟨bB, bo, rfl, hbbl, hbc⟩ := hb.addr (by rw [List.length_map]; omega)
  obtain ⟨kB, ko, rfl, hkl, hkc⟩ := hk.addr (by rw [List.length_map, kon_length]; omega)
  have hb0 := (Below.refl w.heap.size w).alloc (Nat.le_refl _) (.cells #[] 115)
  have hown0 : (w.alloc (.cells #[] 115)).ownsRow w.heap.size 115 1 (.slice (some ⟨w.heap.size, 0, none⟩) 0 0) 0 [] :=
    ⟨rfl, .inr ⟨w.heap.size, 0, #[], rfl, Nat.le_refl _, heap_alloc_new w _, Nat.le_refl _, by simp [maxLen], rfl, rfl⟩⟩
  have hrb := hb.below hb0
  have hone : ∀ y ∈ bl.map wv, y.oneCell' = true := by
    intro y hy
    obtain ⟨x, _, rfl⟩ := List.mem_map.1 hy
    rfl
  have Hone := Lib.hid hone
  have HBL := Lib.hid hbl
  have HHC := Lib.hid hhc
  have HKC := Lib.hid hkc
  clear hone hbl hhc hbc hkc
  go_enter Tryz.func179, Tryz.ntmps179
  go_wp2_with (at_builtin; refine wpList_appendR rfl (.tmp 22) (.tmp 23) _ rfl Tryz.underlying117 hi0 hz0 hz1 hz2 rfl (by omega) _ 0 [] rfl hown0 hrb (fun h => by cases h) Hone.out rfl (by omega) (by simp [maxLen]) hb0.size ?_; rintro v1 w1 ⟨hown1, hb1⟩; rw [Nat.zero_add, List.nil_append] at hown1)
  have hbel := hb0.trans hb1
  clear hb0 hb1 hown0 hrb
  go_loopw [7, 8, 9, 10] (fun v _ _ _ wr => ∃ t : Nat, 16 ≤ t ∧ t ≤ 64 ∧ wr.ownsRow w.heap.size 115 1 v t ((sch bl (t - 16)).map wv) ∧ Below w.heap.size w wr) (fun v _ _ _ _ => 64 - slen v)
  case atStart => exact ⟨16, by omega, by omega, by have e : sch bl (16 - 16) = bl := (by unfold sch; rfl); rw [e]; exact hown1, hbel⟩
  case round =>
    clear hown1 hbel
    obtain ⟨t, ht0, ht1, hown, hbel⟩ := hrel
    obtain ⟨g, cap, rfl, hg, hglt⟩ := hown.form (by omega)
    by_cases hlt : t < 64
    · have v0 := (hown.cellAt (t - 16) (by omega)).trans (sch_at bl HBL.out t (t - 16) ht0 (by omega))
      have v1 := (hown.cellAt (t - 7) (by omega)).trans (sch_at bl HBL.out t (t - 7) ht0 (by omega))
      have v2 := (hown.cellAt (t - 15) (by omega)).trans (sch_at bl HBL.out t (t - 15) ht0 (by omega))
      have v3 := (hown.cellAt (t - 2) (by omega)).trans (sch_at bl HBL.out t (t - 2) ht0 (by omega))
      have h5 := nxt_ref (sch bl (t - 16)) t _ _ rfl rfl
      have h6 := sch_next bl t ht0
      rw [← h5] at h6
      generalize (sch bl (t - 16)).getD (t - 16) 0 = x0 at *
      generalize (sch bl (t - 16)).getD (t - 7) 0 = x1 at *
      generalize (sch bl (t - 16)).getD (t - 15) 0 = x2 at *
      generalize (sch bl (t - 16)).getD (t - 2) 0 = x3 at *
      have H6 := Lib.hid h6
      clear h5 h6
      have a0 : IntKind.i64.wrap ((t : Int) - 16) = (t : Int) - 16 := IntWalk.i64_in _ (by omega)
      have a1 : IntKind.i64.wrap ((t : Int) - 7) = (t : Int) - 7 := IntWalk.i64_in _ (by omega)
      have a2 : IntKind.i64.wrap ((t : Int) - 15) = (t : Int) - 15 := IntWalk.i64_in _ (by omega)
      have a3 : IntKind.i64.wrap ((t : Int) - 2) = (t : Int) - 2 := IntWalk.i64_in _ (by omega)
      have n0 : ((t : Int) - 16).toNat = t - 16 := by omega
      have n1 : ((t : Int) - 7).toNat = t - 7 := by omega
      have n2 : ((t : Int) - 15).toNat = t - 15 := by omega
      have n3 : ((t : Int) - 2).toNat = t - 2 := by omega
      have b0 : (0 : Int) ≤ (t : Int) - 16 ∧ (0 : Int) ≤ (t : Int) - 7 ∧ (0 : Int) ≤ (t : Int) - 15 ∧ (0 : Int) ≤ (t : Int) - 2 := by omega
      obtain ⟨b0, b1, b2, b3⟩ := b0
      have e0 : (16 : Int) ≤ t ∧ (7 : Int) ≤ t ∧ (15 : Int) ≤ t ∧ (2 : Int) ≤ t := by omega
      obtain ⟨e0, e1, e2, e3⟩ := e0
      have d0 : (t : Int) - 16 < t ∧ (t : Int) - 7 < t ∧ (t : Int) - 15 < t ∧ (t : Int) - 2 < t ∧ (t : Int) < 64 := by omega
      obtain ⟨d0, d1, d2, d3, d4⟩ := d0
      go_wp2
      refine wp_region_still_lit (by kernel_rfl) (by kernel_rfl) ?_
      repeat still_step
      still_call (rotated_st _ _ _ (by omega) (by omega))
      repeat still_step
      still_call (rotated_st _ _ _ (by omega) (by omega))
      repeat still_step
      refine wpStill_nil ?_
      change Exit.then _ _ Exit.normal _ wr.drew
      replace v0 : wr.drew.cell? ⟨g, t - 16, none⟩ = some (.int .u32 (u x0)) := v0
      replace v1 : wr.drew.cell? ⟨g, t - 7, none⟩ = some (.int .u32 (u x1)) := v1
      replace v3 : wr.drew.cell? ⟨g, t - 2, none⟩ = some (.int .u32 (u x3)) := v3
      replace hown := own_drewN hown 1
      replace hbel := hbel.drew
      change wr.drew.ownsRow _ _ _ _ _ _ at hown
      clear v2
      generalize wr.drew = w2 at *
      go_wp2
      refine wp_region_still_lit (by kernel_rfl) (by kernel_rfl) ?_
      repeat still_step
      still_call (rotated_st _ _ _ (by omega) (by omega))
      repeat still_step
      still_call (rotated_st _ _ _ (by omega) (by omega))
      repeat still_step
      refine wpStill_nil ?_
      change Exit.then _ _ Exit.normal _ w2.drew
      replace v0 : w2.drew.cell? ⟨g, t - 16, none⟩ = some (.int .u32 (u x0)) := v0
      replace v1 : w2.drew.cell? ⟨g, t - 7, none⟩ = some (.int .u32 (u x1)) := v1
      replace hown := own_drewN hown 1
      replace hbel := hbel.drew
      change w2.drew.ownsRow _ _ _ _ _ _ at hown
      clear v3
      generalize w2.drew = w3 at *
      go_wp2
      go_region_law (refine step_append1 rfl (.tmp 70) (.tmp 86) _ rfl Tryz.underlying117 hi0 hz0 hz1 hz2 rfl (by omega) (.slice (some ⟨g, 0, none⟩) t cap) t _ (by simp [Act.eval]) (w0 := w3.drew) (own_drewN hown 1) [.int .u32 (u (x0 + (rotr x2 7 ^^^ rotr x2 18 ^^^ x2 >>> 3) + x1 + (rotr x3 17 ^^^ rotr x3 19 ^^^ x3 >>> 10)))] rfl (by intro y hy; rw [List.mem_singleton] at hy; subst hy; rfl) (by simp [Act.eval]) (by omega) (by unfold maxLen; omega) hbel.drew.size ?_; rintro v9 w9 hap9)
      all_goals
        obtain ⟨hown9, hb9, _, _⟩ := hap9
        obtain ⟨g9, cap9, rfl, _, _⟩ := hown9.form (by omega)
        rw [H6.out] at hown9
        go_wp2
        refine ⟨?_, ?_⟩
        · repeat apply Exists.intro
          exact ⟨⟨t + 1, by omega, by omega, hown9, hbel.drew.trans hb9⟩, rfl⟩
        · show 64 - (t + 1) < 64 - t
          omega
    · have ht : t = 64 := by omega
      have hdt : decide ((t : Int) < 64) = false := by simp; omega
      obtain ⟨W, hW⟩ : ∃ W, W = sch bl 48 := ⟨_, rfl⟩
      have hWl : 64 ≤ W.length := by rw [hW, sch_length bl HBL.out 48]; omega
      have hl48 : sch bl (t - 16) = W := by rw [hW, ht]
      have hown' := hown
      rw [hl48] at hown'
      have HO := Lib.hid hown'
      have HW := Lib.hid hW.symm
      have ht4 : 64 ≤ t := by omega
      have ht5 : (64 : Int) ≤ t := by omega
      clear hW ht hown hown' hl48
      have y0 : wr.cell? ⟨hB, ho, none⟩ = some (.int .u32 (u s.a)) := (hbel.cell (p := ⟨hB, ho, none⟩) hhl).trans (HHC.out 0 _ rfl)
      have y1 : wr.cell? ⟨hB, ho + 1, none⟩ = some (.int .u32 (u s.b)) := (hbel.cell (p := ⟨hB, ho + 1, none⟩) hhl).trans (HHC.out 1 _ rfl)
      have y2 : wr.cell? ⟨hB, ho + 2, none⟩ = some (.int .u32 (u s.c)) := (hbel.cell (p := ⟨hB, ho + 2, none⟩) hhl).trans (HHC.out 2 _ rfl)
      have y3 : wr.cell? ⟨hB, ho + 3, none⟩ = some (.int .u32 (u s.d)) := (hbel.cell (p := ⟨hB, ho + 3, none⟩) hhl).trans (HHC.out 3 _ rfl)
      have y4 : wr.cell? ⟨hB, ho + 4, none⟩ = some (.int .u32 (u s.e)) := (hbel.cell (p := ⟨hB, ho + 4, none⟩) hhl).trans (HHC.out 4 _ rfl)
      have y5 : wr.cell? ⟨hB, ho + 5, none⟩ = some (.int .u32 (u s.f)) := (hbel.cell (p := ⟨hB, ho + 5, none⟩) hhl).trans (HHC.out 5 _ rfl)
      have y6 : wr.cell? ⟨hB, ho + 6, none⟩ = some (.int .u32 (u s.g)) := (hbel.cell (p := ⟨hB, ho + 6, none⟩) hhl).trans (HHC.out 6 _ rfl)
      have y7 : wr.cell? ⟨hB, ho + 7, none⟩ = some (.int .u32 (u s.h)) := (hbel.cell (p := ⟨hB, ho + 7, none⟩) hhl).trans (HHC.out 7 _ rfl)
      go_wp2
      refine wp_region_still_lit (by kernel_rfl) (by kernel_rfl) ?_
      repeat still_step
      refine wpStill_nil ?_
      change Exit.then _ _ Exit.normal _ wr.drew
      clear y0 y1 y2 y3 y4 y5 y6 y7
      have HO2 := Lib.hid (own_drewN HO.out 1)
      change Hid (wr.drew.ownsRow _ _ _ _ _ _) at HO2
      replace hbel := hbel.drew
      clear HO
      generalize wr.drew = wa at *
      go_wp2
      go_loopw [11, 12, 13, 14, 15, 16, 17, 18, 19, 20, 21] (fun ra rb rc rd re rf rg rh q _ _ wr => ∃ (k : Nat) (v : St), Hid (v = rnds s W k) ∧ k ≤ 64 ∧ q = .int .i64 k ∧ ra = .int .u32 (u v.a) ∧ rb = .int .u32 (u v.b) ∧ rc = .int .u32 (u v.c) ∧ rd = .int .u32 (u v.d) ∧ re = .int .u32 (u v.e) ∧ rf = .int .u32 (u v.f) ∧ rg = .int .u32 (u v.g) ∧ rh = .int .u32 (u v.h) ∧ wr.ownsRow w.heap.size 115 1 (.slice (some ⟨g, 0, none⟩) t cap) t (W.map wv) ∧ Below w.heap.size w wr) (fun _ _ _ _ _ _ _ _ q _ _ _ => 64 - (intOf q).toNat)
      case atStart => exact ⟨0, s, (rnds_zero s W).symm, by omega, rfl, rfl, rfl, rfl, rfl, rfl, rfl, rfl, rfl, HO2.out, hbel⟩
      case round =>
        clear hbel HO2
        obtain ⟨k, v, Hv, hk64, rfl, rfl, rfl, rfl, rfl, rfl, rfl, rfl, rfl, hown, hbel⟩ := hrel
        by_cases hlt : k < 64
        · have hwk : wr.cell? ⟨g, k, none⟩ = some (.int .u32 (u (W.getD k 0))) := (hown.cellAt k (by omega)).trans (by rw [List.getElem?_map, List.getElem?_eq_getElem (by omega), getD_lt (by omega)]; rfl)
          have hkk : wr.cell? ⟨kB, ko + k, none⟩ = some (.int .u32 (u (kon.getD k 0))) := (hbel.cell (p := ⟨kB, ko + k, none⟩) hkl).trans (HKC.out k _ (by rw [List.getElem?_map, List.getElem?_eq_getElem (by rw [kon_length]; omega), getD_lt (by rw [kon_length]; omega)]; rfl))
          have hrn := rnds_succ s W k
          rw [← Hv.out] at hrn
          have Hrn := Lib.hid hrn.symm
          clear hrn
          generalize W.getD k 0 = xw at *
          generalize kon.getD k 0 = xk at *
          have g1 := Lib.hid (t1_ref v xk xw)
          have g2 := Lib.hid (t2_ref v)
          have q3 : (k : Int) < 64 := by omega
          have q4 : (k : Int) < t := by omega
          go_wp2
          refine wp_region_still_lit (by kernel_rfl) (by kernel_rfl) ?_
          repeat still_step
          still_call (rotated_st _ _ _ (by omega) (by omega))
          repeat still_step
          still_call (rotated_st _ _ _ (by omega) (by omega))
          repeat still_step
          still_call (rotated_st _ _ _ (by omega) (by omega))
          repeat still_step
          refine wpStill_nil ?_
          change Exit.then _ _ Exit.normal _ wr.drew
          rw [g1.out]
          replace hown := own_drewN hown 1
          replace hbel := hbel.drew
          change wr.drew.ownsRow _ _ _ _ _ _ at hown
          clear hwk hkk
          generalize wr.drew = w2 at *
          go_wp2_with ((with_reducible refine (rotated_st _ _ _ (by omega) (by omega)).mono ?_); rintro e w' ⟨rfl, rfl⟩)
          go_roundw
          case rel => exact ⟨k + 1, rnd v xk xw, Hrn.out, by omega, by go_num, (by rw [g2.out]; rfl), rfl, rfl, rfl, rfl, rfl, rfl, rfl, hown, hbel⟩
          case measure => simp [intOf]; omega
        · have hk' : k = 64 := by omega
          have hfin : stp s bl = s.add v := by rw [stp_eq, HW.out, Hv.out, hk']
          have Hfin := Lib.hid hfin
          have hdk : decide ((k : Int) < 64) = false := by simp; omega
          clear hk' hfin hown
          have y0 : wr.cell? ⟨hB, ho, none⟩ = some (.int .u32 (u s.a)) := (hbel.cell (p := ⟨hB, ho, none⟩) hhl).trans (HHC.out 0 _ rfl)
          have y1 : wr.cell? ⟨hB, ho + 1, none⟩ = some (.int .u32 (u s.b)) := (hbel.cell (p := ⟨hB, ho + 1, none⟩) hhl).trans (HHC.out 1 _ rfl)
          have y2 : wr.cell? ⟨hB, ho + 2, none⟩ = some (.int .u32 (u s.c)) := (hbel.cell (p := ⟨hB, ho + 2, none⟩) hhl).trans (HHC.out 2 _ rfl)
          have y3 : wr.cell? ⟨hB, ho + 3, none⟩ = some (.int .u32 (u s.d)) := (hbel.cell (p := ⟨hB, ho + 3, none⟩) hhl).trans (HHC.out 3 _ rfl)
          have y4 : wr.cell? ⟨hB, ho + 4, none⟩ = some (.int .u32 (u s.e)) := (hbel.cell (p := ⟨hB, ho + 4, none⟩) hhl).trans (HHC.out 4 _ rfl)
          have y5 : wr.cell? ⟨hB, ho + 5, none⟩ = some (.int .u32 (u s.f)) := (hbel.cell (p := ⟨hB, ho + 5, none⟩) hhl).trans (HHC.out 5 _ rfl)
          have y6 : wr.cell? ⟨hB, ho + 6, none⟩ = some (.int .u32 (u s.g)) := (hbel.cell (p := ⟨hB, ho + 6, none⟩) hhl).trans (HHC.out 6 _ rfl)
          have y7 : wr.cell? ⟨hB, ho + 7, none⟩ = some (.int .u32 (u s.h)) := (hbel.cell (p := ⟨hB, ho + 7, none⟩) hhl).trans (HHC.out 7 _ rfl)
          go_wp2
          refine wp_region_still_tail 40 (by kernel_rfl) (by kernel_rfl) ?_
          simp only [List.take_succ_cons, List.take_zero, List.drop_succ_cons, List.drop_zero]
          repeat still_step
          refine wpStill_nil ?_
          change wpList _ _ _ _ _ wr.drew
          clear y0 y1 y2 y3 y4 y5 y6 y7
          replace hbel := hbel.drew
          generalize wr.drew = w2 at *
          go_wp2
          go_ret
          exact ⟨_, rfl, by rw [Hfin.out]; exact Blk.new w2 _ ((s.add v).list.map wv), hbel.alloc hbel.size _⟩
end Go.Proofs.YtdbdigcpibmgjaaGreatDoor
/- The reference's rounds and ShaSum. -/
namespace Go.Proofs.YtdbdigcpibmgjaaGreatDoor
open Go.RowKit
set_option maxRecDepth 100000 in
set_option maxHeartbeats 1000000 in
theorem rounds_any (w : World) :
    Calls Tryz.prog 178 #[] w fun e w' => ∃ g, e = .returned (.slice (some ⟨g, 0, none⟩) 64 64) ∧ Blk w' g 115 (kon.map wv) ∧ Below w.heap.size w w' := by
  go_enter Tryz.func178, Tryz.ntmps178
  go_wp2
  go_ret
  exact ⟨_, rfl, Blk.new w _ (kon.map wv), (Below.refl _ _).alloc (Nat.le_refl _) _⟩
set_option maxRecDepth 100000 in
set_option maxHeartbeats 400000 in
theorem rsum_big (A : Option Addr) (n c : Nat) (w : World) (h : 2000 < n) (hn : n ≤ 9223372036854775807) :
    Calls Tryz.prog 157 #[.slice A n c] w fun e w' => e = .returned (.tuple #[.string (str []), .int .i64 1]) ∧ w = w' := by
  go_enter Tryz.func157, Tryz.ntmps157
  go_wp2
  go_ret2
  exact ⟨rfl, rfl⟩
attribute [local irreducible] stW words pad kon
set_option maxRecDepth 100000 in
set_option maxHeartbeats 4000000 in
theorem rsum_ok (A : Option Addr) (n c : Nat) (l : List UInt8) (w : World) (hr : Rd w 1 A n c (l.map bv8)) (hA : A = none → c = 0) (h : n ≤ 2000) :
    Calls Tryz.prog 157 #[.slice A n c] w fun e w' => e = .returned (.tuple #[.string (str (dig l)), .int .i64 0]) ∧ Below w.heap.size w w' := by
  obtain rfl := hr.len
  have hd : decide (2000 < (l.length : Int)) = false := by simp; omega
  have hpm := pad_mod l
  have hpl : (pad l).length ≤ 2072 := by rw [pad_length]; have := zeros_lt l.length; omega
  have hp9 : 9 ≤ (pad l).length := by rw [pad_length]; omega
  have hpw := pad_words l
  have hsum := fun j h => sumS_words l j h
  go_enter Tryz.func157, Tryz.ntmps157
  go_wp2_with fail
  with_reducible refine (shaPad_ok _ _ _ l _ hr hA h).mono ?_
  rintro e w1 ⟨v1, rfl, hown1, hb1⟩
  obtain ⟨A1, c1, rfl, hr1⟩ := own_rd hown1
  generalize hP : pad l = pd at *
  go_wp2_with fail
  with_reducible refine (wordsOf_ok _ _ _ pd _ hr1 hpl (by omega)).mono ?_
  rintro e w2 ⟨v2, rfl, hown2, hb2⟩
  generalize hWs : words pd = ws at *
  obtain ⟨m, hm⟩ : ∃ m, pd.length / 4 = m := ⟨_, rfl⟩
  rw [hm] at hpw hown2
  have hm16 : m % 16 = 0 := by omega
  have hm518 : m ≤ 518 := by omega
  have hm1 : 0 < m := by omega
  obtain ⟨A2, c2, rfl, hr2⟩ := own_rd hown2
  obtain ⟨b2, o2, rfl, _, _⟩ := hr2.addr (by rw [List.length_map]; omega)
  replace hb2 := below_step hb1 hb2
  have Hsum := Lib.hid hsum
  clear hm hpl hpm hr1 hown1 hown2 hb1 hsum hP hWs
  have hb3 := hb2.alloc hb2.size (.cells (iniS.list.map wv).toArray 115)
  have hg3 := Blk.new w2 115 (iniS.list.map wv)
  have hr3 := hr2.below ((Below.refl w2.heap.size w2).alloc (Nat.le_refl _) (.cells (iniS.list.map wv).toArray 115))
  go_wp2_with fail
  with_reducible refine (rounds_any _).mono ?_
  rintro e w4 ⟨g4, rfl, hg4, hb4⟩
  have hk4 := blk_rd hg4 (n := 64) (by rw [List.length_map, kon_length]) (by omega)
  have hr4 := hr3.below hb4
  have hs4 := blk_rd (hg3.below hb4 hg3.lt) (n := 8) rfl (by omega)
  replace hb4 := below_step hb3 hb4
  clear hb2 hb3 hg3 hr2 hr3 hg4
  go_wp2_with fail
  go_loopw [6, 8] (fun v s wr => ∃ (j n' c' b' o' : Nat) (A7 : Option Addr) (c7 : Nat) (st : St), v = .slice (some ⟨b', o', none⟩) n' c' ∧ s = .slice A7 8 c7 ∧ n' + 16 * j = m ∧ Hid (st = stW ws j iniS) ∧ Rd wr 1 (some ⟨b', o', none⟩) n' c' ((ws.drop (16 * j)).map wv) ∧ Rd wr 1 A7 8 c7 (st.list.map wv) ∧ Rd wr 1 (some ⟨g4, 0, none⟩) 64 64 (kon.map wv) ∧ Below w.heap.size w wr) (fun v _ _ => slen v)
  case atStart => exact ⟨0, _, _, _, _, _, _, iniS, rfl, rfl, by omega, (stW_zero ws iniS).symm, hr4, hs4, hk4, hb4⟩
  case round =>
    clear hr4 hs4 hk4 hb4
    obtain ⟨j, n', c', b', o', A7, c7, st, rfl, rfl, hj, Hst, hrw, hrs, hrk, hbel⟩ := hrel
    have hc1 := hrw.2.1
    have hc2 := hrw.2.2.1
    unfold maxLen at hc2
    by_cases hlt : 0 < n'
    · have hge : 16 ≤ n' := by omega
      have hlt' : (0 : Int) < (n' : Int) := by omega
      have hge' : (16 : Int) ≤ (n' : Int) := by omega
      have hgc' : (16 : Int) ≤ (c' : Int) := by omega
      have hr16 := hrw.take 16 hge
      rw [← List.map_take] at hr16
      have Hnx := Lib.hid (stW_succ ws j iniS)
      rw [← Hst.out] at Hnx
      go_wp2_with fail
      with_reducible refine (compressed_any st _ _ _ _ _ _ _ _ hrs hr16 hrk).mono ?_
      rintro e w6 ⟨g6, rfl, hg6, hb6⟩
      have hrw6 := hrw.below hb6
      have hrk6 := hrk.below hb6
      have hs6 := blk_rd hg6 (n := 8) rfl (by omega)
      replace hb6 := below_step hbel hb6
      clear hbel hrw hrs hr16 hg6 hrk
      by_cases hc16 : c' = 16
      · subst hc16
        go_wp2
        go_roundw
        case rel => exact ⟨j + 1, _, _, _, _, _, _, _, rfl, rfl, by omega, Hnx.out.symm, (by rw [List.drop_of_length_le (by omega)]; exact Rd.empty _ _ (by simp [maxLen])), hs6, hrk6, hb6⟩
        case measure => simp [slen]; omega
      · have hrd := hrw6.dropK 16 hge
        rw [List.drop_drop, show 16 * j + 16 = 16 * (j + 1) from by omega] at hrd
        go_wp2
        go_roundw
        case rel => exact ⟨j + 1, _, _, _, _, _, _, _, rfl, rfl, by omega, Hnx.out.symm, hrd, hs6, hrk6, hb6⟩
        case measure => simp [slen]; omega
    · have hdn : decide ((0 : Int) < (n' : Int)) = false := by simp; omega
      have hst := Hsum.out j (by omega)
      rw [← Hst.out] at hst
      have Hdig : Hid (dig l = hexT (bytesW st.list)) := by show _ = _; unfold dig; rw [hst]
      clear hst hrw
      go_wp2_with fail
      with_reducible refine (wordBytes_ok _ _ _ _ _ hrs (by omega)).mono ?_
      rintro e w7 ⟨v7, rfl, hown7, hb7⟩
      obtain ⟨A9, c9, rfl, hs7⟩ := own_rd hown7
      replace hb7 := below_step hbel hb7
      clear hbel hrs hown7
      go_wp2_with fail
      with_reducible refine (hexText_any _ _ _ _ _ hs7 (by omega)).mono ?_
      rintro e w8 ⟨rfl, hb8⟩
      go_wp2
      go_ret2
      exact ⟨by rw [Hdig.out]; rfl, below_step hb7 hb8⟩
end Go.Proofs.YtdbdigcpibmgjaaGreatDoor

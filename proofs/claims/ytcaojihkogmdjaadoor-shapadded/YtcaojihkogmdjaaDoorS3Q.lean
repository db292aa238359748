/- The law ShaPadded: padded bytes are whole blocks, begin as they did, and tell at their end how many they were. -/
import Derived.Test.YtcaojihkogmdjaaDoorSp
import Derived.Test.YtcaojihkogmdjaaDoorTr
import Derived.StillTailTactics
namespace Go.Proofs.YtcaojihkogmdjaaDoor
open Go.RowKit
theorem Rd.dropQ {α : Type} {f : α → Value} {w : World} {b off n c : Nat} {l : List α} (h : Rd w 1 (some ⟨b, off, none⟩) n c (l.map f)) (k : Nat) (hn : k ≤ n) : Rd w 1 (some ⟨b, off + k, none⟩) (n - k) (c - k) ((l.drop k).map f) := by
  obtain ⟨h1, h2, h3, h4⟩ := h
  rw [List.length_map] at h1
  refine ⟨by rw [List.length_map, List.length_drop]; omega, by omega, by omega, fun hp => ⟨b, off + k, rfl, fun j v hv => ?_⟩⟩
  rw [List.length_map, List.length_drop] at hp
  obtain ⟨b', off', e, hc⟩ := h4 (by rw [List.length_map]; omega)
  injection e with e
  injection e with e1 e2
  subst e1; subst e2
  rw [List.getElem?_map, List.getElem?_drop] at hv
  have := hc (k + j) v (by rw [List.getElem?_map]; exact hv)
  rwa [← Nat.add_assoc] at this
theorem pad_front (l : List UInt8) : (pad l).take l.length = l := by
  unfold pad; rw [List.append_assoc, List.append_assoc, List.take_left]
theorem pad_at (l : List UInt8) : (pad l)[l.length]? = some 128 := by
  unfold pad
  rw [List.append_assoc, List.append_assoc, List.getElem?_append_right (Nat.le_refl _), Nat.sub_self]; rfl
theorem pad_mid (l : List UInt8) : ((pad l).drop (l.length + 1)).take (zeros l.length) = zs (zeros l.length) := by
  unfold pad zs
  rw [List.append_assoc, List.drop_left' (by simp), List.take_left' (by simp)]
theorem pad_tail (l : List UInt8) (k : Nat) (hk : k < 8) : (pad l)[l.length + 1 + zeros l.length + k]? = some (UInt8.ofNat ((l.length * 8) >>> (56 - 8 * k))) := by
  unfold pad
  have hl : (l ++ [128] ++ List.replicate (zeros l.length) (0 : UInt8)).length = l.length + 1 + zeros l.length := by simp; omega
  rw [List.getElem?_append_right (by omega), hl, Nat.add_sub_cancel_left]
  exact len8_get _ k hk
/-- the number that k bytes tell -/
def told (n k : Nat) : Nat := (n * 8) / 2 ^ (64 - 8 * k)
theorem told_zero (n : Nat) (h : n ≤ 2000) : told n 0 = 0 := by
  unfold told; exact Nat.div_eq_of_lt (by omega)
theorem told_end (n : Nat) : told n 8 = n * 8 := by unfold told; simp
theorem told_succ (n k : Nat) (hk : k < 8) : ((told n (k + 1) : Nat) : Int) = 256 * (told n k : Int) + y8 (UInt8.ofNat ((n * 8) >>> (56 - 8 * k))) := by
  unfold told y8
  rw [UInt8.toNat_ofNat', Nat.shiftRight_eq_div_pow, show 64 - 8 * k = (56 - 8 * k) + 8 from by omega, show 64 - 8 * (k + 1) = 56 - 8 * k from by omega, Nat.pow_add, ← Nat.div_div_eq_div_mul]
  generalize n * 8 / 2 ^ (56 - 8 * k) = q
  omega
theorem told_le (n k : Nat) (h : n ≤ 2000) : told n k ≤ 16000 := Nat.le_trans (Nat.div_le_self _ _) (by omega)
attribute [local irreducible] pad told zeros
set_option maxRecDepth 100000 in
set_option maxHeartbeats 4000000 in
theorem shaPadded_walk (A : Option Addr) (n0 c : Nat) (l0 : List UInt8) (w : World) (hr0 : Rd w 1 A n0 c (l0.map bv8)) :
    Calls Tryd.prog 3 #[.slice A n0 c] w fun e w' => e = .returned (.bool true) ∧ Below w.heap.size w w' := by
  have hlm := hr0.2.2.1
  have hlc := hr0.2.1
  unfold maxLen at hlm
  obtain ⟨l, n, hn, hr⟩ : ∃ (l : List UInt8) (n : Nat), n = min n0 1500 ∧ Rd w 1 A n c (l.map bv8) := by
    refine ⟨l0.take (min n0 1500), min n0 1500, rfl, ?_⟩
    have := hr0.take (min n0 1500) (by omega)
    rwa [← List.map_take] at this
  have hle : n ≤ 1500 := by omega
  have hnl := hr.len
  have hpl := pad_length l
  have hzl := zeros_lt l.length
  have hzs := zeros_spec l.length
  have hfront := pad_front l
  have hat := pad_at l
  have hmid := pad_mid l
  have htail := pad_tail l
  rw [← hnl] at hpl hzl hzs hfront hat hmid htail
  obtain ⟨z, hz⟩ : ∃ z, z = zeros n := ⟨_, rfl⟩
  obtain ⟨L, hL⟩ : ∃ L, L = (pad l).length := ⟨_, rfl⟩
  rw [← hz] at hpl hzl hzs hmid htail
  rw [← hL] at hpl
  have hL1 : n + 9 ≤ L := by omega
  have hL2 : L < n + 73 := by omega
  have hL3 : L % 64 = 0 := by rw [hpl]; exact hzs
  have Hpl := Lib.hid hpl
  have Hnl := Lib.hid hnl
  have HL := Lib.hid hL
  have Hfront := Lib.hid hfront
  have Hat := Lib.hid hat
  have Hmid := Lib.hid hmid
  have Htail := Lib.hid htail
  clear hnl hL hz hfront hat hmid htail hpl hzs
  rcases (by omega : (n = n0 ∧ n0 ≤ 1500) ∨ (n = 1500 ∧ ¬ n0 ≤ 1500)) with ⟨rfl, hc⟩ | ⟨rfl, hc⟩
  · clear hn
    go_enter Tryd.func3, Tryd.ntmps3
    go_wp2_with fail
    with_reducible refine (spad_ok _ _ _ l _ hr (by omega)).mono ?_
    rintro e w1 ⟨g1, rfl, hg1, hb1⟩
    have hr1 := blk_rd hg1 (n := (pad l).length) (by rw [List.length_map]) (by rw [← HL.out]; omega)
    rw [← HL.out] at hr1 ⊢
    have hrb := hr.below hb1
    have hrf := hr1.take n (by omega)
    rw [← List.map_take, Hfront.out] at hrf
    have k1 := run_bytes_str (P := Tryd.prog) Tryd.underlying22 Tryd.underlying5 Tryd.underlying9 hrf.drew.as
    have k2 := run_bytes_str (P := Tryd.prog) Tryd.underlying22 Tryd.underlying5 Tryd.underlying9 hrb.drew.as
    rw [← Hnl.out] at k1 k2
    have f2 : (L : Int).tmod 64 = 0 := by rw [Int.tmod_eq_emod_of_nonneg (by omega)]; omega
    have v1 : IntKind.i64.wrap ((n : Int) + 9) = (n : Int) + 9 := IntWalk.i64_in _ (by omega)
    have v2 : IntKind.i64.wrap ((n : Int) + 9 + 64) = (n : Int) + 9 + 64 := IntWalk.i64_in _ (by omega)
    have f3 : decide ((L : Int) < (n : Int) + 9) = false := by simp; omega
    have f4 : decide ((n : Int) + 9 + 64 ≤ (L : Int)) = false := by simp; omega
    have f5 : (l != l) = false := by simp
    have f6 : w1.drew.cell? ⟨g1, n, none⟩ = some (.int .u8 128) := (hg1.cell n).trans (by rw [List.getElem?_map, Hat.out]; rfl)
    have f7 : (n : Int) < (L : Int) := by omega
    have f8 : (n : Int) ≤ (L : Int) := by omega
    go_wp2_with fail
    refine wp_region_still_lit (by kernel_rfl) (by kernel_rfl) ?_
    repeat still_step
    refine wpStill_nil ?_
    change Exit.then _ _ Exit.normal _ w1.drew
    clear k1 k2 f2 f3 f4 f5 f6 f7 f8 v1 v2 hrf hr0
    replace hg1 := hg1.drew
    replace hr1 := hr1.drew
    have hbel := hb1.drew
    clear hb1 hrb
    generalize w1.drew = w2 at *
    have g1' : ¬ L = L - 8 := by omega
    have g2' : (0 : Int) ≤ (L : Int) - 8 := by omega
    have g3' : (L : Int) - 8 ≤ (L : Int) := by omega
    have g4' : ((L : Int) - 8).toNat = L - 8 := by omega
    have g5' : L - (L - 8) = 8 := by omega
    go_wp2_with fail
    go_loopw [5, 7, 67] (fun a _ q wr => ∃ k : Nat, k ≤ 8 ∧ q = .int .i64 k ∧ a = .int .i64 (told n k) ∧ wr = w2) (fun _ _ q _ => 8 - (intOf q).toNat)
    case atStart => exact ⟨0, by omega, rfl, by rw [told_zero n (by omega)]; rfl, rfl⟩
    case round =>
      obtain ⟨k, hk, rfl, rfl, rfl⟩ := hrel
      by_cases hlt : k < 8
      · have c0 : wr.cell? ⟨g1, L - 8 + k, none⟩ = some (.int .u8 (y8 (UInt8.ofNat ((n * 8) >>> (56 - 8 * k))))) := (hg1.cell (L - 8 + k)).trans (by rw [List.getElem?_map, show L - 8 + k = n + 1 + z + k from by have := Hpl.out; omega, Htail.out k hlt]; rfl)
        have Hs := Lib.hid (told_succ n k hlt)
        have t0 := told_le n k (by omega)
        have t1 := told_le n (k + 1) (by omega)
        have y0 := y8_nonneg (UInt8.ofNat ((n * 8) >>> (56 - 8 * k)))
        have y1 := y8_lt (UInt8.ofNat ((n * 8) >>> (56 - 8 * k)))
        generalize UInt8.ofNat ((n * 8) >>> (56 - 8 * k)) = xk at *
        have q1 : (k : Int) < 8 := by omega
        go_wp2
        go_roundw
        case rel => exact ⟨k + 1, by omega, by go_num, by rw [Hs.out], trivial⟩
        case measure => simp [intOf]; omega
      · have hdk : decide ((k : Int) < 8) = false := by simp; omega
        have ht : ((told n k : Nat) : Int) = 8 * (n : Int) := by rw [show k = 8 from by omega, told_end]; omega
        have hrm := (hr1.dropQ (n + 1) (by omega)).take z (by have := Hpl.out; omega)
        rw [← List.map_take, Hmid.out, Nat.zero_add] at hrm
        have k3 := run_bytes_str (P := Tryd.prog) Tryd.underlying22 Tryd.underlying5 Tryd.underlying9 hrm.as
        rw [zs_length] at k3
        have p1 : L - 8 - (n + 1) = z := by have := Hpl.out; omega
        have p2 : ((L : Int) - 8).toNat = L - 8 := by omega
        have p3 : ((n : Int) + 1).toNat = n + 1 := by omega
        have p4 : ¬ L = n + 1 := by omega
        have p5 : (n : Int) + 1 ≤ (L : Int) - 8 := by omega
        have p6 : (L : Int) - 8 ≤ (L : Int) := by omega
        have e0 : (([] : List UInt8) == []) = true := rfl
        clear hlt
        go_wp2_with fail
        refine (trim_any z _ (by omega)).mono ?_
        rintro e w9 ⟨rfl, nd, rfl⟩
        go_wp2
        go_ret
        exact ⟨by simp, below_drewN hbel nd⟩
  · clear hn
    go_enter Tryd.func3, Tryd.ntmps3
    go_wp2_with fail
    with_reducible refine (spad_ok _ _ _ l _ hr (by omega)).mono ?_
    rintro e w1 ⟨g1, rfl, hg1, hb1⟩
    have hr1 := blk_rd hg1 (n := (pad l).length) (by rw [List.length_map]) (by rw [← HL.out]; omega)
    rw [← HL.out] at hr1 ⊢
    have hrb := hr.below hb1
    have hrf := hr1.take 1500 (by omega)
    rw [← List.map_take, Hfront.out] at hrf
    have k1 := run_bytes_str (P := Tryd.prog) Tryd.underlying22 Tryd.underlying5 Tryd.underlying9 hrf.drew.as
    have k2 := run_bytes_str (P := Tryd.prog) Tryd.underlying22 Tryd.underlying5 Tryd.underlying9 hrb.drew.as
    rw [← Hnl.out] at k1 k2
    have f2 : (L : Int).tmod 64 = 0 := by rw [Int.tmod_eq_emod_of_nonneg (by omega)]; omega
    have v1 : IntKind.i64.wrap ((1509 : Int)) = (1509 : Int) := IntWalk.i64_in _ (by omega)
    have v2 : IntKind.i64.wrap ((1573 : Int)) = (1573 : Int) := IntWalk.i64_in _ (by omega)
    have f3 : decide ((L : Int) < (1509 : Int)) = false := by simp; omega
    have f4 : decide ((1573 : Int) ≤ (L : Int)) = false := by simp; omega
    have f5 : (l != l) = false := by simp
    have f6 : w1.drew.cell? ⟨g1, 1500, none⟩ = some (.int .u8 128) := (hg1.cell 1500).trans (by rw [List.getElem?_map, Hat.out]; rfl)
    have f7 : (1500 : Int) < (L : Int) := by omega
    have f8 : (1500 : Int) ≤ (L : Int) := by omega
    go_wp2_with fail
    refine wp_region_still_lit (by kernel_rfl) (by kernel_rfl) ?_
    repeat still_step
    refine wpStill_nil ?_
    change Exit.then _ _ Exit.normal _ w1.drew
    clear k1 k2 f2 f3 f4 f5 f6 f7 f8 hrf hr0
    replace hg1 := hg1.drew
    replace hr1 := hr1.drew
    have hbel := hb1.drew
    clear hb1 hrb
    generalize w1.drew = w2 at *
    have g1' : ¬ L = L - 8 := by omega
    have g2' : (0 : Int) ≤ (L : Int) - 8 := by omega
    have g3' : (L : Int) - 8 ≤ (L : Int) := by omega
    have g4' : ((L : Int) - 8).toNat = L - 8 := by omega
    have g5' : L - (L - 8) = 8 := by omega
    go_wp2_with fail
    go_loopw [5, 7, 67] (fun a _ q wr => ∃ k : Nat, k ≤ 8 ∧ q = .int .i64 k ∧ a = .int .i64 (told 1500 k) ∧ wr = w2) (fun _ _ q _ => 8 - (intOf q).toNat)
    case atStart => exact ⟨0, by omega, rfl, by rw [told_zero 1500 (by omega)]; rfl, rfl⟩
    case round =>
      obtain ⟨k, hk, rfl, rfl, rfl⟩ := hrel
      by_cases hlt : k < 8
      · have c0 : wr.cell? ⟨g1, L - 8 + k, none⟩ = some (.int .u8 (y8 (UInt8.ofNat ((1500 * 8) >>> (56 - 8 * k))))) := (hg1.cell (L - 8 + k)).trans (by rw [List.getElem?_map, show L - 8 + k = 1500 + 1 + z + k from by have := Hpl.out; omega, Htail.out k hlt]; rfl)
        have Hs := Lib.hid (told_succ 1500 k hlt)
        have t0 := told_le 1500 k (by omega)
        have t1 := told_le 1500 (k + 1) (by omega)
        have y0 := y8_nonneg (UInt8.ofNat ((1500 * 8) >>> (56 - 8 * k)))
        have y1 := y8_lt (UInt8.ofNat ((1500 * 8) >>> (56 - 8 * k)))
        generalize UInt8.ofNat ((1500 * 8) >>> (56 - 8 * k)) = xk at *
        have q1 : (k : Int) < 8 := by omega
        go_wp2
        go_roundw
        case rel => exact ⟨k + 1, by omega, by go_num, by rw [Hs.out], trivial⟩
        case measure => simp [intOf]; omega
      · have hdk : decide ((k : Int) < 8) = false := by simp; omega
        have ht : ((told 1500 k : Nat) : Int) = (12000 : Int) := by rw [show k = 8 from by omega, told_end]; omega
        have hrm := (hr1.dropQ 1501 (by omega)).take z (by have := Hpl.out; omega)
        rw [← List.map_take, Hmid.out, Nat.zero_add] at hrm
        have k3 := run_bytes_str (P := Tryd.prog) Tryd.underlying22 Tryd.underlying5 Tryd.underlying9 hrm.as
        rw [zs_length] at k3
        have p1 : L - 8 - 1501 = z := by have := Hpl.out; omega
        have p2 : ((L : Int) - 8).toNat = L - 8 := by omega
        have p3 : ((1501 : Int)).toNat = 1501 := by omega
        have p4 : ¬ L = 1501 := by omega
        have p5 : (1501 : Int) ≤ (L : Int) - 8 := by omega
        have p6 : (L : Int) - 8 ≤ (L : Int) := by omega
        have e0 : (([] : List UInt8) == []) = true := rfl
        clear hlt
        go_wp2_with fail
        refine (trim_any z _ (by omega)).mono ?_
        rintro e w9 ⟨rfl, nd, rfl⟩
        go_wp2
        go_ret
        exact ⟨by simp, below_drewN hbel nd⟩
end Go.Proofs.YtcaojihkogmdjaaDoor

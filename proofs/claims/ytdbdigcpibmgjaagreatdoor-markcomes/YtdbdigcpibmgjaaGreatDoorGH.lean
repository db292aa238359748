/- Texts that belong together: what the functions of the program and of the statements return. -/
import Derived.Test.YtdbdigcpibmgjaaGreatDoorGB
import Derived.Test.YtdbdigcpibmgjaaGreatDoorGX
import Derived.Test.YtdbdigcpibmgjaaGreatDoorGB
import Derived.Test.YtdbdigcpibmgjaaGreatDoorGA
import Derived.Deep.RegionLaw
import Derived.Test.YtdbdigcpibmgjaaGreatDoorGO
import Derived.Deep.RegionHeld3
import Derived.Lib.OwnKind
/- The statements' own unhex, of digits. -/
namespace Go.Proofs.YtdbdigcpibmgjaaGreatDoor
open Go.RowKit
theorem indexDig_at (c : UInt8) (w : World) (h : isD c = true) :
    Calls Tryz.prog 124 #[.string digs, .int .u8 (y8 c)] w fun e w' => e = .returned (.int .i64 (y8 (vl c))) ∧ w' = w := by
  refine (indexDigs_any c w).mono ?_
  rintro e w' ⟨rfl, rfl⟩
  exact ⟨ret_int (if_pos h), rfl⟩
theorem two_sum_table : ∀ a b : Fin 16, (16 * y8 (UInt8.ofNat a.val) + y8 (UInt8.ofNat b.val)) = y8 (UInt8.ofNat a.val <<< 4 ||| UInt8.ofNat b.val) := by decide +kernel
theorem two_sum {a b : UInt8} (ha : isD a = true) (hb : isD b = true) : 16 * y8 (vl a) + y8 (vl b) = y8 (two a b) := by
  have := two_sum_table ⟨(vl a).toNat, (vl_spec ha).2.2⟩ ⟨(vl b).toNat, (vl_spec hb).2.2⟩
  simp only [UInt8.ofNat_toNat] at this
  exact this
theorem unh_take2 : ∀ (j : Nat) (l : List UInt8), 2 * j + 1 < l.length → unh (l.take (2 * (j + 1))) = unh (l.take (2 * j)) ++ [two (l.getD (2 * j) 0) (l.getD (2 * j + 1) 0)]
  | _, [], h => absurd h (by simp)
  | _, [_], h => absurd h (by simp)
  | 0, a :: b :: r, _ => by simp [unh]
  | j + 1, a :: b :: r, h => by
    have := unh_take2 j r (by simp at h; omega)
    rw [show 2 * (j + 1 + 1) = 2 * (j + 1) + 2 from by omega, show 2 * (j + 1) + 1 = 2 * j + 1 + 2 from by omega]
    simp only [List.take_succ_cons, unh, this]
    rw [show 2 * (j + 1) = 2 * j + 2 from by omega]
    simp only [List.take_succ_cons, unh, List.cons_append, List.getD_cons_succ]
theorem unh_step {l : List UInt8} {j : Nat} (h : 2 * j + 1 < l.length) : unh (l.take (2 * (j + 1))) = unh (l.take (2 * j)) ++ [two l[2 * j] l[2 * j + 1]] := by
  have := unh_take2 j l h
  rwa [getD_lt (by omega), getD_lt h] at this
set_option maxRecDepth 100000 in
set_option maxHeartbeats 1000000 in
theorem unhex_any (l : List UInt8) (m : Nat) (w : World) (hl : l.length = 2 * m) (hm : m ≤ 2000) (hd : l.all isD = true) :
    Calls Tryz.prog 86 #[.string (str l)] w fun e w' => ∃ v, e = .returned v ∧ w'.ownsRow w.heap.size 5 1 v m ((unh l).map bv8) ∧ Below w.heap.size w w' := by
  obtain ⟨i0, hi0, hz0, hz1, hz2⟩ := info_parts u8_info
  have HD := Lib.hid (List.all_eq_true.1 hd)
  have HL := Lib.hid hl
  go_enter Tryz.func86, Tryz.ntmps86
  go_wp2
  go_loopw [3, 4] (fun out i wr => ∃ k : Nat, k ≤ m ∧ i = .int .i64 (2 * (k : Int)) ∧ wr.ownsRow w.heap.size 5 1 out k ((unh (l.take (2 * k))).map bv8) ∧ Below w.heap.size w wr) (fun _ i _ => 2 * m - (intOf i).toNat)
  case atStart => exact ⟨0, by omega, rfl, World.ownsRow_nil _ _ _ _, Below.refl _ _⟩
  case round =>
    obtain ⟨k, hk, rfl, hown, hbel⟩ := hrel
    have v1 : IntKind.i64.wrap ((2 : Int) * k + 1) = 2 * k + 1 := IntWalk.i64_in _ (by omega)
    by_cases hlt : k < m
    · have q0 : 2 * k < l.length := by omega
      have q1 : 2 * k + 1 < l.length := by omega
      have D0 := Lib.hid (HD.out _ (List.getElem_mem q0))
      have D1 := Lib.hid (HD.out _ (List.getElem_mem q1))
      have i0' : (2 : Int) * k < l.length := by omega
      have i1 : (2 : Int) * k + 1 < l.length := by omega
      have j0 : (0 : Int) ≤ 2 * k := by omega
      have j1 : (0 : Int) ≤ 2 * k + 1 := by omega
      have n0 : ((2 : Int) * k).toNat = 2 * k := by omega
      have n1 : ((2 : Int) * k + 1).toNat = 2 * k + 1 := by omega
      have dlt : decide ((2 : Int) * k + 1 < l.length) = true := by simp; omega
      have HS := Lib.hid (unh_step q1)
      have hts := two_sum D0.out D1.out
      have g0 := y8_nonneg (vl l[2 * k])
      have g1 := y8_nonneg (vl l[2 * k + 1])
      have b0 := y8_lt (vl l[2 * k])
      have b1 := y8_lt (vl l[2 * k + 1])
      have x0 : IntKind.i64.wrap (16 * y8 (vl l[2 * k])) = 16 * y8 (vl l[2 * k]) := IntWalk.i64_in _ (by omega)
      have x1 : IntKind.i64.wrap (16 * y8 (vl l[2 * k]) + y8 (vl l[2 * k + 1])) = y8 (two l[2 * k] l[2 * k + 1]) := by rw [hts]; have := y8_nonneg (two l[2 * k] l[2 * k + 1]); have := y8_lt (two l[2 * k] l[2 * k + 1]); exact IntWalk.i64_in _ (by omega)
      have m0 : (if 0 < y8 (vl l[2 * k]) then y8 (vl l[2 * k]) else 0) = y8 (vl l[2 * k]) := by split <;> omega
      have m1 : (if 0 < y8 (vl l[2 * k + 1]) then y8 (vl l[2 * k + 1]) else 0) = y8 (vl l[2 * k + 1]) := by split <;> omega
      have HT : Hid (two l[2 * k] l[2 * k + 1] = two l[2 * k] l[2 * k + 1]) := rfl
      clear hts
      go_wp2_with fail
      go_region_law (first
        | (refine step_append1 rfl (.tmp 12) (.tmp 27) _ rfl Tryz.underlying43 hi0 hz0 hz1 hz2 rfl (by omega) u3 k _ (by simp [Act.eval]) (w0 := wr.drew) hown.drew [.int .u8 (y8 (two l[2 * k] l[2 * k + 1]))] rfl (by intro y hy; rw [List.mem_singleton] at hy; subst hy; rfl) (by simp [Act.eval]) (by omega) (by unfold maxLen; omega) hbel.drew.size ?_; rintro v9 w9 hap9)
        | (go_simp; go_at_call 124; (with_reducible refine (indexDig_at _ _ D0.out).mono ?_); rintro e w' ⟨rfl, rfl⟩)
        | (go_simp; go_at_call 124; (with_reducible refine (indexDig_at _ _ D1.out).mono ?_); rintro e w' ⟨rfl, rfl⟩))
      all_goals
        obtain ⟨hown9, hb9, -, -⟩ := hap9
        have hown9' : w9.ownsRow w.heap.size 5 1 v9 (k + 1) ((unh (l.take (2 * (k + 1)))).map bv8) := by rw [HS.out, List.map_append]; exact hown9
        have hbel9 := hbel.drew.trans hb9
        have v2 : IntKind.i64.wrap ((2 : Int) * k + 2) = 2 * k + 2 := IntWalk.i64_in _ (by omega)
        clear hown9 hb9
        go_wp2
        go_roundw
        case rel => exact ⟨k + 1, by omega, by congr 1, hown9', hbel9⟩
        case measure => simp [intOf] <;> omega
    · obtain rfl : k = m := by omega
      have dlt : decide ((2 : Int) * k + 1 < l.length) = false := by simp; omega
      have hown' := hown
      rw [List.take_of_length_le (by omega)] at hown'
      go_wp2
      go_ret
      exact ⟨_, rfl, hown', hbel⟩
end Go.Proofs.YtdbdigcpibmgjaaGreatDoor
/- The statements' own Manifest. -/
namespace Go.Proofs.YtdbdigcpibmgjaaGreatDoor
open Go.RowKit
theorem or128I (x : Int) (h0 : 0 ≤ x) (h1 : x < 128) : bits .or .u8 x 128 = x + 128 := by
  have : ∀ n : Fin 128, bits .or .u8 (n.val : Int) 128 = (n.val : Int) + 128 := by decide +kernel
  have h := this ⟨x.toNat, by omega⟩
  simp only [Int.toNat_of_nonneg h0] at h
  exact h
theorem enc_two {z : Nat} (h : ¬ z < 128) (h2 : z < 16384) : enc z = [UInt8.ofNat (z % 128 + 128), UInt8.ofNat (z / 128)] := by
  rw [enc_big h, enc_small (by omega)]
/-- cells are kept where their block is -/
theorem cell_at {w w' : World} {g : Nat} (h : w'.heap[g]? = w.heap[g]?) (i : Nat) : w'.cell? ⟨g, i, none⟩ = w.cell? ⟨g, i, none⟩ := by
  unfold World.cell?; simp only; rw [h]
theorem blk_at {w w' : World} {g : Nat} {t : TypeId} {xs : List Value} (hb : Blk w g t xs) (h : w'.heap[g]? = w.heap[g]?) : Blk w' g t xs := h.trans hb
set_option maxRecDepth 100000 in
set_option maxHeartbeats 4000000 in
theorem kmanifest_ok (A : Option Addr) (n c : Nat) (l : List Prt) (w : World) (hr : Rd w 3 A n c (pcs l)) (h8 : l.length ≤ 8) (hfine : ∀ p ∈ l, p.fine) :
    Calls Tryz.prog 43 #[.slice A n c] w fun e w' => ∃ v, e = .returned v ∧ w'.ownsRow w.heap.size 5 1 v (man l).length ((man l).map bv8) ∧ Below w.heap.size w w' := by
  obtain rfl := hr.plen
  obtain ⟨i0, hi0, hz0, hz1, hz2⟩ := info_parts u8_info
  have HF := Lib.hid hfine
  have hw8 : IntKind.u8.wrap (l.length : Int) = (l.length : Int) := by rw [IntKind.wrap_u8]; omega
  have kc := head_run
  have hal1 := (Below.refl w.heap.size w).alloc (Nat.le_refl _) (.cells #[.int .u8 65, .int .u8 77, .int .u8 49] 5 (3, 4))
  have hrH := head_rd w
  have hal2 := (Below.refl (w.alloc (.cells #[.int .u8 65, .int .u8 77, .int .u8 49] 5 (3, 4))).heap.size (w.alloc (.cells #[.int .u8 65, .int .u8 77, .int .u8 49] 5 (3, 4)))).alloc (Nat.le_refl _) (.cells #[.int .u8 (l.length : Int)] 5)
  have hrH2 := hrH.below hal2
  have hrN : Rd ((w.alloc (.cells #[.int .u8 65, .int .u8 77, .int .u8 49] 5 (3, 4))).alloc (.cells #[.int .u8 (l.length : Int)] 5)) 1 (some ⟨w.heap.size + 1, 0, none⟩) 1 1 [.int .u8 (l.length : Int)] := by
    have h := new_rd (w.alloc (.cells #[.int .u8 65, .int .u8 77, .int .u8 49] 5 (3, 4))) 5 [UInt8.ofNat l.length] (0, 0) (by unfold maxLen; simp)
    have hN1 : ([UInt8.ofNat l.length]).map bv8 = [.int .u8 (l.length : Int)] := by simp [bv8, y8_ofNat l.length (by omega)]
    rw [hN1, show (w.alloc (.cells #[.int .u8 65, .int .u8 77, .int .u8 49] 5 (3, 4))).heap.size = w.heap.size + 1 by simp] at h
    exact h
  have hbH := below_step hal1 hal2
  clear hfine
  go_enter Tryz.func43, Tryz.ntmps43
  go_wp2_with (at_builtin; refine wpList_appendG rfl (.tmp 7) (.tmp 11) _ rfl Tryz.underlying43 hi0 hz0 hz1 hz2 rfl (by omega) rfl hrH2 (fun q => by cases q) rfl hrN (by simp [Value.oneCell']) (by simp) (by unfold maxLen; simp) (by simp) ?_; rintro v3 w3 ⟨hown3, hb3⟩)
  have hown3 := own_base hown3 hbH.size
  have hbB := below_step hbH hb3
  have hx : ([65, 77, 49] : List UInt8).map bv8 ++ [.int .u8 (l.length : Int)] = ([65, 77, 49] ++ enc l.length).map bv8 := by rw [enc_small (by omega), List.map_append]; simp [bv8, y8_ofNat l.length (by omega)]
  have hy : 3 + 1 = ([65, 77, 49] ++ enc l.length).length := by rw [enc_small (by omega)]; rfl
  have HM : Hid (man l = [65, 77, 49] ++ enc l.length ++ mBs l) := rfl
  rw [hx, hy] at hown3
  have hz : ([65, 77, 49] ++ enc l.length).length ≤ 8 := by rw [← hy]; omega
  obtain ⟨hd0, hd0e⟩ : ∃ hd0 : List UInt8, [65, 77, 49] ++ enc l.length = hd0 := ⟨_, rfl⟩
  rw [hd0e] at hown3 hz HM
  clear hx hy hrH hrH2 hrN hbH hb3 hal1 hal2 kc hd0e hw8
  go_wp2
  go_loopw [3, 5, 15] (fun s _ i wr => ∃ (k : Nat) (m : List UInt8), k ≤ l.length ∧ i = .int .i64 k ∧ wr.ownsRow w.heap.size 5 1 s m.length (m.map bv8) ∧ Hid (m = hd0 ++ mBs (l.take k)) ∧ m.length ≤ 8 + 60 * k ∧ Below w.heap.size w wr) (fun _ _ i _ => l.length - (intOf i).toNat)
  case atStart => exact ⟨0, hd0, Nat.zero_le _, rfl, hown3, (by show _ = _; simp [mBs]), by omega, hbB⟩
  case round =>
    clear hown3 hbB
    obtain ⟨k, m, hk, rfl, hown, HE, hml, hbel⟩ := hrel
    by_cases hlt : k < l.length
    · obtain ⟨b, off, rfl, hc0, hc1, hc2⟩ := (hr.below hbel).part hlt
      have hfk := HF.out l[k] (List.getElem_mem hlt)
      have h60 := mB_length hfk
      obtain ⟨_, f1, f2, f3, f4, f5, f6⟩ := hfk
      have HS := Lib.hid (mBs_step hlt)
      have hki : (k : Int) < (l.length : Int) := by omega
      generalize l[k] = p at *
      obtain ⟨nm, dg, sz⟩ := p
      obtain ⟨z, rfl⟩ : ∃ z : Nat, sz = (z : Int) := ⟨sz.toNat, by simp at f5; omega⟩
      simp only at f1 f2 f3 f4 f5 f6 hc0 hc1 hc2
      have HMB : Hid (mB ⟨nm, dg, z⟩ = [UInt8.ofNat nm.length] ++ nm ++ unh dg ++ enc z) := by show _ = _; unfold mB; rw [enc_small (by simp only; omega)]; simp
      have hal := (Below.refl wr.heap.size wr).alloc (Nat.le_refl _) (.cells #[.string (str nm), .string (str dg), .int .i64 (z : Int)] 97)
      have hbk := Blk.new wr 97 [.string (str nm), .string (str dg), .int .i64 (z : Int)]
      have hob : u3.ownBlock ≠ some wr.heap.size := fun q => by have := (hown.lt _ q).2; omega
      have hown' := own_below hown hal
      have hbelB := below_step hbel hal
      have HD4 := Lib.hid f4
      clear f4
      go_wp2_with fail
      generalize wr.heap.size = g at *
      generalize wr.alloc (.cells #[.string (str nm), .string (str dg), .int .i64 (z : Int)] 97) = wB at *
      have hgB := hbk.lt
      have hwn : IntKind.u8.wrap (nm.length : Int) = (nm.length : Int) := by rw [IntKind.wrap_u8]; omega
      have kS0 : wB.cell? ⟨g, 0, none⟩ = some (.string (str nm)) := hbk.cell 0
      have hbR := ((Below.refl wB.heap.size wB).alloc (Nat.le_refl _) (.cells #[.int .u8 (nm.length : Int)] 5)).drew
      have hownR := own_below hown' hbR
      have hblkR := hbk.below hbR hgB
      have kR : ((wB.alloc (.cells #[.int .u8 (nm.length : Int)] 5)).drew).cell? ⟨g, 0, none⟩ = some (.string (str nm)) := hblkR.cell 0
      have hgR := hblkR.lt
      have hbelR := below_step hbelB hbR
      have hrR : Rd ((wB.alloc (.cells #[.int .u8 (nm.length : Int)] 5)).drew) 1 (some ⟨wB.heap.size, 0, none⟩) 1 1 ([UInt8.ofNat nm.length].map bv8) := by
        have h := new_rd wB 5 [UInt8.ofNat nm.length] (0, 0) (by unfold maxLen; simp)
        have hN1 : ([UInt8.ofNat nm.length]).map bv8 = [.int .u8 (nm.length : Int)] := by simp [bv8, y8_ofNat nm.length (by omega)]
        rw [hN1] at h ⊢
        exact h
      clear hal hc0 hc1 hc2 hown' hown hbel
      go_region_held3 (fun X => X.cell? ⟨g, 0, none⟩ = some (.string (str nm))) (first | exact kS0 | exact kR | exact kS1 | exact kS2 | go_keep)
        (first
          | (refine step_appendM (by rfl) (.tmp 19) (.tmp 24) _ (by rfl) Tryz.underlying43 hi0 hz0 hz1 hz2 rfl (by omega) u3 m.length _ (by first | rfl | simp [Act.eval]) hownR hrR (fun q => by cases q) (bytes_one _) (by first | rfl | simp [Act.eval]) (by omega) (by unfold maxLen; omega) hbelR.size ?_; rintro v1 w1 q1; have hq1 := q1.2.2.2.out g hgR hob; have kS1 := (cell_at hq1.2 0).trans kR; have hblk1 := blk_at hblkR hq1.2; obtain ⟨hown1, hb1, hs1, -⟩ := q1; have hbel1 := hbelR.trans hb1)
          | (refine step_appendS (by rfl) (.tmp 25) (.tmp 27) _ _ (by rfl) Tryz.underlying43 Tryz.underlying9 hi0 hz0 hz1 hz2 v1 _ _ (by first | rfl | simp [Act.eval]) hown1 nm (by first | rfl | simp [Act.eval]) (by omega) (by unfold maxLen; omega) hbel1.size ?_; rintro v2 w2 ⟨hown2, hb2, hs2, hf2⟩; have hq2 := hf2.out g hblk1.lt hq1.1; have kS2 := (cell_at hq2 0).trans kS1; have hblk2 := blk_at hblk1 hq2; have hbel2 := hbel1.trans hb2))
      have e1 : w2.cell? ⟨g, 1, none⟩ = some (.string (str dg)) := hblk2.cell 1
      have hU : (unh dg).length = 32 := by rw [unh_length, f3]
      have hz5 := enc_len5 (n := z) (by omega)
      have hlt2 := Lib.hid hown2.lt
      have hy1 : m.length + 1 + nm.length = (m ++ [UInt8.ofNat nm.length] ++ nm).length := by simp; omega
      rw [← List.map_append, ← List.map_append, hy1] at hown2
      have hm2 : (m ++ [UInt8.ofNat nm.length] ++ nm).length ≤ 21 + 60 * k := by simp; omega
      obtain ⟨m2, hm2e⟩ : ∃ m2, m ++ [UInt8.ofNat nm.length] ++ nm = m2 := ⟨_, rfl⟩
      rw [hm2e] at hown2 hm2
      have HM2 := Lib.hid hm2e
      have HU := Lib.hid hU
      have hobv2 : v2.ownBlock ≠ some g := fun q => by
        obtain ⟨c', fz, hk'⟩ := Lib.ownsRow_kind hown2 g q
        rw [hblk2] at hk'
        cases hk'
      clear hm2e hy1 hU hrR hwn kS0 kR kS1 kS2 hgR hgB hbelR hbelB hblkR hblk1 hbk hownR hown1 hb1 hs1 hb2 hs2 hf2 hq1 hq2 hob hbR hbel1
      go_wp2_with fail
      with_reducible refine (unhex_any dg 32 _ (by omega) (by omega) HD4.out).mono ?_
      rintro e w4 ⟨v4, rfl, hown4, hb4⟩
      obtain ⟨A4, c4, rfl, hr4, hA4⟩ := own_rdN hown4
      have hownA := own_below hown2 hb4
      have hblk4 := hblk2.below hb4 hblk2.lt
      have hbel4 := below_step hbel2 hb4
      clear hown2 hown4 hblk2 e1 hbel2
      have HEE : Hid (m2 ++ unh dg ++ enc z = hd0 ++ mBs (l.take (k + 1))) := by
        show _ = _
        rw [HS.out, HMB.out, ← HM2.out, HE.out]
        simp
      have HLL : Hid (m2.length + 32 + (enc z).length = (m2 ++ unh dg ++ enc z).length) := by
        show _ = _
        rw [List.length_append, List.length_append, HU.out]
      have HLE : Hid ((m2 ++ unh dg ++ enc z).length ≤ 8 + 60 * (k + 1)) := by
        show _ ≤ _
        rw [← HLL.out]
        have : (enc z).length ≤ 2 := by
          by_cases h : z < 128
          · rw [enc_small h]; simp
          · rw [enc_two h (by omega)]; simp
        omega
      by_cases hsz : z < 128
      · have d7 : decide (127 < (z : Int)) = false := by simp; omega
        have hwz : IntKind.u8.wrap (z : Int) = (z : Int) := by rw [IntKind.wrap_u8]; omega
        have hez : (enc z).length = 1 := by rw [enc_small hsz]; rfl
        have HROW : Hid (∀ W : World, Rd (W.alloc (.cells #[.int .u8 (z : Int)] 5)) 1 (some ⟨W.heap.size, 0, none⟩) 1 1 ((enc z).map bv8)) := fun W => by
          have h := new_rd W 5 [UInt8.ofNat z] (0, 0) (by unfold maxLen; simp)
          have hN1 : ([UInt8.ofNat z]).map bv8 = [.int .u8 (z : Int)] := by simp [bv8, y8_ofNat z (by omega)]
          rw [enc_small hsz]
          rw [hN1] at h ⊢
          exact h
        rw [hez] at HLL
        clear hez
        go_wp2_with (at_builtin; first
          | (refine wpList_appendM rfl (.tmp 29) (.tmp 32) _ rfl Tryz.underlying43 hi0 hz0 hz1 hz2 rfl (by omega) _ _ _ rfl hownA hr4 hA4 (bytes_one _) rfl (by omega) (by unfold maxLen; omega) hbel4.size ?_; rintro v5 w5 q5; have hq5 := q5.2.2.2.out g hblk4.lt hobv2; have hblk5 := blk_at hblk4 hq5.2; have e2 : w5.cell? ⟨g, 2, none⟩ = some (.int .i64 (z : Int)) := hblk5.cell 2; obtain ⟨hown5, hb5, hs5, -⟩ := q5; have hbel5 := hbel4.trans hb5; have hal6 := (Below.refl w5.heap.size w5).alloc (Nat.le_refl _) (.cells #[.int .u8 (z : Int)] 5); have hown6 := own_below hown5 hal6; have hr6 := HROW.out w5; have hbel6 := below_step hbel5 hal6)
          | (refine wpList_appendM rfl (.tmp 49) (.tmp 53) _ rfl Tryz.underlying43 hi0 hz0 hz1 hz2 rfl (by omega) _ _ _ rfl hown6 hr6 (fun q => by cases q) (bytes_one _) rfl (by omega) (by unfold maxLen; omega) hbel6.size ?_; rintro v7 w7 ⟨hown7, hb7, hs7, -⟩))
        rw [← List.map_append, ← List.map_append, HLL.out] at hown7
        go_roundw
        case rel => exact ⟨k + 1, _, by omega, by go_num, hown7, HEE.out, HLE.out, hbel6.trans hb7⟩
        case measure => simp [intOf] <;> omega
      · have d7 : decide (127 < (z : Int)) = true := by simp; omega
        have hw1 : IntKind.u8.wrap ((z : Int) % 128) = (z : Int) % 128 := by rw [IntKind.wrap_u8]; omega
        have hw2 : IntKind.u8.wrap ((z : Int) / 128) = (z : Int) / 128 := by rw [IntKind.wrap_u8]; omega
        have hor := or128I ((z : Int) % 128) (by omega) (by omega)
        have hez : (enc z).length = 2 := by rw [enc_two hsz (by omega)]; rfl
        have HROW : Hid (∀ W : World, Rd (W.alloc (.cells #[.int .u8 ((z : Int) % 128 + 128), .int .u8 ((z : Int) / 128)] 5)) 1 (some ⟨W.heap.size, 0, none⟩) 2 2 ((enc z).map bv8)) := fun W => by
          have h := new_rd W 5 [UInt8.ofNat (z % 128 + 128), UInt8.ofNat (z / 128)] (0, 0) (by unfold maxLen; simp)
          have hN1 : ([UInt8.ofNat (z % 128 + 128), UInt8.ofNat (z / 128)]).map bv8 = [.int .u8 ((z : Int) % 128 + 128), .int .u8 ((z : Int) / 128)] := by
            show [bv8 (UInt8.ofNat (z % 128 + 128)), bv8 (UInt8.ofNat (z / 128))] = _
            unfold bv8
            rw [y8_ofNat _ (by omega), y8_ofNat _ (by omega)]
            simp
          rw [enc_two hsz (by omega)]
          rw [hN1] at h ⊢
          exact h
        rw [hez] at HLL
        clear hez
        go_wp2_with (at_builtin; first
          | (refine wpList_appendM rfl (.tmp 29) (.tmp 32) _ rfl Tryz.underlying43 hi0 hz0 hz1 hz2 rfl (by omega) _ _ _ rfl hownA hr4 hA4 (bytes_one _) rfl (by omega) (by unfold maxLen; omega) hbel4.size ?_; rintro v5 w5 q5; have hq5 := q5.2.2.2.out g hblk4.lt hobv2; have hblk5 := blk_at hblk4 hq5.2; have e2 : w5.cell? ⟨g, 2, none⟩ = some (.int .i64 (z : Int)) := hblk5.cell 2; obtain ⟨hown5, hb5, hs5, -⟩ := q5; have hbel5 := hbel4.trans hb5; have hal6 := (Below.refl w5.heap.size w5).alloc (Nat.le_refl _) (.cells #[.int .u8 ((z : Int) % 128 + 128), .int .u8 ((z : Int) / 128)] 5); have hown6 := own_below hown5 hal6; have hr6 := HROW.out w5; have hbel6 := below_step hbel5 hal6)
          | (refine wpList_appendM rfl (.tmp 37) (.tmp 47) _ rfl Tryz.underlying43 hi0 hz0 hz1 hz2 rfl (by omega) _ _ _ rfl hown6 hr6 (fun q => by cases q) (bytes_one _) rfl (by omega) (by unfold maxLen; omega) hbel6.size ?_; rintro v7 w7 ⟨hown7, hb7, hs7, -⟩))
        rw [← List.map_append, ← List.map_append, HLL.out] at hown7
        go_roundw
        case rel => exact ⟨k + 1, _, by omega, by go_num, hown7, HEE.out, HLE.out, hbel6.trans hb7⟩
        case measure => simp [intOf] <;> omega
    · have hd2 : decide ((k : Int) < (l.length : Int)) = false := by simp; omega
      have HX : Hid (m = man l) := by show _ = _; rw [HE.out, HM.out, List.take_of_length_le (by omega)]
      go_wp2
      go_ret
      rw [← HX.out]
      exact ⟨_, rfl, hown, hbel⟩
end Go.Proofs.YtdbdigcpibmgjaaGreatDoor

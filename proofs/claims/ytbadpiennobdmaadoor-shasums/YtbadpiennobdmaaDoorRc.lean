/- The reference's rotated and compressed: one block of SHA-256. -/
import Derived.Test.YtbadpiennobdmaaDoorRot
import Derived.Test.YtbadpiennobdmaaDoorApp
import Derived.Test.YtbadpiennobdmaaDoorI32
import Derived.Test.YtbadpiennobdmaaDoorShp
import Derived.StillTailTactics
import Derived.Deep.RegionLaw
namespace Go.Proofs.YtbadpiennobdmaaDoor
open Go.RowKit
/-- how many elements a slice value has -/
def slen : Value → Nat
  | .slice _ n _ => n
  | _ => 0
theorem chs_alt (x y z : BitVec 32) : z ^^^ (x &&& (y ^^^ z)) = chs x y z := by
  unfold chs
  apply BitVec.eq_of_getLsbD_eq
  intro i hi
  simp only [BitVec.getLsbD_xor, BitVec.getLsbD_or, BitVec.getLsbD_and, BitVec.getLsbD_not, hi, decide_true, Bool.true_and]
  cases x.getLsbD i <;> cases y.getLsbD i <;> cases z.getLsbD i <;> rfl
theorem mst_alt (x y z : BitVec 32) : (x &&& y) ||| (z &&& (x ||| y)) = mst x y z := by
  unfold mst
  apply BitVec.eq_of_getLsbD_eq
  intro i hi
  simp only [BitVec.getLsbD_or, BitVec.getLsbD_and]
  cases x.getLsbD i <;> cases y.getLsbD i <;> cases z.getLsbD i <;> rfl
theorem t1_ref (s : St) (k w : BitVec 32) : s.h + (rotr s.e 6 ^^^ rotr s.e 11 ^^^ rotr s.e 25) + (s.g ^^^ (s.e &&& (s.f ^^^ s.g))) + k + w = t1 s k w := by
  rw [chs_alt]; rfl
theorem t2_ref (s : St) : (rotr s.a 2 ^^^ rotr s.a 13 ^^^ rotr s.a 22) + ((s.a &&& s.b) ||| (s.c &&& (s.a ||| s.b))) = t2 s := by
  rw [mst_alt]; rfl
theorem nxt_ref (l : List (BitVec 32)) (t : Nat) (x y : BitVec 32) (hx : l.getD (t - 15) 0 = x) (hy : l.getD (t - 2) 0 = y) :
    l.getD (t - 16) 0 + (rotr x 7 ^^^ rotr x 18 ^^^ x >>> 3) + l.getD (t - 7) 0 + (rotr y 17 ^^^ rotr y 19 ^^^ y >>> 10) = nxt l t := by
  subst hx; subst hy
  show _ + mix2 _ + _ + mix3 _ = _
  unfold nxt
  rw [BitVec.add_assoc (l.getD (t - 16) 0), BitVec.add_comm (mix2 _), ← BitVec.add_assoc]
theorem sch_at (b : List (BitVec 32)) (hb : b.length = 16) (t i : Nat) (h16 : 16 ≤ t) (hi : i < t) : ((sch b (t - 16)).map wv)[i]? = some (.int .u32 (u ((sch b (t - 16)).getD i 0))) := by
  have hL := sch_length b hb (t - 16)
  rw [List.getElem?_map, List.getElem?_eq_getElem (by omega), getD_lt (by omega)]; rfl
theorem sch_next (b : List (BitVec 32)) (t : Nat) (h16 : 16 ≤ t) : (sch b (t - 16)).map wv ++ [.int .u32 (u (nxt (sch b (t - 16)) t))] = (sch b (t + 1 - 16)).map wv := by
  rw [show t + 1 - 16 = (t - 16) + 1 from by omega, sch, show 16 + (t - 16) = t from by omega, List.map_append]; rfl
attribute [local irreducible] sch rnds kon nxt t1 t2 rotl rotr
set_option maxHeartbeats 400000 in
theorem rotated_st (x : BitVec 32) (n : Int) (w : World) (h0 : 0 ≤ n) (h1 : n ≤ 31) :
    Calls Tryd.prog 49 #[.int .u32 (u x), .int .i64 n] w fun e w' => e = .returned (.int .u32 (u (rotr x n))) ∧ w' = w := by
  have hr : rotr x n = rotl x (-n) := by unfold rotr; rfl
  have HR := Lib.hid hr
  clear hr
  go_enter Tryd.func49, Tryd.ntmps49
  go_wp2_with ((with_reducible refine (rotl_any _ _ _).mono ?_); rintro e w' ⟨rfl, rfl⟩)
  go_ret
  exact ⟨ret_u HR.out.symm, rfl⟩
set_option maxRecDepth 100000 in
set_option maxHeartbeats 4000000 in
theorem compressed_any (s : St) (bl : List (BitVec 32)) (Ah Ab Ak : Option Addr) (ch cb ck : Nat) (w : World) (hh : Rd w 1 Ah 8 ch (s.list.map wv)) (hb : Rd w 1 Ab 16 cb (bl.map wv)) (hk : Rd w 1 Ak 64 ck (kon.map wv)) :
    Calls Tryd.prog 26 #[.slice Ah 8 ch, .slice Ab 16 cb, .slice Ak 64 ck] w fun e w' => ∃ g, e = .returned (.slice (some ⟨g, 0, none⟩) 8 8) ∧ Blk w' g 42 ((stp s bl).list.map wv) ∧ Below w.heap.size w w' := by
  have hbl : bl.length = 16 := hb.len.symm
  obtain ⟨i0, hi0, hz0, hz1, hz2⟩ := info_parts u32_info
  obtain ⟨hB, ho, rfl, hhl, hhc⟩ := hh.addr (by simp [St.list])
  obtain ⟨bB, bo, rfl, hbbl, hbc⟩ := hb.addr (by rw [List.length_map]; omega)
  obtain ⟨kB, ko, rfl, hkl, hkc⟩ := hk.addr (by rw [List.length_map, kon_length]; omega)
  have hb0 := (Below.refl w.heap.size w).alloc (Nat.le_refl _) (.cells #[] 42)
  have hown0 : (w.alloc (.cells #[] 42)).ownsRow w.heap.size 42 1 (.slice (some ⟨w.heap.size, 0, none⟩) 0 0) 0 [] :=
    ⟨rfl, .inr ⟨w.heap.size, 0, #[], rfl, Nat.le_refl _, heap_alloc_new w _, Nat.le_refl _, by simp [maxLen], rfl, rfl⟩⟩
  have hrb := hb.below hb0
  have hone : ∀ y ∈ bl.map wv, y.oneCell' = true := by
    intro y hy
    obtain ⟨x, _, rfl⟩ := List.mem_map.1 hy
    rfl
  have Hone := Lib.hid hone
  have HBL := Lib.hid hbl
  have HHC := Lib.hid hhc
  have HKC := Lib.hid hkc
  clear hone hbl hhc hbc hkc
  go_enter Tryd.func26, Tryd.ntmps26
  go_wp2_with (at_builtin; refine wpList_appendR rfl (.tmp 22) (.tmp 23) _ rfl Tryd.underlying22 hi0 hz0 hz1 hz2 rfl (by omega) _ 0 [] rfl hown0 hrb (fun h => by cases h) Hone.out rfl (by omega) (by simp [maxLen]) hb0.size ?_; rintro v1 w1 ⟨hown1, hb1⟩; rw [Nat.zero_add, List.nil_append] at hown1)
  have hbel := hb0.trans hb1
  clear hb0 hb1 hown0 hrb
  go_loopw [7, 8, 9, 10] (fun v _ _ _ wr => ∃ t : Nat, 16 ≤ t ∧ t ≤ 64 ∧ wr.ownsRow w.heap.size 42 1 v t ((sch bl (t - 16)).map wv) ∧ Below w.heap.size w wr) (fun v _ _ _ _ => 64 - slen v)
  case atStart => exact ⟨16, by omega, by omega, by have e : sch bl (16 - 16) = bl := (by unfold sch; rfl); rw [e]; exact hown1, hbel⟩
  case round =>
    clear hown1 hbel
    obtain ⟨t, ht0, ht1, hown, hbel⟩ := hrel
    obtain ⟨g, cap, rfl, hg, hglt⟩ := hown.form (by omega)
    by_cases hlt : t < 64
    · have v0 := (hown.cellAt (t - 16) (by omega)).trans (sch_at bl HBL.out t (t - 16) ht0 (by omega))
      have v1 := (hown.cellAt (t - 7) (by omega)).trans (sch_at bl HBL.out t (t - 7) ht0 (by omega))
      have v2 := (hown.cellAt (t - 15) (by omega)).trans (sch_at bl HBL.out t (t - 15) ht0 (by omega))
      have v3 := (hown.cellAt (t - 2) (by omega)).trans (sch_at bl HBL.out t (t - 2) ht0 (by omega))
      have h5 := nxt_ref (sch bl (t - 16)) t _ _ rfl rfl
      have h6 := sch_next bl t ht0
      rw [← h5] at h6
      generalize (sch bl (t - 16)).getD (t - 16) 0 = x0 at *
      generalize (sch bl (t - 16)).getD (t - 7) 0 = x1 at *
      generalize (sch bl (t - 16)).getD (t - 15) 0 = x2 at *
      generalize (sch bl (t - 16)).getD (t - 2) 0 = x3 at *
      have H6 := Lib.hid h6
      clear h5 h6
      have a0 : IntKind.i64.wrap ((t : Int) - 16) = (t : Int) - 16 := IntWalk.i64_in _ (by omega)
      have a1 : IntKind.i64.wrap ((t : Int) - 7) = (t : Int) - 7 := IntWalk.i64_in _ (by omega)
      have a2 : IntKind.i64.wrap ((t : Int) - 15) = (t : Int) - 15 := IntWalk.i64_in _ (by omega)
      have a3 : IntKind.i64.wrap ((t : Int) - 2) = (t : Int) - 2 := IntWalk.i64_in _ (by omega)
      have n0 : ((t : Int) - 16).toNat = t - 16 := by omega
      have n1 : ((t : Int) - 7).toNat = t - 7 := by omega
      have n2 : ((t : Int) - 15).toNat = t - 15 := by omega
      have n3 : ((t : Int) - 2).toNat = t - 2 := by omega
      have b0 : (0 : Int) ≤ (t : Int) - 16 ∧ (0 : Int) ≤ (t : Int) - 7 ∧ (0 : Int) ≤ (t : Int) - 15 ∧ (0 : Int) ≤ (t : Int) - 2 := by omega
      obtain ⟨b0, b1, b2, b3⟩ := b0
      have e0 : (16 : Int) ≤ t ∧ (7 : Int) ≤ t ∧ (15 : Int) ≤ t ∧ (2 : Int) ≤ t := by omega
      obtain ⟨e0, e1, e2, e3⟩ := e0
      have d0 : (t : Int) - 16 < t ∧ (t : Int) - 7 < t ∧ (t : Int) - 15 < t ∧ (t : Int) - 2 < t ∧ (t : Int) < 64 := by omega
      obtain ⟨d0, d1, d2, d3, d4⟩ := d0
      go_wp2
      refine wp_region_still_lit (by kernel_rfl) (by kernel_rfl) ?_
      repeat still_step
      still_call (rotated_st _ _ _ (by omega) (by omega))
      repeat still_step
      still_call (rotated_st _ _ _ (by omega) (by omega))
      repeat still_step
      refine wpStill_nil ?_
      change Exit.then _ _ Exit.normal _ wr.drew
      replace v0 : wr.drew.cell? ⟨g, t - 16, none⟩ = some (.int .u32 (u x0)) := v0
      replace v1 : wr.drew.cell? ⟨g, t - 7, none⟩ = some (.int .u32 (u x1)) := v1
      replace v3 : wr.drew.cell? ⟨g, t - 2, none⟩ = some (.int .u32 (u x3)) := v3
      replace hown := own_drewN hown 1
      replace hbel := hbel.drew
      change wr.drew.ownsRow _ _ _ _ _ _ at hown
      clear v2
      generalize wr.drew = w2 at *
      go_wp2
      refine wp_region_still_lit (by kernel_rfl) (by kernel_rfl) ?_
      repeat still_step
      still_call (rotated_st _ _ _ (by omega) (by omega))
      repeat still_step
      still_call (rotated_st _ _ _ (by omega) (by omega))
      repeat still_step
      refine wpStill_nil ?_
      change Exit.then _ _ Exit.normal _ w2.drew
      replace v0 : w2.drew.cell? ⟨g, t - 16, none⟩ = some (.int .u32 (u x0)) := v0
      replace v1 : w2.drew.cell? ⟨g, t - 7, none⟩ = some (.int .u32 (u x1)) := v1
      replace hown := own_drewN hown 1
      replace hbel := hbel.drew
      change w2.drew.ownsRow _ _ _ _ _ _ at hown
      clear v3
      generalize w2.drew = w3 at *
      go_wp2
      go_region_law (refine step_append1 rfl (.tmp 70) (.tmp 86) _ rfl Tryd.underlying22 hi0 hz0 hz1 hz2 rfl (by omega) (.slice (some ⟨g, 0, none⟩) t cap) t _ (by simp [Act.eval]) (w0 := w3.drew) (own_drewN hown 1) [.int .u32 (u (x0 + (rotr x2 7 ^^^ rotr x2 18 ^^^ x2 >>> 3) + x1 + (rotr x3 17 ^^^ rotr x3 19 ^^^ x3 >>> 10)))] rfl (by intro y hy; rw [List.mem_singleton] at hy; subst hy; rfl) (by simp [Act.eval]) (by omega) (by unfold maxLen; omega) hbel.drew.size ?_; rintro v9 w9 hap9)
      all_goals
        obtain ⟨hown9, hb9, _, _⟩ := hap9
        obtain ⟨g9, cap9, rfl, _, _⟩ := hown9.form (by omega)
        rw [H6.out] at hown9
        go_wp2
        refine ⟨?_, ?_⟩
        · repeat apply Exists.intro
          exact ⟨⟨t + 1, by omega, by omega, hown9, hbel.drew.trans hb9⟩, rfl⟩
        · show 64 - (t + 1) < 64 - t
          omega
    · have ht : t = 64 := by omega
      have hdt : decide ((t : Int) < 64) = false := by simp; omega
      obtain ⟨W, hW⟩ : ∃ W, W = sch bl 48 := ⟨_, rfl⟩
      have hWl : 64 ≤ W.length := by rw [hW, sch_length bl HBL.out 48]; omega
      have hl48 : sch bl (t - 16) = W := by rw [hW, ht]
      have hown' := hown
      rw [hl48] at hown'
      have HO := Lib.hid hown'
      have HW := Lib.hid hW.symm
      have ht4 : 64 ≤ t := by omega
      have ht5 : (64 : Int) ≤ t := by omega
      clear hW ht hown hown' hl48
      have y0 : wr.cell? ⟨hB, ho, none⟩ = some (.int .u32 (u s.a)) := (hbel.cell (p := ⟨hB, ho, none⟩) hhl).trans (HHC.out 0 _ rfl)
      have y1 : wr.cell? ⟨hB, ho + 1, none⟩ = some (.int .u32 (u s.b)) := (hbel.cell (p := ⟨hB, ho + 1, none⟩) hhl).trans (HHC.out 1 _ rfl)
      have y2 : wr.cell? ⟨hB, ho + 2, none⟩ = some (.int .u32 (u s.c)) := (hbel.cell (p := ⟨hB, ho + 2, none⟩) hhl).trans (HHC.out 2 _ rfl)
      have y3 : wr.cell? ⟨hB, ho + 3, none⟩ = some (.int .u32 (u s.d)) := (hbel.cell (p := ⟨hB, ho + 3, none⟩) hhl).trans (HHC.out 3 _ rfl)
      have y4 : wr.cell? ⟨hB, ho + 4, none⟩ = some (.int .u32 (u s.e)) := (hbel.cell (p := ⟨hB, ho + 4, none⟩) hhl).trans (HHC.out 4 _ rfl)
      have y5 : wr.cell? ⟨hB, ho + 5, none⟩ = some (.int .u32 (u s.f)) := (hbel.cell (p := ⟨hB, ho + 5, none⟩) hhl).trans (HHC.out 5 _ rfl)
      have y6 : wr.cell? ⟨hB, ho + 6, none⟩ = some (.int .u32 (u s.g)) := (hbel.cell (p := ⟨hB, ho + 6, none⟩) hhl).trans (HHC.out 6 _ rfl)
      have y7 : wr.cell? ⟨hB, ho + 7, none⟩ = some (.int .u32 (u s.h)) := (hbel.cell (p := ⟨hB, ho + 7, none⟩) hhl).trans (HHC.out 7 _ rfl)
      go_wp2
      refine wp_region_still_lit (by kernel_rfl) (by kernel_rfl) ?_
      repeat still_step
      refine wpStill_nil ?_
      change Exit.then _ _ Exit.normal _ wr.drew
      clear y0 y1 y2 y3 y4 y5 y6 y7
      have HO2 := Lib.hid (own_drewN HO.out 1)
      change Hid (wr.drew.ownsRow _ _ _ _ _ _) at HO2
      replace hbel := hbel.drew
      clear HO
      generalize wr.drew = wa at *
      go_wp2
      go_loopw [11, 12, 13, 14, 15, 16, 17, 18, 19, 20, 21] (fun ra rb rc rd re rf rg rh q _ _ wr => ∃ (k : Nat) (v : St), Hid (v = rnds s W k) ∧ k ≤ 64 ∧ q = .int .i64 k ∧ ra = .int .u32 (u v.a) ∧ rb = .int .u32 (u v.b) ∧ rc = .int .u32 (u v.c) ∧ rd = .int .u32 (u v.d) ∧ re = .int .u32 (u v.e) ∧ rf = .int .u32 (u v.f) ∧ rg = .int .u32 (u v.g) ∧ rh = .int .u32 (u v.h) ∧ wr.ownsRow w.heap.size 42 1 (.slice (some ⟨g, 0, none⟩) t cap) t (W.map wv) ∧ Below w.heap.size w wr) (fun _ _ _ _ _ _ _ _ q _ _ _ => 64 - (intOf q).toNat)
      case atStart => exact ⟨0, s, (rnds_zero s W).symm, by omega, rfl, rfl, rfl, rfl, rfl, rfl, rfl, rfl, rfl, HO2.out, hbel⟩
      case round =>
        clear hbel HO2
        obtain ⟨k, v, Hv, hk64, rfl, rfl, rfl, rfl, rfl, rfl, rfl, rfl, rfl, hown, hbel⟩ := hrel
        by_cases hlt : k < 64
        · have hwk : wr.cell? ⟨g, k, none⟩ = some (.int .u32 (u (W.getD k 0))) := (hown.cellAt k (by omega)).trans (by rw [List.getElem?_map, List.getElem?_eq_getElem (by omega), getD_lt (by omega)]; rfl)
          have hkk : wr.cell? ⟨kB, ko + k, none⟩ = some (.int .u32 (u (kon.getD k 0))) := (hbel.cell (p := ⟨kB, ko + k, none⟩) hkl).trans (HKC.out k _ (by rw [List.getElem?_map, List.getElem?_eq_getElem (by rw [kon_length]; omega), getD_lt (by rw [kon_length]; omega)]; rfl))
          have hrn := rnds_succ s W k
          rw [← Hv.out] at hrn
          have Hrn := Lib.hid hrn.symm
          clear hrn
          generalize W.getD k 0 = xw at *
          generalize kon.getD k 0 = xk at *
          have g1 := Lib.hid (t1_ref v xk xw)
          have g2 := Lib.hid (t2_ref v)
          have q3 : (k : Int) < 64 := by omega
          have q4 : (k : Int) < t := by omega
          go_wp2
          refine wp_region_still_lit (by kernel_rfl) (by kernel_rfl) ?_
          repeat still_step
          still_call (rotated_st _ _ _ (by omega) (by omega))
          repeat still_step
          still_call (rotated_st _ _ _ (by omega) (by omega))
          repeat still_step
          still_call (rotated_st _ _ _ (by omega) (by omega))
          repeat still_step
          refine wpStill_nil ?_
          change Exit.then _ _ Exit.normal _ wr.drew
          rw [g1.out]
          replace hown := own_drewN hown 1
          replace hbel := hbel.drew
          change wr.drew.ownsRow _ _ _ _ _ _ at hown
          clear hwk hkk
          generalize wr.drew = w2 at *
          go_wp2_with ((with_reducible refine (rotated_st _ _ _ (by omega) (by omega)).mono ?_); rintro e w' ⟨rfl, rfl⟩)
          go_roundw
          case rel => exact ⟨k + 1, rnd v xk xw, Hrn.out, by omega, by go_num, (by rw [g2.out]; rfl), rfl, rfl, rfl, rfl, rfl, rfl, rfl, hown, hbel⟩
          case measure => simp [intOf]; omega
        · have hk' : k = 64 := by omega
          have hfin : stp s bl = s.add v := by rw [stp_eq, HW.out, Hv.out, hk']
          have Hfin := Lib.hid hfin
          have hdk : decide ((k : Int) < 64) = false := by simp; omega
          clear hk' hfin hown
          have y0 : wr.cell? ⟨hB, ho, none⟩ = some (.int .u32 (u s.a)) := (hbel.cell (p := ⟨hB, ho, none⟩) hhl).trans (HHC.out 0 _ rfl)
          have y1 : wr.cell? ⟨hB, ho + 1, none⟩ = some (.int .u32 (u s.b)) := (hbel.cell (p := ⟨hB, ho + 1, none⟩) hhl).trans (HHC.out 1 _ rfl)
          have y2 : wr.cell? ⟨hB, ho + 2, none⟩ = some (.int .u32 (u s.c)) := (hbel.cell (p := ⟨hB, ho + 2, none⟩) hhl).trans (HHC.out 2 _ rfl)
          have y3 : wr.cell? ⟨hB, ho + 3, none⟩ = some (.int .u32 (u s.d)) := (hbel.cell (p := ⟨hB, ho + 3, none⟩) hhl).trans (HHC.out 3 _ rfl)
          have y4 : wr.cell? ⟨hB, ho + 4, none⟩ = some (.int .u32 (u s.e)) := (hbel.cell (p := ⟨hB, ho + 4, none⟩) hhl).trans (HHC.out 4 _ rfl)
          have y5 : wr.cell? ⟨hB, ho + 5, none⟩ = some (.int .u32 (u s.f)) := (hbel.cell (p := ⟨hB, ho + 5, none⟩) hhl).trans (HHC.out 5 _ rfl)
          have y6 : wr.cell? ⟨hB, ho + 6, none⟩ = some (.int .u32 (u s.g)) := (hbel.cell (p := ⟨hB, ho + 6, none⟩) hhl).trans (HHC.out 6 _ rfl)
          have y7 : wr.cell? ⟨hB, ho + 7, none⟩ = some (.int .u32 (u s.h)) := (hbel.cell (p := ⟨hB, ho + 7, none⟩) hhl).trans (HHC.out 7 _ rfl)
          go_wp2
          refine wp_region_still_tail 40 (by kernel_rfl) (by kernel_rfl) ?_
          simp only [List.take_succ_cons, List.take_zero, List.drop_succ_cons, List.drop_zero]
          repeat still_step
          refine wpStill_nil ?_
          change wpList _ _ _ _ _ wr.drew
          clear y0 y1 y2 y3 y4 y5 y6 y7
          replace hbel := hbel.drew
          generalize wr.drew = w2 at *
          go_wp2
          go_ret
          exact ⟨_, rfl, by rw [Hfin.out]; exact Blk.new w2 _ ((s.add v).list.map wv), hbel.alloc hbel.size _⟩
end Go.Proofs.YtbadpiennobdmaaDoor

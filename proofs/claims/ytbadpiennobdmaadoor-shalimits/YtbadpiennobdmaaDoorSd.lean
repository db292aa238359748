/- SHA-256, one block: what the statements' own function returns. -/
import Derived.Test.YtbadpiennobdmaaDoorRot
import Derived.Test.YtbadpiennobdmaaDoorShp
import Derived.StillTailTactics
import Derived.Deep.QuietTactic
import Derived.BigQuiet
namespace Go.Proofs.YtbadpiennobdmaaDoor
open Go.RowKit
attribute [local irreducible] sch rnds kon nxt t1 t2 rotl rotr
theorem Blk.newAt {w : World} {t : TypeId} {g : Nat} (xs : List Value) (h : g = w.heap.size) : Blk (w.alloc (.cells xs.toArray t)) g t xs := by subst h; exact Blk.new w t xs
/-- the eight cells of a state -/
theorem Blk.eight {wr : World} {g : Nat} {t : TypeId} {v : St} (h : Blk wr g t (v.list.map wv)) :
    (wr.cell? ⟨g, 0, none⟩ = some (.int .u32 (u v.a)) ∧ wr.cell? ⟨g, 1, none⟩ = some (.int .u32 (u v.b)) ∧ wr.cell? ⟨g, 2, none⟩ = some (.int .u32 (u v.c)) ∧ wr.cell? ⟨g, 3, none⟩ = some (.int .u32 (u v.d)) ∧
    wr.cell? ⟨g, 4, none⟩ = some (.int .u32 (u v.e)) ∧ wr.cell? ⟨g, 5, none⟩ = some (.int .u32 (u v.f)) ∧ wr.cell? ⟨g, 6, none⟩ = some (.int .u32 (u v.g)) ∧ wr.cell? ⟨g, 7, none⟩ = some (.int .u32 (u v.h))) ∧
    (∀ i, wr.frozen? ⟨g, i, none⟩ = false) :=
  ⟨⟨h.cell 0, h.cell 1, h.cell 2, h.cell 3, h.cell 4, h.cell 5, h.cell 6, h.cell 7⟩, h.frozen⟩
/-- the three blocks that the function makes at its start -/
def Three (w wr : World) (L0 L2 : List Value) : Prop :=
  Blk wr w.heap.size 43 L0 ∧ Blk wr (w.heap.size + 1) 43 (reps 8 (.int .u32 0)) ∧ Blk wr (w.heap.size + 1 + 1) 44 L2 ∧ Below w.heap.size w wr
theorem Three.drew {w wr : World} {L0 L2 : List Value} (h : Three w wr L0 L2) : Three w wr.drew L0 L2 := ⟨h.1, h.2.1, h.2.2.1, h.2.2.2.drew⟩
theorem Three.drewN {w wr : World} {L0 L2 : List Value} (h : Three w wr L0 L2) (n : Nat) : Three w (wr.drewN n) L0 L2 := ⟨h.1, h.2.1, h.2.2.1, below_drewN h.2.2.2 n⟩
theorem Three.put2 {w wr : World} {L0 L2 : List Value} (h : Three w wr L0 L2) (i : Nat) (v : Value) : Three w (wr.setCell ⟨w.heap.size + 1 + 1, i, none⟩ v) L0 (L2.set i v) :=
  ⟨h.1.far (by simp; omega) _, h.2.1.far (by simp) _, h.2.2.1.put i v, h.2.2.2.setCell (p := ⟨w.heap.size + 1 + 1, i, none⟩) (by simp; omega) _⟩
theorem Three.put0 {w wr : World} {L0 L2 : List Value} (h : Three w wr L0 L2) (i : Nat) (v : Value) : Three w (wr.setCell ⟨w.heap.size, i, none⟩ v) (L0.set i v) L2 :=
  ⟨h.1.put i v, h.2.1.far (by simp) _, h.2.2.1.far (by simp; omega) _, h.2.2.2.setCell (p := ⟨w.heap.size, i, none⟩) (by simp) _⟩
theorem Three.far {w wr : World} {L0 L2 : List Value} (h : Three w wr L0 L2) (g i : Nat) (v : Value) (hg : w.heap.size + 1 + 1 < g) : Three w (wr.setCell ⟨g, i, none⟩ v) L0 L2 :=
  ⟨h.1.far (by simp; omega) _, h.2.1.far (by simp; omega) _, h.2.2.1.far (by simp; omega) _, h.2.2.2.setCell (p := ⟨g, i, none⟩) (by simp; omega) _⟩
theorem Three.alloc {w wr : World} {L0 L2 : List Value} (h : Three w wr L0 L2) (o : Obj) : Three w (wr.alloc o) L0 L2 :=
  ⟨h.1.alloc o, h.2.1.alloc o, h.2.2.1.alloc o, h.2.2.2.alloc h.2.2.2.size o⟩
set_option maxRecDepth 100000 in
set_option maxHeartbeats 4000000 in
theorem hashed_any (s : St) (A B : Option Addr) (n c d : Nat) (l : List UInt8) (w : World) (hr : Rd w 1 A n c (l.map bv8)) (hn : 64 ≤ n) (hk : Rd w 1 B 64 d (kon.map wv)) :
    Calls Tryd.prog 44 #[.agg #[.int .u32 (u s.a), .int .u32 (u s.b), .int .u32 (u s.c), .int .u32 (u s.d), .int .u32 (u s.e), .int .u32 (u s.f), .int .u32 (u s.g), .int .u32 (u s.h)], .slice A n c, .slice B 64 d] w fun e w' => e = .returned (.agg ((stpB s (l.take 64)).list.map wv).toArray) ∧ Below w.heap.size w w' := by
  obtain rfl := hr.len
  have hlm := hr.2.2.1
  have hlc := hr.2.1
  unfold maxLen at hlm
  obtain ⟨b, off, rfl, hbl, hcell⟩ := hr.addr (by simp; omega)
  obtain ⟨kb, ko, rfl, hkl, hkc⟩ := hk.addr (by simp [kon_length])
  have HC := Lib.hid hcell
  have HK := Lib.hid hkc
  clear hcell hkc
  go_enter Tryd.func44, Tryd.ntmps44
  go_wp2
  go_loopw [8, 19] (fun _ i wr => ∃ k : Nat, k ≤ 64 ∧ i = .int .i64 k ∧ Three w wr (s.list.map wv) (fillW l k)) (fun _ i _ => 64 - (intOf i).toNat)
  case atStart => exact ⟨0, by omega, rfl, ((Blk.new w _ (s.list.map wv)).alloc _).alloc _, (Blk.newAt (reps 8 (.int .u32 0)) (by simp)).alloc _, (by rw [fillW_zero]; exact Blk.newAt (reps 64 (.int .u32 0)) (by simp)), (((Below.refl w.heap.size w).alloc (Nat.le_refl _) _).alloc (by simp) _).alloc (by simp; omega) _⟩
  case round =>
    obtain ⟨k, hk64, rfl, h3⟩ := hrel
    by_cases hlt : k < 64
    · obtain ⟨z, hz0, hz1⟩ := fillW_step l k hlt (by omega)
      have h0 : wr.cell? ⟨b, off + k, none⟩ = some (.int .u8 (y8 (l[k]'(by omega)))) := (h3.2.2.2.cell (p := ⟨b, off + k, none⟩) hbl).trans (HC.out k _ (by rw [List.getElem?_map, List.getElem?_eq_getElem (by omega)]; rfl))
      have h1 : wr.cell? ⟨w.heap.size + 1 + 1, k / 4, none⟩ = some (.int .u32 (u z)) := (h3.2.2.1.cell _).trans hz0
      have hfr := h3.2.2.1.frozen (k / 4)
      have qt : (k : Int).tdiv 4 = (k : Int) / 4 := Int.tdiv_eq_ediv_of_nonneg (by omega)
      have qw : IntKind.i64.wrap ((k : Int) / 4) = (k : Int) / 4 := IntWalk.i64_in _ (by omega)
      have q0 : ((k : Int) / 4).toNat = k / 4 := by omega
      have q1 : 0 ≤ (k : Int) / 4 := by omega
      have q2 : (k : Int) / 4 < 64 := by omega
      have q3 : (k : Int) < l.length := by omega
      have h3' := h3.drew.put2 (k / 4) (.int .u32 (u (z <<< 8 ||| w8 (l[k]'(by omega)))))
      rw [hz1] at h3'
      have H3 := Lib.hid h3'
      clear h3' hz0 hz1 h3
      go_wp2
      go_still_tail 14, (by kernel_rfl)
      change wpList _ _ _ _ _ wr.drew
      go_wp2
      go_roundw
      case rel => exact ⟨k + 1, by omega, by go_num, H3.out⟩
      case measure => simp [intOf]; omega
    · have hk : k = 64 := by omega
      rw [hk, fillW_end l hn] at h3
      have hdk : decide ((k : Int) < 64) = false := by simp; omega
      clear hk
      go_wp2
      have hb16 := words64_length l hn
      generalize hbb : words (l.take 64) = bw at *
      have Hb := Lib.hid hb16
      have HBB := Lib.hid hbb
      clear hb16 hbb
      go_loopw [9, 10, 11] (fun t _ _ wr => ∃ k : Nat, 16 ≤ k ∧ k ≤ 64 ∧ t = .int .i64 k ∧ Three w wr (s.list.map wv) (fillS bw k)) (fun t _ _ _ => 64 - (intOf t).toNat)
      case atStart => exact ⟨16, by omega, by omega, rfl, by rw [fillS_start]; exact h3⟩
      case round =>
        obtain ⟨t, ht0, ht1, rfl, h3⟩ := hrel
        by_cases hlt : t < 64
        · have v0 := fillS_at bw Hb.out t (t - 16) ht0 (by omega)
          have v1 := fillS_at bw Hb.out t (t - 7) ht0 (by omega)
          have v2 := fillS_at bw Hb.out t (t - 15) ht0 (by omega)
          have v3 := fillS_at bw Hb.out t (t - 2) ht0 (by omega)
          have v4 := fillS_free bw Hb.out t ht0 hlt
          have h5 := nxt_walk (sch bw (t - 16)) t _ _ rfl rfl
          have h6 := fillS_step bw Hb.out t ht0 hlt
          rw [← h5] at h6
          generalize (sch bw (t - 16)).getD (t - 16) 0 = x0 at *
          generalize (sch bw (t - 16)).getD (t - 7) 0 = x1 at *
          generalize (sch bw (t - 16)).getD (t - 15) 0 = x2 at *
          generalize (sch bw (t - 16)).getD (t - 2) 0 = x3 at *
          clear h5
          have c0 := (h3.2.2.1.cell (t - 16)).trans v0
          have c1 := (h3.2.2.1.cell (t - 7)).trans v1
          have c2 := (h3.2.2.1.cell (t - 15)).trans v2
          have c3 := (h3.2.2.1.cell (t - 2)).trans v3
          have c4 := (h3.2.2.1.cell t).trans v4
          have f4 := h3.2.2.1.frozen t
          have p0 := h3.put2 t (.int .u32 (u (x0 + x1 + (rotl x2 25 ^^^ rotl x2 14 ^^^ x2 >>> 3) + (rotl x3 15 ^^^ rotl x3 13 ^^^ x3 >>> 10))))
          rw [h6] at p0
          have P := Lib.hid p0
          clear v0 v1 v2 v3 v4 h6 p0 h3
          have a0 : IntKind.i64.wrap ((t : Int) - 16) = (t : Int) - 16 := IntWalk.i64_in _ (by omega)
          have a1 : IntKind.i64.wrap ((t : Int) - 7) = (t : Int) - 7 := IntWalk.i64_in _ (by omega)
          have a2 : IntKind.i64.wrap ((t : Int) - 15) = (t : Int) - 15 := IntWalk.i64_in _ (by omega)
          have a3 : IntKind.i64.wrap ((t : Int) - 2) = (t : Int) - 2 := IntWalk.i64_in _ (by omega)
          have n0 : ((t : Int) - 16).toNat = t - 16 := by omega
          have n1 : ((t : Int) - 7).toNat = t - 7 := by omega
          have n2 : ((t : Int) - 15).toNat = t - 15 := by omega
          have n3 : ((t : Int) - 2).toNat = t - 2 := by omega
          have b0 : (0 : Int) ≤ (t : Int) - 16 ∧ (0 : Int) ≤ (t : Int) - 7 ∧ (0 : Int) ≤ (t : Int) - 15 ∧ (0 : Int) ≤ (t : Int) - 2 := by omega
          obtain ⟨b0, b1, b2, b3⟩ := b0
          have e0 : (16 : Int) ≤ t ∧ (7 : Int) ≤ t ∧ (15 : Int) ≤ t ∧ (2 : Int) ≤ t := by omega
          obtain ⟨e0, e1, e2, e3⟩ := e0
          have d0 : (t : Int) - 16 < 64 ∧ (t : Int) - 7 < 64 ∧ (t : Int) - 15 < 64 ∧ (t : Int) - 2 < 64 ∧ (t : Int) < 64 := by omega
          obtain ⟨d0, d1, d2, d3, d4⟩ := d0
          go_wp2
          go_quiet (fail)
          go_wp2
          have c0' : (wr.drewN nq).cell? ⟨w.heap.size + 1 + 1, t - 16, none⟩ = some (.int .u32 (u x0)) := c0
          have c1' : (wr.drewN nq).cell? ⟨w.heap.size + 1 + 1, t - 7, none⟩ = some (.int .u32 (u x1)) := c1
          have c4' : (wr.drewN nq).cell? ⟨w.heap.size + 1 + 1, t, none⟩ = some (.int .u32 0) := c4
          have f4' : (wr.drewN nq).frozen? ⟨w.heap.size + 1 + 1, t, none⟩ = false := f4
          have P0 : Three w ((wr.drewN nq).setCell _ _) _ _ := P.out.drewN nq
          clear c0 c1 c2 c3 c4 f4 P
          generalize wr.drewN nq = w2 at *
          have P' := Lib.hid P0
          clear P0
          refine wp_region_still_tail 29 (by kernel_rfl) (by kernel_rfl) ?_
          simp only [List.take_succ_cons, List.take_zero, List.drop_succ_cons, List.drop_zero]
          repeat still_step
          still_call (rotl_st _ _ _)
          repeat still_step
          still_call (rotl_st _ _ _)
          repeat still_step
          still_call (rotl_st _ _ _)
          repeat still_step
          still_call (rotl_st _ _ _)
          repeat still_step
          refine wpStill_nil ?_
          change wpList _ _ _ _ _ w2.drew
          have P2 := Lib.hid P'.out.drew
          clear a0 a1 a2 a3 n0 n1 n2 n3 P' c0' c1'
          go_wp2
          go_roundw
          case rel => exact ⟨t + 1, by omega, by omega, by go_num, P2.out⟩
          case measure => simp [intOf]; omega
        · have hk : t = 64 := by omega
          rw [hk, fillS_end] at h3
          have hdt : decide ((t : Int) < 64) = false := by simp; omega
          clear hk
          have hWl := sch_length bw Hb.out 48
          generalize hW : sch bw 48 = W at *
          have HW := Lib.hid hW
          have HWl := Lib.hid hWl
          clear hW hWl
          rename World => wa
          obtain ⟨⟨y0, y1, y2, y3, y4, y5, y6, y7⟩, yf⟩ := h3.1.eight
          clear yf
          have hga : w.heap.size + 1 + 1 < wa.heap.size := h3.2.2.1.lt
          go_wp2
          go_loopw [13, 14, 15, 16, 17, 79] (fun _ _ _ _ _ i wr => ∃ k : Nat, k ≤ 64 ∧ i = .int .i64 k ∧ Three w wr (s.list.map wv) (W.map wv) ∧ Blk wr wa.heap.size 43 ((rnds s W k).list.map wv)) (fun _ _ _ _ _ i _ => 64 - (intOf i).toNat)
          case atStart => exact ⟨0, by omega, rfl, h3.alloc _, by rw [rnds_zero]; exact Blk.new wa _ (s.list.map wv)⟩
          case round =>
            clear y0 y1 y2 y3 y4 y5 y6 y7 h3
            obtain ⟨k, hk64, rfl, h3, hv⟩ := hrel
            by_cases hlt : k < 64
            · have hwk : wr.cell? ⟨w.heap.size + 1 + 1, k, none⟩ = some (.int .u32 (u (W.getD k 0))) := (h3.2.2.1.cell k).trans (by rw [List.getElem?_map, List.getElem?_eq_getElem (by have := HWl.out; omega), getD_lt (by have := HWl.out; omega)]; rfl)
              have hkk : wr.cell? ⟨kb, ko + k, none⟩ = some (.int .u32 (u (kon.getD k 0))) := (h3.2.2.2.cell (p := ⟨kb, ko + k, none⟩) hkl).trans (HK.out k _ (by rw [List.getElem?_map, List.getElem?_eq_getElem (by rw [kon_length]; omega), getD_lt (by rw [kon_length]; omega)]; rfl))
              have hrn := Lib.hid (rnds_succ s W k)
              generalize rnds s W k = v at *
              generalize W.getD k 0 = xw at *
              generalize kon.getD k 0 = xk at *
              have g1 := Lib.hid (t1_walk v xk xw)
              have g2 := Lib.hid (t2_walk v)
              have q3 : (k : Int) < 64 := by omega
              obtain ⟨⟨y0, y1, y2, y3, y4, y5, y6, y7⟩, yf⟩ := hv.eight
              clear yf
              go_wp2
              refine wp_region_still_lit (by kernel_rfl) (by kernel_rfl) ?_
              repeat still_step
              refine wpStill_nil ?_
              change Exit.then _ _ Exit.normal _ wr.drew
              clear y0 y1 y2 y3 y4 y5 y6 y7
              replace hv := hv.drew
              replace h3 := h3.drew
              replace hwk : wr.drew.cell? ⟨w.heap.size + 1 + 1, k, none⟩ = some (.int .u32 (u xw)) := hwk
              replace hkk : wr.drew.cell? ⟨kb, ko + k, none⟩ = some (.int .u32 (u xk)) := hkk
              generalize wr.drew = w2 at *
              obtain ⟨⟨y0, y1, y2, y3, y4, y5, y6, y7⟩, yf⟩ := hv.eight
              clear yf
              go_wp2
              refine wp_region_still_lit (by kernel_rfl) (by kernel_rfl) ?_
              repeat still_step
              still_call (rotl_st _ _ _)
              repeat still_step
              still_call (rotl_st _ _ _)
              repeat still_step
              still_call (rotl_st _ _ _)
              repeat still_step
              refine wpStill_nil ?_
              change Exit.then _ _ Exit.normal _ w2.drew
              clear y0 y1 y2 y3 y4 y5 y6 y7
              replace hv := hv.drew
              replace h3 := h3.drew
              replace hwk : w2.drew.cell? ⟨w.heap.size + 1 + 1, k, none⟩ = some (.int .u32 (u xw)) := hwk
              replace hkk : w2.drew.cell? ⟨kb, ko + k, none⟩ = some (.int .u32 (u xk)) := hkk
              generalize w2.drew = w3 at *
              obtain ⟨⟨y0, y1, y2, y3, y4, y5, y6, y7⟩, yf⟩ := hv.eight
              clear yf
              go_wp2
              refine wp_region_still_lit (by kernel_rfl) (by kernel_rfl) ?_
              repeat still_step
              still_call (rotl_st _ _ _)
              repeat still_step
              still_call (rotl_st _ _ _)
              repeat still_step
              still_call (rotl_st _ _ _)
              repeat still_step
              refine wpStill_nil ?_
              change Exit.then _ _ Exit.normal _ w3.drew
              clear y0 y1 y2 y3 y4 y5 y6 y7
              replace hv := hv.drew
              replace h3 := h3.drew
              replace hwk : w3.drew.cell? ⟨w.heap.size + 1 + 1, k, none⟩ = some (.int .u32 (u xw)) := hwk
              replace hkk : w3.drew.cell? ⟨kb, ko + k, none⟩ = some (.int .u32 (u xk)) := hkk
              generalize w3.drew = w4 at *
              obtain ⟨⟨y0, y1, y2, y3, y4, y5, y6, y7⟩, yf⟩ := hv.eight
              rw [g1.out, g2.out]
              have f0 := yf 0
              have f1 := yf 1
              have f2 := yf 2
              have f3 := yf 3
              have f4 := yf 4
              have f5 := yf 5
              have f6 := yf 6
              have f7 := yf 7
              clear yf hwk hkk
              go_wp2
              go_roundw
              case rel => exact ⟨k + 1, by omega, by go_num, ((((((((h3.far _ 0 _ hga).far _ 1 _ hga).far _ 2 _ hga).far _ 3 _ hga).far _ 4 _ hga).far _ 5 _ hga).far _ 6 _ hga).far _ 7 _ hga), by rw [hrn.out]; exact (((((((hv.put 0 _).put 1 _).put 2 _).put 3 _).put 4 _).put 5 _).put 6 _).put 7 _⟩
              case measure => simp [intOf]; omega
            · have hk : k = 64 := by omega
              rw [hk] at hv
              have hdv : decide ((k : Int) < 64) = false := by simp; omega
              clear hk
              generalize hV : rnds s W 64 = V at *
              have HV := Lib.hid hV
              have hfin : Hid (stpB s (l.take 64) = s.add V) := by
                show _ = _
                unfold stpB
                rw [HBB.out, stp_eq, HW.out, HV.out]
              clear hV
              go_wp2
              go_loopw [18, 160] (fun _ i wr => ∃ j : Nat, j ≤ 8 ∧ i = .int .i64 j ∧ Three w wr (fillA s V j) (W.map wv) ∧ Blk wr wa.heap.size 43 (V.list.map wv)) (fun _ i _ => 8 - (intOf i).toNat)
              case atStart => exact ⟨0, by omega, rfl, by rw [fillA_zero]; exact h3, hv⟩
              case round =>
                clear h3 hv
                obtain ⟨j, hj8, rfl, h3, hv⟩ := hrel
                by_cases hlt : j < 8
                · obtain ⟨x, y, e0, e1, e2⟩ := fillA_step s V j hlt
                  have c0 := (h3.1.cell j).trans e0
                  have c1 := (hv.cell j).trans e1
                  have f0 := h3.1.frozen j
                  have q3 : (j : Int) < 8 := by omega
                  have p0 := h3.drew.put0 j (.int .u32 (u (x + y)))
                  rw [e2] at p0
                  have P := Lib.hid p0
                  have V2 := Lib.hid (hv.drew.far (p := ⟨w.heap.size, j, none⟩) (by simp; omega) (.int .u32 (u (x + y))))
                  clear p0 e0 e1 e2 h3 hv
                  go_wp2
                  go_still_tail 8, (by kernel_rfl)
                  change wpList _ _ _ _ _ wr.drew
                  go_wp2
                  go_roundw
                  case rel => exact ⟨j + 1, by omega, by go_num, P.out, V2.out⟩
                  case measure => simp [intOf]; omega
                · have hk : j = 8 := by omega
                  rw [hk, fillA_end] at h3
                  have hdj : decide ((j : Int) < 8) = false := by simp; omega
                  clear hk hv
                  generalize hR : s.add V = R at *
                  have HR := Lib.hid hR
                  clear hR
                  obtain ⟨⟨y0, y1, y2, y3, y4, y5, y6, y7⟩, yf⟩ := h3.1.eight
                  have z0 : wr.cell? ⟨w.heap.size + 1, 0, none⟩ = some (.int .u32 0) := h3.2.1.cell 0
                  have z1 : wr.cell? ⟨w.heap.size + 1, 1, none⟩ = some (.int .u32 0) := h3.2.1.cell 1
                  have z2 : wr.cell? ⟨w.heap.size + 1, 2, none⟩ = some (.int .u32 0) := h3.2.1.cell 2
                  have z3 : wr.cell? ⟨w.heap.size + 1, 3, none⟩ = some (.int .u32 0) := h3.2.1.cell 3
                  have z4 : wr.cell? ⟨w.heap.size + 1, 4, none⟩ = some (.int .u32 0) := h3.2.1.cell 4
                  have z5 : wr.cell? ⟨w.heap.size + 1, 5, none⟩ = some (.int .u32 0) := h3.2.1.cell 5
                  have z6 : wr.cell? ⟨w.heap.size + 1, 6, none⟩ = some (.int .u32 0) := h3.2.1.cell 6
                  have z7 : wr.cell? ⟨w.heap.size + 1, 7, none⟩ = some (.int .u32 0) := h3.2.1.cell 7
                  have zf := h3.2.1.frozen
                  have f0 := zf 0
                  have f1 := zf 1
                  have f2 := zf 2
                  have f3 := zf 3
                  have f4 := zf 4
                  have f5 := zf 5
                  have f6 := zf 6
                  have f7 := zf 7
                  have hbel := h3.2.2.2
                  clear yf zf h3
                  go_wp2
                  refine bodyPost_ret (v := .agg #[.int .u32 (u R.a), .int .u32 (u R.b), .int .u32 (u R.c), .int .u32 (u R.d), .int .u32 (u R.e), .int .u32 (u R.f), .int .u32 (u R.g), .int .u32 (u R.h)]) (by simp [results, Tryd.results44, go_sem, z0, z1, z2, z3, z4, z5, z6, z7]) rfl ⟨by rw [hfin.out]; rfl, ?_⟩
                  exact (((((((hbel.setCell (p := ⟨w.heap.size + 1, 0, none⟩) (by simp) _).setCell (p := ⟨w.heap.size + 1, 1, none⟩) (by simp) _).setCell (p := ⟨w.heap.size + 1, 2, none⟩) (by simp) _).setCell (p := ⟨w.heap.size + 1, 3, none⟩) (by simp) _).setCell (p := ⟨w.heap.size + 1, 4, none⟩) (by simp) _).setCell (p := ⟨w.heap.size + 1, 5, none⟩) (by simp) _).setCell (p := ⟨w.heap.size + 1, 6, none⟩) (by simp) _).setCell (p := ⟨w.heap.size + 1, 7, none⟩) (by simp) _
end Go.Proofs.YtbadpiennobdmaaDoor

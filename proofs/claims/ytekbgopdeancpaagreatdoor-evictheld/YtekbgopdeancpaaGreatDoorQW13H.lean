/- The law EvictHeld: the walk. -/
import Derived.Test.YtekbgopdeancpaaGreatDoorQKv
import Derived.Test.YtekbgopdeancpaaGreatDoorQYf
import Derived.Test.YtekbgopdeancpaaGreatDoorQDgb
import Derived.Test.YtekbgopdeancpaaGreatDoorQTc
import Derived.Test.YtekbgopdeancpaaGreatDoorGU
import Derived.BigQuiet
import Derived.Deep.RegionHeldLaw
import Derived.Deep.CutBlock
import Derived.Deep.CutRange
namespace Go.Proofs.YtekbgopdeancpaaGreatDoor
open Go.RowKit
/-- a store and texts, held by two variables -/
def XVar (w0 : World) (L : List Bl) (M : List En) (r t : Int) (G : List (List UInt8)) (v p : Value) (wx : World) : Prop :=
  SVar w0 L M r t v wx ∧ ∃ P f, p = .slice P G.length f ∧ Rd wx 1 P G.length f (G.map sv)
theorem xv {w0 : World} {L : List Bl} {M : List En} {r t : Int} {G : List (List UInt8)} {v : Value} {wx : World} {P : Option Addr} {f : Nat} (h : SVar w0 L M r t v wx) (hp : Rd wx 1 P G.length f (G.map sv)) : XVar w0 L M r t G v (.slice P G.length f) wx := ⟨h, P, f, rfl, hp⟩
theorem rd_sto {w : World} {g f : Nat} {T : TypeId} {G : List (List UInt8)} {P : Option Addr} (hb : Blk w g T [.slice none 0 0, .slice none 0 0, .int .i64 0, .int .i64 0]) (h : Rd w 1 P G.length f (G.map sv)) (x y z u : Value) :
    Rd ((((w.setCell ⟨g, 0, none⟩ x).setCell ⟨g, 1, none⟩ y).setCell ⟨g, 2, none⟩ z).setCell ⟨g, 3, none⟩ u) 1 P G.length f (G.map sv) := by
  obtain ⟨h1, h2, h3, h4⟩ := h
  refine ⟨h1, h2, h3, fun hp => ?_⟩
  obtain ⟨b, off, rfl, hc⟩ := h4 hp
  refine ⟨b, off, rfl, fun j q hj => ?_⟩
  have hcj := hc j q hj
  have hne : b ≠ g := by
    rintro rfl
    obtain ⟨hlt, rfl⟩ := List.getElem?_eq_some_iff.1 hj
    rw [hb.cell, List.getElem_map] at hcj
    have h5 : off + j = 0 ∨ off + j = 1 ∨ off + j = 2 ∨ off + j = 3 ∨ 4 ≤ off + j := by omega
    rcases h5 with e | e | e | e | e
    · rw [e] at hcj; cases hcj
    · rw [e] at hcj; cases hcj
    · rw [e] at hcj; cases hcj
    · rw [e] at hcj; cases hcj
    · rw [List.getElem?_eq_none (by simpa using e)] at hcj; cases hcj
  have hf := ((((Far.refl g w).cell 0 x).cell 1 y).cell 2 z).cell 3 u
  exact (cell_heap (hf.block b (cell_lt hcj) hne) _).trans hcj
set_option maxRecDepth 100000 in
set_option maxHeartbeats 4000000 in
theorem evictHeld_walk (A : Option Addr) (n c : Nat) (l : List Rw) (more : Int) (w : World) (hK : Kon w) (hr : Rd w 4 A n c (rcs l)) (hg : ∀ p ∈ l, p.good) (hn : n ≤ 4294967296000) (hmore : (Lit.int .i64 more).wf = true) :
    Calls Tryz.prog 9 #[.slice A n c, .int .i64 more] w fun e w' => e = .returned (.bool true) ∧ Below w.heap.size w w' := by
  have hal := Below.refl w.heap.size w
  have r0 := hr
  have HK0 := Lib.hid hK
  clear hr hK
  go_enter Tryz.func9, Tryz.ntmps9
  go_wp2_with fail
  with_reducible refine (store_both _ _ _ _ _ r0 hg hn).mono ?_
  rintro e w1 ⟨A1, c1, L, A2, c2, M, rm, ck, rfl, hN1, hM1, hS, hb1⟩
  have hbA := below_step hal hb1
  have hal2 := (Below.refl w1.heap.size w1).alloc (Nat.le_refl _) (.cells #[.slice A1 L.length c1, .slice A2 M.length c2, .int .i64 rm, .int .i64 ck] 25)
  have hs2 := Blk.new w1 25 [.slice A1 L.length c1, .slice A2 M.length c2, .int .i64 rm, .int .i64 ck]
  have hbB := below_step hbA hal2
  have rL2 := hN1.rd.below hal2
  have rM2 := hM1.rd.below hal2
  have HA1 := Lib.hid hN1.nilCap
  have HA2 := Lib.hid hM1.nilCap
  have HS := Lib.hid hS
  clear hal r0 hg hn hb1 hbA hN1 hM1 hS hal2
  go_upto_region 2 with fail
  generalize hw2 : w1.alloc (.cells [Value.slice A1 L.length c1, .slice A2 M.length c2, .int .i64 rm, .int .i64 ck].toArray 25) = w2 at *
  clear hw2
  have HSA : Hid (StA w2 A1 A2 L.length c1 M.length c2 ⟨L, M, rm, ck⟩) := sta_of (HK0.out.below hbB) rL2 rM2 HA1.out HA2.out HS.out.ok
  have hok := HS.out.ok
  have hK2 := Lib.hid (HK0.out.below hbB)
  obtain ⟨i0, i1⟩ := i64_range hmore
  obtain ⟨K, hpk, hKL⟩ := pk_nat more 4001 (by omega)
  have hK4 : K ≤ 4000 := by omega
  have hKi : (0 : Int) ≤ (K : Int) := by omega
  have hKj : (K : Int) ≤ 4000 := by omega
  obtain ⟨⟨E, ⟨L2, M2, r2, t2⟩, G⟩, hX⟩ : ∃ x, sRun ⟨L, M, rm, ck⟩ (K : Int) = x := ⟨_, rfl⟩
  have HP := Lib.hid (fun W => picked_k more 4001 K W i0 i1 (by omega) (by omega) hpk)
  have HR := Lib.hid (fun (W : World) (hb : Below w2.heap.size w2 W) => run_at (HSA.out.below hb) hK4 hX)
  have HX := Lib.hid hX
  clear hX hpk hKL i0 i1
  go_cut [6, 7, 8] from 21 to 27 (fun s6 s7 s8 wx => XVar w2 L2 M2 r2 t2 G s6 s7 wx ∧ s8 = .int .i64 E)
  case first =>
    have hS4 : ∀ W : World, Below w2.heap.size w2 W → (W.cell? ⟨w1.heap.size, 0, none⟩ = some (.slice A1 L.length c1) ∧ W.cell? ⟨w1.heap.size, 1, none⟩ = some (.slice A2 M.length c2) ∧ W.cell? ⟨w1.heap.size, 2, none⟩ = some (.int .i64 rm) ∧ W.cell? ⟨w1.heap.size, 3, none⟩ = some (.int .i64 ck)) := fun W hb => blk4 (hs2.below hb hs2.lt)
    have b0 := (Below.refl w2.heap.size w2).drew
    have bZ := ((Below.refl w2.heap.size w2).alloc (Nat.le_refl _) (.cells #[.slice none 0 0, .slice none 0 0, .int .i64 0, .int .i64 0] 25)).drew
    have zZ := (Blk.new w2 25 [.slice none 0 0, .slice none 0 0, .int .i64 0, .int .i64 0]).drew
    go_region_held_law (fun W => W.cell? ⟨w1.heap.size, 0, none⟩ = some (.slice A1 L.length c1) ∧ W.cell? ⟨w1.heap.size, 1, none⟩ = some (.slice A2 M.length c2) ∧ W.cell? ⟨w1.heap.size, 2, none⟩ = some (.int .i64 rm) ∧ W.cell? ⟨w1.heap.size, 3, none⟩ = some (.int .i64 ck))
      (first | with_reducible exact hS4 _ b0 | with_reducible exact hS4 _ bZ | with_reducible exact hS4 _ B1 | with_reducible exact hS4 _ B1Z | with_reducible exact hS4 _ B2 | with_reducible exact hS4 _ B2Z | with_reducible exact hS4 _ (below4s BF hgz _ _ _ _) | go_keep)
      (first
       | (go_at_call 29; (with_reducible refine (HP.out _).mono ?_); rintro e v1 ⟨rfl, hb⟩; have B1 := below_step b0 hb; have B1Z := B1.alloc B1.size (.cells #[.slice none 0 0, .slice none 0 0, .int .i64 0, .int .i64 0] 25); have cN1 := True.intro)
       | (go_at_call 29; (with_reducible refine (HP.out _).mono ?_); rintro e v1 ⟨rfl, hb⟩; have B1 := below_step bZ hb; have hgz1 := Nat.le_refl w2.heap.size; have zq1 := zZ.lt; have zP1 := zZ.below hb zZ.lt; have cZ1 := True.intro)
       | (go_at_call 19; have := cN1; (with_reducible refine (HR.out _ (B1)).mono ?_); rintro e v2 ⟨A6, c6, B6, d6, P6, f6, rfl, hN6, hM6, hP6, -, hb⟩; have B2 := below_step B1 hb; have B2Z := B2.alloc B2.size (.cells #[.slice none 0 0, .slice none 0 0, .int .i64 0, .int .i64 0] 25); have cN2 := True.intro; have BF := B2; have hbs := (B1).size)
       | (go_at_call 19; have := cN1; (with_reducible refine (HR.out _ (B1Z)).mono ?_); rintro e v2 ⟨A6, c6, B6, d6, P6, f6, rfl, hN6, hM6, hP6, -, hb⟩; have B2 := below_step B1Z hb; have hgz2 := B1.size; have zq2 := (Blk.new v1 25 [.slice none 0 0, .slice none 0 0, .int .i64 0, .int .i64 0]).lt; have zP2 := (Blk.new v1 25 [.slice none 0 0, .slice none 0 0, .int .i64 0, .int .i64 0]).below hb (Blk.new v1 25 [.slice none 0 0, .slice none 0 0, .int .i64 0, .int .i64 0]).lt; have cZ2 := True.intro; have BF := B2; have hbs := (B1Z).size; have hgz := hgz2; have hgq := zq2; have zE := zP2; have z0 := zE.cell 0; have y0 := zE.frozen 0; have z1 := zE.cell 1; have y1 := zE.frozen 1; have z2 := zE.cell 2; have y2 := zE.frozen 2; have z3 := zE.cell 3; have y3 := zE.frozen 3; simp only [List.getElem?_cons_succ, List.getElem?_cons_zero] at z0 z1 z2 z3)
       | (go_at_call 19; have := cZ1; (with_reducible refine (HR.out _ (B1)).mono ?_); rintro e v2 ⟨A6, c6, B6, d6, P6, f6, rfl, hN6, hM6, hP6, -, hb⟩; have B2 := below_step B1 hb; have hgz2 := hgz1; have zq2 := zP1.lt; have zP2 := zP1.below hb zP1.lt; have cZ2 := True.intro; have BF := B2; have hbs := (B1).size; have hgz := hgz2; have hgq := zq2; have zE := zP2; have z0 := zE.cell 0; have y0 := zE.frozen 0; have z1 := zE.cell 1; have y1 := zE.frozen 1; have z2 := zE.cell 2; have y2 := zE.frozen 2; have z3 := zE.cell 3; have y3 := zE.frozen 3; simp only [List.getElem?_cons_succ, List.getElem?_cons_zero] at z0 z1 z2 z3))
    all_goals
      go_wp2_with fail
      go_meet
      first
        | with_reducible exact ⟨xv (st_new BF hN6 hM6 hbs) (hP6.below ((Below.refl _ _).alloc (Nat.le_refl _) _)), rfl⟩
        | with_reducible exact ⟨xv (st_put zE hgz hgq BF hN6 hM6 hbs) (rd_sto zE hP6 _ _ _ _), rfl⟩
  case rest =>
    obtain ⟨⟨⟨g3, A3, c3, B3, d3, rfl, x3, hN3, hM3, hg3, hb23⟩, P3, f3, rfl, hP3⟩, rfl⟩ := hcut
    rename World => w3
    have hs3 := hs2.below hb23 hs2.lt
    have n3 := hN3.rd
    have rL3 := rL2.below hb23
    have rM3 := rM2.below hb23
    clear hN3 hM3 hg3 hs2 HP HR
    go_wp2_with fail
    with_reducible refine (comes_ok _).mono ?_
    rintro e w5 ⟨rfl, hb5⟩
    have hb25 := below_step hb23 hb5
    have x5 := x3.below hb5 x3.lt
    have hs5 := hs3.below hb5 hs3.lt
    have n5 := n3.below hb5
    have p5 := hP3.below hb5
    have rL5 := rL3.below hb5
    have rM5 := rM3.below hb5
    clear x3 hs3 n3 hP3 rL3 rM3 hb5 hb23
    rcases run_err hok hKi hKj HX.out with rfl | ⟨rfl, -, -⟩
    · obtain ⟨hH1, hH2⟩ := run_held hok hKi hKj HX.out
      have hl24 := (bsErr_zero.1 hok.be).1
      have hm10 := (xsErr_zero.1 hok.xe).1
      have hen := (xsErr_zero.1 hok.xe).2.1
      simp only at hH1 hH2 hl24 hm10 hen
      obtain ⟨RT, hRT⟩ : ∃ RT, roots L (M.filter fun z => decide (0 < z.pn)) = RT := ⟨_, rfl⟩
      rw [hRT] at hH2
      have HE : Hid (∀ e ∈ M, 0 < e.pn → e.ky ∉ G ∧ e.ps.length ≤ 8 ∧ ∀ p ∈ e.ps, p.dg ∈ RT) := fun e he hp => ⟨hH1 e he hp, (psErr_zero (hen e he).2.1).1, fun p hpp => by rw [← hRT]; exact mem_roots.2 (.inr ⟨e, List.mem_filter.2 ⟨he, by simpa using hp⟩, p, hpp, rfl⟩)⟩
      have HB : Hid (∀ b ∈ L, 0 < b.pn → b.dg ∈ RT) := fun b hb hp => by rw [← hRT]; exact mem_roots.2 (.inl ⟨b, hb, hp, rfl⟩)
      have HLN : Hid (∀ d ∈ RT, d.length ≤ maxLen) := fun d hd => by
        rw [← hRT] at hd
        exact roots_le HS.out.dgs (fun e he => HS.out.pdg e (List.mem_filter.1 he).1) d (ris_mem.2 hd)
      have HFI : Hid (∀ ds : List (List UInt8), (∀ d ∈ ds, d ∈ RT) → ∀ d, d ∈ ris (rFrom L pOf ds) → (L2.any fun x => x.dg == d) = true) := fun ds h d hd => by
        obtain ⟨b, hb, e⟩ := hH2 ds h d ((rFrom_rch ds d).1 (ris_mem.1 hd))
        exact List.any_eq_true.2 ⟨b, hb, by simpa using e⟩
      have HGL := Lib.hid HS.out.dgs
      have HZ : Hid (L.length * 56 ≤ 140737488351232) := by show _ ≤ _; omega
      clear hH1 hH2 hen hRT hok HX HS HSA
      obtain ⟨i0, hi0, hz0, hz1, hz2⟩ := info_parts str_info
      obtain ⟨s0, s1, s2, s3⟩ := blk4 hs5
      go_upto_region 8 with fail
      go_wp2
      go_loopw [9, 35] (fun v s wr => ∃ (k : Nat) (ds : List (List UInt8)), k ≤ M.length ∧ s = .int .i64 k ∧ wr.ownsRow w5.heap.size 9 1 v ds.length (ds.map sv) ∧ Hid (∀ d ∈ ds, d ∈ RT) ∧ ds.length ≤ 8 * k ∧ Below w5.heap.size w5 wr) (fun _ s _ => M.length - (intOf s).toNat)
      case atStart => exact ⟨0, [], Nat.zero_le _, rfl, World.ownsRow_nil _ _ _ _, fun _ h => (by cases h), Nat.le_refl _, Below.refl _ _⟩
      case round =>
        obtain ⟨k, ds, hk, rfl, hown, HD, hdl, hbel⟩ := hrel
        by_cases hlt : k < M.length
        · obtain ⟨b, off, D, dn, dc, rfl, hc0, hc1, hc2, hc3, hrD, hDn⟩ := rM5.entry hlt
          have hb5 := cell_lt hc0
          replace hc0 := (hbel.cell (p := ⟨b, off + k * 4, none⟩) hb5).trans hc0
          replace hc1 := (hbel.cell (p := ⟨b, off + k * 4 + 1, none⟩) hb5).trans hc1
          replace hc2 := (hbel.cell (p := ⟨b, off + k * 4 + 2, none⟩) hb5).trans hc2
          replace hc3 := (hbel.cell (p := ⟨b, off + k * 4 + 3, none⟩) hb5).trans hc3
          have hki : (k : Int) < (M.length : Int) := by omega
          have HEK := Lib.hid (HE.out M[k] (List.getElem_mem hlt))
          generalize M[k] = x at *
          obtain ⟨ky, ps, pn, st⟩ := x
          simp only at hc0 hc1 hc2 hc3 hrD HEK
          obtain rfl : dn = ps.length := hrD.plen
          have hpc := hrD.2.1
          have hpm := hrD.2.2.1
          unfold maxLen at hpm
          have hal2 := (Below.refl wr.heap.size wr).alloc (Nat.le_refl _) (.cells #[.string (str ky), .slice D ps.length dc, .int .i64 pn, .int .i64 st] 54)
          have v2 := Blk.new wr 54 [.string (str ky), .slice D ps.length dc, .int .i64 pn, .int .i64 st]
          have hbel2 := below_step hbel hal2
          have hown2 := own_below hown hal2
          have p6 := (p5.below hbel).below hal2
          clear hown s0 s1 s2 s3
          go_upto_region 11 with fail
          generalize hwu : wr.alloc (.cells [Value.string (str ky), .slice D ps.length dc, .int .i64 pn, .int .i64 st].toArray 54) = u at *
          clear hwu hc0 hc1 hc2 hc3 hal2
          obtain ⟨g0, g1, g2, g3⟩ := blk4 v2
          by_cases hpn : 0 < pn
          · obtain ⟨hkG, hp8, hpR⟩ := HEK.out hpn
            have HPR := Lib.hid hpR
            have hdp : decide (0 < pn) = true := by simpa using hpn
            have HC := Lib.hid (containsT_any P3 _ f3 G ky u p6 false ⟨fun h => (by cases h), fun h => absurd h hkG⟩)
            clear HEK hpR hkG
            go_wp2_with fail
            with_reducible refine HC.out.mono ?_
            rintro e w6 ⟨rfl, rfl⟩
            clear HC
            go_wp2
            rename World => wo
            go_loopw [9, 49] (fun v s wr => ∃ (j : Nat) (es : List (List UInt8)), j ≤ ps.length ∧ s = .int .i64 j ∧ wr.ownsRow w5.heap.size 9 1 v es.length (es.map sv) ∧ Hid (∀ d ∈ es, d ∈ RT) ∧ es.length ≤ 8 * k + j ∧ Below w5.heap.size wo wr) (fun _ s _ => ps.length - (intOf s).toNat)
            case atStart => exact ⟨0, ds, Nat.zero_le _, rfl, hown2, HD, by omega, Below.refl _ _⟩
            case round =>
              clear hown2 HD
              obtain ⟨j, es, hj, rfl, hownj, HDJ, hel, hbj⟩ := hrel
              have hbJ := hbel2.trans hbj
              by_cases hlt2 : j < ps.length
              · obtain ⟨b2, off2, rfl, p0, p1, p2⟩ := (hrD.below hbJ).part hlt2
                have hji : (j : Int) < (ps.length : Int) := by omega
                have HIN := Lib.hid (HPR.out ps[j] (List.getElem_mem hlt2))
                generalize ps[j] = y at *
                have hal3 := (Below.refl wr.heap.size wr).alloc (Nat.le_refl _) (.cells #[.string (str y.nm), .string (str y.dg), .int .i64 y.sz] 56)
                have v3 := (Blk.new wr 56 [.string (str y.nm), .string (str y.dg), .int .i64 y.sz]).cell 1
                simp only [List.getElem?_cons_succ, List.getElem?_cons_zero] at v3
                have hown3 := own_below hownj hal3
                have hbj3 := hbj.trans (hal3.mono hbJ.size)
                have hbz : w5.heap.size ≤ (wr.alloc (.cells #[.string (str y.nm), .string (str y.dg), .int .i64 y.sz] 56)).heap.size := Nat.le_trans hbJ.size hal3.size
                clear hownj g0 g1 g2 g3
                go_upto_region 17 with fail
                generalize hwv : wr.alloc (.cells [Value.string (str y.nm), .string (str y.dg), .int .i64 y.sz].toArray 56) = w8 at *
                clear hwv p0 p1 p2 hal3
                go_wp2_with (at_builtin; refine wpList_append1' rfl (.tmp 53) (.tmp 56) _ rfl Tryz.underlying26 hi0 hz0 hz1 hz2 rfl (by omega) _ _ _ rfl hown3 [.string (str y.dg)] rfl (by simp [Value.oneCell']) (by first | rfl | simp [Act.eval]) (by omega) (by unfold maxLen; omega) hbz ?_; rintro v9 w9 ⟨hown9, hb9, hs9, -⟩)
                go_roundw
                case rel => exact ⟨j + 1, es ++ [y.dg], by omega, by go_num, own_snoc hown9, (fun d hd => by rcases List.mem_append.1 hd with q | q; exact HDJ.out d q; rw [List.mem_singleton.1 q]; exact HIN.out), by rw [List.length_append]; simp; omega, hbj3.trans hb9⟩
                case measure => simp [intOf] <;> omega
              · have hd2 : decide ((j : Int) < (ps.length : Int)) = false := by rw [decide_eq_false_iff_not]; omega
                go_wp2
                go_roundw
                case rel => exact ⟨k + 1, es, by omega, by go_num, hownj, HDJ, by omega, hbJ⟩
                case measure => simp [intOf] <;> omega
          · have hdp : decide (0 < pn) = false := by simpa using hpn
            clear HEK
            go_wp2
            go_roundw
            case rel => exact ⟨k + 1, ds, by omega, by go_num, hown2, HD, by omega, hbel2⟩
            case measure => simp [intOf] <;> omega
        · have hd2 : decide ((k : Int) < (M.length : Int)) = false := by rw [decide_eq_false_iff_not]; omega
          have hs6 := hs5.below hbel hs5.lt
          clear s0 s1 s2 s3
          obtain ⟨s0, s1, s2, s3⟩ := blk4 hs6
          have hbel6 := hbel
          have hown6 := hown
          have hk10 : k ≤ 10 := by omega
          clear hown hbel HE
          go_wp2
          rename World => wo
          go_loopw [9, 63] (fun v s wr => ∃ (j : Nat) (es : List (List UInt8)), j ≤ L.length ∧ s = .int .i64 j ∧ wr.ownsRow w5.heap.size 9 1 v es.length (es.map sv) ∧ Hid (∀ d ∈ es, d ∈ RT) ∧ es.length ≤ 8 * k + j ∧ Below w5.heap.size w5 wr) (fun _ s _ => L.length - (intOf s).toNat)
          case atStart => exact ⟨0, ds, Nat.zero_le _, rfl, hown6, HD, by omega, hbel6⟩
          case round =>
            clear hown6 HD hbel6 hs6 s0 s1 s2 s3
            obtain ⟨j, es, hj, rfl, hownj, HDJ, hel, hbJ⟩ := hrel
            by_cases hlt2 : j < L.length
            · obtain ⟨b, off, D, dn, dc, rfl, hc0, hc1, hc2, hc3, -, -⟩ := rL5.blob hlt2
              have hb5 := cell_lt hc0
              replace hc0 := (hbJ.cell (p := ⟨b, off + j * 4, none⟩) hb5).trans hc0
              replace hc1 := (hbJ.cell (p := ⟨b, off + j * 4 + 1, none⟩) hb5).trans hc1
              replace hc2 := (hbJ.cell (p := ⟨b, off + j * 4 + 2, none⟩) hb5).trans hc2
              replace hc3 := (hbJ.cell (p := ⟨b, off + j * 4 + 3, none⟩) hb5).trans hc3
              have hji : (j : Int) < (L.length : Int) := by omega
              have HIN := Lib.hid (HB.out L[j] (List.getElem_mem hlt2))
              generalize L[j] = y at *
              have hal3 := (Below.refl wr.heap.size wr).alloc (Nat.le_refl _) (.cells #[.string (str y.dg), .slice D dn dc, .int .i64 y.pn, .bool y.mr] 43)
              have v3 := Blk.new wr 43 [.string (str y.dg), .slice D dn dc, .int .i64 y.pn, .bool y.mr]
              have hown3 := own_below hownj hal3
              have hbj3 := hbJ.trans (hal3.mono hbJ.size)
              have hbz : w5.heap.size ≤ (wr.alloc (.cells #[.string (str y.dg), .slice D dn dc, .int .i64 y.pn, .bool y.mr] 43)).heap.size := Nat.le_trans hbJ.size hal3.size
              clear hownj
              go_upto_region 23 with fail
              generalize hwv : wr.alloc (.cells [Value.string (str y.dg), .slice D dn dc, .int .i64 y.pn, .bool y.mr].toArray 43) = w8 at *
              clear hwv hc0 hc1 hc2 hc3 hal3
              obtain ⟨g0, g1, g2, g3⟩ := blk4 v3
              by_cases hpn : 0 < y.pn
              · have hdp : decide (0 < y.pn) = true := by simpa using hpn
                have HIN2 := Lib.hid (HIN.out hpn)
                clear HIN
                go_wp2_with (at_builtin; refine wpList_append1' rfl (.tmp 70) (.tmp 73) _ rfl Tryz.underlying26 hi0 hz0 hz1 hz2 rfl (by omega) _ _ _ rfl hown3 [.string (str y.dg)] rfl (by simp [Value.oneCell']) (by first | rfl | simp [Act.eval]) (by omega) (by unfold maxLen; omega) hbz ?_; rintro v9 w9 ⟨hown9, hb9, hs9, -⟩)
                go_roundw
                case rel => exact ⟨j + 1, es ++ [y.dg], by omega, by go_num, own_snoc hown9, (fun d hd => by rcases List.mem_append.1 hd with q | q; exact HDJ.out d q; rw [List.mem_singleton.1 q]; exact HIN2.out), by rw [List.length_append]; simp; omega, hbj3.trans hb9⟩
                case measure => simp [intOf] <;> omega
              · have hdp : decide (0 < y.pn) = false := by simpa using hpn
                clear HIN
                go_wp2
                go_roundw
                case rel => exact ⟨j + 1, es, by omega, by go_num, hown3, HDJ, by omega, hbj3⟩
                case measure => simp [intOf] <;> omega
            · have hd3 : decide ((j : Int) < (L.length : Int)) = false := by rw [decide_eq_false_iff_not]; omega
              obtain ⟨P, q, rfl, hds, hdn, -⟩ := own_rdK hownj
              have hs7 := hs5.below hbJ hs5.lt
              obtain ⟨s0, s1, s2, s3⟩ := blk4 hs7
              have HFR := Lib.hid (rfrom_any A1 L.length c1 L P es.length q es wr (rL5.below hbJ) HZ.out hds hdn HGL.out (fun d hd => HLN.out d (HDJ.out d hd)) (by omega))
              have HD0 : Hid (∀ d ∈ ris (rFrom L pOf es), (L2.any fun x => x.dg == d) = true) := HFI.out es HDJ.out
              generalize ris (rFrom L pOf es) = D0 at *
              clear hownj hds hdn HB HFI HDJ HLN HGL
              go_wp2_with fail
              with_reducible refine HFR.out.mono ?_
              rintro e w9 hgv
              obtain ⟨A9, c9, rfl, hr9, -, -, hb9⟩ := hgv.rd
              have hb59 := hbJ.trans (hb9.mono hbJ.size)
              have x9 := x5.below hb59 x5.lt
              have n9 := n5.below hb59
              have hD9 : D0.length ≤ 9223372036854775807 := by have h1 := hr9.2.1; have h2 := hr9.2.2.1; unfold maxLen at h2; omega
              clear HFR hgv s0 s1 s2 s3 hs7 hbJ hb9 hlt2 hj hel
              go_wp2
              go_loopw [81] (fun s wr => ∃ i : Nat, i ≤ D0.length ∧ s = .int .i64 i ∧ Below w9.heap.size w9 wr) (fun s _ => D0.length - (intOf s).toNat)
              case atStart => exact ⟨0, Nat.zero_le _, rfl, Below.refl _ _⟩
              case round =>
                obtain ⟨i, hi, rfl, hbi⟩ := hrel
                by_cases hlt3 : i < D0.length
                · obtain ⟨b, off, rfl, hc⟩ := (hr9.below hbi).text hlt3
                  have hii : (i : Int) < (D0.length : Int) := by omega
                  have hany := HD0.out D0[i] (List.getElem_mem hlt3)
                  generalize D0[i] = d at *
                  have xi := x9.below hbi x9.lt
                  obtain ⟨x0, x1, x2, x3⟩ := blk4 xi
                  have HH := Lib.hid (has_any A3 L2.length c3 L2 d _ (n9.below hbi) true hany)
                  clear hany
                  go_wp2_with fail
                  with_reducible refine HH.out.mono ?_
                  rintro e wz ⟨rfl, hbz⟩
                  go_wp2
                  go_roundw
                  case rel => exact ⟨i + 1, by omega, by go_num, below_step hbi hbz⟩
                  case measure => simp [intOf] <;> omega
                · have hd4 : decide ((i : Int) < (D0.length : Int)) = false := by rw [decide_eq_false_iff_not]; omega
                  go_wp2
                  go_ret
                  exact ⟨rfl, below_step hbB (below_step hb25 (hb59.trans (hbi.mono hb59.size)))⟩
    · clear HX
      go_wp2
      go_ret
      exact ⟨rfl, below_step hbB hb25⟩
end Go.Proofs.YtekbgopdeancpaaGreatDoor

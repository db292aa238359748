/- The law StoreTwice: the walk. -/
import Derived.Test.YtnadgdjaldemhaaGreatDoorQKx
import Derived.Test.YtnadgdjaldemhaaGreatDoorQKw
import Derived.Test.YtnadgdjaldemhaaGreatDoorQYf
import Derived.BigQuiet
import Derived.Deep.RegionHeldLaw
import Derived.Deep.CutBlock
import Derived.Deep.CutRange
namespace Go.Proofs.YtnadgdjaldemhaaGreatDoor
open Go.RowKit
set_option maxRecDepth 100000 in
set_option maxHeartbeats 4000000 in
theorem storeTwice_walk (A : Option Addr) (n c : Nat) (l : List Rw) (q : Rw) (w : World) (hK : Kon w) (hr : Rd w 4 A n c (rcs l)) (hg : ∀ p ∈ l, p.good) (hn : n ≤ 4294967296000) (hq : q.good) :
    Calls Tryz.prog 9 #[.slice A n c, .agg #[.int .i64 q.kd, .int .i64 q.ra, .int .i64 q.rb, .string (str q.tx)]] w fun e w' => e = .returned (.bool true) ∧ Below w.heap.size w w' := by
  have hal := (Below.refl w.heap.size w).alloc (Nat.le_refl _) (.cells #[.int .i64 q.kd, .int .i64 q.ra, .int .i64 q.rb, .string (str q.tx)] 24)
  have hbk := Blk.new w 24 [.int .i64 q.kd, .int .i64 q.ra, .int .i64 q.rb, .string (str q.tx)]
  have hra : (Lit.int .i64 q.ra).wf = true := hq.2.1
  have hrb : (Lit.int .i64 q.rb).wf = true := hq.2.2.1
  have htx : q.tx.length ≤ 140737488351232 := hq.2.2.2
  have r0 := hr.below hal
  have HK0 := Lib.hid hK
  clear hr hK hq
  go_enter Tryz.func9, Tryz.ntmps9
  go_wp2_with fail
  with_reducible refine (store_both _ _ _ _ _ r0 hg hn).mono ?_
  rintro e w1 ⟨A1, c1, L, A2, c2, M, rm, ck, rfl, hN1, hM1, hS, hb1⟩
  have hbA := below_step hal hb1
  have hk1 := hbk.below hb1 hbk.lt
  have hal2 := (Below.refl w1.heap.size w1).alloc (Nat.le_refl _) (.cells #[.slice A1 L.length c1, .slice A2 M.length c2, .int .i64 rm, .int .i64 ck] 28)
  have hs2 := Blk.new w1 28 [.slice A1 L.length c1, .slice A2 M.length c2, .int .i64 rm, .int .i64 ck]
  have hbB := below_step hbA hal2
  have hk2 := hk1.below hal2 hk1.lt
  have rL2 := hN1.rd.below hal2
  have rM2 := hM1.rd.below hal2
  have HA1 := Lib.hid hN1.nilCap
  have HA2 := Lib.hid hM1.nilCap
  have HS := Lib.hid hS
  clear hal r0 hg hn hb1 hbA hN1 hM1 hS hal2 hbk hk1
  go_upto_region 2 with fail
  generalize hw2 : w1.alloc (.cells [Value.slice A1 L.length c1, .slice A2 M.length c2, .int .i64 rm, .int .i64 ck].toArray 28) = w2 at *
  clear hw2
  have HSA : Hid (StA w2 A1 A2 L.length c1 M.length c2 ⟨L, M, rm, ck⟩) := sta_of (HK0.out.below hbB) rL2 rM2 HA1.out HA2.out HS.out.ok
  obtain ⟨L2, hX, hX2, hok2, -, -⟩ := twice_ok (D := dat q 60) HS.out.ok HS.out.b.len (by have := HS.out.room; omega) (dat_le q 60)
  have HDT : Hid (∀ W : World, Calls Tryz.prog 15 #[.agg #[.int .i64 q.kd, .int .i64 q.ra, .int .i64 q.rb, .string (str q.tx)], .int .i64 60] W (GivesBy (dat q 60) W)) := fun W => data_any q 60 W htx (by omega)
  have HP : Hid (∀ (W : World) (D : Option Addr) (n d : Nat), Below w2.heap.size w2 W → Rd W 1 D n d ((dat q 60).map bv8) → (D = none → d = 0) → Calls Tryz.prog 14 #[.agg #[.slice A1 L.length c1, .slice A2 M.length c2, .int .i64 rm, .int .i64 ck], .slice D n d] W (PBl 0 L2 M rm ck (dig (dat q 60)) W)) := fun W D n d hb hr hD => pb_at (HSA.out.below hb) hr hD hX
  have HP2 : Hid (∀ (W : World) (A B D : Option Addr) (n d c k : Nat), Kon W → KRd kBl W A L2.length c L2 → KRd kEn W B M.length k M → (A = none → c = 0) → (B = none → k = 0) → Rd W 1 D n d ((dat q 60).map bv8) → (D = none → d = 0) → Calls Tryz.prog 14 #[.agg #[.slice A L2.length c, .slice B M.length k, .int .i64 rm, .int .i64 ck], .slice D n d] W (PBl 0 L2 M rm ck (dig (dat q 60)) W)) := fun W A B D n d c k h1 h2 h3 h4 h5 hr hD => pb_at (sta_of h1 h2 h3 h4 h5 hok2) hr hD hX2
  generalize dat q 60 = dt at *
  generalize dig dt = dd at *
  clear hX hX2 HSA HS hra hrb htx
  have hK2 := Lib.hid (HK0.out.below hbB)
  go_cut [6, 7, 8] from 14 to 21 (fun s6 s7 s8 wx => SVar w2 L2 M rm ck s6 wx ∧ s7 = .string (str dd) ∧ s8 = .int .i64 0)
  case first =>
    have hS8 : ∀ W : World, Below w2.heap.size w2 W → (W.cell? ⟨w1.heap.size, 0, none⟩ = some (.slice A1 L.length c1) ∧ W.cell? ⟨w1.heap.size, 1, none⟩ = some (.slice A2 M.length c2) ∧ W.cell? ⟨w1.heap.size, 2, none⟩ = some (.int .i64 rm) ∧ W.cell? ⟨w1.heap.size, 3, none⟩ = some (.int .i64 ck) ∧ W.cell? ⟨w.heap.size, 0, none⟩ = some (.int .i64 q.kd) ∧ W.cell? ⟨w.heap.size, 1, none⟩ = some (.int .i64 q.ra) ∧ W.cell? ⟨w.heap.size, 2, none⟩ = some (.int .i64 q.rb) ∧ W.cell? ⟨w.heap.size, 3, none⟩ = some (.string (str q.tx))) := fun W hb => s8 (hs2.below hb hs2.lt) (hk2.below hb hk2.lt)
    have b0 := (Below.refl w2.heap.size w2).drew
    have bZ := ((Below.refl w2.heap.size w2).alloc (Nat.le_refl _) (.cells #[.slice none 0 0, .slice none 0 0, .int .i64 0, .int .i64 0] 28)).drew
    have zZ := (Blk.new w2 28 [.slice none 0 0, .slice none 0 0, .int .i64 0, .int .i64 0]).drew
    go_region_held_law (fun W => W.cell? ⟨w1.heap.size, 0, none⟩ = some (.slice A1 L.length c1) ∧ W.cell? ⟨w1.heap.size, 1, none⟩ = some (.slice A2 M.length c2) ∧ W.cell? ⟨w1.heap.size, 2, none⟩ = some (.int .i64 rm) ∧ W.cell? ⟨w1.heap.size, 3, none⟩ = some (.int .i64 ck) ∧ W.cell? ⟨w.heap.size, 0, none⟩ = some (.int .i64 q.kd) ∧ W.cell? ⟨w.heap.size, 1, none⟩ = some (.int .i64 q.ra) ∧ W.cell? ⟨w.heap.size, 2, none⟩ = some (.int .i64 q.rb) ∧ W.cell? ⟨w.heap.size, 3, none⟩ = some (.string (str q.tx)))
      (first | with_reducible exact hS8 _ b0 | with_reducible exact hS8 _ bZ | with_reducible exact hS8 _ B1 | with_reducible exact hS8 _ B1Z | with_reducible exact hS8 _ B2 | with_reducible exact hS8 _ B2Z | with_reducible exact hS8 _ (below4s BF hgz _ _ _ _) | go_keep)
      (first
       | (go_at_call 15; (with_reducible refine (HDT.out _).mono ?_); rintro e v1 ⟨A5, n5, c5, rfl, hrd5, hA5, -, hb⟩; have B1 := below_step b0 hb; have B1Z := B1.alloc B1.size (.cells #[.slice none 0 0, .slice none 0 0, .int .i64 0, .int .i64 0] 28); have hrd5_1 := hrd5; have hrd5_1Z := hrd5.below ((Below.refl v1.heap.size v1).alloc (Nat.le_refl _) (.cells #[.slice none 0 0, .slice none 0 0, .int .i64 0, .int .i64 0] 28)); have cN1 := True.intro)
       | (go_at_call 15; (with_reducible refine (HDT.out _).mono ?_); rintro e v1 ⟨A5, n5, c5, rfl, hrd5, hA5, -, hb⟩; have B1 := below_step bZ hb; have hrd5_1 := hrd5; have hgz1 := Nat.le_refl w2.heap.size; have zq1 := zZ.lt; have zP1 := zZ.below hb zZ.lt; have cZ1 := True.intro)
       | (go_at_call 14; have := cN1; (with_reducible refine (HP.out _ _ _ _ (B1) hrd5_1 hA5).mono ?_); rintro e v2 ⟨A6, c6, B6, d6, rfl, hN6, hM6, hb⟩; have B2 := below_step B1 hb; have B2Z := B2.alloc B2.size (.cells #[.slice none 0 0, .slice none 0 0, .int .i64 0, .int .i64 0] 28); have hrd5_2 := hrd5_1.below hb; have hrd5_2Z := hrd5_2.below ((Below.refl v2.heap.size v2).alloc (Nat.le_refl _) (.cells #[.slice none 0 0, .slice none 0 0, .int .i64 0, .int .i64 0] 28)); have cN2 := True.intro; have BF := B2; have hbs := (B1).size)
       | (go_at_call 14; have := cN1; (with_reducible refine (HP.out _ _ _ _ (B1Z) hrd5_1Z hA5).mono ?_); rintro e v2 ⟨A6, c6, B6, d6, rfl, hN6, hM6, hb⟩; have B2 := below_step B1Z hb; have hrd5_2 := hrd5_1Z.below hb; have hgz2 := B1.size; have zq2 := (Blk.new v1 28 [.slice none 0 0, .slice none 0 0, .int .i64 0, .int .i64 0]).lt; have zP2 := (Blk.new v1 28 [.slice none 0 0, .slice none 0 0, .int .i64 0, .int .i64 0]).below hb (Blk.new v1 28 [.slice none 0 0, .slice none 0 0, .int .i64 0, .int .i64 0]).lt; have cZ2 := True.intro; have BF := B2; have hbs := (B1Z).size; have hgz := hgz2; have hgq := zq2; have zE := zP2; have z0 := zE.cell 0; have y0 := zE.frozen 0; have z1 := zE.cell 1; have y1 := zE.frozen 1; have z2 := zE.cell 2; have y2 := zE.frozen 2; have z3 := zE.cell 3; have y3 := zE.frozen 3; simp only [List.getElem?_cons_succ, List.getElem?_cons_zero] at z0 z1 z2 z3)
       | (go_at_call 14; have := cZ1; (with_reducible refine (HP.out _ _ _ _ (B1) hrd5_1 hA5).mono ?_); rintro e v2 ⟨A6, c6, B6, d6, rfl, hN6, hM6, hb⟩; have B2 := below_step B1 hb; have hrd5_2 := hrd5_1.below hb; have hgz2 := hgz1; have zq2 := zP1.lt; have zP2 := zP1.below hb zP1.lt; have cZ2 := True.intro; have BF := B2; have hbs := (B1).size; have hgz := hgz2; have hgq := zq2; have zE := zP2; have z0 := zE.cell 0; have y0 := zE.frozen 0; have z1 := zE.cell 1; have y1 := zE.frozen 1; have z2 := zE.cell 2; have y2 := zE.frozen 2; have z3 := zE.cell 3; have y3 := zE.frozen 3; simp only [List.getElem?_cons_succ, List.getElem?_cons_zero] at z0 z1 z2 z3))
    all_goals
      go_wp2_with fail
      go_meet
      first
        | with_reducible exact ⟨st_new BF hN6 hM6 hbs, rfl, rfl⟩
        | with_reducible exact ⟨st_put zE hgz hgq BF hN6 hM6 hbs, rfl, rfl⟩
  case rest =>
    obtain ⟨⟨g3, A3, c3, B3, d3, rfl, z3, hN3, hM3, hg3, hB3⟩, rfl, rfl⟩ := hcut
    have hbC := below_step hbB hB3
    have hk3 := hk2.below hB3 hk2.lt
    rename World => w3
    have HNA := Lib.hid hN3.nilCap
    have HMA := Lib.hid hM3.nilCap
    have rN3 := hN3.rd
    have rM3 := hM3.rd
    have hK3 := hK2.out.below hB3
    have HPP : Hid (∀ (W : World) (D : Option Addr) (n d : Nat), Below w3.heap.size w3 W → Rd W 1 D n d (dt.map bv8) → (D = none → d = 0) → Calls Tryz.prog 14 #[.agg #[.slice A3 L2.length c3, .slice B3 M.length d3, .int .i64 rm, .int .i64 ck], .slice D n d] W (PBl 0 L2 M rm ck dd W)) := fun W D n d hb hr hD => HP2.out W _ _ _ _ _ _ _ (hK3.below hb) (rN3.below hb) (rM3.below hb) HNA.out HMA.out hr hD
    clear hs2 hk2 HP HP2 hN3 hM3 rL2 rM2 HA1 HA2 hg3 hB3 hbB
    go_upto_region 3 with fail
    go_cut [9, 10, 11] from 22 to 29 (fun s9 s10 s11 wx => SVar w3 L2 M rm ck s9 wx ∧ s10 = .string (str dd) ∧ s11 = .int .i64 0)
    case first =>
      have hS8 : ∀ W : World, Below w3.heap.size w3 W → (W.cell? ⟨g3, 0, none⟩ = some (.slice A3 L2.length c3) ∧ W.cell? ⟨g3, 1, none⟩ = some (.slice B3 M.length d3) ∧ W.cell? ⟨g3, 2, none⟩ = some (.int .i64 rm) ∧ W.cell? ⟨g3, 3, none⟩ = some (.int .i64 ck) ∧ W.cell? ⟨w.heap.size, 0, none⟩ = some (.int .i64 q.kd) ∧ W.cell? ⟨w.heap.size, 1, none⟩ = some (.int .i64 q.ra) ∧ W.cell? ⟨w.heap.size, 2, none⟩ = some (.int .i64 q.rb) ∧ W.cell? ⟨w.heap.size, 3, none⟩ = some (.string (str q.tx))) := fun W hb => s8 (z3.below hb z3.lt) (hk3.below hb hk3.lt)
      have b0 := (Below.refl w3.heap.size w3).drew
      have bZ := ((Below.refl w3.heap.size w3).alloc (Nat.le_refl _) (.cells #[.slice none 0 0, .slice none 0 0, .int .i64 0, .int .i64 0] 28)).drew
      have zZ := (Blk.new w3 28 [.slice none 0 0, .slice none 0 0, .int .i64 0, .int .i64 0]).drew
      go_region_held_law (fun W => W.cell? ⟨g3, 0, none⟩ = some (.slice A3 L2.length c3) ∧ W.cell? ⟨g3, 1, none⟩ = some (.slice B3 M.length d3) ∧ W.cell? ⟨g3, 2, none⟩ = some (.int .i64 rm) ∧ W.cell? ⟨g3, 3, none⟩ = some (.int .i64 ck) ∧ W.cell? ⟨w.heap.size, 0, none⟩ = some (.int .i64 q.kd) ∧ W.cell? ⟨w.heap.size, 1, none⟩ = some (.int .i64 q.ra) ∧ W.cell? ⟨w.heap.size, 2, none⟩ = some (.int .i64 q.rb) ∧ W.cell? ⟨w.heap.size, 3, none⟩ = some (.string (str q.tx)))
        (first | with_reducible exact hS8 _ b0 | with_reducible exact hS8 _ bZ | with_reducible exact hS8 _ B1 | with_reducible exact hS8 _ B1Z | with_reducible exact hS8 _ B2 | with_reducible exact hS8 _ B2Z | with_reducible exact hS8 _ (below4s BF hgz _ _ _ _) | go_keep)
        (first
         | (go_at_call 15; (with_reducible refine (HDT.out _).mono ?_); rintro e v1 ⟨A5, n5, c5, rfl, hrd5, hA5, -, hb⟩; have B1 := below_step b0 hb; have B1Z := B1.alloc B1.size (.cells #[.slice none 0 0, .slice none 0 0, .int .i64 0, .int .i64 0] 28); have hrd5_1 := hrd5; have hrd5_1Z := hrd5.below ((Below.refl v1.heap.size v1).alloc (Nat.le_refl _) (.cells #[.slice none 0 0, .slice none 0 0, .int .i64 0, .int .i64 0] 28)); have cN1 := True.intro)
         | (go_at_call 15; (with_reducible refine (HDT.out _).mono ?_); rintro e v1 ⟨A5, n5, c5, rfl, hrd5, hA5, -, hb⟩; have B1 := below_step bZ hb; have hrd5_1 := hrd5; have hgz1 := Nat.le_refl w3.heap.size; have zq1 := zZ.lt; have zP1 := zZ.below hb zZ.lt; have cZ1 := True.intro)
         | (go_at_call 14; have := cN1; (with_reducible refine (HPP.out _ _ _ _ (B1) hrd5_1 hA5).mono ?_); rintro e v2 ⟨A6, c6, B6, d6, rfl, hN6, hM6, hb⟩; have B2 := below_step B1 hb; have B2Z := B2.alloc B2.size (.cells #[.slice none 0 0, .slice none 0 0, .int .i64 0, .int .i64 0] 28); have hrd5_2 := hrd5_1.below hb; have hrd5_2Z := hrd5_2.below ((Below.refl v2.heap.size v2).alloc (Nat.le_refl _) (.cells #[.slice none 0 0, .slice none 0 0, .int .i64 0, .int .i64 0] 28)); have cN2 := True.intro; have BF := B2; have hbs := (B1).size)
         | (go_at_call 14; have := cN1; (with_reducible refine (HPP.out _ _ _ _ (B1Z) hrd5_1Z hA5).mono ?_); rintro e v2 ⟨A6, c6, B6, d6, rfl, hN6, hM6, hb⟩; have B2 := below_step B1Z hb; have hrd5_2 := hrd5_1Z.below hb; have hgz2 := B1.size; have zq2 := (Blk.new v1 28 [.slice none 0 0, .slice none 0 0, .int .i64 0, .int .i64 0]).lt; have zP2 := (Blk.new v1 28 [.slice none 0 0, .slice none 0 0, .int .i64 0, .int .i64 0]).below hb (Blk.new v1 28 [.slice none 0 0, .slice none 0 0, .int .i64 0, .int .i64 0]).lt; have cZ2 := True.intro; have BF := B2; have hbs := (B1Z).size; have hgz := hgz2; have hgq := zq2; have zE := zP2; have z0 := zE.cell 0; have y0 := zE.frozen 0; have z1 := zE.cell 1; have y1 := zE.frozen 1; have z2 := zE.cell 2; have y2 := zE.frozen 2; have z3 := zE.cell 3; have y3 := zE.frozen 3; simp only [List.getElem?_cons_succ, List.getElem?_cons_zero] at z0 z1 z2 z3)
         | (go_at_call 14; have := cZ1; (with_reducible refine (HPP.out _ _ _ _ (B1) hrd5_1 hA5).mono ?_); rintro e v2 ⟨A6, c6, B6, d6, rfl, hN6, hM6, hb⟩; have B2 := below_step B1 hb; have hrd5_2 := hrd5_1.below hb; have hgz2 := hgz1; have zq2 := zP1.lt; have zP2 := zP1.below hb zP1.lt; have cZ2 := True.intro; have BF := B2; have hbs := (B1).size; have hgz := hgz2; have hgq := zq2; have zE := zP2; have z0 := zE.cell 0; have y0 := zE.frozen 0; have z1 := zE.cell 1; have y1 := zE.frozen 1; have z2 := zE.cell 2; have y2 := zE.frozen 2; have z3 := zE.cell 3; have y3 := zE.frozen 3; simp only [List.getElem?_cons_succ, List.getElem?_cons_zero] at z0 z1 z2 z3))
      all_goals
        go_wp2_with fail
        go_meet
        first
          | with_reducible exact ⟨st_new BF hN6 hM6 hbs, rfl, rfl⟩
          | with_reducible exact ⟨st_put zE hgz hgq BF hN6 hM6 hbs, rfl, rfl⟩
    case rest =>
      obtain ⟨⟨g4, A4, c4, B4, d4, rfl, z4, hN4, hM4, hg4, hB4⟩, rfl, rfl⟩ := hcut
      have hbD := below_step hbC hB4
      have z3' := z3.below hB4 z3.lt
      have hK4 := hK3.below hB4
      have rN3' := rN3.below hB4
      have rM3' := rM3.below hB4
      have rN4 := hN4.rd
      have rM4 := hM4.rd
      clear z3 hk3 HPP hN4 hM4 hg4 hB4 rN3 rM3 hbC HDT
      rename World => w4
      go_wp2_with fail
      with_reducible refine (kept_any _ hK4).mono ?_
      rintro e w5 ⟨rfl, hb5⟩
      have z5 := z4.below hb5 z4.lt
      have y5 := z3'.below hb5 z3'.lt
      have HSS := Lib.hid (ksameStore_any _ _ _ _ _ _ _ _ _ _ _ _ L2 L2 M M rm ck w5 (rN3'.below hb5) (rM3'.below hb5) (rN4.below hb5) (rM4.below hb5) true (by simp [alks_refl]))
      obtain ⟨a0, a1, a2, a3⟩ := blk4 z5
      obtain ⟨e0, e1, e2, e3⟩ := blk4 y5
      clear z4 z3' rN3' rM3' rN4 rM4
      go_wp2_with fail
      with_reducible refine HSS.out.mono ?_
      rintro e w6 ⟨rfl, hb6⟩
      go_wp2
      go_ret
      exact ⟨by simp, below_step (below_step hbD hb5) hb6⟩
end Go.Proofs.YtnadgdjaldemhaaGreatDoor

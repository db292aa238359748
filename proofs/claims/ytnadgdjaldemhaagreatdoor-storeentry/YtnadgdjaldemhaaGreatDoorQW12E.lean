/- The law StoreEntry: the walk. -/
import Derived.Test.YtnadgdjaldemhaaGreatDoorQKa
import Derived.Test.YtnadgdjaldemhaaGreatDoorQKc
import Derived.Test.YtnadgdjaldemhaaGreatDoorQKw
import Derived.Test.YtnadgdjaldemhaaGreatDoorGE
import Derived.BigQuiet
import Derived.Deep.RegionHeldLaw
import Derived.Deep.CutBlock
import Derived.Deep.CutRange
namespace Go.Proofs.YtnadgdjaldemhaaGreatDoor
open Go.RowKit
set_option maxRecDepth 100000 in
set_option maxHeartbeats 4000000 in
theorem storeEntry_walk (A : Option Addr) (n c : Nat) (l : List Rw) (q : Rw) (w : World) (hK : Kon w) (hr : Rd w 4 A n c (rcs l)) (hg : ∀ p ∈ l, p.good) (hn : n ≤ 4294967296000) (hq : q.good) :
    Calls Tryz.prog 5 #[.slice A n c, .agg #[.int .i64 q.kd, .int .i64 q.ra, .int .i64 q.rb, .string (str q.tx)]] w fun e w' => e = .returned (.bool true) ∧ Below w.heap.size w w' := by
  have hal := (Below.refl w.heap.size w).alloc (Nat.le_refl _) (.cells #[.int .i64 q.kd, .int .i64 q.ra, .int .i64 q.rb, .string (str q.tx)] 24)
  have hbk := Blk.new w 24 [.int .i64 q.kd, .int .i64 q.ra, .int .i64 q.rb, .string (str q.tx)]
  have hra : (Lit.int .i64 q.ra).wf = true := hq.2.1
  have hrb : (Lit.int .i64 q.rb).wf = true := hq.2.2.1
  have htx : q.tx.length ≤ 140737488351232 := hq.2.2.2
  have r0 := hr.below hal
  have HK0 := Lib.hid hK
  clear hr hK hq
  go_enter Tryz.func5, Tryz.ntmps5
  go_wp2_with fail
  with_reducible refine (store_both _ _ _ _ _ r0 hg hn).mono ?_
  rintro e w1 ⟨A1, c1, L, A2, c2, M, rm, ck, rfl, hN1, hM1, hS, hb1⟩
  have hbA := below_step hal hb1
  have hk1 := hbk.below hb1 hbk.lt
  have hal2 := (Below.refl w1.heap.size w1).alloc (Nat.le_refl _) (.cells #[.slice A1 L.length c1, .slice A2 M.length c2, .int .i64 rm, .int .i64 ck] 28)
  have hs2 := Blk.new w1 28 [.slice A1 L.length c1, .slice A2 M.length c2, .int .i64 rm, .int .i64 ck]
  have hbB := below_step hbA hal2
  have hk2 := hk1.below hal2 hk1.lt
  have rL2 := hN1.rd.below hal2
  have rM2 := hM1.rd.below hal2
  have HA1 := Lib.hid hN1.nilCap
  have HA2 := Lib.hid hM1.nilCap
  have HS := Lib.hid hS
  clear hal r0 hg hn hb1 hbA hN1 hM1 hS hal2 hbk hk1
  go_upto_region 2 with fail
  generalize hw2 : w1.alloc (.cells [Value.slice A1 L.length c1, .slice A2 M.length c2, .int .i64 rm, .int .i64 ck].toArray 28) = w2 at *
  clear hw2
  have HSA : Hid (StA w2 A1 A2 L.length c1 M.length c2 ⟨L, M, rm, ck⟩) := sta_of (HK0.out.below hbB) rL2 rM2 HA1.out HA2.out HS.out.ok
  obtain ⟨hp1, hp2, hp3, hp4⟩ := prts_in HS.out q
  obtain ⟨M2, M3, hX, hX2, hok2, hok3, hiff, -⟩ := entry_ok (K := keyB q.ra) (ps := prts L q) HS.out.ok (by have := HS.out.e.len; omega) HS.out.ck (keyB_ok _) hp1 hp2
  have hck : 0 ≤ ck ∧ ck ≤ 24 := ⟨HS.out.ok.c0, HS.out.ck⟩
  have HPA : Hid (∀ W : World, Below w2.heap.size w2 W → Calls Tryz.prog 18 #[.slice A1 L.length c1, .agg #[.int .i64 q.kd, .int .i64 q.ra, .int .i64 q.rb, .string (str q.tx)]] W fun e w' => ∃ v, e = .returned v ∧ w'.ownsRow W.heap.size 55 3 v (prts L q).length (pcs (prts L q)) ∧ Below W.heap.size W w') := fun W hb => parts_any _ _ _ L q W (rL2.below hb) hra hrb (fun b hb => (HS.out.b.fine b hb).2.1) (by have := HS.out.b.len; omega)
  have HKY : Hid (∀ W : World, Calls Tryz.prog 17 #[.int .i64 q.ra] W fun e w' => e = .returned (.string (str (keyB q.ra))) ∧ Below W.heap.size W w') := fun W => key_any q.ra W hra
  have hkl := keyB_len q.ra
  have HP : Hid (∀ (W : World) (P : Option Addr) (np cp : Nat), Below w2.heap.size w2 W → Rd W 3 P np cp (pcs (prts L q)) → (P = none → cp = 0) → Calls Tryz.prog 16 #[.agg #[.slice A1 L.length c1, .slice A2 M.length c2, .int .i64 rm, .int .i64 ck], .string (str (keyB q.ra)), .slice P np cp] W (S2l 0 L M2 rm (ck + 1) W)) := fun W P np cp hb hr hn => put_at (HSA.out.below hb) hkl hr hn hp4 hp3 hX
  have HG : Hid (∀ (W : World) (A B : Option Addr) (c k : Nat), Kon W → KRd kBl W A L.length c L → KRd kEn W B M2.length k M2 → (A = none → c = 0) → (B = none → k = 0) → Calls Tryz.prog 19 #[.agg #[.slice A L.length c, .slice B M2.length k, .int .i64 rm, .int .i64 (ck + 1)], .string (str (keyB q.ra))] W (SGF 0 L M3 rm (ck + 2) (prts L q) W)) := fun W A B c k h1 h2 h3 h4 h5 => get_at (sta_of h1 h2 h3 h4 h5 hok2) hkl hX2
  have HIF := Lib.hid hiff
  generalize prts L q = ps at *
  generalize keyB q.ra = kk at *
  clear hX hX2 hp1 hp2 hp3 hp4 hok2 hok3 hiff HS hkl HSA
  have hK2 := Lib.hid (HK0.out.below hbB)
  obtain ⟨s0, s1, s2, s3⟩ := blk4 hs2
  obtain ⟨q0, q1, q2, q3⟩ := blk4 hk2
  go_wp2_with fail
  with_reducible refine (HPA.out _ (Below.refl _ _)).mono ?_
  rintro e w3 ⟨v3, rfl, hown3, hb3⟩
  obtain ⟨P3, p3, rfl, rp3, hP3, -⟩ := own_rdK hown3
  have hs3 := hs2.below hb3 hs2.lt
  have hk3 := hk2.below hb3 hk2.lt
  have hbC := below_step hbB hb3
  have HPP : Hid (∀ (W : World), Below w3.heap.size w3 W → Calls Tryz.prog 16 #[.agg #[.slice A1 L.length c1, .slice A2 M.length c2, .int .i64 rm, .int .i64 ck], .string (str kk), .slice P3 ps.length p3] W (S2l 0 L M2 rm (ck + 1) W)) := fun W hb => HP.out W _ _ _ (below_step hb3 hb) (rp3.below hb) hP3
  have hK3 := Lib.hid (hK2.out.below hb3)
  clear hs2 hk2 hbB hb3 hown3 HPA HP s0 s1 s2 s3 q0 q1 q2 q3 rL2 rM2 HA1 HA2 hK2
  go_upto_region 3 with fail
  go_cut [7, 8] from 20 to 28 (fun s7 s8 wx => SVar w3 L M2 rm (ck + 1) s7 wx ∧ s8 = .int .i64 0)
  case first =>
    have hS8 : ∀ W : World, Below w3.heap.size w3 W → (W.cell? ⟨w1.heap.size, 0, none⟩ = some (.slice A1 L.length c1) ∧ W.cell? ⟨w1.heap.size, 1, none⟩ = some (.slice A2 M.length c2) ∧ W.cell? ⟨w1.heap.size, 2, none⟩ = some (.int .i64 rm) ∧ W.cell? ⟨w1.heap.size, 3, none⟩ = some (.int .i64 ck) ∧ W.cell? ⟨w.heap.size, 0, none⟩ = some (.int .i64 q.kd) ∧ W.cell? ⟨w.heap.size, 1, none⟩ = some (.int .i64 q.ra) ∧ W.cell? ⟨w.heap.size, 2, none⟩ = some (.int .i64 q.rb) ∧ W.cell? ⟨w.heap.size, 3, none⟩ = some (.string (str q.tx))) := fun W hb => s8 (hs3.below hb hs3.lt) (hk3.below hb hk3.lt)
    have b0 := (Below.refl w3.heap.size w3).drew
    have bZ := ((Below.refl w3.heap.size w3).alloc (Nat.le_refl _) (.cells #[.slice none 0 0, .slice none 0 0, .int .i64 0, .int .i64 0] 28)).drew
    have zZ := (Blk.new w3 28 [.slice none 0 0, .slice none 0 0, .int .i64 0, .int .i64 0]).drew
    go_region_held_law (fun W => W.cell? ⟨w1.heap.size, 0, none⟩ = some (.slice A1 L.length c1) ∧ W.cell? ⟨w1.heap.size, 1, none⟩ = some (.slice A2 M.length c2) ∧ W.cell? ⟨w1.heap.size, 2, none⟩ = some (.int .i64 rm) ∧ W.cell? ⟨w1.heap.size, 3, none⟩ = some (.int .i64 ck) ∧ W.cell? ⟨w.heap.size, 0, none⟩ = some (.int .i64 q.kd) ∧ W.cell? ⟨w.heap.size, 1, none⟩ = some (.int .i64 q.ra) ∧ W.cell? ⟨w.heap.size, 2, none⟩ = some (.int .i64 q.rb) ∧ W.cell? ⟨w.heap.size, 3, none⟩ = some (.string (str q.tx)))
      (first | with_reducible exact hS8 _ b0 | with_reducible exact hS8 _ bZ | with_reducible exact hS8 _ B1 | with_reducible exact hS8 _ B1Z | with_reducible exact hS8 _ B2 | with_reducible exact hS8 _ B2Z | with_reducible exact hS8 _ (below4s BF hgz _ _ _ _) | go_keep)
      (first
       | (go_at_call 17; (with_reducible refine (HKY.out _).mono ?_); rintro e v1 ⟨rfl, hb⟩; have B1 := below_step b0 hb; have B1Z := B1.alloc B1.size (.cells #[.slice none 0 0, .slice none 0 0, .int .i64 0, .int .i64 0] 28); have cN1 := True.intro)
       | (go_at_call 17; (with_reducible refine (HKY.out _).mono ?_); rintro e v1 ⟨rfl, hb⟩; have B1 := below_step bZ hb; have hgz1 := Nat.le_refl w3.heap.size; have zq1 := zZ.lt; have zP1 := zZ.below hb zZ.lt; have cZ1 := True.intro)
       | (go_at_call 16; have := cN1; (with_reducible refine (HPP.out _ (B1)).mono ?_); rintro e v2 ⟨A6, c6, B6, d6, rfl, hN6, hM6, hb⟩; have B2 := below_step B1 hb; have B2Z := B2.alloc B2.size (.cells #[.slice none 0 0, .slice none 0 0, .int .i64 0, .int .i64 0] 28); have cN2 := True.intro; have BF := B2; have hbs := (B1).size)
       | (go_at_call 16; have := cN1; (with_reducible refine (HPP.out _ (B1Z)).mono ?_); rintro e v2 ⟨A6, c6, B6, d6, rfl, hN6, hM6, hb⟩; have B2 := below_step B1Z hb; have hgz2 := B1.size; have zq2 := (Blk.new v1 28 [.slice none 0 0, .slice none 0 0, .int .i64 0, .int .i64 0]).lt; have zP2 := (Blk.new v1 28 [.slice none 0 0, .slice none 0 0, .int .i64 0, .int .i64 0]).below hb (Blk.new v1 28 [.slice none 0 0, .slice none 0 0, .int .i64 0, .int .i64 0]).lt; have cZ2 := True.intro; have BF := B2; have hbs := (B1Z).size; have hgz := hgz2; have hgq := zq2; have zE := zP2; have z0 := zE.cell 0; have y0 := zE.frozen 0; have z1 := zE.cell 1; have y1 := zE.frozen 1; have z2 := zE.cell 2; have y2 := zE.frozen 2; have z3 := zE.cell 3; have y3 := zE.frozen 3; simp only [List.getElem?_cons_succ, List.getElem?_cons_zero] at z0 z1 z2 z3)
       | (go_at_call 16; have := cZ1; (with_reducible refine (HPP.out _ (B1)).mono ?_); rintro e v2 ⟨A6, c6, B6, d6, rfl, hN6, hM6, hb⟩; have B2 := below_step B1 hb; have hgz2 := hgz1; have zq2 := zP1.lt; have zP2 := zP1.below hb zP1.lt; have cZ2 := True.intro; have BF := B2; have hbs := (B1).size; have hgz := hgz2; have hgq := zq2; have zE := zP2; have z0 := zE.cell 0; have y0 := zE.frozen 0; have z1 := zE.cell 1; have y1 := zE.frozen 1; have z2 := zE.cell 2; have y2 := zE.frozen 2; have z3 := zE.cell 3; have y3 := zE.frozen 3; simp only [List.getElem?_cons_succ, List.getElem?_cons_zero] at z0 z1 z2 z3))
    all_goals
      go_wp2_with fail
      go_meet
      first
        | with_reducible exact ⟨st_new BF hN6 hM6 hbs, rfl⟩
        | with_reducible exact ⟨st_put zE hgz hgq BF hN6 hM6 hbs, rfl⟩
  case rest =>
    obtain ⟨⟨g4, A3, c3, B3, d3, rfl, z4, hN4, hM4, hg4, hB4⟩, rfl⟩ := hcut
    have hbD := below_step hbC hB4
    have hs4 := hs3.below hB4 hs3.lt
    have hk4 := hk3.below hB4 hk3.lt
    have rp4 := rp3.below hB4
    rename World => w4
    have hK4 := hK3.out.below hB4
    have HNA := hN4.nilCap
    have HMA := hM4.nilCap
    have HGG : Hid (∀ (W : World), Below w4.heap.size w4 W → Calls Tryz.prog 19 #[.agg #[.slice A3 L.length c3, .slice B3 M2.length d3, .int .i64 rm, .int .i64 (ck + 1)], .string (str kk)] W (SGF 0 L M3 rm (ck + 2) ps W)) := fun W hb => HG.out W _ _ _ _ (hK4.below hb) (hN4.rd.below hb) (hM4.rd.below hb) HNA HMA
    clear hs3 hk3 rp3 hN4 hM4 hg4 hB4 HPP HG HNA HMA hbC hK3
    go_upto_region 4 with fail
    go_cut [9, 10, 11] from 29 to 37 (fun s9 s10 s11 wx => SVar w4 L M3 rm (ck + 2) s9 wx ∧ PVar w4 ps s10 wx ∧ s11 = .int .i64 0)
    case first =>
      have hS8 : ∀ W : World, Below w4.heap.size w4 W → (W.cell? ⟨g4, 0, none⟩ = some (.slice A3 L.length c3) ∧ W.cell? ⟨g4, 1, none⟩ = some (.slice B3 M2.length d3) ∧ W.cell? ⟨g4, 2, none⟩ = some (.int .i64 rm) ∧ W.cell? ⟨g4, 3, none⟩ = some (.int .i64 (ck + 1)) ∧ W.cell? ⟨w.heap.size, 0, none⟩ = some (.int .i64 q.kd) ∧ W.cell? ⟨w.heap.size, 1, none⟩ = some (.int .i64 q.ra) ∧ W.cell? ⟨w.heap.size, 2, none⟩ = some (.int .i64 q.rb) ∧ W.cell? ⟨w.heap.size, 3, none⟩ = some (.string (str q.tx))) := fun W hb => s8 (z4.below hb z4.lt) (hk4.below hb hk4.lt)
      have b0 := (Below.refl w4.heap.size w4).drew
      have bZ := ((Below.refl w4.heap.size w4).alloc (Nat.le_refl _) (.cells #[.slice none 0 0, .slice none 0 0, .int .i64 0, .int .i64 0] 28)).drew
      have zZ := (Blk.new w4 28 [.slice none 0 0, .slice none 0 0, .int .i64 0, .int .i64 0]).drew
      go_region_held_law (fun W => W.cell? ⟨g4, 0, none⟩ = some (.slice A3 L.length c3) ∧ W.cell? ⟨g4, 1, none⟩ = some (.slice B3 M2.length d3) ∧ W.cell? ⟨g4, 2, none⟩ = some (.int .i64 rm) ∧ W.cell? ⟨g4, 3, none⟩ = some (.int .i64 (ck + 1)) ∧ W.cell? ⟨w.heap.size, 0, none⟩ = some (.int .i64 q.kd) ∧ W.cell? ⟨w.heap.size, 1, none⟩ = some (.int .i64 q.ra) ∧ W.cell? ⟨w.heap.size, 2, none⟩ = some (.int .i64 q.rb) ∧ W.cell? ⟨w.heap.size, 3, none⟩ = some (.string (str q.tx)))
        (first | with_reducible exact hS8 _ b0 | with_reducible exact hS8 _ bZ | with_reducible exact hS8 _ B1 | with_reducible exact hS8 _ B1Z | with_reducible exact hS8 _ B2 | with_reducible exact hS8 _ B2Z | with_reducible exact hS8 _ (below4s BF hgz _ _ _ _) | go_keep)
        (first
         | (go_at_call 17; (with_reducible refine (HKY.out _).mono ?_); rintro e v1 ⟨rfl, hb⟩; have B1 := below_step b0 hb; have B1Z := B1.alloc B1.size (.cells #[.slice none 0 0, .slice none 0 0, .int .i64 0, .int .i64 0] 28); have cN1 := True.intro)
         | (go_at_call 17; (with_reducible refine (HKY.out _).mono ?_); rintro e v1 ⟨rfl, hb⟩; have B1 := below_step bZ hb; have hgz1 := Nat.le_refl w4.heap.size; have zq1 := zZ.lt; have zP1 := zZ.below hb zZ.lt; have cZ1 := True.intro)
         | (go_at_call 19; have := cN1; (with_reducible refine (HGG.out _ (B1)).mono ?_); rintro e v2 ⟨A6, c6, B6, d6, P6, n6, f6, rfl, hN6, hM6, hP6, hP6n, hP6F, hb⟩; have B2 := below_step B1 hb; have B2Z := B2.alloc B2.size (.cells #[.slice none 0 0, .slice none 0 0, .int .i64 0, .int .i64 0] 28); have cN2 := True.intro; have BF := B2; have hbs := (B1).size)
         | (go_at_call 19; have := cN1; (with_reducible refine (HGG.out _ (B1Z)).mono ?_); rintro e v2 ⟨A6, c6, B6, d6, P6, n6, f6, rfl, hN6, hM6, hP6, hP6n, hP6F, hb⟩; have B2 := below_step B1Z hb; have hgz2 := B1.size; have zq2 := (Blk.new v1 28 [.slice none 0 0, .slice none 0 0, .int .i64 0, .int .i64 0]).lt; have zP2 := (Blk.new v1 28 [.slice none 0 0, .slice none 0 0, .int .i64 0, .int .i64 0]).below hb (Blk.new v1 28 [.slice none 0 0, .slice none 0 0, .int .i64 0, .int .i64 0]).lt; have cZ2 := True.intro; have BF := B2; have hbs := (B1Z).size; have hgz := hgz2; have hgq := zq2; have zE := zP2; have z0 := zE.cell 0; have y0 := zE.frozen 0; have z1 := zE.cell 1; have y1 := zE.frozen 1; have z2 := zE.cell 2; have y2 := zE.frozen 2; have z3 := zE.cell 3; have y3 := zE.frozen 3; simp only [List.getElem?_cons_succ, List.getElem?_cons_zero] at z0 z1 z2 z3)
         | (go_at_call 19; have := cZ1; (with_reducible refine (HGG.out _ (B1)).mono ?_); rintro e v2 ⟨A6, c6, B6, d6, P6, n6, f6, rfl, hN6, hM6, hP6, hP6n, hP6F, hb⟩; have B2 := below_step B1 hb; have hgz2 := hgz1; have zq2 := zP1.lt; have zP2 := zP1.below hb zP1.lt; have cZ2 := True.intro; have BF := B2; have hbs := (B1).size; have hgz := hgz2; have hgq := zq2; have zE := zP2; have z0 := zE.cell 0; have y0 := zE.frozen 0; have z1 := zE.cell 1; have y1 := zE.frozen 1; have z2 := zE.cell 2; have y2 := zE.frozen 2; have z3 := zE.cell 3; have y3 := zE.frozen 3; simp only [List.getElem?_cons_succ, List.getElem?_cons_zero] at z0 z1 z2 z3))
      all_goals
        go_wp2_with fail
        go_meet
        first
          | with_reducible exact ⟨st_new BF hN6 hM6 hbs, pv_new hP6 hP6n hP6F hbs _, rfl⟩
          | with_reducible exact ⟨st_put zE hgz hgq BF hN6 hM6 hbs, pv_put hP6 hP6n hP6F hbs hgq _ _ _ _, rfl⟩
    case rest =>
      obtain ⟨⟨g5, A5, c5, B5, d5, rfl, z5, hN5, hM5, hg5, hB5⟩, ⟨P5, n5, f5, rfl, rP5, -, -⟩, rfl⟩ := hcut
      have hbE := below_step hbD hB5
      have hs5 := hs4.below hB5 hs4.lt
      have hk5 := hk4.below hB5 hk4.lt
      have rp5 := rp4.below hB5
      have hK5 := hK4.below hB5
      have rM5 := hM5.rd
      rename World => w5
      clear hs4 hk4 rp4 hN5 hM5 hg5 hB5 HGG hK4 z4 hbD
      go_wp2_with fail
      with_reducible refine (kept_any _ hK5).mono ?_
      rintro e w6 ⟨rfl, hb6⟩
      have hq6 := ((equalParts_any _ _ _ _ _ _ ps ps _ (rP5.below hb6) (rp5.below hb6)).mono fun _ _ h => h.yes rfl)
      have HQ6 := Lib.hid hq6
      clear hq6
      go_wp2_with fail
      with_reducible refine HQ6.out.mono ?_
      rintro e w7 ⟨rfl, hb7⟩
      have b67 := below_step hb6 hb7
      have z7 := z5.below b67 z5.lt
      have hs7 := hs5.below b67 hs5.lt
      have hk7 := hk5.below b67 hk5.lt
      have rM7 := rM5.below b67
      have hbF := below_step hbE b67
      clear z5 hs5 hk5 rM5 hb6 hb7 b67 HQ6 rP5 rp5 hbE hK5
      obtain ⟨x0, x1, x2, x3⟩ := blk4 z7
      go_wp2_with fail
      have hcapM := rM7.cap
      unfold maxLen at hcapM
      go_loopw [57] (fun s wr => ∃ k : Nat, k ≤ M3.length ∧ s = .int .i64 k ∧ Below w7.heap.size w7 wr) (fun s _ => M3.length - (intOf s).toNat)
      case atStart => exact ⟨0, Nat.zero_le _, rfl, Below.refl _ _⟩
      case round =>
        obtain ⟨k, hk, rfl, hbel⟩ := hrel
        by_cases hlt : k < M3.length
        · obtain ⟨b, off, D, dn, dc, rfl, e0, e1, e2, e3, -, -⟩ := (rM7.below hbel).entry hlt
          have hki : (k : Int) < (M3.length : Int) := by omega
          have hif := HIF.out _ (List.getElem_mem hlt)
          generalize M3[k] = x at *
          obtain ⟨ky, xp, xn, xt⟩ := x
          simp only at e0 e1 e2 e3 hif
          obtain ⟨v, h1, h2⟩ : ∃ v : Bool, (xt == ck + 2) = v ∧ (ky == kk) = v := by
            by_cases h : xt = ck + 2
            · exact ⟨true, by rw [beq_iff_eq]; exact h, by rw [beq_iff_eq]; exact hif.1 h⟩
            · exact ⟨false, by rw [beq_eq_false_iff_ne]; exact h, by rw [beq_eq_false_iff_ne]; exact fun q => h (hif.2 q)⟩
          have hvv : (v != v) = false := by cases v <;> rfl
          have hal8 := (Below.refl wr.heap.size wr).alloc (Nat.le_refl _) (.cells #[.string (str ky), .slice D dn dc, .int .i64 xn, .int .i64 xt] 57)
          have x8 := Blk.new wr 57 [.string (str ky), .slice D dn dc, .int .i64 xn, .int .i64 xt]
          have b8 := below_step hbel hal8
          have z8 := z7.below b8 z7.lt
          have k8 := hk7.below b8 hk7.lt
          clear hif
          go_upto_region 10 with fail
          generalize hw8 : wr.alloc (.cells [Value.string (str ky), .slice D dn dc, .int .i64 xn, .int .i64 xt].toArray 57) = w8 at *
          clear hw8 e0 e1 e2 e3 hal8
          have hS8 : ∀ W : World, Below w8.heap.size w8 W → (W.cell? ⟨wr.heap.size, 3, none⟩ = some (.int .i64 xt) ∧ W.cell? ⟨g5, 3, none⟩ = some (.int .i64 (ck + 2)) ∧ W.cell? ⟨wr.heap.size, 0, none⟩ = some (.string (str ky)) ∧ W.cell? ⟨w.heap.size, 1, none⟩ = some (.int .i64 q.ra)) := fun W hb => ⟨(x8.below hb x8.lt).cell 3, (z8.below hb z8.lt).cell 3, (x8.below hb x8.lt).cell 0, (k8.below hb k8.lt).cell 1⟩
          have b0 := (Below.refl w8.heap.size w8).drew
          go_region_held_law (fun W => W.cell? ⟨wr.heap.size, 3, none⟩ = some (.int .i64 xt) ∧ W.cell? ⟨g5, 3, none⟩ = some (.int .i64 (ck + 2)) ∧ W.cell? ⟨wr.heap.size, 0, none⟩ = some (.string (str ky)) ∧ W.cell? ⟨w.heap.size, 1, none⟩ = some (.int .i64 q.ra))
            (first | with_reducible exact hS8 _ b0 | with_reducible exact hS8 _ B1 | go_keep)
            (first | (go_at_call 17; (with_reducible refine (HKY.out _).mono ?_); rintro e w9 ⟨rfl, hb9⟩; have B1 := below_step b0 hb9))
          all_goals
            go_wp2
            go_roundw
            case rel => exact ⟨k + 1, by omega, by go_num, below_step b8 B1⟩
            case measure => simp [intOf] <;> omega
        · have hki : decide ((k : Int) < (M3.length : Int)) = false := by rw [decide_eq_false_iff_not]; omega
          have z8 := z7.below hbel z7.lt
          have s8' := hs7.below hbel hs7.lt
          have x3' := (blk4 z8).2.2.2
          have y3' := (blk4 s8').2.2.2
          go_wp2
          go_ret
          exact ⟨by simp, below_step hbF hbel⟩
end Go.Proofs.YtnadgdjaldemhaaGreatDoor

/- The law StoreOwn: the walk. -/
import Derived.Test.YtdohiioiollfhaaGreatDoorQKxw
import Derived.Test.YtdohiioiollfhaaGreatDoorQKaw
import Derived.Test.YtdohiioiollfhaaGreatDoorQKcw
import Derived.Test.YtdohiioiollfhaaGreatDoorQKw
import Derived.Test.YtdohiioiollfhaaGreatDoorQYf
import Derived.Test.YtdohiioiollfhaaGreatDoorQWo
import Derived.BigQuiet
import Derived.Deep.RegionHeldLaw
import Derived.Deep.CutBlock
import Derived.Deep.CutRange
namespace Go.Proofs.YtdohiioiollfhaaGreatDoor
open Go.RowKit
theorem two_bs {L L' m : List Bl} (h : L.Perm m) (hs : Srt L) (h' : L'.Perm m) (hs' : Srt L') : L = L' :=
  List.Perm.eq_of_pairwise (le := fun (a b : Bl) => Op.bytesLess a.dg b.dg = true) (fun a b _ _ p q => by have := bl_trans p q; rw [bl_irrefl] at this; cases this) hs hs' (h.trans h'.symm)
theorem two_es {L L' m : List En} (h : L.Perm m) (hs : SrtE L) (h' : L'.Perm m) (hs' : SrtE L') : L = L' :=
  List.Perm.eq_of_pairwise (le := fun (a b : En) => Op.bytesLess a.ky b.ky = true) (fun a b _ _ p q => by have := bl_trans p q; rw [bl_irrefl] at this; cases this) hs hs' (h.trans h'.symm)
/-- the statements' own store: what it is of the raw things alone -/
def GivesSp (l : List Rw) (rm ck : Int) (w : World) (e : Ending) (w' : World) : Prop :=
  ∃ A c L B d M, e = .returned (.agg #[.slice A (L : List Bl).length c, .slice B (M : List En).length d, .int .i64 rm, .int .i64 ck]) ∧ KNew kBl w' w.heap.size A L.length c L ∧ KNew kEn w' w.heap.size B M.length d M ∧ (L.Perm (sAll l).bs ∧ Srt L ∧ M.Perm (sAll l).es ∧ SrtE M) ∧ Below w.heap.size w w'
theorem store_p (A : Option Addr) (n c : Nat) (l : List Rw) (w : World) (hr : Rd w 4 A n c (rcs l)) (hg : ∀ p ∈ l, p.good) (hn : n ≤ 4294967296000) {rm ck : Int} (hrm : rm = ((sAll l).us + 600 : Nat)) (hck : ck = ((sAll l).ck : Nat)) :
    Calls Tryz.prog 4 #[.slice A n c] w (GivesSp l rm ck w) := by
  subst hrm hck
  refine (store_any A n c l w hr hg hn).mono ?_
  rintro e w' ⟨vB, vE, hB, hE, rfl, h2, hp, hq, hs, ht, hb⟩
  obtain ⟨A1, c1, rfl, hN⟩ := h2.a.own.new
  obtain ⟨A2, c2, rfl, hM⟩ := h2.b.own.new
  exact ⟨A1, c1, hB.map Prod.fst, A2, c2, hE.map Prod.fst, rfl, hN.rebase (by omega), hM.rebase (by omega), ⟨hp, hs, hq, ht⟩, hb⟩
set_option maxRecDepth 100000 in
set_option maxHeartbeats 4000000 in
theorem storeOwn_walk (A : Option Addr) (n c : Nat) (l : List Rw) (q : Rw) (w : World) (hK : Kon w) (hr : Rd w 4 A n c (rcs l)) (hg : ∀ p ∈ l, p.good) (hn : n ≤ 4294967296000) (hq : q.good) :
    Calls Tryz.prog 3 #[.slice A n c, .agg #[.int .i64 q.kd, .int .i64 q.ra, .int .i64 q.rb, .string (str q.tx)]] w fun e w' => e = .returned (.bool true) ∧ Below w.heap.size w w' := by
  have hal := (Below.refl w.heap.size w).alloc (Nat.le_refl _) (.cells #[.int .i64 q.kd, .int .i64 q.ra, .int .i64 q.rb, .string (str q.tx)] 24)
  have hbk := Blk.new w 24 [.int .i64 q.kd, .int .i64 q.ra, .int .i64 q.rb, .string (str q.tx)]
  have hra : (Lit.int .i64 q.ra).wf = true := hq.2.1
  have hrb : (Lit.int .i64 q.rb).wf = true := hq.2.2.1
  have htx : q.tx.length ≤ 140737488351232 := hq.2.2.2
  have r0 := hr.below hal
  have HK0 := Lib.hid hK
  obtain ⟨rm, hrm⟩ : ∃ rm : Int, rm = ((sAll l).us + 600 : Nat) := ⟨_, rfl⟩
  obtain ⟨ck, hck⟩ : ∃ ck : Int, ck = ((sAll l).ck : Nat) := ⟨_, rfl⟩
  have HRM := Lib.hid hrm
  have HCK := Lib.hid hck
  clear hr hK hq hrm hck
  go_enter Tryz.func3, Tryz.ntmps3
  go_wp2_with fail
  with_reducible refine (store_p _ _ _ _ _ r0 hg hn HRM.out HCK.out).mono ?_
  rintro e w1 ⟨A1, c1, L, A2, c2, M, rfl, hN1, hM1, ⟨p1, p2, p3, p4⟩, hb1⟩
  have hbA := below_step hal hb1
  have hk1 := hbk.below hb1 hbk.lt
  have HS : Hid (StS L M rm ck) := by rw [HRM.out, HCK.out]; exact Lib.hid (StS.of p1 p2 p3 p4)
  go_wp2_with fail
  with_reducible refine (store_p _ _ _ _ _ (r0.below hb1) hg hn HRM.out HCK.out).mono ?_
  rintro e w2 ⟨A3, c3, L', A4, c4, M', rfl, hN2, hM2, ⟨q1, q2, q3, q4⟩, hb2⟩
  obtain rfl := two_bs p1 p2 q1 q2
  obtain rfl := two_es p3 p4 q3 q4
  have hbB := below_step hbA hb2
  have hk2 := hk1.below hb2 hk1.lt
  have hkl := hk1.lt
  have rL2 := hN1.rd.below hb2
  have rM2 := hM1.rd.below hb2
  have rX2 := hN2.rd
  have rY2 := hM2.rd
  have HA1 := Lib.hid hN1.nilCap
  have HA2 := Lib.hid hM1.nilCap
  have HA3 := Lib.hid hN2.nilCap
  have HA4 := Lib.hid hM2.nilCap
  have hz12 := hb2.size
  clear p1 p2 p3 p4 q1 q2 q3 q4 hN1 hM1 hN2 hM2 hb1 hb2 hk1 hbk hal r0 hg hn hbA
  have bS := ((Below.refl w2.heap.size w2).alloc (Nat.le_refl _) (.cells [Value.slice A1 L.length c1, .slice A2 M.length c2, .int .i64 rm, .int .i64 ck].toArray 28)).alloc (by simp) (.cells [Value.slice A3 L.length c3, .slice A4 M.length c4, .int .i64 rm, .int .i64 ck].toArray 28)
  have blkS := (Blk.new w2 28 [.slice A1 L.length c1, .slice A2 M.length c2, .int .i64 rm, .int .i64 ck]).alloc (.cells [Value.slice A3 L.length c3, .slice A4 M.length c4, .int .i64 rm, .int .i64 ck].toArray 28)
  have blkW := Blk.new (w2.alloc (.cells [Value.slice A1 L.length c1, .slice A2 M.length c2, .int .i64 rm, .int .i64 ck].toArray 28)) 28 [.slice A3 L.length c3, .slice A4 M.length c4, .int .i64 rm, .int .i64 ck]
  rw [show (w2.alloc (.cells [Value.slice A1 L.length c1, .slice A2 M.length c2, .int .i64 rm, .int .i64 ck].toArray 28)).heap.size = w2.heap.size + 1 by simp] at blkW
  go_upto_region 3 with fail
  generalize hw3 : (w2.alloc (.cells [Value.slice A1 L.length c1, .slice A2 M.length c2, .int .i64 rm, .int .i64 ck].toArray 28)).alloc (.cells [Value.slice A3 L.length c3, .slice A4 M.length c4, .int .i64 rm, .int .i64 ck].toArray 28) = w3 at *
  clear hw3
  have hbC := below_step hbB bS
  have hk3 := hk2.below bS hk2.lt
  have rL3 := rL2.below bS
  have rM3 := rM2.below bS
  have rX3 := rX2.below bS
  have rY3 := rY2.below bS
  have hs23 := bS.size
  have hwlt : w2.heap.size + 1 < w3.heap.size := blkW.lt
  clear rL2 rM2 rX2 rY2 hk2 hbB bS hz12 hkl
  have hK3 := Lib.hid (HK0.out.below hbC)
  have HSA : Hid (StA w3 A1 A2 L.length c1 M.length c2 ⟨L, M, rm, ck⟩) := sta_of hK3.out rL3 rM3 HA1.out HA2.out HS.out.ok
  obtain ⟨hp1, hp2, hp3, hp4⟩ := prts_in HS.out q
  obtain ⟨L2, hXa, -, hok2, -, hl2⟩ := twice_ok (D := dat q 60) HS.out.ok HS.out.b.len (by have := HS.out.room; omega) (dat_le q 60)
  obtain ⟨M2, M3, hXb, -, hokb, -, -, hm2⟩ := entry_ok (K := keyB q.ra) (ps := prts L q) HS.out.ok (by have := HS.out.e.len; omega) HS.out.ck (keyB_ok _) hp1 hp2
  obtain ⟨Ec, Lc, Mc, rc, tc, pc, hXc⟩ : ∃ E L' M' r' t' d', sGet ⟨L, M, rm, ck⟩ (keyB q.ra) = (E, ⟨L', M', r', t'⟩, d') := ⟨_, _, _, _, _, _, rfl⟩
  have HOKc : Hid ((⟨Lc, Mc, rc, tc⟩ : Sto).ok) := by have := get_ok ⟨L, M, rm, ck⟩ (keyB q.ra); rw [hXc] at this; exact this
  have few : ∀ {s : Sto}, s.ok → s.bs.length ≤ 100 ∧ s.es.length ≤ 100 := fun h => ⟨Nat.le_trans (bsErr_zero.1 h.be).1 (by omega), Nat.le_trans (xsErr_zero.1 h.xe).1 (by omega)⟩
  have Fa := Lib.hid (few hok2)
  have Fb := Lib.hid (few hokb)
  have Fc := Lib.hid (few HOKc.out)
  have Fs := Lib.hid (few HS.out.ok)
  have HPA : Hid (∀ W : World, Below w3.heap.size w3 W → Calls Tryz.prog 10 #[.slice A1 L.length c1, .agg #[.int .i64 q.kd, .int .i64 q.ra, .int .i64 q.rb, .string (str q.tx)]] W fun e w' => ∃ v, e = .returned v ∧ w'.ownsRow W.heap.size 37 3 v (prts L q).length (pcs (prts L q)) ∧ Below W.heap.size W w') := fun W hb => parts_any _ _ _ L q W (rL3.below hb) hra hrb (fun b hb => (HS.out.b.fine b hb).2.1) (by have := HS.out.b.len; omega)
  have HKY : Hid (∀ W : World, Calls Tryz.prog 9 #[.int .i64 q.ra] W fun e w' => e = .returned (.string (str (keyB q.ra))) ∧ Below W.heap.size W w') := fun W => key_any q.ra W hra
  have hkl := keyB_len q.ra
  have HDT : Hid (∀ W : World, Calls Tryz.prog 7 #[.agg #[.int .i64 q.kd, .int .i64 q.ra, .int .i64 q.rb, .string (str q.tx)], .int .i64 60] W (GivesBy (dat q 60) W)) := fun W => data_any q 60 W htx (by omega)
  have HP1 := Lib.hid (fun (W : World) (D : Option Addr) (n d : Nat) (hb : Below w3.heap.size w3 W) (hr : Rd W 1 D n d ((dat q 60).map bv8)) (hD : D = none → d = 0) => pb_at (HSA.out.below hb) hr hD hXa)
  have HP2 := Lib.hid (fun (W : World) (P : Option Addr) (np cp : Nat) (hb : Below w3.heap.size w3 W) (hr : Rd W 3 P np cp (pcs (prts L q))) (hn : P = none → cp = 0) => put_at (HSA.out.below hb) hkl hr hn hp4 hp3 hXb)
  have HP3 := Lib.hid (fun (W : World) (hb : Below w3.heap.size w3 W) => get_at (HSA.out.below hb) hkl hXc)
  have HP4 : Hid (∀ (W : World), Below w3.heap.size w3 W → Calls Tryz.prog 12 #[.agg #[.slice A1 L.length c1, .slice A2 M.length c2, .int .i64 rm, .int .i64 ck]] W fun e w' => ∃ A c B d, e = .returned (.agg #[.slice A L.length c, .slice B M.length d, .int .i64 rm, .int .i64 ck]) ∧ Nw kBlW w' W.heap.size A L.length c L ∧ Nw kEnW w' W.heap.size B M.length d M ∧ Below W.heap.size W w') := fun W hb => lCopy_any (HSA.out.below hb)
  have hl2' : ((L2.length : Int) == 0) = false := by rw [beq_eq_false_iff_ne]; omega
  have hm2' : ((M2.length : Int) == 0) = false := by rw [beq_eq_false_iff_ne]; omega
  clear hXa hXb hXc hp1 hp2 hp3 hp4 hok2 hokb HS hkl HSA hra hrb htx few hl2 hm2 HA1 HA2 HA3 HA4
  simp only at Fa Fb Fc Fs
  generalize prts L q = ps at *
  generalize keyB q.ra = kk at *
  generalize dig (dat q 60) = dd at *
  generalize dat q 60 = dt at *
  have x3 := blkS
  have k3 := hk3
  have bT := Below.refl w3.heap.size w3
  clear x3 k3
  go_cut [8, 10] from 21 to 28 (fun s8 s10 wx => SVar w3 L2 M rm ck s8 wx ∧ s10 = .int .i64 0)
  case first =>
    have xx := blkS.below bT blkS.lt
    have kk' := hk3.below bT hk3.lt
    have hS8 : ∀ W : World, Below w3.heap.size w3 W → (W.cell? ⟨w2.heap.size, 0, none⟩ = some (.slice A1 L.length c1) ∧ W.cell? ⟨w2.heap.size, 1, none⟩ = some (.slice A2 M.length c2) ∧ W.cell? ⟨w2.heap.size, 2, none⟩ = some (.int .i64 rm) ∧ W.cell? ⟨w2.heap.size, 3, none⟩ = some (.int .i64 ck) ∧ W.cell? ⟨w.heap.size, 0, none⟩ = some (.int .i64 q.kd) ∧ W.cell? ⟨w.heap.size, 1, none⟩ = some (.int .i64 q.ra) ∧ W.cell? ⟨w.heap.size, 2, none⟩ = some (.int .i64 q.rb) ∧ W.cell? ⟨w.heap.size, 3, none⟩ = some (.string (str q.tx))) := fun W hb => s8 (xx.below hb xx.lt) (kk'.below hb kk'.lt)
    have bTT := Lib.hid (fun (W : World) (hb : Below w3.heap.size w3 W) => bT.trans (hb.mono bT.size))
    have b0 := (Below.refl w3.heap.size w3).drew
    have bZ := ((Below.refl w3.heap.size w3).alloc (Nat.le_refl _) (.cells #[.slice none 0 0, .slice none 0 0, .int .i64 0, .int .i64 0] 28)).drew
    have zZ := (Blk.new w3 28 [.slice none 0 0, .slice none 0 0, .int .i64 0, .int .i64 0]).drew
    go_region_held_law (fun W => W.cell? ⟨w2.heap.size, 0, none⟩ = some (.slice A1 L.length c1) ∧ W.cell? ⟨w2.heap.size, 1, none⟩ = some (.slice A2 M.length c2) ∧ W.cell? ⟨w2.heap.size, 2, none⟩ = some (.int .i64 rm) ∧ W.cell? ⟨w2.heap.size, 3, none⟩ = some (.int .i64 ck) ∧ W.cell? ⟨w.heap.size, 0, none⟩ = some (.int .i64 q.kd) ∧ W.cell? ⟨w.heap.size, 1, none⟩ = some (.int .i64 q.ra) ∧ W.cell? ⟨w.heap.size, 2, none⟩ = some (.int .i64 q.rb) ∧ W.cell? ⟨w.heap.size, 3, none⟩ = some (.string (str q.tx)))
      (first | with_reducible exact hS8 _ b0 | with_reducible exact hS8 _ bZ | with_reducible exact hS8 _ B1 | with_reducible exact hS8 _ B1Z | with_reducible exact hS8 _ B2 | with_reducible exact hS8 _ B2Z | with_reducible exact hS8 _ (below4s BF hgz _ _ _ _) | go_keep)
      (first
       | (go_at_call 7; (with_reducible refine (HDT.out _).mono ?_); rintro e v1 ⟨A5, n5, c5, rfl, hrd5, hA5, -, hb⟩; have B1 := below_step b0 hb; have B1Z := B1.alloc B1.size (.cells #[.slice none 0 0, .slice none 0 0, .int .i64 0, .int .i64 0] 28); have hrd5_1 := hrd5; have hrd5_1Z := hrd5.below ((Below.refl v1.heap.size v1).alloc (Nat.le_refl _) (.cells #[.slice none 0 0, .slice none 0 0, .int .i64 0, .int .i64 0] 28)); have cN1 := True.intro)
       | (go_at_call 7; (with_reducible refine (HDT.out _).mono ?_); rintro e v1 ⟨A5, n5, c5, rfl, hrd5, hA5, -, hb⟩; have B1 := below_step bZ hb; have hrd5_1 := hrd5; have hgz1 := Nat.le_refl w3.heap.size; have zq1 := zZ.lt; have zP1 := zZ.below hb zZ.lt; have cZ1 := True.intro)
       | (go_at_call 6; have := cN1; (with_reducible refine (HP1.out _ _ _ _ (bTT.out _ (B1)) hrd5_1 hA5).mono ?_); rintro e v2 ⟨A6, c6, B6, d6, rfl, hN6, hM6, hb⟩; have B2 := below_step B1 hb; have B2Z := B2.alloc B2.size (.cells #[.slice none 0 0, .slice none 0 0, .int .i64 0, .int .i64 0] 28); have hrd5_2 := hrd5_1.below hb; have hrd5_2Z := hrd5_2.below ((Below.refl v2.heap.size v2).alloc (Nat.le_refl _) (.cells #[.slice none 0 0, .slice none 0 0, .int .i64 0, .int .i64 0] 28)); have cN2 := True.intro; have BF := B2; have hbs := (B1).size)
       | (go_at_call 6; have := cN1; (with_reducible refine (HP1.out _ _ _ _ (bTT.out _ (B1Z)) hrd5_1Z hA5).mono ?_); rintro e v2 ⟨A6, c6, B6, d6, rfl, hN6, hM6, hb⟩; have B2 := below_step B1Z hb; have hrd5_2 := hrd5_1Z.below hb; have hgz2 := B1.size; have zq2 := (Blk.new v1 28 [.slice none 0 0, .slice none 0 0, .int .i64 0, .int .i64 0]).lt; have zP2 := (Blk.new v1 28 [.slice none 0 0, .slice none 0 0, .int .i64 0, .int .i64 0]).below hb (Blk.new v1 28 [.slice none 0 0, .slice none 0 0, .int .i64 0, .int .i64 0]).lt; have cZ2 := True.intro; have BF := B2; have hbs := (B1Z).size; have hgz := hgz2; have hgq := zq2; have zE := zP2; have z0 := zE.cell 0; have y0 := zE.frozen 0; have z1 := zE.cell 1; have y1 := zE.frozen 1; have z2 := zE.cell 2; have y2 := zE.frozen 2; have z3 := zE.cell 3; have y3 := zE.frozen 3; simp only [List.getElem?_cons_succ, List.getElem?_cons_zero] at z0 z1 z2 z3)
       | (go_at_call 6; have := cZ1; (with_reducible refine (HP1.out _ _ _ _ (bTT.out _ (B1)) hrd5_1 hA5).mono ?_); rintro e v2 ⟨A6, c6, B6, d6, rfl, hN6, hM6, hb⟩; have B2 := below_step B1 hb; have hrd5_2 := hrd5_1.below hb; have hgz2 := hgz1; have zq2 := zP1.lt; have zP2 := zP1.below hb zP1.lt; have cZ2 := True.intro; have BF := B2; have hbs := (B1).size; have hgz := hgz2; have hgq := zq2; have zE := zP2; have z0 := zE.cell 0; have y0 := zE.frozen 0; have z1 := zE.cell 1; have y1 := zE.frozen 1; have z2 := zE.cell 2; have y2 := zE.frozen 2; have z3 := zE.cell 3; have y3 := zE.frozen 3; simp only [List.getElem?_cons_succ, List.getElem?_cons_zero] at z0 z1 z2 z3))
    all_goals
      go_wp2_with fail
      go_meet
      first
        | with_reducible exact ⟨st_new BF hN6 hM6 hbs, rfl⟩
        | with_reducible exact ⟨st_put zE hgz hgq BF hN6 hM6 hbs, rfl⟩
  case rest =>
    obtain ⟨⟨ga, Aa, ca, Ba, da, rfl, za, hNa, hMa, hga, bU⟩, rfl⟩ := hcut
    rename World => w4
    have sa := spb_of hNa
    have sb := spe_of hMa
    have bT4 := bT.trans bU
    clear hNa hMa bT bU
    have bT := bT4
    clear bT4
    go_upto_region 4 with fail
    go_cut [11, 12] from 29 to 40 (fun s11 s12 wx => SVar w4 L M2 rm (ck + 1) s11 wx ∧ s12 = .int .i64 0)
    case first =>
      have xx := blkS.below bT blkS.lt
      have kk' := hk3.below bT hk3.lt
      have hS8 : ∀ W : World, Below w4.heap.size w4 W → (W.cell? ⟨w2.heap.size, 0, none⟩ = some (.slice A1 L.length c1) ∧ W.cell? ⟨w2.heap.size, 1, none⟩ = some (.slice A2 M.length c2) ∧ W.cell? ⟨w2.heap.size, 2, none⟩ = some (.int .i64 rm) ∧ W.cell? ⟨w2.heap.size, 3, none⟩ = some (.int .i64 ck) ∧ W.cell? ⟨w.heap.size, 0, none⟩ = some (.int .i64 q.kd) ∧ W.cell? ⟨w.heap.size, 1, none⟩ = some (.int .i64 q.ra) ∧ W.cell? ⟨w.heap.size, 2, none⟩ = some (.int .i64 q.rb) ∧ W.cell? ⟨w.heap.size, 3, none⟩ = some (.string (str q.tx))) := fun W hb => s8 (xx.below hb xx.lt) (kk'.below hb kk'.lt)
      have bTT := Lib.hid (fun (W : World) (hb : Below w4.heap.size w4 W) => bT.trans (hb.mono bT.size))
      have b0 := (Below.refl w4.heap.size w4).drew
      have bZ := ((Below.refl w4.heap.size w4).alloc (Nat.le_refl _) (.cells #[.slice none 0 0, .slice none 0 0, .int .i64 0, .int .i64 0] 28)).drew
      have zZ := (Blk.new w4 28 [.slice none 0 0, .slice none 0 0, .int .i64 0, .int .i64 0]).drew
      go_region_held_law (fun W => W.cell? ⟨w2.heap.size, 0, none⟩ = some (.slice A1 L.length c1) ∧ W.cell? ⟨w2.heap.size, 1, none⟩ = some (.slice A2 M.length c2) ∧ W.cell? ⟨w2.heap.size, 2, none⟩ = some (.int .i64 rm) ∧ W.cell? ⟨w2.heap.size, 3, none⟩ = some (.int .i64 ck) ∧ W.cell? ⟨w.heap.size, 0, none⟩ = some (.int .i64 q.kd) ∧ W.cell? ⟨w.heap.size, 1, none⟩ = some (.int .i64 q.ra) ∧ W.cell? ⟨w.heap.size, 2, none⟩ = some (.int .i64 q.rb) ∧ W.cell? ⟨w.heap.size, 3, none⟩ = some (.string (str q.tx)))
        (first | with_reducible exact hS8 _ b0 | with_reducible exact hS8 _ bZ | with_reducible exact hS8 _ B1 | with_reducible exact hS8 _ B1Z | with_reducible exact hS8 _ B2 | with_reducible exact hS8 _ B2Z | with_reducible exact hS8 _ B3 | with_reducible exact hS8 _ B3Z | with_reducible exact hS8 _ (below4s BF hgz _ _ _ _) | go_keep)
        (first
         | (go_at_call 9; (with_reducible refine (HKY.out _).mono ?_); rintro e v1 ⟨rfl, hb⟩; have B1 := below_step b0 hb; have B1Z := B1.alloc B1.size (.cells #[.slice none 0 0, .slice none 0 0, .int .i64 0, .int .i64 0] 28); have cN1 := True.intro)
         | (go_at_call 9; (with_reducible refine (HKY.out _).mono ?_); rintro e v1 ⟨rfl, hb⟩; have B1 := below_step bZ hb; have hgz1 := Nat.le_refl w4.heap.size; have zq1 := zZ.lt; have zP1 := zZ.below hb zZ.lt; have cZ1 := True.intro)
         | (go_at_call 10; have := cN1; (with_reducible refine (HPA.out _ (bTT.out _ (B1))).mono ?_); rintro e v2 ⟨u6, rfl, hown6, hb⟩; obtain ⟨P6, p6, rfl, rp6, hP6, -⟩ := own_rdK hown6; have B2 := below_step B1 hb; have B2Z := B2.alloc B2.size (.cells #[.slice none 0 0, .slice none 0 0, .int .i64 0, .int .i64 0] 28); have rp6_2 := rp6; have rp6_2Z := rp6.below ((Below.refl v2.heap.size v2).alloc (Nat.le_refl _) (.cells #[.slice none 0 0, .slice none 0 0, .int .i64 0, .int .i64 0] 28)); have cN2 := True.intro)
         | (go_at_call 10; have := cN1; (with_reducible refine (HPA.out _ (bTT.out _ (B1Z))).mono ?_); rintro e v2 ⟨u6, rfl, hown6, hb⟩; obtain ⟨P6, p6, rfl, rp6, hP6, -⟩ := own_rdK hown6; have B2 := below_step B1Z hb; have rp6_2 := rp6; have hgz2 := B1.size; have zq2 := (Blk.new v1 28 [.slice none 0 0, .slice none 0 0, .int .i64 0, .int .i64 0]).lt; have zP2 := (Blk.new v1 28 [.slice none 0 0, .slice none 0 0, .int .i64 0, .int .i64 0]).below hb (Blk.new v1 28 [.slice none 0 0, .slice none 0 0, .int .i64 0, .int .i64 0]).lt; have cZ2 := True.intro)
         | (go_at_call 10; have := cZ1; (with_reducible refine (HPA.out _ (bTT.out _ (B1))).mono ?_); rintro e v2 ⟨u6, rfl, hown6, hb⟩; obtain ⟨P6, p6, rfl, rp6, hP6, -⟩ := own_rdK hown6; have B2 := below_step B1 hb; have rp6_2 := rp6; have hgz2 := hgz1; have zq2 := zP1.lt; have zP2 := zP1.below hb zP1.lt; have cZ2 := True.intro)
         | (go_at_call 8; have := cN2; (with_reducible refine (HP2.out _ _ _ _ (bTT.out _ (B2)) rp6_2 hP6).mono ?_); rintro e v3 ⟨A6, c6, B6, d6, rfl, hN6, hM6, hb⟩; have B3 := below_step B2 hb; have B3Z := B3.alloc B3.size (.cells #[.slice none 0 0, .slice none 0 0, .int .i64 0, .int .i64 0] 28); have rp6_3 := rp6_2.below hb; have rp6_3Z := rp6_3.below ((Below.refl v3.heap.size v3).alloc (Nat.le_refl _) (.cells #[.slice none 0 0, .slice none 0 0, .int .i64 0, .int .i64 0] 28)); have cN3 := True.intro; have BF := B3; have hbs := (B2).size)
         | (go_at_call 8; have := cN2; (with_reducible refine (HP2.out _ _ _ _ (bTT.out _ (B2Z)) rp6_2Z hP6).mono ?_); rintro e v3 ⟨A6, c6, B6, d6, rfl, hN6, hM6, hb⟩; have B3 := below_step B2Z hb; have rp6_3 := rp6_2Z.below hb; have hgz3 := B2.size; have zq3 := (Blk.new v2 28 [.slice none 0 0, .slice none 0 0, .int .i64 0, .int .i64 0]).lt; have zP3 := (Blk.new v2 28 [.slice none 0 0, .slice none 0 0, .int .i64 0, .int .i64 0]).below hb (Blk.new v2 28 [.slice none 0 0, .slice none 0 0, .int .i64 0, .int .i64 0]).lt; have cZ3 := True.intro; have BF := B3; have hbs := (B2Z).size; have hgz := hgz3; have hgq := zq3; have zE := zP3; have z0 := zE.cell 0; have y0 := zE.frozen 0; have z1 := zE.cell 1; have y1 := zE.frozen 1; have z2 := zE.cell 2; have y2 := zE.frozen 2; have z3 := zE.cell 3; have y3 := zE.frozen 3; simp only [List.getElem?_cons_succ, List.getElem?_cons_zero] at z0 z1 z2 z3)
         | (go_at_call 8; have := cZ2; (with_reducible refine (HP2.out _ _ _ _ (bTT.out _ (B2)) rp6_2 hP6).mono ?_); rintro e v3 ⟨A6, c6, B6, d6, rfl, hN6, hM6, hb⟩; have B3 := below_step B2 hb; have rp6_3 := rp6_2.below hb; have hgz3 := hgz2; have zq3 := zP2.lt; have zP3 := zP2.below hb zP2.lt; have cZ3 := True.intro; have BF := B3; have hbs := (B2).size; have hgz := hgz3; have hgq := zq3; have zE := zP3; have z0 := zE.cell 0; have y0 := zE.frozen 0; have z1 := zE.cell 1; have y1 := zE.frozen 1; have z2 := zE.cell 2; have y2 := zE.frozen 2; have z3 := zE.cell 3; have y3 := zE.frozen 3; simp only [List.getElem?_cons_succ, List.getElem?_cons_zero] at z0 z1 z2 z3))
      all_goals
        go_wp2_with fail
        go_meet
        first
          | with_reducible exact ⟨st_new BF hN6 hM6 hbs, rfl⟩
          | with_reducible exact ⟨st_put zE hgz hgq BF hN6 hM6 hbs, rfl⟩
    case rest =>
      obtain ⟨⟨gb, Ab, cb, Bb, db, rfl, zb, hNb, hMb, hgb, bU⟩, rfl⟩ := hcut
      rename World => w5
      have sa5 := Spr.keep (F := SpD) (fun h k => SpD.keep h k) sa fun k _ hk => bU.block k hk
      have sb5 := Spr.keep (F := SpP) (fun h k => SpP.keep h k) sb fun k _ hk => bU.block k hk
      have sc := spb_of hNb
      have sd := spe_of hMb
      have za5 := za.below bU za.lt
      have h34 := bT.size
      have h45 := bU.size
      have bT5 := bT.trans (bU.mono h34)
      clear hNb hMb bT sa sb za bU
      obtain ⟨a0, a1, a2, a3⟩ := blk4 za5
      obtain ⟨b0, b1, b2, b3⟩ := blk4 zb
      go_wp2_with fail
      with_reducible refine (spoil_any Aa Ba _ ca _ da _ _ rm ck _ sa5 sb5 (by omega) h45 Fa.out.1 Fa.out.2).mono ?_
      rintro e w6 ⟨rfl, hA6⟩
      have zb6 := hA6.blk zb hgb
      have sc6 := Spr.keep (F := SpD) (fun h k => SpD.keep h k) sc fun k h1 h2 => hA6.high k h2 h1
      have sd6 := Spr.keep (F := SpP) (fun h k => SpP.keep h k) sd fun k h1 h2 => hA6.high k h2 h1
      have bT6 := bT5.trans hA6.low
      have h56 := hA6.low.size
      clear a0 a1 a2 a3 b0 b1 b2 b3 zb sc sd sa5 sb5 hA6 za5 bT5
      obtain ⟨b0, b1, b2, b3⟩ := blk4 zb6
      go_wp2_with fail
      with_reducible refine (spoil_any Ab Bb _ cb _ db _ _ rm (ck + 1) _ sc6 sd6 (by omega) h56 Fb.out.1 Fb.out.2).mono ?_
      rintro e w7 ⟨rfl, hA7⟩
      have bT := bT6.trans (hA7.low.mono h34)
      clear b0 b1 b2 b3 sc6 sd6 hA7 bT6 zb6
      go_upto_region 9 with fail
      go_cut [13, 14, 15] from 65 to 73 (fun s13 s14 s15 wx => SVar w7 Lc Mc rc tc s13 wx ∧ PVar w7 pc s14 wx ∧ s15 = .int .i64 Ec)
      case first =>
        have xx := blkS.below bT blkS.lt
        have kk' := hk3.below bT hk3.lt
        have hS8 : ∀ W : World, Below w7.heap.size w7 W → (W.cell? ⟨w2.heap.size, 0, none⟩ = some (.slice A1 L.length c1) ∧ W.cell? ⟨w2.heap.size, 1, none⟩ = some (.slice A2 M.length c2) ∧ W.cell? ⟨w2.heap.size, 2, none⟩ = some (.int .i64 rm) ∧ W.cell? ⟨w2.heap.size, 3, none⟩ = some (.int .i64 ck) ∧ W.cell? ⟨w.heap.size, 0, none⟩ = some (.int .i64 q.kd) ∧ W.cell? ⟨w.heap.size, 1, none⟩ = some (.int .i64 q.ra) ∧ W.cell? ⟨w.heap.size, 2, none⟩ = some (.int .i64 q.rb) ∧ W.cell? ⟨w.heap.size, 3, none⟩ = some (.string (str q.tx))) := fun W hb => s8 (xx.below hb xx.lt) (kk'.below hb kk'.lt)
        have bTT := Lib.hid (fun (W : World) (hb : Below w7.heap.size w7 W) => bT.trans (hb.mono bT.size))
        have b0 := (Below.refl w7.heap.size w7).drew
        have bZ := ((Below.refl w7.heap.size w7).alloc (Nat.le_refl _) (.cells #[.slice none 0 0, .slice none 0 0, .int .i64 0, .int .i64 0] 28)).drew
        have zZ := (Blk.new w7 28 [.slice none 0 0, .slice none 0 0, .int .i64 0, .int .i64 0]).drew
        go_region_held_law (fun W => W.cell? ⟨w2.heap.size, 0, none⟩ = some (.slice A1 L.length c1) ∧ W.cell? ⟨w2.heap.size, 1, none⟩ = some (.slice A2 M.length c2) ∧ W.cell? ⟨w2.heap.size, 2, none⟩ = some (.int .i64 rm) ∧ W.cell? ⟨w2.heap.size, 3, none⟩ = some (.int .i64 ck) ∧ W.cell? ⟨w.heap.size, 0, none⟩ = some (.int .i64 q.kd) ∧ W.cell? ⟨w.heap.size, 1, none⟩ = some (.int .i64 q.ra) ∧ W.cell? ⟨w.heap.size, 2, none⟩ = some (.int .i64 q.rb) ∧ W.cell? ⟨w.heap.size, 3, none⟩ = some (.string (str q.tx)))
          (first | with_reducible exact hS8 _ b0 | with_reducible exact hS8 _ bZ | with_reducible exact hS8 _ B1 | with_reducible exact hS8 _ B1Z | with_reducible exact hS8 _ B2 | with_reducible exact hS8 _ B2Z | with_reducible exact hS8 _ (below4s BF hgz _ _ _ _) | go_keep)
          (first
           | (go_at_call 9; (with_reducible refine (HKY.out _).mono ?_); rintro e v1 ⟨rfl, hb⟩; have B1 := below_step b0 hb; have B1Z := B1.alloc B1.size (.cells #[.slice none 0 0, .slice none 0 0, .int .i64 0, .int .i64 0] 28); have cN1 := True.intro)
           | (go_at_call 9; (with_reducible refine (HKY.out _).mono ?_); rintro e v1 ⟨rfl, hb⟩; have B1 := below_step bZ hb; have hgz1 := Nat.le_refl w7.heap.size; have zq1 := zZ.lt; have zP1 := zZ.below hb zZ.lt; have cZ1 := True.intro)
           | (go_at_call 11; have := cN1; (with_reducible refine (HP3.out _ (bTT.out _ (B1))).mono ?_); rintro e v2 ⟨A6, c6, B6, d6, P6, n6, f6, rfl, hN6, hM6, hP6, hP6n, hP6F, hP6U, hb⟩; have B2 := below_step B1 hb; have B2Z := B2.alloc B2.size (.cells #[.slice none 0 0, .slice none 0 0, .int .i64 0, .int .i64 0] 28); have cN2 := True.intro; have BF := B2; have hbs := (B1).size)
           | (go_at_call 11; have := cN1; (with_reducible refine (HP3.out _ (bTT.out _ (B1Z))).mono ?_); rintro e v2 ⟨A6, c6, B6, d6, P6, n6, f6, rfl, hN6, hM6, hP6, hP6n, hP6F, hP6U, hb⟩; have B2 := below_step B1Z hb; have hgz2 := B1.size; have zq2 := (Blk.new v1 28 [.slice none 0 0, .slice none 0 0, .int .i64 0, .int .i64 0]).lt; have zP2 := (Blk.new v1 28 [.slice none 0 0, .slice none 0 0, .int .i64 0, .int .i64 0]).below hb (Blk.new v1 28 [.slice none 0 0, .slice none 0 0, .int .i64 0, .int .i64 0]).lt; have cZ2 := True.intro; have BF := B2; have hbs := (B1Z).size; have hgz := hgz2; have hgq := zq2; have zE := zP2; have z0 := zE.cell 0; have y0 := zE.frozen 0; have z1 := zE.cell 1; have y1 := zE.frozen 1; have z2 := zE.cell 2; have y2 := zE.frozen 2; have z3 := zE.cell 3; have y3 := zE.frozen 3; simp only [List.getElem?_cons_succ, List.getElem?_cons_zero] at z0 z1 z2 z3)
           | (go_at_call 11; have := cZ1; (with_reducible refine (HP3.out _ (bTT.out _ (B1))).mono ?_); rintro e v2 ⟨A6, c6, B6, d6, P6, n6, f6, rfl, hN6, hM6, hP6, hP6n, hP6F, hP6U, hb⟩; have B2 := below_step B1 hb; have hgz2 := hgz1; have zq2 := zP1.lt; have zP2 := zP1.below hb zP1.lt; have cZ2 := True.intro; have BF := B2; have hbs := (B1).size; have hgz := hgz2; have hgq := zq2; have zE := zP2; have z0 := zE.cell 0; have y0 := zE.frozen 0; have z1 := zE.cell 1; have y1 := zE.frozen 1; have z2 := zE.cell 2; have y2 := zE.frozen 2; have z3 := zE.cell 3; have y3 := zE.frozen 3; simp only [List.getElem?_cons_succ, List.getElem?_cons_zero] at z0 z1 z2 z3))
        all_goals
          go_wp2_with fail
          go_meet
          first
            | with_reducible exact ⟨st_new BF hN6 hM6 hbs, pv_new hP6 hP6n hP6F hP6U hbs _, rfl⟩
            | with_reducible exact ⟨st_put zE hgz hgq BF hN6 hM6 hbs, pv_put hP6 hP6n hP6F hP6U hbs hgq _ _ _ _, rfl⟩
      case rest =>
        obtain ⟨⟨gc, Ac, cc, Bc, dc, rfl, zc, hNc, hMc, hgc, bU⟩, ⟨P, pn, pf, rfl, rP, -, hPF, hPU⟩, rfl⟩ := hcut
        rename World => w8
        have sc := spb_of hNc
        have sd := spe_of hMc
        have sp := spp_of rP hPU hPF
        have hpn : pn ≤ maxLen := Nat.le_trans rP.2.1 rP.2.2.1
        unfold maxLen at hpn
        have h37 := bT.size
        have h78 := bU.size
        have bT8 := bT.trans (bU.mono h37)
        clear hNc hMc bT rP hPU hPF bU
        go_upto_if 75 with fail
        go_cut [16] from 75 to 88 (fun _ wx => Below w3.heap.size w3 wx)
        case first =>
          by_cases hE : Ec = 0
          · have hEd : (Ec == 0) = true := by rw [beq_iff_eq]; exact hE
            clear hE
            obtain ⟨b0, b1, b2, b3⟩ := blk4 zc
            go_wp2_with fail
            with_reducible refine (spoil_any Ac Bc _ cc _ dc _ _ rc tc _ sc sd h78 (Nat.le_refl _) Fc.out.1 Fc.out.2).mono ?_
            rintro e w9 ⟨rfl, hA9⟩
            have sp9 := sp.alk hA9
            have h89 := hA9.low.size
            have bT9 := bT8.trans (hA9.low.mono h37)
            clear b0 b1 b2 b3 sc sd sp hA9 bT8 zc
            go_wp2_with fail
            go_loopw [81] (fun s wr => ∃ k : Nat, k ≤ pn ∧ s = .int .i64 k ∧ Alk w7.heap.size w8.heap.size w9 wr) (fun s _ => pn - (intOf s).toNat)
            case atStart => exact ⟨0, Nat.zero_le _, rfl, Alk.refl _ _ _⟩
            case round =>
              obtain ⟨k, hk, rfl, hA⟩ := hrel
              by_cases hlt : k < pn
              · obtain ⟨b, off, s, rfl, g1, g2, d0, g0⟩ := sp9 k hlt
                obtain ⟨s', d0'⟩ := hA.text d0
                have fr := (hA.froz _ (cell_lt d0)).trans g0
                have hki : (k : Int) < (pn : Int) := by omega
                have HST := Lib.hid (fun v : ByteArray => hA.trans (Alk.set d0' (.inr (.inr ⟨s', v, rfl, rfl⟩)) g1 g2))
                clear d0 g0
                go_wp2
                go_roundw
                case rel => exact ⟨k + 1, by omega, by go_num, HST.out _⟩
                case measure => simp [intOf] <;> omega
              · have hki : decide ((k : Int) < (pn : Int)) = false := by rw [decide_eq_false_iff_not]; omega
                have bTr := bT9.trans (hA.low.mono h37)
                go_wp2_with fail
                go_meet
                exact bTr
          · have hEd : (Ec == 0) = false := by rw [beq_eq_false_iff_ne]; exact hE
            go_wp2_with fail
            go_meet
            exact bT8
        case rest =>
          rename World => wc
          have x8 := blkS.below hcut blkS.lt
          have y8' := blkW.below hcut blkW.lt
          obtain ⟨s0, s1, s2, s3⟩ := blk4 x8
          go_wp2_with fail
          with_reducible refine (HP4.out _ hcut).mono ?_
          rintro e w10 ⟨Ad, cd, Bd, dd', rfl, hNd, hMd, bU⟩
          have sc := spb_of hNd
          have sd := spe_of hMd
          have h3c := hcut.size
          have bT10 := hcut.trans (bU.mono h3c)
          have hcu := bU.size
          clear s0 s1 s2 s3 x8 y8' hNd hMd
          go_wp2_with fail
          with_reducible refine (spoil_any Ad Bd _ cd _ dd' _ _ rm ck _ sc sd hcu (Nat.le_refl _) Fs.out.1 Fs.out.2).mono ?_
          rintro e w11 ⟨rfl, hA11⟩
          have bT11 := bT10.trans (hA11.low.mono h3c)
          have x11 := blkS.below bT11 blkS.lt
          have y11 := blkW.below bT11 blkW.lt
          have HSS := Lib.hid (ksameStore_any _ _ _ _ _ _ _ _ _ _ _ _ L L M M rm ck w11 (rL3.below bT11) (rM3.below bT11) (rX3.below bT11) (rY3.below bT11) true (by simp [alks_refl]))
          obtain ⟨s0, s1, s2, s3⟩ := blk4 x11
          obtain ⟨u0, u1, u2, u3⟩ := blk4 y11
          clear sc sd hA11 bT10 bU
          go_wp2_with fail
          with_reducible refine HSS.out.mono ?_
          rintro e w12 ⟨rfl, hb12⟩
          go_wp2
          go_ret
          exact ⟨rfl, below_step (below_step hbC bT11) hb12⟩
end Go.Proofs.YtdohiioiollfhaaGreatDoor

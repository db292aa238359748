/- The law StoreGood: the walk. -/
import Derived.Test.YtnadgdjaldemhaaGreatDoorQKa
import Derived.Test.YtnadgdjaldemhaaGreatDoorQKc
import Derived.Test.YtnadgdjaldemhaaGreatDoorQKh
import Derived.Test.YtnadgdjaldemhaaGreatDoorQKw
import Derived.BigQuiet
import Derived.Deep.RegionHeldLaw
import Derived.Deep.CutBlock
import Derived.Deep.CutRange
namespace Go.Proofs.YtnadgdjaldemhaaGreatDoor
open Go.RowKit
set_option maxRecDepth 100000 in
set_option maxHeartbeats 1000000 in
/-- a store that may be, or an error: it is good -/
theorem good_any {A B : Option Addr} {n c m k : Nat} {L : List Bl} {M : List En} {r t : Int} (E : Int) {w : World} (h : StA w A B n c m k ⟨L, M, r, t⟩) (hok : (⟨L, M, r, t⟩ : Sto).ok) :
    Calls Tryz.prog 13 #[.agg #[.slice A n c, .slice B m k, .int .i64 r, .int .i64 t], .int .i64 E] w fun e w' => e = .returned (.bool true) ∧ Below w.heap.size w w' := by
  have hal := (Below.refl w.heap.size w).alloc (Nat.le_refl _) (.cells #[.slice A n c, .slice B m k, .int .i64 r, .int .i64 t] 28)
  have hbk := Blk.new w 28 [.slice A n c, .slice B m k, .int .i64 r, .int .i64 t]
  have HC := Lib.hid (check_at (h.below hal) (sErr_zero.2 hok))
  obtain ⟨a0, a1, a2, a3⟩ := blk4 hbk
  clear h
  by_cases p : E = 0
  · have d : (E != 0) = false := by rw [bne_eq_false_iff_eq]; exact p
    go_enter Tryz.func13, Tryz.ntmps13
    go_wp2_with fail
    with_reducible refine HC.out.mono ?_
    rintro e w2 ⟨rfl, hb2⟩
    go_wp2
    go_ret
    exact ⟨by simp, below_step hal hb2⟩
  · have d : (E != 0) = true := by rw [bne_iff_ne]; exact p
    go_enter Tryz.func13, Tryz.ntmps13
    go_wp2
    go_ret
    exact ⟨by simp, hal⟩
set_option maxRecDepth 100000 in
set_option maxHeartbeats 4000000 in
theorem storeGood_walk (A : Option Addr) (n c : Nat) (l : List Rw) (q : Rw) (up : Bool) (w : World) (hK : Kon w) (hr : Rd w 4 A n c (rcs l)) (hg : ∀ p ∈ l, p.good) (hn : n ≤ 4294967296000) (hq : q.good) :
    Calls Tryz.prog 3 #[.slice A n c, .agg #[.int .i64 q.kd, .int .i64 q.ra, .int .i64 q.rb, .string (str q.tx)], .bool up] w fun e w' => e = .returned (.bool true) ∧ Below w.heap.size w w' := by
  have hal := (Below.refl w.heap.size w).alloc (Nat.le_refl _) (.cells #[.int .i64 q.kd, .int .i64 q.ra, .int .i64 q.rb, .string (str q.tx)] 24)
  have hbk := Blk.new w 24 [.int .i64 q.kd, .int .i64 q.ra, .int .i64 q.rb, .string (str q.tx)]
  have hra : (Lit.int .i64 q.ra).wf = true := hq.2.1
  have hrb : (Lit.int .i64 q.rb).wf = true := hq.2.2.1
  have htx : q.tx.length ≤ 140737488351232 := hq.2.2.2
  have r0 := hr.below hal
  have HK0 := Lib.hid hK
  clear hr hK hq
  go_enter Tryz.func3, Tryz.ntmps3
  go_wp2_with fail
  with_reducible refine (store_both _ _ _ _ _ r0 hg hn).mono ?_
  rintro e w1 ⟨A1, c1, L, A2, c2, M, rm, ck, rfl, hN1, hM1, hS, hb1⟩
  have hbA := below_step hal hb1
  have hk1 := hbk.below hb1 hbk.lt
  have hal2 := (Below.refl w1.heap.size w1).alloc (Nat.le_refl _) (.cells #[.slice A1 L.length c1, .slice A2 M.length c2, .int .i64 rm, .int .i64 ck] 28)
  have hs2 := Blk.new w1 28 [.slice A1 L.length c1, .slice A2 M.length c2, .int .i64 rm, .int .i64 ck]
  have hbB := below_step hbA hal2
  have hk2 := hk1.below hal2 hk1.lt
  have rL2 := hN1.rd.below hal2
  have rM2 := hM1.rd.below hal2
  have HA1 := Lib.hid hN1.nilCap
  have HA2 := Lib.hid hM1.nilCap
  have HS := Lib.hid hS
  clear hal r0 hg hn hb1 hbA hN1 hM1 hS hal2 hbk hk1
  go_upto_region 2 with fail
  generalize hw2 : w1.alloc (.cells [Value.slice A1 L.length c1, .slice A2 M.length c2, .int .i64 rm, .int .i64 ck].toArray 28) = w2 at *
  clear hw2
  have HSA : Hid (StA w2 A1 A2 L.length c1 M.length c2 ⟨L, M, rm, ck⟩) := sta_of (HK0.out.below hbB) rL2 rM2 HA1.out HA2.out HS.out.ok
  obtain ⟨hp1, hp2, hp3, hp4⟩ := prts_in HS.out q
  obtain ⟨M2, M3, hX, -, hok2, -, -, -⟩ := entry_ok (K := keyB q.ra) (ps := prts L q) HS.out.ok (by have := HS.out.e.len; omega) HS.out.ck (keyB_ok _) hp1 hp2
  have HPA : Hid (∀ W : World, Below w2.heap.size w2 W → Calls Tryz.prog 18 #[.slice A1 L.length c1, .agg #[.int .i64 q.kd, .int .i64 q.ra, .int .i64 q.rb, .string (str q.tx)]] W fun e w' => ∃ v, e = .returned v ∧ w'.ownsRow W.heap.size 55 3 v (prts L q).length (pcs (prts L q)) ∧ Below W.heap.size W w') := fun W hb => parts_any _ _ _ L q W (rL2.below hb) hra hrb (fun b hb => (HS.out.b.fine b hb).2.1) (by have := HS.out.b.len; omega)
  have HKY : Hid (∀ W : World, Calls Tryz.prog 17 #[.int .i64 q.ra] W fun e w' => e = .returned (.string (str (keyB q.ra))) ∧ Below W.heap.size W w') := fun W => key_any q.ra W hra
  have hkl := keyB_len q.ra
  have HDT : Hid (∀ W : World, Calls Tryz.prog 15 #[.agg #[.int .i64 q.kd, .int .i64 q.ra, .int .i64 q.rb, .string (str q.tx)], .int .i64 60] W (GivesBy (dat q 60) W)) := fun W => data_any q 60 W htx (by omega)
  have HDG : Hid (∀ (A : Option Addr) (n c : Nat) (W : World), Rd W 1 A n c (q.tx.map bv8) → Calls Tryz.prog 21 #[.slice A n c] W fun e w' => e = .returned (.string (str (dig q.tx))) ∧ Below W.heap.size W w') := fun A n c W h => digest_ok A n c q.tx W h (by have := h.len; omega)
  have hdl : (dig q.tx).length ≤ maxLen := keyLen (cErr_dig _)
  obtain ⟨Ea, La, Ma, ra, ta, da, hXa⟩ : ∃ E L' M' r' t' d', sPutBlob ⟨L, M, rm, ck⟩ (dat q 60) = (E, ⟨L', M', r', t'⟩, d') := ⟨_, _, _, _, _, _, rfl⟩
  obtain ⟨Ec, Lc, Mc, rc, tc, pc, hXc⟩ : ∃ E L' M' r' t' d', sGet ⟨L, M, rm, ck⟩ (keyB q.ra) = (E, ⟨L', M', r', t'⟩, d') := ⟨_, _, _, _, _, _, rfl⟩
  obtain ⟨Ed, Ld, Md, rd, td, hXd⟩ : ∃ E L' M' r' t', sHoldBlob ⟨L, M, rm, ck⟩ (dig q.tx) up = (E, ⟨L', M', r', t'⟩) := ⟨_, _, _, _, _, rfl⟩
  obtain ⟨Ee, Le, Me, re, te, hXe⟩ : ∃ E L' M' r' t', sHold ⟨L, M, rm, ck⟩ (keyB q.ra) up = (E, ⟨L', M', r', t'⟩) := ⟨_, _, _, _, _, rfl⟩
  have OKa : Hid ((⟨La, Ma, ra, ta⟩ : Sto).ok) := by have := pb_ok ⟨L, M, rm, ck⟩ (dat q 60); rw [hXa] at this; exact this
  have OKb : Hid ((⟨L, M2, rm, ck + 1⟩ : Sto).ok) := hok2
  have OKc : Hid ((⟨Lc, Mc, rc, tc⟩ : Sto).ok) := by have := get_ok ⟨L, M, rm, ck⟩ (keyB q.ra); rw [hXc] at this; exact this
  have OKd : Hid ((⟨Ld, Md, rd, td⟩ : Sto).ok) := by have := hb_ok ⟨L, M, rm, ck⟩ (dig q.tx) up; rw [hXd] at this; exact this
  have OKe : Hid ((⟨Le, Me, re, te⟩ : Sto).ok) := by have := hd_ok ⟨L, M, rm, ck⟩ (keyB q.ra) up; rw [hXe] at this; exact this
  have HC0 := Lib.hid (fun (W : World) (hb : Below w2.heap.size w2 W) => check_at (HSA.out.below hb) (sErr_zero.2 HS.out.ok))
  have HP1 := Lib.hid (fun (W : World) (D : Option Addr) (n d : Nat) (hb : Below w2.heap.size w2 W) (hr : Rd W 1 D n d ((dat q 60).map bv8)) (hD : D = none → d = 0) => pb_at (HSA.out.below hb) hr hD hXa)
  have HP2 := Lib.hid (fun (W : World) (P : Option Addr) (np cp : Nat) (hb : Below w2.heap.size w2 W) (hr : Rd W 3 P np cp (pcs (prts L q))) (hn : P = none → cp = 0) => put_at (HSA.out.below hb) hkl hr hn hp4 hp3 hX)
  have HP3 := Lib.hid (fun (W : World) (hb : Below w2.heap.size w2 W) => get_at (HSA.out.below hb) hkl hXc)
  have HP4 := Lib.hid (fun (W : World) (hb : Below w2.heap.size w2 W) => hb_at (HSA.out.below hb) hdl hXd)
  have HP5 := Lib.hid (fun (W : World) (hb : Below w2.heap.size w2 W) => hd_at (HSA.out.below hb) hkl hXe)
  obtain ⟨cp, nx, hCB, hCD, hCN, hCZ⟩ : ∃ (cp : World → Nat) (nx : World → World), (∀ W : World, (convert 9 36 (.string (str q.tx))).run Tryz.prog W = .ok (.slice (some ⟨W.heap.size, 0, none⟩) q.tx.length (cp W)) (nx W)) ∧ (∀ W : World, Rd (nx W) 1 (some ⟨W.heap.size, 0, none⟩) q.tx.length (cp W) (q.tx.map bv8)) ∧ (∀ W : World, Below W.heap.size W (nx W)) ∧ (∀ W : World, (nx W).heap.size = W.heap.size + 1) := by
    have h := fun W : World => run_str_bytes (P := Tryz.prog) Tryz.underlying9 Tryz.underlying36 Tryz.underlying5 W q.tx (by unfold maxLen; omega)
    exact ⟨fun W => (h W).choose, fun W => (h W).choose_spec.choose, fun W => (h W).choose_spec.choose_spec.1, fun W => (h W).choose_spec.choose_spec.2.1, fun W => (h W).choose_spec.choose_spec.2.2.1, fun W => (h W).choose_spec.choose_spec.2.2.2⟩
  have HCV := Lib.hid (⟨hCB, hCD, hCN, hCZ⟩ : _ ∧ _ ∧ _ ∧ _)
  clear hCB hCD hCN hCZ
  have hK2 := Lib.hid (HK0.out.below hbB)
  clear hX hp1 hp2 hp3 hp4 hok2 HS hkl HSA hXa hXc hXd hXe hdl hra hrb htx rL2 rM2 HA1 HA2
  generalize prts L q = ps at *
  generalize keyB q.ra = kk at *
  generalize dig q.tx = dd at *
  generalize dat q 60 = dt at *
  go_wp2_with fail
  with_reducible refine (kept_any _ hK2.out).mono ?_
  rintro e w3 ⟨rfl, hb3⟩
  have hs3 := hs2.below hb3 hs2.lt
  obtain ⟨s0, s1, s2, s3⟩ := blk4 hs3
  go_wp2_with fail
  with_reducible refine (HC0.out _ hb3).mono ?_
  rintro e w4 ⟨rfl, hb4⟩
  have bT := below_step hb3 hb4
  have x4 := hs3.below hb4 hs3.lt
  have k4 := hk2.below bT hk2.lt
  clear hs2 hk2 hs3 s0 s1 s2 s3 hb3 hb4 HC0
  go_upto_region 5 with fail
  go_cut [9, 11] from 30 to 37 (fun s9 s11 wx => SVar w4 La Ma ra ta s9 wx ∧ s11 = .int .i64 Ea)
  case first =>
    have hS8 : ∀ W : World, Below w4.heap.size w4 W → (W.cell? ⟨w1.heap.size, 0, none⟩ = some (.slice A1 L.length c1) ∧ W.cell? ⟨w1.heap.size, 1, none⟩ = some (.slice A2 M.length c2) ∧ W.cell? ⟨w1.heap.size, 2, none⟩ = some (.int .i64 rm) ∧ W.cell? ⟨w1.heap.size, 3, none⟩ = some (.int .i64 ck) ∧ W.cell? ⟨w.heap.size, 0, none⟩ = some (.int .i64 q.kd) ∧ W.cell? ⟨w.heap.size, 1, none⟩ = some (.int .i64 q.ra) ∧ W.cell? ⟨w.heap.size, 2, none⟩ = some (.int .i64 q.rb) ∧ W.cell? ⟨w.heap.size, 3, none⟩ = some (.string (str q.tx))) := fun W hb => s8 (x4.below hb x4.lt) (k4.below hb k4.lt)
    have bTT := Lib.hid (fun (W : World) (hb : Below w4.heap.size w4 W) => below_step bT hb)
    have b0 := (Below.refl w4.heap.size w4).drew
    have bZ := ((Below.refl w4.heap.size w4).alloc (Nat.le_refl _) (.cells #[.slice none 0 0, .slice none 0 0, .int .i64 0, .int .i64 0] 28)).drew
    have zZ := (Blk.new w4 28 [.slice none 0 0, .slice none 0 0, .int .i64 0, .int .i64 0]).drew
    go_region_held_law (fun W => W.cell? ⟨w1.heap.size, 0, none⟩ = some (.slice A1 L.length c1) ∧ W.cell? ⟨w1.heap.size, 1, none⟩ = some (.slice A2 M.length c2) ∧ W.cell? ⟨w1.heap.size, 2, none⟩ = some (.int .i64 rm) ∧ W.cell? ⟨w1.heap.size, 3, none⟩ = some (.int .i64 ck) ∧ W.cell? ⟨w.heap.size, 0, none⟩ = some (.int .i64 q.kd) ∧ W.cell? ⟨w.heap.size, 1, none⟩ = some (.int .i64 q.ra) ∧ W.cell? ⟨w.heap.size, 2, none⟩ = some (.int .i64 q.rb) ∧ W.cell? ⟨w.heap.size, 3, none⟩ = some (.string (str q.tx)))
      (first | with_reducible exact hS8 _ b0 | with_reducible exact hS8 _ bZ | with_reducible exact hS8 _ B1 | with_reducible exact hS8 _ B1Z | with_reducible exact hS8 _ B2 | with_reducible exact hS8 _ B2Z | with_reducible exact hS8 _ (below4s BF hgz _ _ _ _) | go_keep)
      (first
       | (go_at_call 15; (with_reducible refine (HDT.out _).mono ?_); rintro e v1 ⟨A5, n5, c5, rfl, hrd5, hA5, -, hb⟩; have B1 := below_step b0 hb; have B1Z := B1.alloc B1.size (.cells #[.slice none 0 0, .slice none 0 0, .int .i64 0, .int .i64 0] 28); have hrd5_1 := hrd5; have hrd5_1Z := hrd5.below ((Below.refl v1.heap.size v1).alloc (Nat.le_refl _) (.cells #[.slice none 0 0, .slice none 0 0, .int .i64 0, .int .i64 0] 28)); have cN1 := True.intro)
       | (go_at_call 15; (with_reducible refine (HDT.out _).mono ?_); rintro e v1 ⟨A5, n5, c5, rfl, hrd5, hA5, -, hb⟩; have B1 := below_step bZ hb; have hrd5_1 := hrd5; have hgz1 := Nat.le_refl w4.heap.size; have zq1 := zZ.lt; have zP1 := zZ.below hb zZ.lt; have cZ1 := True.intro)
       | (go_at_call 14; have := cN1; (with_reducible refine (HP1.out _ _ _ _ (bTT.out _ (B1)) hrd5_1 hA5).mono ?_); rintro e v2 ⟨A6, c6, B6, d6, rfl, hN6, hM6, hb⟩; have B2 := below_step B1 hb; have B2Z := B2.alloc B2.size (.cells #[.slice none 0 0, .slice none 0 0, .int .i64 0, .int .i64 0] 28); have hrd5_2 := hrd5_1.below hb; have hrd5_2Z := hrd5_2.below ((Below.refl v2.heap.size v2).alloc (Nat.le_refl _) (.cells #[.slice none 0 0, .slice none 0 0, .int .i64 0, .int .i64 0] 28)); have cN2 := True.intro; have BF := B2; have hbs := (B1).size)
       | (go_at_call 14; have := cN1; (with_reducible refine (HP1.out _ _ _ _ (bTT.out _ (B1Z)) hrd5_1Z hA5).mono ?_); rintro e v2 ⟨A6, c6, B6, d6, rfl, hN6, hM6, hb⟩; have B2 := below_step B1Z hb; have hrd5_2 := hrd5_1Z.below hb; have hgz2 := B1.size; have zq2 := (Blk.new v1 28 [.slice none 0 0, .slice none 0 0, .int .i64 0, .int .i64 0]).lt; have zP2 := (Blk.new v1 28 [.slice none 0 0, .slice none 0 0, .int .i64 0, .int .i64 0]).below hb (Blk.new v1 28 [.slice none 0 0, .slice none 0 0, .int .i64 0, .int .i64 0]).lt; have cZ2 := True.intro; have BF := B2; have hbs := (B1Z).size; have hgz := hgz2; have hgq := zq2; have zE := zP2; have z0 := zE.cell 0; have y0 := zE.frozen 0; have z1 := zE.cell 1; have y1 := zE.frozen 1; have z2 := zE.cell 2; have y2 := zE.frozen 2; have z3 := zE.cell 3; have y3 := zE.frozen 3; simp only [List.getElem?_cons_succ, List.getElem?_cons_zero] at z0 z1 z2 z3)
       | (go_at_call 14; have := cZ1; (with_reducible refine (HP1.out _ _ _ _ (bTT.out _ (B1)) hrd5_1 hA5).mono ?_); rintro e v2 ⟨A6, c6, B6, d6, rfl, hN6, hM6, hb⟩; have B2 := below_step B1 hb; have hrd5_2 := hrd5_1.below hb; have hgz2 := hgz1; have zq2 := zP1.lt; have zP2 := zP1.below hb zP1.lt; have cZ2 := True.intro; have BF := B2; have hbs := (B1).size; have hgz := hgz2; have hgq := zq2; have zE := zP2; have z0 := zE.cell 0; have y0 := zE.frozen 0; have z1 := zE.cell 1; have y1 := zE.frozen 1; have z2 := zE.cell 2; have y2 := zE.frozen 2; have z3 := zE.cell 3; have y3 := zE.frozen 3; simp only [List.getElem?_cons_succ, List.getElem?_cons_zero] at z0 z1 z2 z3))
    all_goals
      go_wp2_with fail
      go_meet
      first
        | with_reducible exact ⟨st_new BF hN6 hM6 hbs, rfl⟩
        | with_reducible exact ⟨st_put zE hgz hgq BF hN6 hM6 hbs, rfl⟩
  case rest =>
    obtain ⟨⟨ga, Aa, ca, Ba, da, rfl, za, hNa, hMa, -, bU⟩, rfl⟩ := hcut
    rename World => w5
    have bV := below_step bT bU
    have x5 := x4.below bU x4.lt
    have k5 := k4.below bU k4.lt
    have Ha := Lib.hid (sta_of (hK2.out.below bV) hNa.rd hMa.rd hNa.nilCap hMa.nilCap OKa.out)
    clear x4 k4 bT bU hNa hMa
    have x4 := x5
    have k4 := k5
    have bT := bV
    clear x5 k5 bV
    go_upto_region 6 with fail
    go_cut [12, 13] from 38 to 49 (fun s12 s13 wx => SVar w5 L M2 rm (ck + 1) s12 wx ∧ s13 = .int .i64 0)
    case first =>
      have hS8 : ∀ W : World, Below w5.heap.size w5 W → (W.cell? ⟨w1.heap.size, 0, none⟩ = some (.slice A1 L.length c1) ∧ W.cell? ⟨w1.heap.size, 1, none⟩ = some (.slice A2 M.length c2) ∧ W.cell? ⟨w1.heap.size, 2, none⟩ = some (.int .i64 rm) ∧ W.cell? ⟨w1.heap.size, 3, none⟩ = some (.int .i64 ck) ∧ W.cell? ⟨w.heap.size, 0, none⟩ = some (.int .i64 q.kd) ∧ W.cell? ⟨w.heap.size, 1, none⟩ = some (.int .i64 q.ra) ∧ W.cell? ⟨w.heap.size, 2, none⟩ = some (.int .i64 q.rb) ∧ W.cell? ⟨w.heap.size, 3, none⟩ = some (.string (str q.tx))) := fun W hb => s8 (x4.below hb x4.lt) (k4.below hb k4.lt)
      have bTT := Lib.hid (fun (W : World) (hb : Below w5.heap.size w5 W) => below_step bT hb)
      have b0 := (Below.refl w5.heap.size w5).drew
      have bZ := ((Below.refl w5.heap.size w5).alloc (Nat.le_refl _) (.cells #[.slice none 0 0, .slice none 0 0, .int .i64 0, .int .i64 0] 28)).drew
      have zZ := (Blk.new w5 28 [.slice none 0 0, .slice none 0 0, .int .i64 0, .int .i64 0]).drew
      go_region_held_law (fun W => W.cell? ⟨w1.heap.size, 0, none⟩ = some (.slice A1 L.length c1) ∧ W.cell? ⟨w1.heap.size, 1, none⟩ = some (.slice A2 M.length c2) ∧ W.cell? ⟨w1.heap.size, 2, none⟩ = some (.int .i64 rm) ∧ W.cell? ⟨w1.heap.size, 3, none⟩ = some (.int .i64 ck) ∧ W.cell? ⟨w.heap.size, 0, none⟩ = some (.int .i64 q.kd) ∧ W.cell? ⟨w.heap.size, 1, none⟩ = some (.int .i64 q.ra) ∧ W.cell? ⟨w.heap.size, 2, none⟩ = some (.int .i64 q.rb) ∧ W.cell? ⟨w.heap.size, 3, none⟩ = some (.string (str q.tx)))
        (first | with_reducible exact hS8 _ b0 | with_reducible exact hS8 _ bZ | with_reducible exact hS8 _ B1 | with_reducible exact hS8 _ B1Z | with_reducible exact hS8 _ B2 | with_reducible exact hS8 _ B2Z | with_reducible exact hS8 _ B3 | with_reducible exact hS8 _ B3Z | with_reducible exact hS8 _ (below4s BF hgz _ _ _ _) | go_keep)
        (first
         | (go_at_call 17; (with_reducible refine (HKY.out _).mono ?_); rintro e v1 ⟨rfl, hb⟩; have B1 := below_step b0 hb; have B1Z := B1.alloc B1.size (.cells #[.slice none 0 0, .slice none 0 0, .int .i64 0, .int .i64 0] 28); have cN1 := True.intro)
         | (go_at_call 17; (with_reducible refine (HKY.out _).mono ?_); rintro e v1 ⟨rfl, hb⟩; have B1 := below_step bZ hb; have hgz1 := Nat.le_refl w5.heap.size; have zq1 := zZ.lt; have zP1 := zZ.below hb zZ.lt; have cZ1 := True.intro)
         | (go_at_call 18; have := cN1; (with_reducible refine (HPA.out _ (bTT.out _ (B1))).mono ?_); rintro e v2 ⟨u6, rfl, hown6, hb⟩; obtain ⟨P6, p6, rfl, rp6, hP6, -⟩ := own_rdK hown6; have B2 := below_step B1 hb; have B2Z := B2.alloc B2.size (.cells #[.slice none 0 0, .slice none 0 0, .int .i64 0, .int .i64 0] 28); have rp6_2 := rp6; have rp6_2Z := rp6.below ((Below.refl v2.heap.size v2).alloc (Nat.le_refl _) (.cells #[.slice none 0 0, .slice none 0 0, .int .i64 0, .int .i64 0] 28)); have cN2 := True.intro)
         | (go_at_call 18; have := cN1; (with_reducible refine (HPA.out _ (bTT.out _ (B1Z))).mono ?_); rintro e v2 ⟨u6, rfl, hown6, hb⟩; obtain ⟨P6, p6, rfl, rp6, hP6, -⟩ := own_rdK hown6; have B2 := below_step B1Z hb; have rp6_2 := rp6; have hgz2 := B1.size; have zq2 := (Blk.new v1 28 [.slice none 0 0, .slice none 0 0, .int .i64 0, .int .i64 0]).lt; have zP2 := (Blk.new v1 28 [.slice none 0 0, .slice none 0 0, .int .i64 0, .int .i64 0]).below hb (Blk.new v1 28 [.slice none 0 0, .slice none 0 0, .int .i64 0, .int .i64 0]).lt; have cZ2 := True.intro)
         | (go_at_call 18; have := cZ1; (with_reducible refine (HPA.out _ (bTT.out _ (B1))).mono ?_); rintro e v2 ⟨u6, rfl, hown6, hb⟩; obtain ⟨P6, p6, rfl, rp6, hP6, -⟩ := own_rdK hown6; have B2 := below_step B1 hb; have rp6_2 := rp6; have hgz2 := hgz1; have zq2 := zP1.lt; have zP2 := zP1.below hb zP1.lt; have cZ2 := True.intro)
         | (go_at_call 16; have := cN2; (with_reducible refine (HP2.out _ _ _ _ (bTT.out _ (B2)) rp6_2 hP6).mono ?_); rintro e v3 ⟨A6, c6, B6, d6, rfl, hN6, hM6, hb⟩; have B3 := below_step B2 hb; have B3Z := B3.alloc B3.size (.cells #[.slice none 0 0, .slice none 0 0, .int .i64 0, .int .i64 0] 28); have rp6_3 := rp6_2.below hb; have rp6_3Z := rp6_3.below ((Below.refl v3.heap.size v3).alloc (Nat.le_refl _) (.cells #[.slice none 0 0, .slice none 0 0, .int .i64 0, .int .i64 0] 28)); have cN3 := True.intro; have BF := B3; have hbs := (B2).size)
         | (go_at_call 16; have := cN2; (with_reducible refine (HP2.out _ _ _ _ (bTT.out _ (B2Z)) rp6_2Z hP6).mono ?_); rintro e v3 ⟨A6, c6, B6, d6, rfl, hN6, hM6, hb⟩; have B3 := below_step B2Z hb; have rp6_3 := rp6_2Z.below hb; have hgz3 := B2.size; have zq3 := (Blk.new v2 28 [.slice none 0 0, .slice none 0 0, .int .i64 0, .int .i64 0]).lt; have zP3 := (Blk.new v2 28 [.slice none 0 0, .slice none 0 0, .int .i64 0, .int .i64 0]).below hb (Blk.new v2 28 [.slice none 0 0, .slice none 0 0, .int .i64 0, .int .i64 0]).lt; have cZ3 := True.intro; have BF := B3; have hbs := (B2Z).size; have hgz := hgz3; have hgq := zq3; have zE := zP3; have z0 := zE.cell 0; have y0 := zE.frozen 0; have z1 := zE.cell 1; have y1 := zE.frozen 1; have z2 := zE.cell 2; have y2 := zE.frozen 2; have z3 := zE.cell 3; have y3 := zE.frozen 3; simp only [List.getElem?_cons_succ, List.getElem?_cons_zero] at z0 z1 z2 z3)
         | (go_at_call 16; have := cZ2; (with_reducible refine (HP2.out _ _ _ _ (bTT.out _ (B2)) rp6_2 hP6).mono ?_); rintro e v3 ⟨A6, c6, B6, d6, rfl, hN6, hM6, hb⟩; have B3 := below_step B2 hb; have rp6_3 := rp6_2.below hb; have hgz3 := hgz2; have zq3 := zP2.lt; have zP3 := zP2.below hb zP2.lt; have cZ3 := True.intro; have BF := B3; have hbs := (B2).size; have hgz := hgz3; have hgq := zq3; have zE := zP3; have z0 := zE.cell 0; have y0 := zE.frozen 0; have z1 := zE.cell 1; have y1 := zE.frozen 1; have z2 := zE.cell 2; have y2 := zE.frozen 2; have z3 := zE.cell 3; have y3 := zE.frozen 3; simp only [List.getElem?_cons_succ, List.getElem?_cons_zero] at z0 z1 z2 z3))
      all_goals
        go_wp2_with fail
        go_meet
        first
          | with_reducible exact ⟨st_new BF hN6 hM6 hbs, rfl⟩
          | with_reducible exact ⟨st_put zE hgz hgq BF hN6 hM6 hbs, rfl⟩
    case rest =>
      obtain ⟨⟨gb, Ab, cb, Bb, db, rfl, zb, hNb, hMb, -, bU⟩, rfl⟩ := hcut
      rename World => w6
      have bV := below_step bT bU
      have x5 := x4.below bU x4.lt
      have k5 := k4.below bU k4.lt
      have Hb := Lib.hid (sta_of (hK2.out.below bV) hNb.rd hMb.rd hNb.nilCap hMb.nilCap OKb.out)
      have za' := za.below bU za.lt
      have Ha' := Lib.hid (Ha.out.below bU)
      clear x4 k4 bT bU hNb hMb za Ha
      have x4 := x5
      have k4 := k5
      have bT := bV
      have za := za'
      have Ha := Ha'
      clear x5 k5 bV za' Ha'
      go_upto_region 7 with fail
      go_cut [14, 16] from 50 to 58 (fun s14 s16 wx => SVar w6 Lc Mc rc tc s14 wx ∧ s16 = .int .i64 Ec)
      case first =>
        have hS8 : ∀ W : World, Below w6.heap.size w6 W → (W.cell? ⟨w1.heap.size, 0, none⟩ = some (.slice A1 L.length c1) ∧ W.cell? ⟨w1.heap.size, 1, none⟩ = some (.slice A2 M.length c2) ∧ W.cell? ⟨w1.heap.size, 2, none⟩ = some (.int .i64 rm) ∧ W.cell? ⟨w1.heap.size, 3, none⟩ = some (.int .i64 ck) ∧ W.cell? ⟨w.heap.size, 0, none⟩ = some (.int .i64 q.kd) ∧ W.cell? ⟨w.heap.size, 1, none⟩ = some (.int .i64 q.ra) ∧ W.cell? ⟨w.heap.size, 2, none⟩ = some (.int .i64 q.rb) ∧ W.cell? ⟨w.heap.size, 3, none⟩ = some (.string (str q.tx))) := fun W hb => s8 (x4.below hb x4.lt) (k4.below hb k4.lt)
        have bTT := Lib.hid (fun (W : World) (hb : Below w6.heap.size w6 W) => below_step bT hb)
        have b0 := (Below.refl w6.heap.size w6).drew
        have bZ := ((Below.refl w6.heap.size w6).alloc (Nat.le_refl _) (.cells #[.slice none 0 0, .slice none 0 0, .int .i64 0, .int .i64 0] 28)).drew
        have zZ := (Blk.new w6 28 [.slice none 0 0, .slice none 0 0, .int .i64 0, .int .i64 0]).drew
        go_region_held_law (fun W => W.cell? ⟨w1.heap.size, 0, none⟩ = some (.slice A1 L.length c1) ∧ W.cell? ⟨w1.heap.size, 1, none⟩ = some (.slice A2 M.length c2) ∧ W.cell? ⟨w1.heap.size, 2, none⟩ = some (.int .i64 rm) ∧ W.cell? ⟨w1.heap.size, 3, none⟩ = some (.int .i64 ck) ∧ W.cell? ⟨w.heap.size, 0, none⟩ = some (.int .i64 q.kd) ∧ W.cell? ⟨w.heap.size, 1, none⟩ = some (.int .i64 q.ra) ∧ W.cell? ⟨w.heap.size, 2, none⟩ = some (.int .i64 q.rb) ∧ W.cell? ⟨w.heap.size, 3, none⟩ = some (.string (str q.tx)))
          (first | with_reducible exact hS8 _ b0 | with_reducible exact hS8 _ bZ | with_reducible exact hS8 _ B1 | with_reducible exact hS8 _ B1Z | with_reducible exact hS8 _ B2 | with_reducible exact hS8 _ B2Z | with_reducible exact hS8 _ (below4s BF hgz _ _ _ _) | go_keep)
          (first
           | (go_at_call 17; (with_reducible refine (HKY.out _).mono ?_); rintro e v1 ⟨rfl, hb⟩; have B1 := below_step b0 hb; have B1Z := B1.alloc B1.size (.cells #[.slice none 0 0, .slice none 0 0, .int .i64 0, .int .i64 0] 28); have cN1 := True.intro)
           | (go_at_call 17; (with_reducible refine (HKY.out _).mono ?_); rintro e v1 ⟨rfl, hb⟩; have B1 := below_step bZ hb; have hgz1 := Nat.le_refl w6.heap.size; have zq1 := zZ.lt; have zP1 := zZ.below hb zZ.lt; have cZ1 := True.intro)
           | (go_at_call 19; have := cN1; (with_reducible refine (HP3.out _ (bTT.out _ (B1))).mono ?_); rintro e v2 ⟨A6, c6, B6, d6, P6, n6, f6, rfl, hN6, hM6, -, -, -, hb⟩; have B2 := below_step B1 hb; have B2Z := B2.alloc B2.size (.cells #[.slice none 0 0, .slice none 0 0, .int .i64 0, .int .i64 0] 28); have cN2 := True.intro; have BF := B2; have hbs := (B1).size)
           | (go_at_call 19; have := cN1; (with_reducible refine (HP3.out _ (bTT.out _ (B1Z))).mono ?_); rintro e v2 ⟨A6, c6, B6, d6, P6, n6, f6, rfl, hN6, hM6, -, -, -, hb⟩; have B2 := below_step B1Z hb; have hgz2 := B1.size; have zq2 := (Blk.new v1 28 [.slice none 0 0, .slice none 0 0, .int .i64 0, .int .i64 0]).lt; have zP2 := (Blk.new v1 28 [.slice none 0 0, .slice none 0 0, .int .i64 0, .int .i64 0]).below hb (Blk.new v1 28 [.slice none 0 0, .slice none 0 0, .int .i64 0, .int .i64 0]).lt; have cZ2 := True.intro; have BF := B2; have hbs := (B1Z).size; have hgz := hgz2; have hgq := zq2; have zE := zP2; have z0 := zE.cell 0; have y0 := zE.frozen 0; have z1 := zE.cell 1; have y1 := zE.frozen 1; have z2 := zE.cell 2; have y2 := zE.frozen 2; have z3 := zE.cell 3; have y3 := zE.frozen 3; simp only [List.getElem?_cons_succ, List.getElem?_cons_zero] at z0 z1 z2 z3)
           | (go_at_call 19; have := cZ1; (with_reducible refine (HP3.out _ (bTT.out _ (B1))).mono ?_); rintro e v2 ⟨A6, c6, B6, d6, P6, n6, f6, rfl, hN6, hM6, -, -, -, hb⟩; have B2 := below_step B1 hb; have hgz2 := hgz1; have zq2 := zP1.lt; have zP2 := zP1.below hb zP1.lt; have cZ2 := True.intro; have BF := B2; have hbs := (B1).size; have hgz := hgz2; have hgq := zq2; have zE := zP2; have z0 := zE.cell 0; have y0 := zE.frozen 0; have z1 := zE.cell 1; have y1 := zE.frozen 1; have z2 := zE.cell 2; have y2 := zE.frozen 2; have z3 := zE.cell 3; have y3 := zE.frozen 3; simp only [List.getElem?_cons_succ, List.getElem?_cons_zero] at z0 z1 z2 z3))
        all_goals
          go_wp2_with fail
          go_meet
          first
            | with_reducible exact ⟨st_new BF hN6 hM6 hbs, rfl⟩
            | with_reducible exact ⟨st_put zE hgz hgq BF hN6 hM6 hbs, rfl⟩
      case rest =>
        obtain ⟨⟨gc, Ac, cc, Bc, dc, rfl, zc, hNc, hMc, -, bU⟩, rfl⟩ := hcut
        rename World => w7
        have bV := below_step bT bU
        have x5 := x4.below bU x4.lt
        have k5 := k4.below bU k4.lt
        have Hc := Lib.hid (sta_of (hK2.out.below bV) hNc.rd hMc.rd hNc.nilCap hMc.nilCap OKc.out)
        have za' := za.below bU za.lt
        have Ha' := Lib.hid (Ha.out.below bU)
        have zb' := zb.below bU zb.lt
        have Hb' := Lib.hid (Hb.out.below bU)
        clear x4 k4 bT bU hNc hMc za Ha zb Hb
        have x4 := x5
        have k4 := k5
        have bT := bV
        have za := za'
        have Ha := Ha'
        have zb := zb'
        have Hb := Hb'
        clear x5 k5 bV za' Ha' zb' Hb'
        go_upto_region 8 with fail
        go_cut [17, 18] from 59 to 68 (fun s17 s18 wx => SVar w7 Ld Md rd td s17 wx ∧ s18 = .int .i64 Ed)
        case first =>
          have hS8 : ∀ W : World, Below w7.heap.size w7 W → (W.cell? ⟨w1.heap.size, 0, none⟩ = some (.slice A1 L.length c1) ∧ W.cell? ⟨w1.heap.size, 1, none⟩ = some (.slice A2 M.length c2) ∧ W.cell? ⟨w1.heap.size, 2, none⟩ = some (.int .i64 rm) ∧ W.cell? ⟨w1.heap.size, 3, none⟩ = some (.int .i64 ck) ∧ W.cell? ⟨w.heap.size, 0, none⟩ = some (.int .i64 q.kd) ∧ W.cell? ⟨w.heap.size, 1, none⟩ = some (.int .i64 q.ra) ∧ W.cell? ⟨w.heap.size, 2, none⟩ = some (.int .i64 q.rb) ∧ W.cell? ⟨w.heap.size, 3, none⟩ = some (.string (str q.tx))) := fun W hb => s8 (x4.below hb x4.lt) (k4.below hb k4.lt)
          have bTT := Lib.hid (fun (W : World) (hb : Below w7.heap.size w7 W) => below_step bT hb)
          obtain ⟨hCB, hCD, hCN, hCZ⟩ := HCV.out
          have b0 := (Below.refl w7.heap.size w7).drew
          have bZ := ((Below.refl w7.heap.size w7).alloc (Nat.le_refl _) (.cells #[.slice none 0 0, .slice none 0 0, .int .i64 0, .int .i64 0] 28)).drew
          have zZ := (Blk.new w7 28 [.slice none 0 0, .slice none 0 0, .int .i64 0, .int .i64 0]).drew
          have hs1 : (nx w7.drew).heap.size = w7.heap.size + 1 := hCZ w7.drew
          have cv1 : (convert 9 36 (.string (str q.tx))).run Tryz.prog w7.drew = .ok (.slice (some ⟨w7.heap.size, 0, none⟩) q.tx.length (cp w7.drew)) (nx w7.drew) := hCB w7.drew
          have cv2 : (convert 9 36 (.string (str q.tx))).run Tryz.prog (w7.alloc (.cells #[.slice none 0 0, .slice none 0 0, .int .i64 0, .int .i64 0] 28)).drew = .ok (.slice (some ⟨w7.heap.size + 1, 0, none⟩) q.tx.length (cp (w7.alloc (.cells #[.slice none 0 0, .slice none 0 0, .int .i64 0, .int .i64 0] 28)).drew)) (nx (w7.alloc (.cells #[.slice none 0 0, .slice none 0 0, .int .i64 0, .int .i64 0] 28)).drew) := by have := hCB (w7.alloc (.cells #[.slice none 0 0, .slice none 0 0, .int .i64 0, .int .i64 0] 28)).drew; simpa using this
          have rdc1 : Rd (nx w7.drew) 1 (some ⟨w7.heap.size, 0, none⟩) q.tx.length (cp w7.drew) (q.tx.map bv8) := hCD w7.drew
          have rdc2 : Rd (nx (w7.alloc (.cells #[.slice none 0 0, .slice none 0 0, .int .i64 0, .int .i64 0] 28)).drew) 1 (some ⟨w7.heap.size + 1, 0, none⟩) q.tx.length (cp (w7.alloc (.cells #[.slice none 0 0, .slice none 0 0, .int .i64 0, .int .i64 0] 28)).drew) (q.tx.map bv8) := by have := hCD (w7.alloc (.cells #[.slice none 0 0, .slice none 0 0, .int .i64 0, .int .i64 0] 28)).drew; simpa using this
          have b1 : Below w7.heap.size w7 (nx w7.drew) := below_step b0 (hCN w7.drew)
          have b2 : Below w7.heap.size w7 (nx (w7.alloc (.cells #[.slice none 0 0, .slice none 0 0, .int .i64 0, .int .i64 0] 28)).drew) := below_step bZ (hCN _)
          have b3 : Below w7.heap.size w7 ((nx w7.drew).alloc (.cells #[.slice none 0 0, .slice none 0 0, .int .i64 0, .int .i64 0] 28)) := b1.alloc b1.size (.cells #[.slice none 0 0, .slice none 0 0, .int .i64 0, .int .i64 0] 28)
          have rdc3 := rdc1.below ((Below.refl (nx w7.drew).heap.size (nx w7.drew)).alloc (Nat.le_refl _) (.cells #[.slice none 0 0, .slice none 0 0, .int .i64 0, .int .i64 0] 28))
          have zz2 : Blk (nx (w7.alloc (.cells #[.slice none 0 0, .slice none 0 0, .int .i64 0, .int .i64 0] 28)).drew) w7.heap.size 28 [.slice none 0 0, .slice none 0 0, .int .i64 0, .int .i64 0] := zZ.below (hCN _) zZ.lt
          have zz3 : Blk ((nx w7.drew).alloc (.cells #[.slice none 0 0, .slice none 0 0, .int .i64 0, .int .i64 0] 28)) (w7.heap.size + 1) 28 [.slice none 0 0, .slice none 0 0, .int .i64 0, .int .i64 0] := by have := Blk.new (nx w7.drew) 28 [.slice none 0 0, .slice none 0 0, .int .i64 0, .int .i64 0]; rwa [hs1] at this
          clear hCB hCD hCN hCZ
          go_region_held_law (fun W => W.cell? ⟨w1.heap.size, 0, none⟩ = some (.slice A1 L.length c1) ∧ W.cell? ⟨w1.heap.size, 1, none⟩ = some (.slice A2 M.length c2) ∧ W.cell? ⟨w1.heap.size, 2, none⟩ = some (.int .i64 rm) ∧ W.cell? ⟨w1.heap.size, 3, none⟩ = some (.int .i64 ck) ∧ W.cell? ⟨w.heap.size, 0, none⟩ = some (.int .i64 q.kd) ∧ W.cell? ⟨w.heap.size, 1, none⟩ = some (.int .i64 q.ra) ∧ W.cell? ⟨w.heap.size, 2, none⟩ = some (.int .i64 q.rb) ∧ W.cell? ⟨w.heap.size, 3, none⟩ = some (.string (str q.tx)))
            (first | with_reducible exact hS8 _ b0 | with_reducible exact hS8 _ bZ | with_reducible exact hS8 _ b1 | with_reducible exact hS8 _ b2 | with_reducible exact hS8 _ b3 | with_reducible exact hS8 _ B1 | with_reducible exact hS8 _ B1Z | with_reducible exact hS8 _ B2 | with_reducible exact hS8 _ B2Z | with_reducible exact hS8 _ (below4s BF hgz _ _ _ _) | go_keep)
            (first
             | (go_at_call 21; (with_reducible refine (HDG.out _ _ _ _ rdc1).mono ?_); rintro e v1 ⟨rfl, hb⟩; have B1 := below_step b1 hb; have B1Z := B1.alloc B1.size (.cells #[.slice none 0 0, .slice none 0 0, .int .i64 0, .int .i64 0] 28); have cN1 := True.intro)
             | (go_at_call 21; (with_reducible refine (HDG.out _ _ _ _ rdc2).mono ?_); rintro e v1 ⟨rfl, hb⟩; have B1 := below_step b2 hb; have hgz1 := Nat.le_refl w7.heap.size; have zq1 := zz2.lt; have zP1 := zz2.below hb zz2.lt; have cZ1 := True.intro)
             | (go_at_call 21; (with_reducible refine (HDG.out _ _ _ _ rdc3).mono ?_); rintro e v1 ⟨rfl, hb⟩; have B1 := below_step b3 hb; have hgz1 := Nat.le_succ w7.heap.size; have zq1 := zz3.lt; have zP1 := zz3.below hb zz3.lt; have cZ1 := True.intro)
             | (go_at_call 20; have := cN1; (with_reducible refine (HP4.out _ (bTT.out _ (B1))).mono ?_); rintro e v2 ⟨A6, c6, B6, d6, rfl, hN6, hM6, hb⟩; have B2 := below_step B1 hb; have B2Z := B2.alloc B2.size (.cells #[.slice none 0 0, .slice none 0 0, .int .i64 0, .int .i64 0] 28); have cN2 := True.intro; have BF := B2; have hbs := (B1).size)
             | (go_at_call 20; have := cN1; (with_reducible refine (HP4.out _ (bTT.out _ (B1Z))).mono ?_); rintro e v2 ⟨A6, c6, B6, d6, rfl, hN6, hM6, hb⟩; have B2 := below_step B1Z hb; have hgz2 := B1.size; have zq2 := (Blk.new v1 28 [.slice none 0 0, .slice none 0 0, .int .i64 0, .int .i64 0]).lt; have zP2 := (Blk.new v1 28 [.slice none 0 0, .slice none 0 0, .int .i64 0, .int .i64 0]).below hb (Blk.new v1 28 [.slice none 0 0, .slice none 0 0, .int .i64 0, .int .i64 0]).lt; have cZ2 := True.intro; have BF := B2; have hbs := (B1Z).size; have hgz := hgz2; have hgq := zq2; have zE := zP2; have z0 := zE.cell 0; have y0 := zE.frozen 0; have z1 := zE.cell 1; have y1 := zE.frozen 1; have z2 := zE.cell 2; have y2 := zE.frozen 2; have z3 := zE.cell 3; have y3 := zE.frozen 3; simp only [List.getElem?_cons_succ, List.getElem?_cons_zero] at z0 z1 z2 z3)
             | (go_at_call 20; have := cZ1; (with_reducible refine (HP4.out _ (bTT.out _ (B1))).mono ?_); rintro e v2 ⟨A6, c6, B6, d6, rfl, hN6, hM6, hb⟩; have B2 := below_step B1 hb; have hgz2 := hgz1; have zq2 := zP1.lt; have zP2 := zP1.below hb zP1.lt; have cZ2 := True.intro; have BF := B2; have hbs := (B1).size; have hgz := hgz2; have hgq := zq2; have zE := zP2; have z0 := zE.cell 0; have y0 := zE.frozen 0; have z1 := zE.cell 1; have y1 := zE.frozen 1; have z2 := zE.cell 2; have y2 := zE.frozen 2; have z3 := zE.cell 3; have y3 := zE.frozen 3; simp only [List.getElem?_cons_succ, List.getElem?_cons_zero] at z0 z1 z2 z3))
          all_goals
            go_wp2_with fail
            go_meet
            first
              | with_reducible exact ⟨st_new BF hN6 hM6 hbs, rfl⟩
              | with_reducible exact ⟨st_put zE hgz hgq BF hN6 hM6 hbs, rfl⟩
        case rest =>
          obtain ⟨⟨gd, Ad, cd, Bd, dd, rfl, zd, hNd, hMd, -, bU⟩, rfl⟩ := hcut
          rename World => w8
          have bV := below_step bT bU
          have x5 := x4.below bU x4.lt
          have k5 := k4.below bU k4.lt
          have Hd := Lib.hid (sta_of (hK2.out.below bV) hNd.rd hMd.rd hNd.nilCap hMd.nilCap OKd.out)
          have za' := za.below bU za.lt
          have Ha' := Lib.hid (Ha.out.below bU)
          have zb' := zb.below bU zb.lt
          have Hb' := Lib.hid (Hb.out.below bU)
          have zc' := zc.below bU zc.lt
          have Hc' := Lib.hid (Hc.out.below bU)
          clear x4 k4 bT bU hNd hMd za Ha zb Hb zc Hc
          have x4 := x5
          have k4 := k5
          have bT := bV
          have za := za'
          have Ha := Ha'
          have zb := zb'
          have Hb := Hb'
          have zc := zc'
          have Hc := Hc'
          clear x5 k5 bV za' Ha' zb' Hb' zc' Hc'
          go_upto_region 9 with fail
          go_cut [19, 20] from 69 to 77 (fun s19 s20 wx => SVar w8 Le Me re te s19 wx ∧ s20 = .int .i64 Ee)
          case first =>
            have hS8 : ∀ W : World, Below w8.heap.size w8 W → (W.cell? ⟨w1.heap.size, 0, none⟩ = some (.slice A1 L.length c1) ∧ W.cell? ⟨w1.heap.size, 1, none⟩ = some (.slice A2 M.length c2) ∧ W.cell? ⟨w1.heap.size, 2, none⟩ = some (.int .i64 rm) ∧ W.cell? ⟨w1.heap.size, 3, none⟩ = some (.int .i64 ck) ∧ W.cell? ⟨w.heap.size, 0, none⟩ = some (.int .i64 q.kd) ∧ W.cell? ⟨w.heap.size, 1, none⟩ = some (.int .i64 q.ra) ∧ W.cell? ⟨w.heap.size, 2, none⟩ = some (.int .i64 q.rb) ∧ W.cell? ⟨w.heap.size, 3, none⟩ = some (.string (str q.tx))) := fun W hb => s8 (x4.below hb x4.lt) (k4.below hb k4.lt)
            have bTT := Lib.hid (fun (W : World) (hb : Below w8.heap.size w8 W) => below_step bT hb)
            have b0 := (Below.refl w8.heap.size w8).drew
            have bZ := ((Below.refl w8.heap.size w8).alloc (Nat.le_refl _) (.cells #[.slice none 0 0, .slice none 0 0, .int .i64 0, .int .i64 0] 28)).drew
            have zZ := (Blk.new w8 28 [.slice none 0 0, .slice none 0 0, .int .i64 0, .int .i64 0]).drew
            go_region_held_law (fun W => W.cell? ⟨w1.heap.size, 0, none⟩ = some (.slice A1 L.length c1) ∧ W.cell? ⟨w1.heap.size, 1, none⟩ = some (.slice A2 M.length c2) ∧ W.cell? ⟨w1.heap.size, 2, none⟩ = some (.int .i64 rm) ∧ W.cell? ⟨w1.heap.size, 3, none⟩ = some (.int .i64 ck) ∧ W.cell? ⟨w.heap.size, 0, none⟩ = some (.int .i64 q.kd) ∧ W.cell? ⟨w.heap.size, 1, none⟩ = some (.int .i64 q.ra) ∧ W.cell? ⟨w.heap.size, 2, none⟩ = some (.int .i64 q.rb) ∧ W.cell? ⟨w.heap.size, 3, none⟩ = some (.string (str q.tx)))
              (first | with_reducible exact hS8 _ b0 | with_reducible exact hS8 _ bZ | with_reducible exact hS8 _ B1 | with_reducible exact hS8 _ B1Z | with_reducible exact hS8 _ B2 | with_reducible exact hS8 _ B2Z | with_reducible exact hS8 _ (below4s BF hgz _ _ _ _) | go_keep)
              (first
               | (go_at_call 17; (with_reducible refine (HKY.out _).mono ?_); rintro e v1 ⟨rfl, hb⟩; have B1 := below_step b0 hb; have B1Z := B1.alloc B1.size (.cells #[.slice none 0 0, .slice none 0 0, .int .i64 0, .int .i64 0] 28); have cN1 := True.intro)
               | (go_at_call 17; (with_reducible refine (HKY.out _).mono ?_); rintro e v1 ⟨rfl, hb⟩; have B1 := below_step bZ hb; have hgz1 := Nat.le_refl w8.heap.size; have zq1 := zZ.lt; have zP1 := zZ.below hb zZ.lt; have cZ1 := True.intro)
               | (go_at_call 22; have := cN1; (with_reducible refine (HP5.out _ (bTT.out _ (B1))).mono ?_); rintro e v2 ⟨A6, c6, B6, d6, rfl, hN6, hM6, hb⟩; have B2 := below_step B1 hb; have B2Z := B2.alloc B2.size (.cells #[.slice none 0 0, .slice none 0 0, .int .i64 0, .int .i64 0] 28); have cN2 := True.intro; have BF := B2; have hbs := (B1).size)
               | (go_at_call 22; have := cN1; (with_reducible refine (HP5.out _ (bTT.out _ (B1Z))).mono ?_); rintro e v2 ⟨A6, c6, B6, d6, rfl, hN6, hM6, hb⟩; have B2 := below_step B1Z hb; have hgz2 := B1.size; have zq2 := (Blk.new v1 28 [.slice none 0 0, .slice none 0 0, .int .i64 0, .int .i64 0]).lt; have zP2 := (Blk.new v1 28 [.slice none 0 0, .slice none 0 0, .int .i64 0, .int .i64 0]).below hb (Blk.new v1 28 [.slice none 0 0, .slice none 0 0, .int .i64 0, .int .i64 0]).lt; have cZ2 := True.intro; have BF := B2; have hbs := (B1Z).size; have hgz := hgz2; have hgq := zq2; have zE := zP2; have z0 := zE.cell 0; have y0 := zE.frozen 0; have z1 := zE.cell 1; have y1 := zE.frozen 1; have z2 := zE.cell 2; have y2 := zE.frozen 2; have z3 := zE.cell 3; have y3 := zE.frozen 3; simp only [List.getElem?_cons_succ, List.getElem?_cons_zero] at z0 z1 z2 z3)
               | (go_at_call 22; have := cZ1; (with_reducible refine (HP5.out _ (bTT.out _ (B1))).mono ?_); rintro e v2 ⟨A6, c6, B6, d6, rfl, hN6, hM6, hb⟩; have B2 := below_step B1 hb; have hgz2 := hgz1; have zq2 := zP1.lt; have zP2 := zP1.below hb zP1.lt; have cZ2 := True.intro; have BF := B2; have hbs := (B1).size; have hgz := hgz2; have hgq := zq2; have zE := zP2; have z0 := zE.cell 0; have y0 := zE.frozen 0; have z1 := zE.cell 1; have y1 := zE.frozen 1; have z2 := zE.cell 2; have y2 := zE.frozen 2; have z3 := zE.cell 3; have y3 := zE.frozen 3; simp only [List.getElem?_cons_succ, List.getElem?_cons_zero] at z0 z1 z2 z3))
            all_goals
              go_wp2_with fail
              go_meet
              first
                | with_reducible exact ⟨st_new BF hN6 hM6 hbs, rfl⟩
                | with_reducible exact ⟨st_put zE hgz hgq BF hN6 hM6 hbs, rfl⟩
          case rest =>
            obtain ⟨⟨ge, Ae, ce, Be, de, rfl, ze, hNe, hMe, -, bU⟩, rfl⟩ := hcut
            rename World => w9
            have bV := below_step bT bU
            have x5 := x4.below bU x4.lt
            have k5 := k4.below bU k4.lt
            have He := Lib.hid (sta_of (hK2.out.below bV) hNe.rd hMe.rd hNe.nilCap hMe.nilCap OKe.out)
            have za' := za.below bU za.lt
            have Ha' := Lib.hid (Ha.out.below bU)
            have zb' := zb.below bU zb.lt
            have Hb' := Lib.hid (Hb.out.below bU)
            have zc' := zc.below bU zc.lt
            have Hc' := Lib.hid (Hc.out.below bU)
            have zd' := zd.below bU zd.lt
            have Hd' := Lib.hid (Hd.out.below bU)
            clear x4 k4 bT bU hNe hMe za Ha zb Hb zc Hc zd Hd
            have x4 := x5
            have k4 := k5
            have bT := bV
            have za := za'
            have Ha := Ha'
            have zb := zb'
            have Hb := Hb'
            have zc := zc'
            have Hc := Hc'
            have zd := zd'
            have Hd := Hd'
            clear x5 k5 bV za' Ha' zb' Hb' zc' Hc' zd' Hd'
            have bW := Below.refl w9.heap.size w9
            have ya := za.below bW za.lt
            have Ga := Lib.hid (good_any Ea (Ha.out.below bW) OKa.out)
            obtain ⟨m0, m1, m2, m3⟩ := blk4 ya
            go_wp2_with fail
            with_reducible refine Ga.out.mono ?_
            rintro e x1w ⟨rfl, hbx⟩
            have bW' := below_step bW hbx
            clear bW hbx m0 m1 m2 m3 ya Ga
            have bW := bW'
            clear bW'
            have yb := zb.below bW zb.lt
            have Gb := Lib.hid (good_any 0 (Hb.out.below bW) OKb.out)
            obtain ⟨m0, m1, m2, m3⟩ := blk4 yb
            go_wp2_with fail
            with_reducible refine Gb.out.mono ?_
            rintro e x2w ⟨rfl, hbx⟩
            have bW' := below_step bW hbx
            clear bW hbx m0 m1 m2 m3 yb Gb
            have bW := bW'
            clear bW'
            have yc := zc.below bW zc.lt
            have Gc := Lib.hid (good_any Ec (Hc.out.below bW) OKc.out)
            obtain ⟨m0, m1, m2, m3⟩ := blk4 yc
            go_wp2_with fail
            with_reducible refine Gc.out.mono ?_
            rintro e x3w ⟨rfl, hbx⟩
            have bW' := below_step bW hbx
            clear bW hbx m0 m1 m2 m3 yc Gc
            have bW := bW'
            clear bW'
            have yd := zd.below bW zd.lt
            have Gd := Lib.hid (good_any Ed (Hd.out.below bW) OKd.out)
            obtain ⟨m0, m1, m2, m3⟩ := blk4 yd
            go_wp2_with fail
            with_reducible refine Gd.out.mono ?_
            rintro e x4w ⟨rfl, hbx⟩
            have bW' := below_step bW hbx
            clear bW hbx m0 m1 m2 m3 yd Gd
            have bW := bW'
            clear bW'
            have ye := ze.below bW ze.lt
            have Ge := Lib.hid (good_any Ee (He.out.below bW) OKe.out)
            obtain ⟨m0, m1, m2, m3⟩ := blk4 ye
            go_wp2_with fail
            with_reducible refine Ge.out.mono ?_
            rintro e x5w ⟨rfl, hbx⟩
            have bW' := below_step bW hbx
            clear bW hbx m0 m1 m2 m3 ye Ge
            have bW := bW'
            clear bW'
            go_wp2
            go_ret
            exact ⟨by simp, below_step (below_step hbB bT) bW⟩
end Go.Proofs.YtnadgdjaldemhaaGreatDoor

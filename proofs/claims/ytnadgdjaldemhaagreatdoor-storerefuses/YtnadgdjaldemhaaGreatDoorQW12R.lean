/- The law StoreRefuses: the walk. -/
import Derived.Test.YtnadgdjaldemhaaGreatDoorQKa
import Derived.Test.YtnadgdjaldemhaaGreatDoorQKh
import Derived.Test.YtnadgdjaldemhaaGreatDoorQKw
import Derived.Test.YtnadgdjaldemhaaGreatDoorGU
import Derived.Test.YtnadgdjaldemhaaGreatDoorQDgb
import Derived.BigQuiet
import Derived.Deep.RegionHeldLaw
import Derived.Deep.CutBlock
import Derived.Deep.CutRange
namespace Go.Proofs.YtnadgdjaldemhaaGreatDoor
open Go.RowKit
/-- the one part, in a row of its own -/
theorem row1 (W : World) (d : List UInt8) : Rd (W.alloc (.cells #[.string ⟨#[97]⟩, .string (str d), .int .i64 0] 55)) 3 (some ⟨W.heap.size, 0, none⟩) 1 1 (pcs [⟨[97], d, 0⟩]) :=
  (Blk.new W 55 [.string (str [97]), .string (str d), .int .i64 0]).rd (size := 3) (n := 1) (c := 1) (Nat.le_refl _) (by unfold maxLen; omega) (by simp)
theorem row1s (W : World) (o : Obj) (d : List UInt8) : Rd ((W.alloc o).alloc (.cells #[.string ⟨#[97]⟩, .string (str d), .int .i64 0] 55)) 3 (some ⟨W.heap.size + 1, 0, none⟩) 1 1 (pcs [⟨[97], d, 0⟩]) := by
  have := row1 (W.alloc o) d
  rw [show (W.alloc o).heap.size = W.heap.size + 1 by simp] at this
  exact this
def lostT : List UInt8 := [108, 111, 115, 116]
set_option maxRecDepth 100000 in
set_option maxHeartbeats 4000000 in
theorem storeRefuses_walk (A : Option Addr) (n c : Nat) (l : List Rw) (q : Rw) (w : World) (hK : Kon w) (hr : Rd w 4 A n c (rcs l)) (hg : ∀ p ∈ l, p.good) (hn : n ≤ 4294967296000) (hq : q.good) :
    Calls Tryz.prog 6 #[.slice A n c, .agg #[.int .i64 q.kd, .int .i64 q.ra, .int .i64 q.rb, .string (str q.tx)]] w fun e w' => e = .returned (.bool true) ∧ Below w.heap.size w w' := by
  have hal := (Below.refl w.heap.size w).alloc (Nat.le_refl _) (.cells #[.int .i64 q.kd, .int .i64 q.ra, .int .i64 q.rb, .string (str q.tx)] 24)
  have hbk := Blk.new w 24 [.int .i64 q.kd, .int .i64 q.ra, .int .i64 q.rb, .string (str q.tx)]
  have hra : (Lit.int .i64 q.ra).wf = true := hq.2.1
  have hrb : (Lit.int .i64 q.rb).wf = true := hq.2.2.1
  have htx : q.tx.length ≤ 140737488351232 := hq.2.2.2
  have r0 := hr.below hal
  have HK0 := Lib.hid hK
  clear hr hK hq
  go_enter Tryz.func6, Tryz.ntmps6
  go_wp2_with fail
  with_reducible refine (store_both _ _ _ _ _ r0 hg hn).mono ?_
  rintro e w1 ⟨A1, c1, L, A2, c2, M, rm, ck, rfl, hN1, hM1, hS, hb1⟩
  have hbA := below_step hal hb1
  have hk1 := hbk.below hb1 hbk.lt
  have hal2 := (Below.refl w1.heap.size w1).alloc (Nat.le_refl _) (.cells #[.slice A1 L.length c1, .slice A2 M.length c2, .int .i64 rm, .int .i64 ck] 28)
  have hs2 := Blk.new w1 28 [.slice A1 L.length c1, .slice A2 M.length c2, .int .i64 rm, .int .i64 ck]
  have hbB := below_step hbA hal2
  have hk2 := hk1.below hal2 hk1.lt
  have rL2 := hN1.rd.below hal2
  have rM2 := hM1.rd.below hal2
  have HA1 := Lib.hid hN1.nilCap
  have HA2 := Lib.hid hM1.nilCap
  have HS := Lib.hid hS
  clear hal r0 hg hn hb1 hbA hN1 hM1 hS hal2 hbk hk1
  go_upto_region 2 with fail
  generalize hw2 : w1.alloc (.cells [Value.slice A1 L.length c1, .slice A2 M.length c2, .int .i64 rm, .int .i64 ck].toArray 28) = w2 at *
  clear hw2
  have HSA : Hid (StA w2 A1 A2 L.length c1 M.length c2 ⟨L, M, rm, ck⟩) := sta_of (HK0.out.below hbB) rL2 rM2 HA1.out HA2.out HS.out.ok
  obtain ⟨i0, hi0, hz0, hz1, hz2⟩ := info_parts u8_info
  obtain ⟨D, hD⟩ : ∃ D, q.tx ++ lostT = D := ⟨_, rfl⟩
  have HDG : Hid (∀ (A : Option Addr) (n c : Nat) (W : World), Rd W 1 A n c (D.map bv8) → n ≤ 140737488353000 → Calls Tryz.prog 21 #[.slice A n c] W fun e w' => e = .returned (.string (str (dig D))) ∧ Below W.heap.size W w') := fun A n c W h hz => digest_ok2 A n c D W h hz
  have hdc := cErr_dig D
  have hdl : (dig D).length ≤ maxLen := keyLen hdc
  have HKY : Hid (∀ W : World, Calls Tryz.prog 17 #[.int .i64 q.ra] W fun e w' => e = .returned (.string (str (keyB q.ra))) ∧ Below W.heap.size W w') := fun W => key_any q.ra W hra
  have hkl := keyB_len q.ra
  have hdc' : L.any (fun x => x.dg == dig D) = false → _ := fun hn => refuses_ok (L := L) (M := M) (rm := rm) (ck := ck) HS.out.ok (keyB_ok q.ra) hdc hn
  have hpg : ∀ p ∈ ([⟨[97], dig D, 0⟩] : List Prt), p.good := fun p hp => by
    rw [List.mem_singleton] at hp
    subst hp
    exact ⟨by unfold maxLen; simp, hdl, (by decide : (Lit.int .i64 0).wf = true)⟩
  generalize dig D = dd at *
  generalize keyB q.ra = kk at *
  have HL : L.any (fun x => x.dg == dd) = false → ∃ L0 M0 r0 t0, Hid ((L0 : List Bl).length = 0) ∧ Hid (∀ (W : World) (P : Option Addr) (np cp : Nat), Below w2.heap.size w2 W → Rd W 3 P np cp (pcs [⟨[97], dd, 0⟩]) → (P = none → cp = 0) → Calls Tryz.prog 16 #[.agg #[.slice A1 L.length c1, .slice A2 M.length c2, .int .i64 rm, .int .i64 ck], .string (str kk), .slice P np cp] W (S2l 5 L0 M0 r0 t0 W)) ∧
      Hid (∀ (W : World), Below w2.heap.size w2 W → Calls Tryz.prog 23 #[.agg #[.slice A1 L.length c1, .slice A2 M.length c2, .int .i64 rm, .int .i64 ck], .string (str dd)] W fun e w' => ∃ A n c, e = .returned (.tuple #[.slice A n c, .int .i64 5]) ∧ Rd w' 1 A n c (([] : List UInt8).map bv8) ∧ (A = none → c = 0) ∧ Below W.heap.size W w') ∧
      Hid (∀ (W : World), Below w2.heap.size w2 W → Calls Tryz.prog 20 #[.agg #[.slice A1 L.length c1, .slice A2 M.length c2, .int .i64 rm, .int .i64 ck], .string (str dd), .bool true] W (S2l 5 L0 M0 r0 t0 W)) := fun hn => by
    obtain ⟨x1, x2, x3⟩ := hdc' hn
    exact ⟨[], [], 0, 0, rfl, fun W P np cp hb hr hN => put_at (HSA.out.below hb) hkl hr hN hpg (by simp) x1, fun W hb => gb_at (HSA.out.below hb) hdl x2, fun W hb => hb_at (HSA.out.below hb) hdl x3⟩
  have HLL := Lib.hid HL
  have hK2 := Lib.hid (HK0.out.below hbB)
  have hhas : ∀ b, L.any (fun x => x.dg == dd) = b → ∀ W, Below w2.heap.size w2 W → Calls Tryz.prog 25 #[.slice A1 L.length c1, .string (str dd)] W fun e w' => e = .returned (.bool b) ∧ Below W.heap.size W w' := fun b hb W hw => has_any _ _ _ L dd W (rL2.below hw) b hb
  have HHS := Lib.hid hhas
  clear HL hdc' hpg hkl hdl HSA HS hdc hhas hra hrb rL2 rM2 HA1 HA2
  have HDD := Lib.hid hD
  clear hD
  generalize q.kd = kd at *
  generalize q.ra = ra at *
  generalize q.rb = rb at *
  generalize q.tx = tx at *
  obtain ⟨s0, s1, s2, s3⟩ := blk4 hs2
  obtain ⟨q0, q1, q2, q3⟩ := blk4 hk2
  obtain ⟨cr, wr, hcv, hR3, hbr, hsr⟩ := run_str_room (P := Tryz.prog) Tryz.underlying9 Tryz.underlying36 Tryz.underlying5 w2 tx (by unfold maxLen; omega)
  have hsx := src_str (P := Tryz.prog) (w := wr) Tryz.underlying9 lostT
  have hln : tx.length + lostT.length ≤ 140737488355328 := by show tx.length + 4 ≤ _; omega
  go_wp2_with (at_builtin; refine wpList_append_by rfl (.tmp 17) (.const (.string (str lostT))) _ _ rfl Tryz.underlying36 hi0 hz0 hz1 hz2 rfl hR3 _ rfl hsx hbr.size hln ?_; rintro A4 c4 w3 ⟨hr3, hA4, hF4, hb3⟩)
  rw [HDD.out] at hr3
  replace hr3 : Rd w3 1 A4 (tx.length + lostT.length) c4 (D.map bv8) := hr3
  obtain ⟨N, hN⟩ : ∃ N, tx.length + lostT.length = N := ⟨_, rfl⟩
  have hN' : N ≤ 140737488353000 := by have : lostT.length = 4 := rfl; omega
  rw [hN] at hr3 ⊢
  have hb23 := hbr.trans hb3
  clear hN hR3 hsx hln hF4 HDD hbr hb3 hcv hsr
  with_reducible refine (HDG.out _ _ _ _ hr3 hN').mono ?_
  rintro e w4 ⟨rfl, hb4⟩
  have bT := below_step hb23 hb4
  have x4 := hs2.below bT hs2.lt
  have k4 := hk2.below bT hk2.lt
  clear hr3 hb23 hb4 hs2 hk2 s0 s1 s2 s3 q0 q1 q2 q3 HDG hN'
  obtain ⟨s0, s1, s2, s3⟩ := blk4 x4
  obtain ⟨b, hb⟩ : ∃ b, L.any (fun x => x.dg == dd) = b := ⟨_, rfl⟩
  have HH4 := Lib.hid (HHS.out b hb _ bT)
  go_wp2_with fail
  with_reducible refine HH4.out.mono ?_
  rintro e w5 ⟨rfl, hb5⟩
  have bU := below_step bT hb5
  have x5 := x4.below hb5 x4.lt
  have k5 := k4.below hb5 k4.lt
  clear x4 k4 bT s0 s1 s2 s3 hb5 HH4 HHS
  cases b
  rotate_left
  · go_wp2_with fail
    with_reducible refine (kept_any _ (hK2.out.below bU)).mono ?_
    rintro e w6 ⟨rfl, hb6⟩
    go_wp2
    go_ret
    exact ⟨by simp, below_step (below_step hbB bU) hb6⟩
  obtain ⟨L0, M0, r0, t0, hl0, HP1, HP2, HP3⟩ := HLL.out hb
  clear hb HLL
  go_upto_region 5 with fail
  go_cut [7, 8] from 25 to 35 (fun s7 s8 wx => SVar w5 L0 M0 r0 t0 s7 wx ∧ s8 = .int .i64 5)
  case first =>
    have hS8 : ∀ W : World, Below w5.heap.size w5 W → (W.cell? ⟨w1.heap.size, 0, none⟩ = some (.slice A1 L.length c1) ∧ W.cell? ⟨w1.heap.size, 1, none⟩ = some (.slice A2 M.length c2) ∧ W.cell? ⟨w1.heap.size, 2, none⟩ = some (.int .i64 rm) ∧ W.cell? ⟨w1.heap.size, 3, none⟩ = some (.int .i64 ck) ∧ W.cell? ⟨w.heap.size, 0, none⟩ = some (.int .i64 kd) ∧ W.cell? ⟨w.heap.size, 1, none⟩ = some (.int .i64 ra) ∧ W.cell? ⟨w.heap.size, 2, none⟩ = some (.int .i64 rb) ∧ W.cell? ⟨w.heap.size, 3, none⟩ = some (.string (str tx))) := fun W hb => s8 (x5.below hb x5.lt) (k5.below hb k5.lt)
    have bTT := Lib.hid (fun (W : World) (hb : Below w5.heap.size w5 W) => below_step bU hb)
    have bN := (Below.refl w5.heap.size w5).drew
    have bZ := ((Below.refl w5.heap.size w5).alloc (Nat.le_refl _) (.cells #[.slice none 0 0, .slice none 0 0, .int .i64 0, .int .i64 0] 28)).drew
    have bR := ((Below.refl w5.heap.size w5).alloc (Nat.le_refl _) (.cells #[.string ⟨#[97]⟩, .string (str dd), .int .i64 0] 55)).drew
    have bRZ := (((Below.refl w5.heap.size w5).alloc (Nat.le_refl _) (.cells #[.string ⟨#[97]⟩, .string (str dd), .int .i64 0] 55)).alloc (by simp) (.cells #[.slice none 0 0, .slice none 0 0, .int .i64 0, .int .i64 0] 28)).drew
    have bZR := (((Below.refl w5.heap.size w5).alloc (Nat.le_refl _) (.cells #[.slice none 0 0, .slice none 0 0, .int .i64 0, .int .i64 0] 28)).alloc (by simp) (.cells #[.string ⟨#[97]⟩, .string (str dd), .int .i64 0] 55)).drew
    have zZ := (Blk.new w5 28 [.slice none 0 0, .slice none 0 0, .int .i64 0, .int .i64 0]).drew
    have zRZ := (new_blk1 w5 (.cells #[.string ⟨#[97]⟩, .string (str dd), .int .i64 0] 55) 28 [.slice none 0 0, .slice none 0 0, .int .i64 0, .int .i64 0]).drew
    have zZR := ((Blk.new w5 28 [.slice none 0 0, .slice none 0 0, .int .i64 0, .int .i64 0]).alloc (.cells #[.string ⟨#[97]⟩, .string (str dd), .int .i64 0] 55)).drew
    have rR := (row1 w5 dd).drew
    have rRZ := ((row1 w5 dd).below ((Below.refl _ _).alloc (Nat.le_refl _) (.cells #[.slice none 0 0, .slice none 0 0, .int .i64 0, .int .i64 0] 28))).drew
    have rZR := (row1s w5 (.cells #[.slice none 0 0, .slice none 0 0, .int .i64 0, .int .i64 0] 28) dd).drew
    have KY := fun (W : World) (_ : Below w5.heap.size w5 W) => HKY.out W
    go_region_held_law (fun W => W.cell? ⟨w1.heap.size, 0, none⟩ = some (.slice A1 L.length c1) ∧ W.cell? ⟨w1.heap.size, 1, none⟩ = some (.slice A2 M.length c2) ∧ W.cell? ⟨w1.heap.size, 2, none⟩ = some (.int .i64 rm) ∧ W.cell? ⟨w1.heap.size, 3, none⟩ = some (.int .i64 ck) ∧ W.cell? ⟨w.heap.size, 0, none⟩ = some (.int .i64 kd) ∧ W.cell? ⟨w.heap.size, 1, none⟩ = some (.int .i64 ra) ∧ W.cell? ⟨w.heap.size, 2, none⟩ = some (.int .i64 rb) ∧ W.cell? ⟨w.heap.size, 3, none⟩ = some (.string (str tx)))
      (first | with_reducible exact hS8 _ bN | with_reducible exact hS8 _ bZ | with_reducible exact hS8 _ bR | with_reducible exact hS8 _ bRZ | with_reducible exact hS8 _ bZR | with_reducible exact hS8 _ B1 | with_reducible exact hS8 _ B1Z | with_reducible exact hS8 _ B1R | with_reducible exact hS8 _ B1RZ | with_reducible exact hS8 _ B1ZR | with_reducible exact hS8 _ B2 | with_reducible exact hS8 _ B2Z | with_reducible exact hS8 _ (below4s BF hgz _ _ _ _) | go_keep)
      (first
       | (go_at_call 17; (with_reducible refine (KY _ bN).mono ?_); rintro e v1 ⟨rfl, hb⟩; have B1 := below_step bN hb; have B1Z := B1.alloc B1.size (.cells #[.slice none 0 0, .slice none 0 0, .int .i64 0, .int .i64 0] 28); have B1R := B1.alloc B1.size (.cells #[.string ⟨#[97]⟩, .string (str dd), .int .i64 0] 55); have B1RZ := B1R.alloc B1R.size (.cells #[.slice none 0 0, .slice none 0 0, .int .i64 0, .int .i64 0] 28); have B1ZR := B1Z.alloc B1Z.size (.cells #[.string ⟨#[97]⟩, .string (str dd), .int .i64 0] 55); have mN := True.intro)
       | (go_at_call 17; (with_reducible refine (KY _ bZ).mono ?_); rintro e v1 ⟨rfl, hb⟩; have B1 := below_step bZ hb; have z1 := zZ.below hb zZ.lt; have B1R := B1.alloc B1.size (.cells #[.string ⟨#[97]⟩, .string (str dd), .int .i64 0] 55); have mZ := True.intro)
       | (go_at_call 17; (with_reducible refine (KY _ bR).mono ?_); rintro e v1 ⟨rfl, hb⟩; have B1 := below_step bR hb; have r1 := rR.below hb; have B1Z := B1.alloc B1.size (.cells #[.slice none 0 0, .slice none 0 0, .int .i64 0, .int .i64 0] 28); have mR := True.intro)
       | (go_at_call 17; (with_reducible refine (KY _ bRZ).mono ?_); rintro e v1 ⟨rfl, hb⟩; have B1 := below_step bRZ hb; have z1 := zRZ.below hb zRZ.lt; have r1 := rRZ.below hb; have hgz1 := Nat.le_succ w5.heap.size; have mB := True.intro)
       | (go_at_call 17; (with_reducible refine (KY _ bZR).mono ?_); rintro e v1 ⟨rfl, hb⟩; have B1 := below_step bZR hb; have z1 := zZR.below hb zZR.lt; have r1 := rZR.below hb; have hgz1 := Nat.le_refl w5.heap.size; have mB := True.intro)
       | (go_at_call 16; have := mN; (with_reducible refine (HP1.out _ _ _ _ (bTT.out _ B1R) (row1 v1 dd) (fun q => by cases q)).mono ?_); rintro e v2 ⟨A6, c6, B6, d6, rfl, hN6, hM6, hb⟩; have B2 := below_step B1R hb; have BF := B2; have hbs := (B1R).size; have B2Z := B2.alloc B2.size (.cells #[.slice none 0 0, .slice none 0 0, .int .i64 0, .int .i64 0] 28))
       | (go_at_call 16; have := mN; (with_reducible refine (HP1.out _ _ _ _ (bTT.out _ B1RZ) ((row1 v1 dd).below ((Below.refl _ _).alloc (Nat.le_refl _) (.cells #[.slice none 0 0, .slice none 0 0, .int .i64 0, .int .i64 0] 28))) (fun q => by cases q)).mono ?_); rintro e v2 ⟨A6, c6, B6, d6, rfl, hN6, hM6, hb⟩; have B2 := below_step B1RZ hb; have BF := B2; have hbs := (B1RZ).size; have hgz := Nat.le_succ_of_le B1.size; have hgq := (new_blk1 v1 (.cells #[.string ⟨#[97]⟩, .string (str dd), .int .i64 0] 55) 28 [.slice none 0 0, .slice none 0 0, .int .i64 0, .int .i64 0]).lt; have zE := (new_blk1 v1 (.cells #[.string ⟨#[97]⟩, .string (str dd), .int .i64 0] 55) 28 [.slice none 0 0, .slice none 0 0, .int .i64 0, .int .i64 0]).below hb (new_blk1 v1 (.cells #[.string ⟨#[97]⟩, .string (str dd), .int .i64 0] 55) 28 [.slice none 0 0, .slice none 0 0, .int .i64 0, .int .i64 0]).lt; have e0 := zE.cell 0; have y0 := zE.frozen 0; have e1 := zE.cell 1; have y1 := zE.frozen 1; have e2 := zE.cell 2; have y2 := zE.frozen 2; have e3 := zE.cell 3; have y3 := zE.frozen 3; simp only [List.getElem?_cons_succ, List.getElem?_cons_zero] at e0 e1 e2 e3)
       | (go_at_call 16; have := mN; (with_reducible refine (HP1.out _ _ _ _ (bTT.out _ B1ZR) (row1s v1 (.cells #[.slice none 0 0, .slice none 0 0, .int .i64 0, .int .i64 0] 28) dd) (fun q => by cases q)).mono ?_); rintro e v2 ⟨A6, c6, B6, d6, rfl, hN6, hM6, hb⟩; have B2 := below_step B1ZR hb; have BF := B2; have hbs := (B1ZR).size; have hgz := B1.size; have hgq := ((Blk.new v1 28 [.slice none 0 0, .slice none 0 0, .int .i64 0, .int .i64 0]).alloc (.cells #[.string ⟨#[97]⟩, .string (str dd), .int .i64 0] 55)).lt; have zE := ((Blk.new v1 28 [.slice none 0 0, .slice none 0 0, .int .i64 0, .int .i64 0]).alloc (.cells #[.string ⟨#[97]⟩, .string (str dd), .int .i64 0] 55)).below hb ((Blk.new v1 28 [.slice none 0 0, .slice none 0 0, .int .i64 0, .int .i64 0]).alloc (.cells #[.string ⟨#[97]⟩, .string (str dd), .int .i64 0] 55)).lt; have e0 := zE.cell 0; have y0 := zE.frozen 0; have e1 := zE.cell 1; have y1 := zE.frozen 1; have e2 := zE.cell 2; have y2 := zE.frozen 2; have e3 := zE.cell 3; have y3 := zE.frozen 3; simp only [List.getElem?_cons_succ, List.getElem?_cons_zero] at e0 e1 e2 e3)
       | (go_at_call 16; have := mZ; (with_reducible refine (HP1.out _ _ _ _ (bTT.out _ B1R) (row1 v1 dd) (fun q => by cases q)).mono ?_); rintro e v2 ⟨A6, c6, B6, d6, rfl, hN6, hM6, hb⟩; have B2 := below_step B1R hb; have BF := B2; have hbs := (B1R).size; have hgz := Nat.le_refl w5.heap.size; have hgq := (z1.alloc (.cells #[.string ⟨#[97]⟩, .string (str dd), .int .i64 0] 55)).lt; have zE := (z1.alloc (.cells #[.string ⟨#[97]⟩, .string (str dd), .int .i64 0] 55)).below hb (z1.alloc (.cells #[.string ⟨#[97]⟩, .string (str dd), .int .i64 0] 55)).lt; have e0 := zE.cell 0; have y0 := zE.frozen 0; have e1 := zE.cell 1; have y1 := zE.frozen 1; have e2 := zE.cell 2; have y2 := zE.frozen 2; have e3 := zE.cell 3; have y3 := zE.frozen 3; simp only [List.getElem?_cons_succ, List.getElem?_cons_zero] at e0 e1 e2 e3)
       | (go_at_call 16; have := mR; (with_reducible refine (HP1.out _ _ _ _ (bTT.out _ B1) r1 (fun q => by cases q)).mono ?_); rintro e v2 ⟨A6, c6, B6, d6, rfl, hN6, hM6, hb⟩; have B2 := below_step B1 hb; have BF := B2; have hbs := (B1).size; have B2Z := B2.alloc B2.size (.cells #[.slice none 0 0, .slice none 0 0, .int .i64 0, .int .i64 0] 28))
       | (go_at_call 16; have := mR; (with_reducible refine (HP1.out _ _ _ _ (bTT.out _ B1Z) (r1.below ((Below.refl _ _).alloc (Nat.le_refl _) (.cells #[.slice none 0 0, .slice none 0 0, .int .i64 0, .int .i64 0] 28))) (fun q => by cases q)).mono ?_); rintro e v2 ⟨A6, c6, B6, d6, rfl, hN6, hM6, hb⟩; have B2 := below_step B1Z hb; have BF := B2; have hbs := (B1Z).size; have hgz := B1.size; have hgq := (Blk.new v1 28 [.slice none 0 0, .slice none 0 0, .int .i64 0, .int .i64 0]).lt; have zE := (Blk.new v1 28 [.slice none 0 0, .slice none 0 0, .int .i64 0, .int .i64 0]).below hb (Blk.new v1 28 [.slice none 0 0, .slice none 0 0, .int .i64 0, .int .i64 0]).lt; have e0 := zE.cell 0; have y0 := zE.frozen 0; have e1 := zE.cell 1; have y1 := zE.frozen 1; have e2 := zE.cell 2; have y2 := zE.frozen 2; have e3 := zE.cell 3; have y3 := zE.frozen 3; simp only [List.getElem?_cons_succ, List.getElem?_cons_zero] at e0 e1 e2 e3)
       | (go_at_call 16; have := mB; (with_reducible refine (HP1.out _ _ _ _ (bTT.out _ B1) r1 (fun q => by cases q)).mono ?_); rintro e v2 ⟨A6, c6, B6, d6, rfl, hN6, hM6, hb⟩; have B2 := below_step B1 hb; have BF := B2; have hbs := (B1).size; have hgz := hgz1; have hgq := z1.lt; have zE := z1.below hb z1.lt; have e0 := zE.cell 0; have y0 := zE.frozen 0; have e1 := zE.cell 1; have y1 := zE.frozen 1; have e2 := zE.cell 2; have y2 := zE.frozen 2; have e3 := zE.cell 3; have y3 := zE.frozen 3; simp only [List.getElem?_cons_succ, List.getElem?_cons_zero] at e0 e1 e2 e3))
    all_goals
      go_wp2_with fail
      go_meet
      first
        | with_reducible exact ⟨st_new BF hN6 hM6 hbs, rfl⟩
        | with_reducible exact ⟨st_put zE hgz hgq BF hN6 hM6 hbs, rfl⟩
  case rest =>
    obtain ⟨⟨g6, A6, c6, B6, d6, rfl, z6, hN6, hM6, -, bV⟩, rfl⟩ := hcut
    rename World => w6
    have bW := below_step bU bV
    have x6 := x5.below bV x5.lt
    clear x5 k5 bU bV hN6 hM6 HP1
    obtain ⟨s0, s1, s2, s3⟩ := blk4 x6
    go_wp2_with fail
    with_reducible refine (HP2.out _ bW).mono ?_
    rintro e w7 ⟨A7, n7, c7, rfl, -, -, hb7⟩
    have bX := below_step bW hb7
    have x7 := x6.below hb7 x6.lt
    have z7 := z6.below hb7 z6.lt
    clear x6 z6 bW hb7 s0 s1 s2 s3 HP2
    obtain ⟨s0, s1, s2, s3⟩ := blk4 x7
    go_wp2_with fail
    with_reducible refine (HP3.out _ bX).mono ?_
    rintro e w8 ⟨A8, c8, B8, d8, rfl, -, -, hb8⟩
    have bY := below_step bX hb8
    have z8 := z7.below hb8 z7.lt
    have hal8 := (Below.refl w8.heap.size w8).alloc (Nat.le_refl _) (.cells #[.slice A8 L0.length c8, .slice B8 M0.length d8, .int .i64 r0, .int .i64 t0] 28)
    have z9 := z8.below hal8 z8.lt
    have bZZ := below_step bY hal8
    clear x7 z7 bX hb8 s0 s1 s2 s3 HP3 bY hal8 z8
    go_upto_region 8 with fail
    generalize hw9 : w8.alloc (.cells [Value.slice A8 L0.length c8, .slice B8 M0.length d8, .int .i64 r0, .int .i64 t0].toArray 28) = w9 at *
    clear hw9
    go_wp2_with fail
    with_reducible refine (kept_any _ (hK2.out.below bZZ)).mono ?_
    rintro e w10 ⟨rfl, hb10⟩
    have z10 := z9.below hb10 z9.lt
    obtain ⟨s0, s1, s2, s3⟩ := blk4 z10
    have hl1 : ((L0.length : Int) == 0) = true := by rw [hl0.out]; rfl
    go_wp2
    go_ret
    exact ⟨by simp, below_step (below_step hbB bZZ) hb10⟩
end Go.Proofs.YtnadgdjaldemhaaGreatDoor

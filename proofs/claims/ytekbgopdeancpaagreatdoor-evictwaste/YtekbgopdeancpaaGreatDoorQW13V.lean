/- The law EvictWaste: the walk. -/
import Derived.Test.YtekbgopdeancpaaGreatDoorQKv
import Derived.Test.YtekbgopdeancpaaGreatDoorQYf
import Derived.Test.YtekbgopdeancpaaGreatDoorQDgb
import Derived.Test.YtekbgopdeancpaaGreatDoorQTc
import Derived.BigQuiet
import Derived.Deep.RegionHeldLaw
import Derived.Deep.CutBlock
import Derived.Deep.CutRange
namespace Go.Proofs.YtekbgopdeancpaaGreatDoor
open Go.RowKit
theorem one_kb {w : World} {g : Nat} {t : TypeId} {b : Bl} {D : Option Addr} {n c : Nat} (h : Blk w g t [.string (str b.dg), .slice D n c, .int .i64 b.pn, .bool b.mr]) (hr : Rd w 1 D n c (b.dt.map bv8)) (hD : D = none → c = 0) : KRd kBl w (some ⟨g, 0, none⟩) 1 1 [b] := by
  refine ⟨[(b, ⟨D, n, c⟩)], rfl, ?_, fun x hx => ?_⟩
  · rw [Kin.all_one]
    have := Blk.rd (xs := kBl.cells b ⟨D, n, c⟩) h (size := 4) (n := 1) (c := 1) (Nat.le_refl _) (by unfold maxLen; omega) (by rw [kBl.len]; decide)
    rwa [List.take_of_length_le (by rw [kBl.len]; decide)] at this
  · rcases List.mem_cons.1 hx with rfl | q
    · exact ⟨hr, hD⟩
    · cases q
set_option maxRecDepth 100000 in
set_option maxHeartbeats 4000000 in
theorem evictWaste_walk (A : Option Addr) (n c : Nat) (l : List Rw) (w : World) (hK : Kon w) (hr : Rd w 4 A n c (rcs l)) (hg : ∀ p ∈ l, p.good) (hn : n ≤ 4294967296000) :
    Calls Tryz.prog 6 #[.slice A n c] w fun e w' => e = .returned (.bool true) ∧ Below w.heap.size w w' := by
  have hal := Below.refl w.heap.size w
  have r0 := hr
  have HK0 := Lib.hid hK
  clear hr hK
  go_enter Tryz.func6, Tryz.ntmps6
  go_wp2_with fail
  with_reducible refine (store_both _ _ _ _ _ r0 hg hn).mono ?_
  rintro e w1 ⟨A1, c1, L, A2, c2, M, rm, ck, rfl, hN1, hM1, hS, hb1⟩
  have hbA := below_step hal hb1
  have hal2 := (Below.refl w1.heap.size w1).alloc (Nat.le_refl _) (.cells #[.slice A1 L.length c1, .slice A2 M.length c2, .int .i64 rm, .int .i64 ck] 25)
  have hs2 := Blk.new w1 25 [.slice A1 L.length c1, .slice A2 M.length c2, .int .i64 rm, .int .i64 ck]
  have hbB := below_step hbA hal2
  have rL2 := hN1.rd.below hal2
  have rM2 := hM1.rd.below hal2
  have HA1 := Lib.hid hN1.nilCap
  have HA2 := Lib.hid hM1.nilCap
  have HS := Lib.hid hS
  clear hal r0 hg hn hb1 hbA hN1 hM1 hS hal2
  go_upto_region 2 with fail
  generalize hw2 : w1.alloc (.cells [Value.slice A1 L.length c1, .slice A2 M.length c2, .int .i64 rm, .int .i64 ck].toArray 25) = w2 at *
  clear hw2
  have HSA : Hid (StA w2 A1 A2 L.length c1 M.length c2 ⟨L, M, rm, ck⟩) := sta_of (HK0.out.below hbB) rL2 rM2 HA1.out HA2.out HS.out.ok
  have hok := HS.out.ok
  have hK2 := Lib.hid (HK0.out.below hbB)
  have hsrt := (bsErr_zero.1 hok.be).2.2
  obtain ⟨V, hV⟩ : ∃ V, sWaste ⟨L, M, rm, ck⟩ = V := ⟨_, rfl⟩
  obtain ⟨R, hR⟩ : ∃ R, live ⟨L, M, rm, ck⟩ = R := ⟨_, rfl⟩
  have HMEM : Hid (∀ b ∈ L, b.dg ∈ V ↔ ¬ b.dg ∈ R) := fun b hb => by rw [← hV, ← hR]; exact waste_mem (s := ⟨L, M, rm, ck⟩) hb
  have hsum := waste_live (s := ⟨L, M, rm, ck⟩) hsrt
  rw [hV, hR] at hsum
  simp only at hsum
  have hl24 := (bsErr_zero.1 hok.be).1
  have hrt := roots_few hok
  simp only at hl24 hrt
  have hW := lWaste_any HSA.out
  rw [wasted_ok hok, hV] at hW
  have HW := Lib.hid hW
  have HALL := Lib.hid (fun (W : World) (hb : Below w2.heap.size w2 W) => (by
    have h := HSA.out.below hb
    have := rall_any A1 A2 L.length c1 M.length c2 L M rm ck W h.hr h.he (fun b hb => (h.hgl b hb).1) (fun e he p hp => ((h.hge e he).2.1 p hp).2.1) h.hz (by omega)
    rw [show sReach L M = R from hR] at this
    exact this : Calls Tryz.prog 23 #[.agg #[.slice A1 L.length c1, .slice A2 M.length c2, .int .i64 rm, .int .i64 ck]] W (GivesTx R W)))
  have hwr : IntKind.i64.wrap ((V.length : Int) + (R.length : Int)) = (L.length : Int) := by rw [IntWalk.i64_in _ (by omega)]; omega
  have HSUM := Lib.hid hsum
  obtain ⟨D0, hD0⟩ : ∃ D0, dig [] = D0 := ⟨_, rfl⟩
  have HDG : Hid (∀ W : World, Calls Tryz.prog 22 #[.slice none 0 0] W fun e w' => e = .returned (.string (str D0)) ∧ Below W.heap.size W w') := fun W => by
    have := digest_ok2 none 0 0 [] W (Rd.nil _ _) (by omega)
    rwa [hD0] at this
  have hlone : (⟨[⟨D0, [], 0, false⟩], [], 0, 0⟩ : Sto).ok := by rw [← hD0]; exact sErr_zero.1 lone_ok
  have hlw : sWasted ⟨[⟨D0, [], 0, false⟩], [], 0, 0⟩ = ((0 : Int), [D0]) := by
    rw [wasted_ok hlone, ← hD0]
    exact congrArg (Prod.mk (0 : Int)) lone_waste
  have HL : Hid (∀ (W : World) (g : Nat), Kon W → Blk W g 43 [.string (str D0), .slice none 0 0, .int .i64 0, .bool false] → Calls Tryz.prog 13 #[.agg #[.slice (some ⟨g, 0, none⟩) 1 1, .slice none 0 0, .int .i64 0, .int .i64 0]] W (GivesTE ((0 : Int), [D0]) W)) := fun W g hk hb => by
    have hs := sta_of (L := [⟨D0, [], 0, false⟩]) (M := []) (r := 0) (t := 0) hk (one_kb (b := ⟨D0, [], 0, false⟩) hb (Rd.nil _ _) (fun _ => rfl)) (KRd.nil _) (fun q => by cases q) (fun _ => rfl) hlone
    have := lWaste_any hs
    rw [hlw] at this
    exact this
  clear hlone hlw hD0 hW hV hR hrt hok hsrt hsum
  obtain ⟨s0, s1, s2, s3⟩ := blk4 hs2
  go_wp2_with fail
  with_reducible refine HW.out.mono ?_
  rintro e w3 ⟨A3, c3, rfl, hV3, -, hb3⟩
  have hs3 := hs2.below hb3 hs2.lt
  clear s0 s1 s2 s3 hs2 HW
  simp only
  simp only at hV3
  go_wp2_with fail
  with_reducible refine (HDG.out _).mono ?_
  rintro e w4 ⟨rfl, hb4⟩
  have hb24 := below_step hb3 hb4
  have hs4 := hs3.below hb4 hs3.lt
  have hV4 := hV3.below hb4
  have hal5 := (Below.refl w4.heap.size w4).alloc (Nat.le_refl _) (.cells #[.string (str D0), .slice none 0 0, .int .i64 0, .bool false] 43)
  have o5 := Blk.new w4 43 [.string (str D0), .slice none 0 0, .int .i64 0, .bool false]
  have hb25 := below_step hb24 hal5
  have HL5 := Lib.hid (HL.out _ _ (hK2.out.below hb25) o5)
  have hs5 := hs4.below hal5 hs4.lt
  have hV5 := hV4.below hal5
  clear hs3 hV3 hb3 hb4 hs4 hV4 hal5 o5 HL HDG hb24
  go_wp2_with fail
  with_reducible refine HL5.out.mono ?_
  rintro e w6 ⟨A6, c6, rfl, hV6, -, hb6⟩
  have hb26 := below_step hb25 hb6
  have hs6 := hs5.below hb6 hs5.lt
  have hVV := hV5.below hb6
  clear hs5 hV5 hV6 hb6 HL5 hb25
  simp only
  obtain ⟨s0, s1, s2, s3⟩ := blk4 hs6
  have HA7 := Lib.hid (HALL.out _ hb26)
  go_wp2_with fail
  with_reducible refine HA7.out.mono ?_
  rintro e w7 hgv
  obtain ⟨A7, c7, rfl, hR7, -, -, hb7⟩ := hgv.rd
  have hb27 := below_step hb26 hb7
  have hs7 := hs6.below hb7 hs6.lt
  have hV7 := hVV.below hb7
  have rL7 := rL2.below hb27
  clear hs6 hVV hb7 hgv HA7 HALL hb26 s0 s1 s2 s3
  obtain ⟨s0, s1, s2, s3⟩ := blk4 hs7
  go_wp2
  go_loopw [42] (fun s wr => ∃ k : Nat, k ≤ L.length ∧ s = .int .i64 k ∧ Below w7.heap.size w7 wr) (fun s _ => L.length - (intOf s).toNat)
  case atStart => exact ⟨0, Nat.zero_le _, rfl, Below.refl _ _⟩
  case round =>
    obtain ⟨k, hk, rfl, hbel⟩ := hrel
    by_cases hlt : k < L.length
    · obtain ⟨b, off, D, dn, dc, rfl, hc0, hc1, hc2, hc3, -, -⟩ := (rL7.below hbel).blob hlt
      have hki : (k : Int) < (L.length : Int) := by omega
      have hmem := HMEM.out L[k] (List.getElem_mem hlt)
      generalize L[k] = x at *
      obtain ⟨lv, hlv⟩ : ∃ lv, (R.any fun t => x.dg == t) = lv := ⟨_, rfl⟩
      have h1 : lv = true ↔ x.dg ∈ R := any_iff hlv
      have h2 : (!lv) = true ↔ x.dg ∈ V := by rw [hmem, ← h1]; cases lv <;> simp
      have hal8 := (Below.refl wr.heap.size wr).alloc (Nat.le_refl _) (.cells #[.string (str x.dg), .slice D dn dc, .int .i64 x.pn, .bool x.mr] 43)
      have v8 := Blk.new wr 43 [.string (str x.dg), .slice D dn dc, .int .i64 x.pn, .bool x.mr]
      have hb78 := below_step hbel hal8
      clear s0 s1 s2 s3 hal8
      go_upto_region 10 with fail
      generalize hw8 : wr.alloc (.cells [Value.string (str x.dg), .slice D dn dc, .int .i64 x.pn, .bool x.mr].toArray 43) = w8 at *
      clear hw8 hc0 hc1 hc2 hc3
      have HC1 := Lib.hid (fun (W : World) (hb : Below w8.heap.size w8 W) => containsT_any A3 _ c3 V x.dg W (hV7.below (below_step hb78 hb)) (!lv) h2)
      have HC2 := Lib.hid (fun (W : World) (hb : Below w8.heap.size w8 W) => containsT_any A7 _ c7 R x.dg W (hR7.below (below_step hb78 hb)) lv h1)
      have heq : ((!lv) == lv) = false := by cases lv <;> rfl
      have HEQ := Lib.hid heq
      clear h1 h2 hlv hmem heq
      go_cut [54] from 46 to 54 (fun s54 wx => s54 = .bool false ∧ Below w8.heap.size w8 wx)
      case first =>
        have b0 := (Below.refl w8.heap.size w8).drew
        have hS : ∀ W : World, Below w8.heap.size w8 W → (W.cell? ⟨wr.heap.size, 0, none⟩ = some (.string (str x.dg))) := fun W hb => (blk4 (v8.below hb v8.lt)).1
        go_region_held_law (fun W => W.cell? ⟨wr.heap.size, 0, none⟩ = some (.string (str x.dg)))
          (first | with_reducible exact hS _ b0 | go_keep)
          (first
            | (go_at_call 24; (with_reducible refine (HC1.out _ b0).mono ?_); rintro e v1 ⟨rfl, rfl⟩)
            | (go_at_call 24; (with_reducible refine (HC2.out _ b0).mono ?_); rintro e v2 ⟨rfl, rfl⟩))
        all_goals
          go_wp2
          go_meet
          first | exact ⟨rfl, b0⟩ | exact ⟨by rw [HEQ.out], b0⟩
      case rest =>
        obtain ⟨rfl, hbx⟩ := hcut
        go_wp2
        go_roundw
        case rel => exact ⟨k + 1, by omega, by go_num, below_step hb78 hbx⟩
        case measure => simp [intOf] <;> omega
    · have hd2 : decide ((k : Int) < (L.length : Int)) = false := by rw [decide_eq_false_iff_not]; omega
      obtain rfl : k = L.length := by omega
      have hs8 := hs7.below hbel hs7.lt
      clear s0 s1 s2 s3
      obtain ⟨s0, s1, s2, s3⟩ := blk4 hs8
      go_wp2
      go_ret
      exact ⟨by simp, below_step hbB (below_step hb27 hbel)⟩
end Go.Proofs.YtekbgopdeancpaaGreatDoor

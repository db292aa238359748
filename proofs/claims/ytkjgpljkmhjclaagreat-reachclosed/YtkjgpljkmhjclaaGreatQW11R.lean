/- The law ReachRoots: the walk. -/
import Derived.Test.YtkjgpljkmhjclaaGreatQSal
import Derived.Test.YtkjgpljkmhjclaaGreatQRcm
import Derived.Test.YtkjgpljkmhjclaaGreatQTc
namespace Go.Proofs.YtkjgpljkmhjclaaGreat
open Go.RowKit
theorem sReach_mem {L : List Bl} {M : List En} {d : List UInt8} : d ∈ sReach L M ↔ Rch L pOf (ris (roots L M)) d := by
  unfold sReach; rw [ris_mem, rFrom_rch]
theorem StS.part_in {L : List Bl} {M : List En} {r k : Int} (h : StS L M r k) {e : En} (he : e ∈ M) {p : Prt} (hp : p ∈ e.ps) : p.dg ∈ sReach L M := by
  obtain ⟨b, hb, h1, _⟩ := (pThere_zero h.b.srt).1 (h.ok.pt e he) p hp
  exact sReach_mem.2 (.here (ris_mem.2 (mem_roots.2 (.inr ⟨e, he, p, hp, rfl⟩))) (bAt_lt.2 ⟨b, hb, h1⟩))
theorem StS.held_in {L : List Bl} {M : List En} {b : Bl} (hb : b ∈ L) (hp : 0 < b.pn) : b.dg ∈ sReach L M :=
  sReach_mem.2 (.here (ris_mem.2 (mem_roots.2 (.inl ⟨b, hb, hp, rfl⟩))) (bAt_lt.2 ⟨b, hb, rfl⟩))
set_option maxRecDepth 100000 in
set_option maxHeartbeats 4000000 in
theorem reachRoots_walk (A : Option Addr) (n c : Nat) (l : List Rw) (w : World) (hr : Rd w 4 A n c (rcs l)) (hg : ∀ p ∈ l, p.good) (hn : n ≤ 4294967296000) :
    Calls Tryz.prog 5 #[.slice A n c] w fun e w' => e = .returned (.bool true) ∧ Below w.heap.size w w' := by
  go_enter Tryz.func5, Tryz.ntmps5
  go_wp2_with fail
  with_reducible refine (store_both _ _ _ _ _ hr hg hn).mono ?_
  rintro e w1 ⟨A1, c1, L, A2, c2, M, rm, ck, rfl, hN1, hN2, hS, hb1⟩
  have hal := (Below.refl w1.heap.size w1).alloc (Nat.le_refl _) (.cells #[.slice A1 L.length c1, .slice A2 M.length c2, .int .i64 rm, .int .i64 ck] 26)
  have hbk := Blk.new w1 26 [.slice A1 L.length c1, .slice A2 M.length c2, .int .i64 rm, .int .i64 ck]
  have r1 := hN1.rd.below hal
  have s1 := hN2.rd.below hal
  have hbA := below_step hb1 hal
  have hL := hS.b.len
  have hM := hS.e.len
  have HPI : Hid (∀ e ∈ M, ∀ p ∈ e.ps, p.dg ∈ sReach L M) := fun e he p hp => hS.part_in he hp
  have HHI : Hid (∀ b ∈ L, 0 < b.pn → b.dg ∈ sReach L M) := fun b hb hp => StS.held_in hb hp
  have HALL := Lib.hid (rall_any A1 A2 L.length c1 M.length c2 L M rm ck _ r1 s1 hS.dgs hS.pdg (by omega) (by have := hS.roots_len; have := hS.b.len; omega))
  generalize sReach L M = R at *
  have e0 := hbk.cell 0
  have e1 := hbk.cell 1
  have e2 := hbk.cell 2
  have e3 := hbk.cell 3
  simp only [List.getElem?_cons_succ, List.getElem?_cons_zero] at e0 e1 e2 e3
  clear hN1 hN2 hr hg hS hb1
  go_wp2_with fail
  with_reducible refine HALL.out.mono ?_
  rintro e w3 h3
  obtain ⟨A3, c3, rfl, hr3, -, -, hb3⟩ := h3.rd
  have kS := hbk.below hb3 hbk.lt
  have r3 := r1.below hb3
  have s3 := s1.below hb3
  have hbB := below_step hbA hb3
  have f0 := kS.cell 0
  have f1 := kS.cell 1
  simp only [List.getElem?_cons_succ, List.getElem?_cons_zero] at f0 f1
  clear hbk r1 s1 hal hbA e0 e1 e2 e3 HALL h3 hb3
  go_wp2_with fail
  go_loopw [18] (fun s wr => ∃ k : Nat, k ≤ M.length ∧ s = .int .i64 k ∧ Below w3.heap.size w3 wr) (fun s _ => M.length - (intOf s).toNat)
  case atStart => exact ⟨0, Nat.zero_le _, rfl, Below.refl _ _⟩
  case round =>
    obtain ⟨k, hk, rfl, hbel⟩ := hrel
    by_cases hlt : k < M.length
    · obtain ⟨b, off, D, dn, dc, rfl, hc0, hc1, hc2, hc3, hrD, hDn⟩ := (s3.below hbel).entry hlt
      have hki : (k : Int) < (M.length : Int) := by omega
      have HPE : Hid (∀ p ∈ M[k].ps, p.dg ∈ R) := HPI.out M[k] (List.getElem_mem hlt)
      generalize M[k] = x at *
      obtain ⟨ky, ps, pn, st⟩ := x
      simp only at hc0 hc1 hc2 hc3 hrD HPE
      obtain rfl : dn = ps.length := hrD.plen
      have hpc := hrD.2.1
      have hpm := hrD.2.2.1
      unfold maxLen at hpm
      have hal2 := (Below.refl wr.heap.size wr).alloc (Nat.le_refl _) (.cells #[.string (str ky), .slice D ps.length dc, .int .i64 pn, .int .i64 st] 48)
      have hbk2 := Blk.new wr 48 [.string (str ky), .slice D ps.length dc, .int .i64 pn, .int .i64 st]
      have g1 := hbk2.cell 1
      simp only [List.getElem?_cons_succ, List.getElem?_cons_zero] at g1
      have hbel2 := below_step hbel hal2
      have hrD2 := hrD.below hal2
      clear hrD
      go_wp2_with fail
      generalize wr.alloc (.cells [Value.string (str ky), .slice D ps.length dc, .int .i64 pn, .int .i64 st].toArray 48) = u at *
      clear hc0 hc1 hc2 hc3 g1 hbk2 hal2
      rename World => wo
      go_loopw [25] (fun s wr => ∃ j : Nat, j ≤ ps.length ∧ s = .int .i64 j ∧ Below wo.heap.size wo wr) (fun s _ => ps.length - (intOf s).toNat)
      case atStart => exact ⟨0, Nat.zero_le _, rfl, Below.refl _ _⟩
      case round =>
        obtain ⟨j, hj, rfl, hbj⟩ := hrel
        have hbJ := below_step hbel2 hbj
        by_cases hlt2 : j < ps.length
        · obtain ⟨b2, off2, rfl, p0, p1, p2⟩ := (hrD2.below hbj).part hlt2
          have hji : (j : Int) < (ps.length : Int) := by omega
          have HIN := Lib.hid (HPE.out ps[j] (List.getElem_mem hlt2))
          generalize ps[j] = y at *
          have hal3 := (Below.refl wr.heap.size wr).alloc (Nat.le_refl _) (.cells #[.string (str y.nm), .string (str y.dg), .int .i64 y.sz] 50)
          have g1 := (Blk.new wr 50 [.string (str y.nm), .string (str y.dg), .int .i64 y.sz]).cell 1
          simp only [List.getElem?_cons_succ, List.getElem?_cons_zero] at g1
          have hrR := (hr3.below hbJ).below hal3
          have hbj2 := below_step hbj hal3
          have HC := Lib.hid (containsT_any _ _ _ R y.dg _ hrR true ⟨fun _ => HIN.out, fun _ => rfl⟩)
          go_wp2_with fail
          with_reducible refine HC.out.mono ?_
          rintro e w4 ⟨rfl, rfl⟩
          go_wp2
          go_roundw
          case rel => exact ⟨j + 1, by omega, by go_num, hbj2⟩
          case measure => simp [intOf] <;> omega
        · have hd2 : decide ((j : Int) < (ps.length : Int)) = false := by rw [decide_eq_false_iff_not]; omega
          go_wp2
          go_roundw
          case rel => exact ⟨k + 1, by omega, by go_num, hbJ⟩
          case measure => simp [intOf] <;> omega
    · have hd2 : decide ((k : Int) < (M.length : Int)) = false := by rw [decide_eq_false_iff_not]; omega
      have kSr := kS.below hbel kS.lt
      have g0 := kSr.cell 0
      simp only [List.getElem?_cons_zero] at g0
      have hbC := below_step hbB hbel
      have rr := r3.below hbel
      have hrR0 := hr3.below hbel
      go_wp2_with fail
      clear hk hd2 hlt hbel r3 s3 hr3 kS kSr f0 f1 g0 HPI
      rename World => wo
      go_loopw [39] (fun s wr => ∃ k : Nat, k ≤ L.length ∧ s = .int .i64 k ∧ Below wo.heap.size wo wr) (fun s _ => L.length - (intOf s).toNat)
      case atStart => exact ⟨0, Nat.zero_le _, rfl, Below.refl _ _⟩
      case round =>
        obtain ⟨k, hk, rfl, hbel⟩ := hrel
        by_cases hlt : k < L.length
        · obtain ⟨b, off, D, dn, dc, rfl, hc0, hc1, hc2, hc3, -, -⟩ := (rr.below hbel).blob hlt
          have hki : (k : Int) < (L.length : Int) := by omega
          have HIN := Lib.hid (HHI.out L[k] (List.getElem_mem hlt))
          generalize L[k] = x at *
          have hal3 := (Below.refl wr.heap.size wr).alloc (Nat.le_refl _) (.cells #[.string (str x.dg), .slice D dn dc, .int .i64 x.pn, .bool x.mr] 36)
          have hbk3 := Blk.new wr 36 [.string (str x.dg), .slice D dn dc, .int .i64 x.pn, .bool x.mr]
          have g0 := hbk3.cell 0
          have g2 := hbk3.cell 2
          simp only [List.getElem?_cons_succ, List.getElem?_cons_zero] at g0 g2
          have hrR := (hrR0.below hbel).below hal3
          have hbj2 := below_step hbel hal3
          by_cases hp : 0 < x.pn
          · have HC := Lib.hid (containsT_any _ _ _ R x.dg _ hrR true ⟨fun _ => HIN.out hp, fun _ => rfl⟩)
            go_wp2_with fail
            with_reducible refine HC.out.mono ?_
            rintro e w4 ⟨rfl, rfl⟩
            go_wp2
            go_roundw
            case rel => exact ⟨k + 1, by omega, by go_num, hbj2⟩
            case measure => simp [intOf] <;> omega
          · have d1 : decide (0 < x.pn) = false := by rw [decide_eq_false_iff_not]; exact hp
            go_wp2
            go_roundw
            case rel => exact ⟨k + 1, by omega, by go_num, hbj2⟩
            case measure => simp [intOf] <;> omega
        · have hd2 : decide ((k : Int) < (L.length : Int)) = false := by rw [decide_eq_false_iff_not]; omega
          have hbD := below_step hbC hbel
          go_wp2_with fail
          with_reducible refine (comes_ok _).mono ?_
          rintro e w5 ⟨rfl, hb5⟩
          go_wp2
          go_ret
          exact ⟨by simp, below_step hbD hb5⟩
end Go.Proofs.YtkjgpljkmhjclaaGreat

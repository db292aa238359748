/- The law MarkAll: the walk. -/
import Derived.Test.YtdbdigcpibmgjaaGreatDoorGMB
import Derived.Test.YtdbdigcpibmgjaaGreatDoorQMkm
import Derived.Test.YtdbdigcpibmgjaaGreatDoorQLal
import Derived.Test.YtdbdigcpibmgjaaGreatDoorQSal
import Derived.Test.YtdbdigcpibmgjaaGreatDoorGA
import Derived.Test.YtdbdigcpibmgjaaGreatDoorQTc
import Derived.BigQuiet
import Derived.Deep.CutBlock
import Derived.Deep.CutRange
namespace Go.Proofs.YtdbdigcpibmgjaaGreatDoor
open Go.RowKit
theorem one_tx {w : World} {g : Nat} {t : TypeId} {d : List UInt8} (h : Blk w g t [.string (str d)]) : Rd w 1 (some ⟨g, 0, none⟩) 1 1 (([d] : List (List UInt8)).map sv) := by
  have := Blk.rd (xs := [sv d]) h (size := 1) (n := 1) (c := 1) (Nat.le_refl _) (by unfold maxLen; omega) (by simp)
  simpa using this
set_option maxRecDepth 100000 in
set_option maxHeartbeats 4000000 in
theorem markAll_walk (A : Option Addr) (n c : Nat) (l : List Rw) (a1 : Int) (w : World) (hK : Kon w) (hr : Rd w 4 A n c (rcs l)) (hg : ∀ p ∈ l, p.good) (hn : n ≤ 4294967296000) (hw1 : (Lit.int .i64 a1).wf = true) :
    Calls Tryz.prog 6 #[.slice A n c, .int .i64 a1] w fun e w' => e = .returned (.bool true) ∧ Below w.heap.size w w' := by
  have hal := Below.refl w.heap.size w
  have r0 := hr
  have HK0 := Lib.hid hK
  have HMK := Lib.hid (fun (W : World) (hb : Below w.heap.size w W) => marks_ok W (hK.below hb))
  have ha := i64_range hw1
  clear hr hK hw1
  have kf := store_field
  go_enter Tryz.func6, Tryz.ntmps6
  go_wp2_with fail
  with_reducible refine (store_both _ _ _ _ _ r0 hg hn).mono ?_
  rintro e w1 ⟨A1, c1, L, A2, c2, M, rm, ck, rfl, hN1, hM1, hS, hb1⟩
  have hbA := below_step hal hb1
  have HL1 := Lib.hid hN1.rd
  have HA1 := Lib.hid hN1.nilCap
  have HS := Lib.hid hS
  clear hal r0 hg hn hb1 hN1 hM1 hS
  go_wp2_with fail
  with_reducible refine (HMK.out _ hbA).mono ?_
  rintro e w2 ⟨rfl, hb2⟩
  have hbB := below_step hbA hb2
  by_cases hL : L.length = 0
  · have hd : ((L.length : Int) == 0) = true := by rw [beq_iff_eq]; omega
    clear hL
    go_wp2_with fail
    with_reducible refine (HMK.out _ hbB).mono ?_
    rintro e w3 ⟨rfl, hb3⟩
    go_wp2
    go_ret
    exact ⟨rfl, below_step hbB hb3⟩
  · have hd : ((L.length : Int) == 0) = false := by rw [beq_eq_false_iff_ne]; omega
    have hpos : (0 : Int) < (L.length : Int) := by omega
    have hl24 := (bsErr_zero.1 HS.out.ok.be).1
    simp only at hl24
    obtain ⟨a, hpa, hla⟩ := pk_nat a1 L.length hpos
    have hla' : a < L.length := by omega
    have HPK : Hid (∀ W : World, Calls Tryz.prog 20 #[.int .i64 a1, .int .i64 (L.length : Int)] W fun e w' => e = .returned (.int .i64 (a : Int)) ∧ Below W.heap.size W w') := fun W => (picked_nat a1 (L.length : Int) a W ha.1 ha.2 hpos (by omega) hpa).mono fun _ _ ⟨h1, h2⟩ => ⟨h1, by rw [← h2]; exact Below.refl _ _⟩
    have rL2 := HL1.out.below hb2
    obtain ⟨V, hV⟩ : ∃ V, ris (rFrom L pOf [L[a].dg]) = V := ⟨_, rfl⟩
    obtain ⟨X, hX⟩ : ∃ X, mAll L [L[a].dg] = X := ⟨_, rfl⟩
    obtain ⟨d, hdg⟩ : ∃ d, L[a].dg = d := ⟨_, rfl⟩
    have hfew : ∀ b ∈ L, b.mr = false := fun b hb => (HS.out.few b hb).2.1
    have hgood : ∀ p ∈ L, p.good := (sta_of (HK0.out.below hbB) rL2 (KRd.nil w2 (K := kEn)) HA1.out (fun _ => rfl) (M := []) (r := rm) (t := ck) (by
      have h := HS.out.ok
      exact ⟨h.be, by rfl, h.r0, h.r1, h.us, h.c0, h.c1, fun x hx => (by cases hx), fun x hx => (by cases hx)⟩)).hgl
    have hsrt := HS.out.b.srt
    have hxl : X.length = L.length := by rw [← hX]; exact mAll_len _ _
    have HXG := Lib.hid (by rw [← hX]; exact mAll_good hgood _ : ∀ p ∈ X, p.good)
    have HMR : Hid (∀ k (h : k < L.length) (h' : k < X.length), X[k].mr = true ↔ L[k].dg ∈ V) := fun k h h' => by
      subst hX
      rw [← hV]
      exact mAll_mr hsrt hfew h h'
    have HALK : Hid (alks L X = true) := Lib.hid (by rw [← hX]; exact mAll_alks _ _)
    have hvp : 0 < V.length := by rw [← hV]; exact from_self hla'
    have hvp' : (0 : Int) < (V.length : Int) := by omega
    have HXN : Hid (mAll X [] = X) := Lib.hid (mAll_nil X)
    have hdl : d.length ≤ maxLen := by rw [← hdg]; exact (hgood _ (List.getElem_mem hla')).1
    have H1 : Hid (∀ (W : World) (g : Nat), Below w2.heap.size w2 W → Blk W g 9 [.string (str d)] → Calls Tryz.prog 21 #[.slice A1 L.length c1, .slice (some ⟨g, 0, none⟩) 1 1] W fun e w' => ∃ v, e = .returned v ∧ KOwn kBl w' W.heap.size 45 v X ∧ Below W.heap.size W w') := fun W g hb hg => by
      have h := lMAll_any A1 L.length c1 L (some ⟨g, 0, none⟩) 1 1 [d] W (rL2.below hb) (by omega) hgood (one_tx hg) (fun q => by cases q) (fun x hx => by rw [List.mem_singleton.1 hx]; exact hdl) (by simp only [List.length_cons, List.length_nil]; omega)
      rw [← hdg, hX] at h
      exact h
    have H2 : Hid (∀ (W : World) (g : Nat), Below w2.heap.size w2 W → Blk W g 9 [.string (str d)] → Calls Tryz.prog 22 #[.slice A1 L.length c1, .slice (some ⟨g, 0, none⟩) 1 1] W (GivesTx V W)) := fun W g hb hg => by
      have h := rfrom_any A1 L.length c1 L (some ⟨g, 0, none⟩) 1 1 [d] W (rL2.below hb) (by omega) (one_tx hg) (fun q => by cases q) (fun b hb => (hgood b hb).1) (fun x hx => by rw [List.mem_singleton.1 hx]; exact hdl) (by simp only [List.length_cons, List.length_nil]; omega)
      rw [← hdg, hV] at h
      exact h
    have H3 : Hid (∀ (A : Option Addr) (c : Nat) (W : World), KRd kBl W A X.length c X → Calls Tryz.prog 21 #[.slice A X.length c, .slice none 0 0] W fun e w' => ∃ v, e = .returned v ∧ KOwn kBl w' W.heap.size 45 v X ∧ Below W.heap.size W w') := fun A c W hr => by
      have h := lMAll_any A X.length c X none 0 0 [] W hr (by omega) HXG.out (Rd.nil _ _) (fun _ => rfl) (fun x hx => by cases hx) (by simp only [List.length_nil]; omega)
      rw [HXN.out] at h
      exact h
    have HD := Lib.hid hdg
    have HXL := Lib.hid hxl
    clear hxl hL hpa hV hX hfew hgood hsrt HXN HXG HK0 hdl HS HMK ha hbA hdg
    go_upto_region 4 with fail
    obtain ⟨b0, o0, D0, m0, q0, rfl, e0, e1, e2, e3, -, -⟩ := rL2.blob hla'
    rw [HD.out] at e0
    clear e1 e2 e3
    go_wp2_with fail
    with_reducible refine (HPK.out _).mono ?_
    rintro e w3 ⟨rfl, hb3⟩
    have e3 := (hb3.cell (cell_lt e0)).trans e0
    clear e0 HPK
    go_upto_region 5 with fail
    have hal4 := (Below.refl w3.heap.size w3).alloc (Nat.le_refl _) (.cells #[.string (str d)] 9)
    have x4 := Blk.new w3 9 [.string (str d)]
    have hb24 := below_step hb3 hal4
    have H14 := Lib.hid (H1.out _ _ hb24 x4)
    clear hal4 x4 H1 hb3 e3
    go_wp2_with fail
    with_reducible refine H14.out.mono ?_
    rintro e w5 ⟨v5, rfl, hO5, hb5⟩
    obtain ⟨A5, c5, rfl, hN5⟩ := hO5.new
    have hb25 := below_step hb24 hb5
    have r5 := hN5.rd
    clear hO5 hN5 hb24 hb5 H14
    go_upto_region 6 with fail
    have hal6 := (Below.refl w5.heap.size w5).alloc (Nat.le_refl _) (.cells #[.string (str d)] 9)
    have x6 := Blk.new w5 9 [.string (str d)]
    have hb26 := below_step hb25 hal6
    have H26 := Lib.hid (H2.out _ _ hb26 x6)
    have r6 := r5.below hal6
    clear hal6 x6 H2 r5
    go_wp2_with fail
    with_reducible refine H26.out.mono ?_
    rintro e w7 hgv
    obtain ⟨A7, c7, rfl, hR7, -, -, hb7⟩ := hgv.rd
    have r7 := r6.below hb7
    have hb27 := below_step hb26 hb7
    have H37 := Lib.hid (H3.out _ _ _ r7)
    clear H26 hgv r6 hb26 hb7 H3
    go_wp2_with fail
    with_reducible refine H37.out.mono ?_
    rintro e w8 ⟨v8, rfl, hO8, hb8⟩
    obtain ⟨A8, c8, rfl, hN8⟩ := hO8.new
    have hb28 := below_step hb27 hb8
    have rL := rL2.below hb28
    have rX := r7.below hb8
    have rY := hN8.rd
    have rV := hR7.below hb8
    have hbC := below_step hbB hb28
    have hne : ((X.length : Int) != (L.length : Int)) = false := by rw [HXL.out]; simp
    clear H37 hO8 hN8 rL2 r7 hR7 hb27 hb28 hb8 hb2 hbB HL1 HA1
    go_wp2
    go_loopw [42] (fun s wr => ∃ k : Nat, k ≤ L.length ∧ s = .int .i64 k ∧ Below w8.heap.size w8 wr) (fun s _ => L.length - (intOf s).toNat)
    case atStart => exact ⟨0, Nat.zero_le _, rfl, Below.refl _ _⟩
    case round =>
      obtain ⟨k, hk, rfl, hbel⟩ := hrel
      by_cases hlt : k < L.length
      · have hlx : k < X.length := by have := HXL.out; omega
        obtain ⟨gL, oL, D1, m1, q1, f1, l0, -, -, -, -, -⟩ := (rL.below hbel).blob hlt
        obtain ⟨gX, oX, D2, m2, q2, rfl, -, -, -, x3, -, -⟩ := (rX.below hbel).blob hlx
        obtain ⟨gY, oY, D3, m3, q3, rfl, -, -, -, y3, -, -⟩ := (rY.below hbel).blob hlx
        have hki : (k : Int) < (L.length : Int) := by omega
        have hkx : (k : Int) < (X.length : Int) := by omega
        have hmem := HMR.out k hlt hlx
        injection f1 with f1
        injection f1 with f2 f3
        subst f2
        subst f3
        obtain ⟨s, hs⟩ : ∃ s, L[k].dg = s := ⟨_, rfl⟩
        obtain ⟨b, hbm⟩ : ∃ b, X[k].mr = b := ⟨_, rfl⟩
        rw [hs] at l0 hmem
        rw [hbm] at x3 y3 hmem
        have hrV := rV.below hbel
        have HC : Hid (∀ nn : Nat, Calls Tryz.prog 19 #[.slice A7 V.length c7, .string (str s)] (wr.drewN nn) fun e w' => e = .returned (.bool b) ∧ w' = wr.drewN nn) := fun nn => (containsT_any A7 _ c7 V s (wr.drewN nn) (hrV.drewN nn) b hmem).mono fun _ _ ⟨h1, h2⟩ => ⟨h1, h2.symm⟩
        clear hs hbm hmem
        go_upto_region 11 with fail
        rcases b with _ | _
        · go_quiet (first | (go_at_call 19; exact Calls.quiet_of_same (HC.out _)))
          go_wp2
          go_roundw
          case rel => exact ⟨k + 1, by omega, by go_num, below_drewN hbel _⟩
          case measure => simp [intOf] <;> omega
        · go_quiet (first | (go_at_call 19; exact Calls.quiet_of_same (HC.out _)))
          go_wp2
          go_roundw
          case rel => exact ⟨k + 1, by omega, by go_num, below_drewN hbel _⟩
          case measure => simp [intOf] <;> omega
      · have hd2 : decide ((k : Int) < (L.length : Int)) = false := by rw [decide_eq_false_iff_not]; omega
        have HSM := Lib.hid (ksameBlobs_any _ _ _ _ _ _ _ _ wr (rL.below hbel) (rX.below hbel) true HALK.out)
        go_wp2_with fail
        with_reducible refine HSM.out.mono ?_
        rintro e w9 ⟨rfl, hb9⟩
        go_wp2
        go_ret
        exact ⟨by simp, below_step hbC (below_step hbel hb9)⟩
end Go.Proofs.YtdbdigcpibmgjaaGreatDoor

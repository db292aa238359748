/- The landed store: Get. -/
import Derived.Test.YtdohiioiollfhaaGreatDoorQWb
import Derived.Test.YtdohiioiollfhaaGreatDoorGSC
import Derived.Test.YtdohiioiollfhaaGreatDoorGSC
import Derived.Test.YtdohiioiollfhaaGreatDoorGEE
import Derived.Test.YtdohiioiollfhaaGreatDoorGSB
import Derived.Test.YtdohiioiollfhaaGreatDoorGSB
namespace Go.Proofs.YtdohiioiollfhaaGreatDoor
open Go.RowKit
/-- .. where the parts are new as well -/
def GivesSGF (x : Int × Sto × List Prt) (w : World) (e : Ending) (w' : World) : Prop :=
  ∃ A c B d P n f, e = .returned (.tuple #[.agg #[.slice A x.2.1.bs.length c, .slice B x.2.1.es.length d, .int .i64 x.2.1.rm, .int .i64 x.2.1.ck], .slice P n f, .int .i64 x.1]) ∧ Nw kBlW w' w.heap.size A x.2.1.bs.length c x.2.1.bs ∧ Nw kEnW w' w.heap.size B x.2.1.es.length d x.2.1.es ∧
    Rd w' 3 P n f (pcs x.2.2) ∧ (P = none → f = 0) ∧ (∀ a : Addr, P = some a → w.heap.size ≤ a.block ∧ a.block < w'.heap.size) ∧ Unf w' P (n * 3) ∧ Below w.heap.size w w'
theorem givesSGF_no {w w' : World} {er : Int} {e : Ending} (h : e = .returned (.tuple #[.agg #[.slice none 0 0, .slice none 0 0, .int .i64 0, .int .i64 0], .slice none 0 0, .int .i64 er])) (hb : Below w.heap.size w w') : GivesSGF (er, sNil, []) w e w' :=
  ⟨none, 0, none, 0, none, 0, 0, h, Nw.nil _ _, Nw.nil _ _, Rd.nil _ _, fun _ => rfl, fun _ q => (by cases q), Unf.none _ _, hb⟩
theorem givesSGF_mk {w w' : World} {er rm ck : Int} {e : Ending} {bs : List Bl} {es : List En} {ps : List Prt} {v u : Value} {P : Option Addr} {n f : Nat} (he : e = .returned (.tuple #[.agg #[v, u, .int .i64 rm, .int .i64 ck], .slice P n f, .int .i64 er])) {base M : Nat} (h1 : KOwn kBlW w' base 32 v bs) (h2 : KOwn kEnW w' M 35 u es) (hp : Rd w' 3 P n f (pcs ps)) (hn : P = none → f = 0) (hF : ∀ a : Addr, P = some a → w.heap.size ≤ a.block ∧ a.block < w'.heap.size) (hU : Unf w' P (n * 3)) (hB : w.heap.size ≤ base) (hM : w.heap.size ≤ M) (hb : Below w.heap.size w w') : GivesSGF (er, ⟨bs, es, rm, ck⟩, ps) w e w' := by
  obtain ⟨A, c, rfl, n1⟩ := h1.nw
  obtain ⟨B, d, rfl, n2⟩ := h2.nw
  exact ⟨A, c, B, d, P, n, f, he, n1.rebase hB, n2.rebase hM, hp, hn, hF, hU, hb⟩
set_option maxRecDepth 100000 in
set_option maxHeartbeats 4000000 in
theorem lGetF {A B : Option Addr} {n c m k : Nat} {s : Sto} {dg : List UInt8} {w : World} (h : StA w A B n c m k s) (_hd : dg.length ≤ maxLen) :
    Calls Tryz.prog 11 #[.agg #[.slice A n c, .slice B m k, .int .i64 s.rm, .int .i64 s.ck], .string (str dg)] w (GivesSGF (sGet s dg) w) := by
  obtain ⟨l, es, rm, ck⟩ := s
  have he := h.he
  simp only at he ⊢
  obtain rfl := he.len
  have hal := ((Below.refl w.heap.size w).alloc (Nat.le_refl _) (.cells #[.slice A n c, .slice B es.length k, .int .i64 rm, .int .i64 ck] 28)).alloc (by simp) (.cells #[.slice none 0 0, .slice none 0 0, .int .i64 0, .int .i64 0] 28)
  have hb1 := (Blk.new w 28 [.slice A n c, .slice B es.length k, .int .i64 rm, .int .i64 ck]).alloc (.cells #[.slice none 0 0, .slice none 0 0, .int .i64 0, .int .i64 0] 28)
  have hb2 := Blk.new (w.alloc (.cells #[.slice A n c, .slice B es.length k, .int .i64 rm, .int .i64 ck] 28)) 28 [.slice none 0 0, .slice none 0 0, .int .i64 0, .int .i64 0]
  have hsz : (w.alloc (.cells #[.slice A n c, .slice B es.length k, .int .i64 rm, .int .i64 ck] 28)).heap.size = w.heap.size + 1 := by simp
  rw [hsz] at hb2
  have HS := Lib.hid (lCheck_any (h.below hal))
  have hne : w.heap.size + 1 ≠ w.heap.size := by omega
  clear hsz
  obtain ⟨X, hX⟩ : ∃ X, sGet ⟨l, es, rm, ck⟩ dg = X := ⟨_, rfl⟩
  rw [hX]
  have hX' : (if sErr ⟨l, es, rm, ck⟩ ≠ 0 then (sErr ⟨l, es, rm, ck⟩, sNil, []) else if h : xAt es dg < es.length then (if ck = 1099511627776 then (4, sNil, []) else (0, (⟨l, xStamp es (xAt es dg) (ck + 1), rm, ck + 1⟩ : Sto), es[xAt es dg].ps)) else (5, sNil, [])) = X := hX
  have HOK := Lib.hid (fun h : sErr ⟨l, es, rm, ck⟩ = 0 => (⟨(sErr_zero.1 h).c0, (sErr_zero.1 h).c1, fun x hx => (psErr_zero ((xsErr_zero.1 (sErr_zero.1 h).xe).2.1 x hx).2.1).1⟩ : 0 ≤ ck ∧ ck ≤ 1099511627776 ∧ ∀ x ∈ es, x.ps.length ≤ 8))
  have HXX := Lib.hid hX'
  clear hX hX'
  have HA := Lib.hid h
  clear h
  go_enter Tryz.func11, Tryz.ntmps11
  go_upto_region 1 with fail
  generalize hu : (w.alloc (.cells [Value.slice A n c, Value.slice B es.length k, Value.int .i64 rm, Value.int .i64 ck].toArray 28)).alloc (.cells [Value.slice none 0 0, Value.slice none 0 0, Value.int .i64 0, Value.int .i64 0].toArray 28) = u at *
  clear hu
  obtain ⟨a0, a1, a2, a3⟩ := blk4 hb1
  go_wp2_with fail
  with_reducible refine HS.out.mono ?_
  rintro e w2 ⟨rfl, hc2⟩
  have k1 := hb1.below hc2 hb1.lt
  have k2 := hb2.below hc2 hb2.lt
  have hbB := below_step hal hc2
  have H1 := Lib.hid (he.below hbB)
  clear hb1 hb2 hal hc2 HS a0 a1 a2 a3 he
  obtain ⟨S, hS⟩ : ∃ S, sErr ⟨l, es, rm, ck⟩ = S := ⟨_, rfl⟩
  rw [hS] at HXX HOK ⊢
  clear hS
  by_cases p1 : S = 0
  · subst p1
    have HR1 := HXX.out
    rw [if_neg (by simp)] at HR1
    have HX2 := Lib.hid HR1
    obtain ⟨r0, r1, r8⟩ := HOK.out rfl
    clear HR1 HXX HOK
    obtain ⟨-, e0, -, -⟩ := blk4 k1
    have HAT := Lib.hid (ifind_any _ _ _ es dg w2 H1.out)
    have hle := xAt_le es dg
    by_cases hb : xAt es dg < es.length
    · have hfe : xFErr es dg = 0 := if_pos hb
      have hfa : xFAt es dg = xAt es dg := if_pos hb
      rw [hfe, hfa] at HAT
      have HR1 := HX2.out
      rw [dif_pos hb] at HR1
      have HX3 := Lib.hid HR1
      obtain ⟨K, hK⟩ : ∃ K, xAt es dg = K := ⟨_, rfl⟩
      rw [hK] at HAT
      have hKl : K < es.length := by rw [← hK]; exact hb
      have hpk : es[xAt es dg].ps = es[K].ps := by congr 2
      have HX4 : Hid ((if ck = 1099511627776 then (4, sNil, []) else (0, (⟨l, xStamp es K (ck + 1), rm, ck + 1⟩ : Sto), es[K].ps)) = X) := by
        show _ = _
        rw [← HX3.out, hpk, hK]
      have h8 := r8 _ (List.getElem_mem hKl)
      have hbi : (K : Int) < (es.length : Int) := by omega
      clear HX2 HX3 HR1 hK hle hb hpk hfe hfa r8
      go_wp2_with fail
      with_reducible refine HAT.out.mono ?_
      rintro e w3 ⟨rfl, hc3⟩
      have k3 := k1.below hc3 k1.lt
      have j3 := k2.below hc3 k2.lt
      have r3 := H1.out.below hc3
      have hbC := below_step hbB hc3
      clear k1 k2 H1 HAT hbB hc3 e0
      obtain ⟨x0, x1, x2, x3⟩ := blk4 k3
      clear r3
      by_cases p2 : ck = 1099511627776
      · have HF : Hid (X = (4, sNil, [])) := by show _ = _; rw [← HX4.out, if_pos p2]
        have HN := Lib.hid (fun W => next_at ck 0 4 W (.inl ⟨p2, rfl, rfl⟩))
        clear HX4 p2 r0 r1
        obtain ⟨z0, z1, z2, z3⟩ := blk4 j3
        obtain ⟨y0, y1, y2, y3⟩ := blk4z j3
        have HK := Lib.hid (j3.put4s (.slice none 0 0) (.slice none 0 0) (.int .i64 0) (.int .i64 0))
        have HBL := Lib.hid (below4s hbC (q := w.heap.size + 1) (by omega) (.slice none 0 0) (.slice none 0 0) (.int .i64 0) (.int .i64 0))
        go_wp2_with fail
        with_reducible refine (HN.out _).mono ?_
        rintro e w4 ⟨rfl, rfl⟩
        go_wp2
        refine bodyPost_ret (results_cell_row3 rfl _ _ (w.heap.size + 1) 28 _ (0, 0) _ rfl HK.out Tryz.underlying28 rfl store_size) rfl ?_
        rw [HF.out]
        exact givesSGF_no rfl HBL.out
      · have HF : Hid (X = (0, ⟨l, xStamp es K (ck + 1), rm, ck + 1⟩, es[K].ps)) := by show _ = _; rw [← HX4.out, if_neg p2]
        have HN := Lib.hid (fun W => next_at ck (ck + 1) 0 W (.inr ⟨r0, by omega, rfl, rfl⟩))
        clear HX4 p2 r0 r1
        have HC := Lib.hid (lCopyO (HA.out.below hbC))
        go_wp2_with fail
        with_reducible refine (HN.out _).mono ?_
        rintro e w4 ⟨rfl, rfl⟩
        go_wp2_with fail
        with_reducible refine HC.out.mono ?_
        rintro e w4 ⟨v5, u5, M, rfl, hO, hE, hM, hg5, hup, hc4⟩
        obtain ⟨g5, d5, rfl, -, hgl5, -, -, -⟩ := hE.stampE hKl (ck + 1)
        obtain ⟨A5, c5, rfl, -⟩ := hO.new
        have hbE := below_step hbC hc4
        have k4 := k3.below hc4 k3.lt
        have j4 := j3.below hc4 j3.lt
        have hw3 : w.heap.size + 2 ≤ w3.heap.size := by have := j3.lt; omega
        have hw4 : w.heap.size + 2 ≤ w4.heap.size := Nat.le_trans hw3 hc4.size
        simp only at hO hE ⊢
        clear x0 x1 x2 x3
        obtain ⟨x0, x1, x2, x3⟩ := blk4 k4
        obtain ⟨y0, y1, y2, y3⟩ := blk4z k4
        have kg := k4.put4s (.slice A5 l.length c5) (.slice (some ⟨g5, 0, none⟩) es.length d5) (.int .i64 rm) (.int .i64 ck)
        have jg := j4.far4s hne (.slice A5 l.length c5) (.slice (some ⟨g5, 0, none⟩) es.length d5) (.int .i64 rm) (.int .i64 ck)
        have hb6 := below4s hbE (q := w.heap.size) (Nat.le_refl _) (.slice A5 l.length c5) (.slice (some ⟨g5, 0, none⟩) es.length d5) (.int .i64 rm) (.int .i64 ck)
        have hE6 := hE.set4s (q := w.heap.size) (by omega) (.slice A5 l.length c5) (.slice (some ⟨g5, 0, none⟩) es.length d5) (.int .i64 rm) (.int .i64 ck)
        have hk46 := keep4 (w := w4) (q := w.heap.size) (.slice A5 l.length c5) (.slice (some ⟨g5, 0, none⟩) es.length d5) (.int .i64 rm) (.int .i64 ck)
        have hz46 : w4.heap.size ≤ ((((w4.setCell ⟨w.heap.size, 0, none⟩ (.slice A5 l.length c5)).setCell ⟨w.heap.size, 1, none⟩ (.slice (some ⟨g5, 0, none⟩) es.length d5)).setCell ⟨w.heap.size, 2, none⟩ (.int .i64 rm)).setCell ⟨w.heap.size, 3, none⟩ (.int .i64 ck)).heap.size := by simp
        clear k3 j3 hbC HC HN hO hE hc4 hg5 j4 k4 hbE
        go_upto_region 11 with fail
        generalize hw6 : (((w4.setCell ⟨w.heap.size, 0, none⟩ (.slice A5 l.length c5)).setCell ⟨w.heap.size, 1, none⟩ (.slice (some ⟨g5, 0, none⟩) es.length d5)).setCell ⟨w.heap.size, 2, none⟩ (.int .i64 rm)).setCell ⟨w.heap.size, 3, none⟩ (.int .i64 ck) = w6 at *
        clear hw6 x0 x1 x2 x3 y0 y1 y2 y3
        obtain ⟨x0, x1, x2, x3⟩ := blk4 kg
        obtain ⟨y0, y1, y2, y3⟩ := blk4z kg
        have kg7 : Blk _ _ _ [.slice A5 l.length c5, .slice (some ⟨g5, 0, none⟩) es.length d5, .int .i64 rm, .int .i64 (ck + 1)] := kg.put 3 (.int .i64 (ck + 1))
        have jg7 := jg.far (p := ⟨w.heap.size, 3, none⟩) hne (.int .i64 (ck + 1))
        have hb7 := hb6.setCell (p := ⟨w.heap.size, 3, none⟩) (Nat.le_refl _) (.int .i64 (ck + 1))
        have hE7 := hE6.set1 (g := w.heap.size) (i := 3) (by omega) (.int .i64 (ck + 1))
        have hk47 : ∀ k, k ≠ w.heap.size → (w6.setCell ⟨w.heap.size, 3, none⟩ (.int .i64 (ck + 1))).heap[k]? = w4.heap[k]? := fun k hk => by rw [Below.heap_setCell _ ⟨w.heap.size, 3, none⟩ _ _ hk]; exact hk46 k hk
        have hz47 : w4.heap.size ≤ (w6.setCell ⟨w.heap.size, 3, none⟩ (.int .i64 (ck + 1))).heap.size := by simpa using hz46
        clear kg jg hb6 hE6 hk46 hz46
        go_upto_region 12 with fail
        generalize hw7 : w6.setCell ⟨w.heap.size, 3, none⟩ (.int .i64 (ck + 1)) = w7 at *
        clear hw7 x0 x1 x2 x3 y0 y1 y2 y3
        obtain ⟨g', c', q, hgB, hg6, hcl, hfr, hE8⟩ := hE7.stampE hKl (ck + 1)
        injection q with q1 _ q2
        injection q1 with q1
        injection q1 with q1
        subst q1; subst q2
        have hne1 : w.heap.size ≠ g5 := by omega
        have hne2 : w.heap.size + 1 ≠ g5 := by omega
        obtain ⟨x0, x1, x2, x3⟩ := blk4 kg7
        have kg8 := kg7.far (p := ⟨g5, K * 4 + 3, none⟩) hne1 (.int .i64 (ck + 1))
        have jg8 := jg7.far (p := ⟨g5, K * 4 + 3, none⟩) hne2 (.int .i64 (ck + 1))
        have hb8 := hb7.setCell (p := ⟨g5, K * 4 + 3, none⟩) (by show w.heap.size ≤ g5; omega) (.int .i64 (ck + 1))
        have hk8 : ∀ k, w3.heap.size + 2 ≤ k → k < M → (w7.setCell ⟨g5, K * 4 + 3, none⟩ (.int .i64 (ck + 1))).heap[k]? = w4.heap[k]? := fun k k1 k2 => by
          rw [Below.heap_setCell _ ⟨g5, K * 4 + 3, none⟩ _ _ (by show k ≠ g5; omega)]
          exact hk47 k (by omega)
        have hz8 : w4.heap.size ≤ (w7.setCell ⟨g5, K * 4 + 3, none⟩ (.int .i64 (ck + 1))).heap.size := by simpa using hz47
        have hN8 := hE8.rdOf
        have hKx : K < (xStamp es K (ck + 1)).length := by unfold xStamp; rw [List.length_modify]; exact hKl
        have hpx : (xStamp es K (ck + 1))[K].ps = es[K].ps := by simp [xStamp]
        obtain ⟨bx, ox, D, dn, dc, qx, -, ic1, -, -, hrD, hDn⟩ := hN8.plE.entry hKx
        rw [hpx] at hrD
        injection qx with qx
        injection qx with q1 q2
        subst q1; subst q2
        rw [Nat.zero_add] at ic1
        have hdn : dn ≤ 8 := by have := hrD.plen; omega
        clear kg7 jg7 hb7 hE7 hk47 hz47 hN8 hpx hKx h8
        go_upto_region 13 with fail
        generalize hw8 : w7.setCell ⟨g5, K * 4 + 3, none⟩ (.int .i64 (ck + 1)) = w8 at *
        clear hw8 x0 x1 x2 x3 hcl hfr
        have hM1 : w.heap.size ≤ w3.heap.size + 2 := by omega
        have hM2 : w.heap.size + 1 < M := by omega
        have hM3 : w.heap.size ≤ M := by omega
        obtain ⟨x0, x1, x2, x3⟩ := blk4 kg8.drew
        have ic1d := (show w8.drew.cell? _ = _ from ic1)
        have HCL := Lib.hid (pclone_any D dn dc es[K].ps w8.drew hrD.drew hDn (by omega))
        clear ic1 hrD hDn
        go_region_held_law (fun W => W.cell? ⟨w.heap.size, 0, none⟩ = some (.slice A5 l.length c5) ∧ W.cell? ⟨w.heap.size, 1, none⟩ = some (.slice (some ⟨g5, 0, none⟩) es.length d5) ∧ W.cell? ⟨w.heap.size, 2, none⟩ = some (.int .i64 rm) ∧ W.cell? ⟨w.heap.size, 3, none⟩ = some (.int .i64 (ck + 1)) ∧ W.cell? ⟨g5, K * 4 + 1, none⟩ = some (.slice D dn dc))
          (first | with_reducible exact sg5 kg8.drew ic1d | with_reducible exact sg5 kg9 ic9 | go_keep)
          (first | (go_at_call 37; with_reducible refine HCL.out.mono ?_; rintro e w9 ⟨v9, rfl, hown9, hc9⟩; obtain ⟨A9, c9, rfl, hrd9, hA9, hF9⟩ := own_rdK hown9; have kg9 := kg8.drew.below hc9 kg8.drew.lt; have jg9 := jg8.drew.below hc9 jg8.drew.lt; have ic9 := (hc9.cell (cell_lt ic1d)).trans ic1d; obtain ⟨z0, z1, z2, z3⟩ := blk4 jg9; obtain ⟨y0, y1, y2, y3⟩ := blk4z jg9))
        all_goals
          have hbz := below_step hb8.drew hc9
          have hz9 := hc9.size
          have hz9' : w8.heap.size ≤ w9.heap.size := hz9
          have HJ := jg9.put4s (.slice A5 l.length c5) (.slice (some ⟨g5, 0, none⟩) es.length d5) (.int .i64 rm) (.int .i64 (ck + 1))
          have HBL := below4s hbz (q := w.heap.size + 1) (by omega) (.slice A5 l.length c5) (.slice (some ⟨g5, 0, none⟩) es.length d5) (.int .i64 rm) (.int .i64 (ck + 1))
          have HE := ((hE8.below (Below.refl w8.heap.size w8).drew).below hc9).set4s (q := w.heap.size + 1) hM2 (.slice A5 l.length c5) (.slice (some ⟨g5, 0, none⟩) es.length d5) (.int .i64 rm) (.int .i64 (ck + 1))
          have HO := hup ((((w9.setCell ⟨w.heap.size + 1, 0, none⟩ (.slice A5 l.length c5)).setCell ⟨w.heap.size + 1, 1, none⟩ (.slice (some ⟨g5, 0, none⟩) es.length d5)).setCell ⟨w.heap.size + 1, 2, none⟩ (.int .i64 rm)).setCell ⟨w.heap.size + 1, 3, none⟩ (.int .i64 (ck + 1))) (by simp; omega) (fun k k1 k2 => by
            rw [keep4 _ _ _ _ k (by omega)]
            have h1 : w9.heap[k]? = w8.heap[k]? := hc9.block k (show k < w8.heap.size by omega)
            rw [h1]
            exact hk8 k k1 k2)
          have hq9 : ∀ a : Addr, A9 = some a → a.block ≠ w.heap.size + 1 := fun a e => by have h1 : w8.heap.size ≤ a.block := (hF9 a e).1; omega
          go_wp2
          refine bodyPost_ret (results_cell_row3 rfl _ _ (w.heap.size + 1) 28 _ (0, 0) _ rfl HJ Tryz.underlying28 rfl store_size) rfl ?_
          rw [HF.out]
          exact givesSGF_mk rfl HO HE (rd_far4 hrd9 hq9 _ _ _ _) hA9 (fun a e => ⟨by have h1 : w8.heap.size ≤ a.block := (hF9 a e).1; omega, by have h1 := (hF9 a e).2; simpa using h1⟩) ((own_unf hown9).keep fun a e _ => keep4 _ _ _ _ _ (hq9 a e)) hM1 hM3 HBL
    · have hfe : xFErr es dg = 5 := if_neg hb
      have hfa : xFAt es dg = 0 := if_neg hb
      rw [hfe, hfa] at HAT
      have HF : Hid (X = (5, sNil, [])) := by show _ = _; rw [← HX2.out, dif_neg hb]
      clear HX2 hb hle hfe hfa
      go_wp2_with fail
      with_reducible refine HAT.out.mono ?_
      rintro e w3 ⟨rfl, hc3⟩
      have j3 := k2.below hc3 k2.lt
      have hbC := below_step hbB hc3
      obtain ⟨z0, z1, z2, z3⟩ := blk4 j3
      obtain ⟨y0, y1, y2, y3⟩ := blk4z j3
      have HK := Lib.hid (j3.put4s (.slice none 0 0) (.slice none 0 0) (.int .i64 0) (.int .i64 0))
      have HBL := Lib.hid (below4s hbC (q := w.heap.size + 1) (by omega) (.slice none 0 0) (.slice none 0 0) (.int .i64 0) (.int .i64 0))
      go_wp2
      refine bodyPost_ret (results_cell_row3 rfl _ _ (w.heap.size + 1) 28 _ (0, 0) _ rfl HK.out Tryz.underlying28 rfl store_size) rfl ?_
      rw [HF.out]
      exact givesSGF_no rfl HBL.out
  · have d1 : (S != 0) = true := by rw [bne_iff_ne]; exact p1
    have HF : Hid (X = (S, sNil, [])) := by show _ = _; rw [← HXX.out, if_pos p1]
    obtain ⟨z0, z1, z2, z3⟩ := blk4 k2
    obtain ⟨y0, y1, y2, y3⟩ := blk4z k2
    have HK := Lib.hid (k2.put4s (.slice none 0 0) (.slice none 0 0) (.int .i64 0) (.int .i64 0))
    have HBL := Lib.hid (below4s hbB (q := w.heap.size + 1) (by omega) (.slice none 0 0) (.slice none 0 0) (.int .i64 0) (.int .i64 0))
    go_wp2
    refine bodyPost_ret (results_cell_row3 rfl _ _ (w.heap.size + 1) 28 _ (0, 0) _ rfl HK.out Tryz.underlying28 rfl store_size) rfl ?_
    rw [HF.out]
    exact givesSGF_no rfl HBL.out
theorem lGet_any {A B : Option Addr} {n c m k : Nat} {s : Sto} {dg : List UInt8} {w : World} (h : StA w A B n c m k s) (hd : dg.length ≤ maxLen) :
    Calls Tryz.prog 11 #[.agg #[.slice A n c, .slice B m k, .int .i64 s.rm, .int .i64 s.ck], .string (str dg)] w (GivesSG (sGet s dg) w) :=
  (lGetF h hd).mono fun _ _ ⟨A, c, B, d, P, n, f, h1, h2, h3, h4, h5, _, _, h7⟩ => ⟨A, c, B, d, P, n, f, h1, h2, h3, h4, h5, h7⟩
end Go.Proofs.YtdohiioiollfhaaGreatDoor

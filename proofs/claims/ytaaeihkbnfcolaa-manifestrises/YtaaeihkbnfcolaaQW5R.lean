/- The law ManifestRises: the walk. -/
import Derived.Test.YtaaeihkbnfcolaaQW5L
import Derived.Test.YtaaeihkbnfcolaaGG
import Derived.Deep.RegionHeld3
namespace Go.Proofs.Ytaaeihkbnfcolaa
open Go.RowKit
theorem pcs_set : ∀ (l : List Prt) (a : Nat) (m : List UInt8) (h : a < l.length), (pcs l).set (a * 3) (.string (str m)) = pcs (l.set a ⟨m, l[a].dg, l[a].sz⟩)
  | [], _, _, h => absurd h (by simp)
  | p :: l, 0, m, _ => rfl
  | p :: l, a + 1, m, h => by
    have := pcs_set l a m (by simpa using h)
    rw [pcs_cons, show (a + 1) * 3 = a * 3 + 1 + 1 + 1 from by omega, List.set_cons_succ, List.set_cons_succ, List.set_cons_succ, this, List.set_cons_succ, pcs_cons]
    rfl
theorem own_rd4 {w : World} {base : Nat} {e : TypeId} {v : Value} {n : Nat} {xs : List Value} (h : w.ownsRow base e 4 v n xs) : ∃ A c, v = .slice A n c ∧ Rd w 4 A n c xs ∧ (A = none → c = 0) := by
  rcases h.2 with ⟨q1, q2⟩ | ⟨g, cap, cur, q1, _, _, q3, q4, _⟩
  · subst q2
    have : xs = [] := List.eq_nil_of_length_eq_zero (by simpa using h.1)
    subst this
    exact ⟨none, 0, q1, Rd.nil _ _, fun _ => rfl⟩
  · subst q1
    exact ⟨_, _, rfl, Rd.of_own h q4 q3, fun q => by cases q⟩
theorem step_append2 {ops : Array Oper} {o : Oper} {a : Act} {K : Act → World → Prop} {Q : Exit → Act → World → Prop} {E : Prop} {P : Program} (hgd : o.guard = none) (s x : Operand) (t : TypeId)
    (ho : o.op = .call { callee := .builtin .append, args := #[s, x], argTypes := #[t, t] })
    {base : Nat} {e : TypeId} {i : TypeInfo} {z : Value} {size bytes : Nat} (ht : P.underlying t = some (.slice e)) (hi : P.info? e = some i) (hz : i.zero = some z)
    (hsize : i.size = size) (hby : i.bytes = bytes) (hzs : z.cells.size = size) (hsz : 0 < size)
    (v : Value) (n : Nat) (xs : List Value) (hs : a.eval s = v) {w0 : World} (hown : w0.ownsRow base e size v n xs) (b : Addr) (m c : Nat) (ys : List Value) (hl : ys.length = m * size) (hc : ∀ j u, ys[j]? = some u → w0.cell? (b.add j) = some u) (hy : ∀ y ∈ ys, y.oneCell' = true)
    (hx : a.eval x = .slice (some b) m c) (hb : (n + m) * bytes ≤ 140737488355328) (hnm : n + m ≤ maxLen) (hbase : base ≤ w0.heap.size)
    (h : ∀ v' w', w'.ownsRow base e size v' (n + m) (xs ++ ys) ∧ Below base w0 w' → K (a.put o.dst v') w') :
    if Region.wanted o (yielded ops a.tmps) = true then o.wp P a w0 K Q else E := by
  have hw : Region.wanted o (yielded ops a.tmps) = true := by simp [Region.wanted, hgd]
  rw [if_pos hw]
  obtain ⟨v', w', hrun, h2, h3, _, _⟩ := run_append_own_at (P := P) w0 base t o.type e i z size bytes ht hi hz hsize hby hzs hsz v n xs hown b m c ys hl hc hy hnm hb hbase
  unfold Oper.wp execOp
  simp only [ho, resolve, invoke, builtin, Sem.run_bind, Sem.run_pure, Result.andThen_ok, List.map_toArray, List.map_cons, List.map_nil, hs, hx, hrun]
  exact h v' w' ⟨h2, (Below.refl base w0).grown h3 hbase (fun k hk => (hown.lt k hk).1)⟩
set_option maxRecDepth 100000 in
set_option maxHeartbeats 4000000 in
theorem manifestRises_walk (A : Option Addr) (n c : Nat) (l : List Rw) (i j : Int) (hi : (Lit.int .i64 i).wf = true) (hj : (Lit.int .i64 j).wf = true) (w : World) (hr : Rd w 4 A n c (rcs l)) (hg : ∀ p ∈ l, p.good) (hA : A = none → c = 0) (hz : n * 40 ≤ 140737488351232) :
    Calls Try.prog 9 #[.slice A n c, .int .i64 i, .int .i64 j] w fun e w' => e = .returned (.bool true) ∧ Below w.heap.size w w' := by
  obtain ⟨i1, i2⟩ := i64_range hi
  obtain ⟨j1, j2⟩ := i64_range hj
  obtain ⟨k0, hk0, hk00, hk1, hk2⟩ := info_parts raw_info
  obtain ⟨i0, hi0, hz0, hz1, hz2⟩ := info_parts part_info
  obtain ⟨l2, hl2⟩ : ∃ l2, l ++ [⟨0, 0, 0, []⟩, ⟨0, 0, 0, []⟩] = l2 := ⟨_, rfl⟩
  have hg2 : ∀ p ∈ l2, p.good := fun p hp => by
    rw [← hl2] at hp
    rcases List.mem_append.1 hp with hp | hp
    · exact hg p hp
    · simp only [List.mem_cons, List.not_mem_nil, or_false] at hp
      rcases hp with rfl | rfl <;> exact ⟨by decide, by decide, by decide, by simp⟩
  have hnl := hr.rlen
  obtain ⟨ps, hps⟩ : ∃ ps, listedP l2 = ps := ⟨_, rfl⟩
  have h0 := listedP_ok l2
  have hgood := listedP_good l2
  have hlen := listedP_length l2
  have hren := listedP_renamed l2
  have htwo := listedP_twice l2
  have hl2l : l2.length = n + 2 := by rw [← hl2, List.length_append, hnl]; rfl
  rw [hps] at h0 hgood hlen
  simp only [hps] at hren htwo
  obtain ⟨N, hN⟩ : ∃ N, ps.length = N := ⟨_, rfl⟩
  have hN2 : 2 ≤ N := by omega
  have hN8 : N ≤ 8 := by omega
  obtain ⟨a, ha, ha2⟩ := pk_nat i (N : Int) (by omega)
  obtain ⟨b, hb, hb2⟩ := pk_nat j (N : Int) (by omega)
  have hal : a < ps.length := by omega
  have hbl : b < ps.length := by omega
  have hai : (a : Int) < (N : Int) := by omega
  have hbi : (b : Int) < (N : Int) := by omega
  have HA := Lib.hid ha
  have HB := Lib.hid hb
  have H0 := Lib.hid h0
  have HG2 := Lib.hid hg2
  have HGP := Lib.hid hgood
  have HPS := Lib.hid hps
  have HL2 := Lib.hid hl2
  have HN := Lib.hid hN
  have HREN := Lib.hid hren
  have HTWO := Lib.hid htwo
  have Hnl := Lib.hid hnl
  clear ha hb h0 hg2 hgood hN hren htwo hlen hl2l hg hi hj hnl
  go_enter Try.func9, Try.ntmps9
  go_wp2_with fail
  with_reducible refine (cloneRaws_any _ _ _ _ _ hr hA (by omega)).mono ?_
  rintro e w1 ⟨v1, rfl, hown1, hb1⟩
  have hb1s := hb1.size
  go_wp2_with (at_builtin; refine wpList_append2 rfl (.tmp 14) (.tmp 17) _ rfl Try.underlying36 hk0 hk00 hk1 hk2 rfl (by omega) _ _ _ rfl (own_alloc hown1 (.cells (rcs [⟨0, 0, 0, []⟩, ⟨0, 0, 0, []⟩]).toArray 48)) ⟨w1.heap.size, 0, none⟩ 2 2 (rcs [⟨0, 0, 0, []⟩, ⟨0, 0, 0, []⟩]) rfl (cells_new _ _ _) (rcs_one _) rfl (by omega) (by unfold maxLen; omega) (by simp; omega) ?_; rintro v4 w4 ⟨hown4, hb4⟩)
  rw [← rcs_append, HL2.out] at hown4
  obtain ⟨A4, c4, rfl, hr4, hA4⟩ := own_rd4 hown4
  have hb14 := (hb1.alloc hb1.size (.cells (rcs [⟨0, 0, 0, []⟩, ⟨0, 0, 0, []⟩]).toArray 48)).trans hb4
  clear hown4 hb4 hr hown1
  go_wp2_with fail
  with_reducible refine (listed_any _ _ _ _ _ hr4 HG2.out (by omega)).mono ?_
  rw [HPS.out, HN.out]
  rintro e w5 ⟨v5, rfl, hown5, hb5⟩
  obtain ⟨g5, c5, rfl, hg5, hglt5⟩ := hown5.form (by omega)
  obtain ⟨A5, c5', q5, hr5, hA5⟩ := own_rd3 hown5
  injection q5 with q5 q6 q7
  subst q5; subst q7
  have hc5 := hr5.2.1
  have hb15 := below_step hb14 hb5
  clear hr4 hA4 hb14 hb5 hown5
  go_wp2_with fail
  with_reducible refine (mcheck_any _ _ _ _ _ hr5 HGP.out).mono ?_
  rw [H0.out]
  rintro e w6 ⟨rfl, hb6⟩
  have hr6 := hr5.below hb6
  have hb16 := below_step hb15 hb6
  clear hr5 hb15 hb6
  go_wp2_with fail
  with_reducible refine (picked_nat i (N : Int) a _ i1 i2 (by omega) (by omega) HA.out).mono ?_
  rintro e w' ⟨rfl, rfl⟩
  go_wp2_with fail
  with_reducible refine (picked_nat j (N : Int) b _ j1 j2 (by omega) (by omega) HB.out).mono ?_
  rintro e w' ⟨rfl, rfl⟩
  go_wp2_with fail
  with_reducible refine (cloneParts_any _ _ _ _ _ hr6 hA5 (by omega)).mono ?_
  rintro e w7 ⟨v7, rfl, hown7, hb7⟩
  obtain ⟨g7, c7, rfl, hg7, hglt7⟩ := hown7.form (by omega)
  have hc7 : w7.cell? ⟨g7, a * 3, none⟩ = some (.string (str ps[a].nm)) := by
    rw [hown7.cellAt _ (by omega), (pcs_at ps a hal).1]
  have hf7 := hown7.frozenAt (a * 3)
  have hx7 : w7.cell? ⟨g5, b * 3, none⟩ = some (.string (str ps[b].nm)) := by
    obtain ⟨b', off', q, h1, _⟩ := (hr6.below hb7).part hbl
    injection q with q; injection q with q1 q2
    subst q1; subst q2
    rw [Nat.zero_add] at h1; exact h1
  have hb17 := below_step hb16 hb7
  have hb78 := hb7.setCell (p := ⟨g7, a * 3, none⟩) hg7 (.string (str ps[b].nm))
  have hr8 := hr6.below hb78
  have hb18 := below_step hb16 hb78
  have hown8 := (hown7.stored (a * 3) (.string (str ps[b].nm))).1
  rw [pcs_set ps a _ hal] at hown8
  have HTW := Lib.hid (HTWO.out (by omega))
  by_cases hab : a = b
  · subst hab
    clear hown8 hown7 hr6 hb7 hb16 hb17
    go_wp2_with fail
    generalize w7.setCell ⟨g7, a * 3, none⟩ (.string (str ps[a].nm)) = W at *
    have hp0 : 0 < ps.length := by omega
    have hbD := (Below.refl W.heap.size W).drew
    have hrT := (hr8.below hbD).take3 1 (by omega)
    obtain ⟨nm, hnm⟩ : ∃ x, ps[0].nm = x := ⟨_, rfl⟩
    obtain ⟨dg, hdg⟩ : ∃ x, ps[0].dg = x := ⟨_, rfl⟩
    obtain ⟨sz, hsz⟩ : ∃ x, ps[0].sz = x := ⟨_, rfl⟩
    have hlt5 : g5 < W.heap.size := by
      obtain ⟨b', off', q, h1, _⟩ := hr8.part hp0
      injection q with q; injection q with q1 q2
      subst q1
      exact cell_lt h1
    have HS : Hid (∀ X : World, Below W.heap.size W X → X.cell? ⟨g5, 0, none⟩ = some (.string (str nm)) ∧ X.cell? ⟨g5, 1, none⟩ = some (.string (str dg)) ∧ X.cell? ⟨g5, 2, none⟩ = some (.int .i64 sz)) := fun X hX => by
      obtain ⟨b', off', q, h1, h2, h3⟩ := (hr8.below hX).part hp0
      injection q with q; injection q with q1 q2
      subst q1; subst q2
      rw [hnm] at h1; rw [hdg] at h2; rw [hsz] at h3
      simp only [Nat.zero_mul, Nat.zero_add, Nat.add_zero] at h1 h2 h3
      exact ⟨h1, h2, h3⟩
    have hS0 := HS.out _ (Below.refl _ _)
    have hS1 := hS0.1
    have hS2 := hS0.2.1
    have hS3 := hS0.2.2
    have hbA := ((Below.refl W.heap.size W).alloc (Nat.le_refl _) (.cells #[.string (str nm), .string (str dg), .int .i64 sz] 39)).drew
    have hrA := (hr8.below hbA).take3 1 (by omega)
    have hcA : Hid (∀ X : World, Below ((W.alloc (.cells #[.string (str nm), .string (str dg), .int .i64 sz] 39)).drew).heap.size ((W.alloc (.cells #[.string (str nm), .string (str dg), .int .i64 sz] 39)).drew) X → ∀ j u, (pcs [⟨nm, dg, sz⟩])[j]? = some u → X.cell? ((⟨W.heap.size, 0, none⟩ : Addr).add j) = some u) := fun X hX j u hj => by
      have h1 := cells_new W (pcs [⟨nm, dg, sz⟩]) 39 j u hj
      exact (hX.cell (cell_lt h1)).trans h1
    have HG9 : Hid (∀ p ∈ ps.take 1 ++ [⟨nm, dg, sz⟩], p.good) := fun p hp => by
      rcases List.mem_append.1 hp with hp | hp
      · exact HGP.out p (List.mem_of_mem_take hp)
      · rw [List.mem_singleton.1 hp, ← hnm, ← hdg, ← hsz]
        exact HGP.out _ (List.getElem_mem hp0)
    have HT9 : Hid (psErr (ps.take 1 ++ [⟨nm, dg, sz⟩]) = 6) := by
      show _ = _
      rw [← hnm, ← hdg, ← hsz]; exact HTW.out
    have hi1 : (1 : Int) ≤ (c5 : Int) := by omega
    have hi2 : (0 : Int) < (N : Int) := by omega
    have hi3 : 0 < N := by omega
    go_region_held3 (fun X => X.cell? ⟨g5, 0, none⟩ = some (.string (str nm)) ∧ X.cell? ⟨g5, 1, none⟩ = some (.string (str dg)) ∧ X.cell? ⟨g5, 2, none⟩ = some (.int .i64 sz)) (first | exact hS0 | exact HS.out _ hbD | exact kE | exact kP | exact kC | exact HS.out _ hbA | go_keep)
      (first
        | (go_at_call 28; (with_reducible refine (cloneParts_any _ _ _ _ _ hrT (fun q => by cases q) (by omega)).mono ?_; rintro e wC ⟨vC, rfl, hownC, hbC⟩; have hbC1 := below_step hbD hbC; have kC := HS.out _ hbC1; have hbC2 := (hbC1.alloc hbC1.size (.cells (pcs [⟨nm, dg, sz⟩]).toArray 39))))
        | (go_at_call 28; with_reducible refine (cloneParts_any _ _ _ _ _ hrA (fun q => by cases q) (by omega)).mono ?_; rintro e wC ⟨vC, rfl, hownC, hbC⟩; have hbC2 := below_step hbA hbC; have kC := HS.out _ hbC2)
        | (refine step_append2 (by rfl) (.tmp 53) (.tmp 57) _ (by rfl) Try.underlying22 hi0 hz0 hz1 hz2 rfl (by omega) vC _ _ (by rfl) (own_alloc hownC (.cells (pcs [⟨nm, dg, sz⟩]).toArray 39)) ⟨wC.heap.size, 0, none⟩ 1 1 (pcs [⟨nm, dg, sz⟩]) rfl (cells_new _ _ _) (pcs_one _) (by first | rfl | simp [Act.eval]) (by omega) (by unfold maxLen; omega) hbC2.size ?_; rintro vP wP ⟨hownP, hbP⟩; have hbP2 := hbC2.trans hbP; have kP := HS.out _ hbP2)
        | (refine step_append2 (by rfl) (.tmp 53) (.tmp 57) _ (by rfl) Try.underlying22 hi0 hz0 hz1 hz2 rfl (by omega) vC _ _ (by rfl) hownC ⟨W.heap.size, 0, none⟩ 1 1 (pcs [⟨nm, dg, sz⟩]) rfl (hcA.out _ hbC) (pcs_one _) (by first | rfl | simp [Act.eval]) (by omega) (by unfold maxLen; omega) hbC.size ?_; rintro vP wP ⟨hownP, hbP⟩; have hbP2 := hbC2.trans (hbP.mono hbA.size); have kP := HS.out _ hbP2)
        | (go_at_call 15; obtain ⟨AP, cP, rfl, hrP, _⟩ := own_rd3 hownP; rw [← pcs_append] at hrP; have hEN := mencode_any _ _ _ _ _ hrP HG9.out; rw [HT9.out] at hEN; refine hEN.mono ?_; rintro e wE ⟨AE, nE, cE, rfl, hrE, hbE⟩; have hbE2 := below_step hbP2 hbE; have kE := HS.out _ hbE2))
    all_goals
      go_wp2
      go_ret
      exact ⟨rfl, below_step hb18 hbE2⟩
  · have hab' : ¬ (a : Int) = (b : Int) := by omega
    have HR6 := Lib.hid (HREN.out a b hal hbl hab)
    have HGS : Hid (∀ p ∈ ps.set a ⟨ps[b].nm, ps[a].dg, ps[a].sz⟩, p.good) := fun p hp => by
      rcases List.mem_or_eq_of_mem_set hp with h | rfl
      · exact HGP.out p h
      · have h1 := HGP.out _ (List.getElem_mem hal)
        have h2 := HGP.out _ (List.getElem_mem hbl)
        exact ⟨h2.1, h1.2.1, h1.2.2⟩
    go_wp2_with fail
    obtain ⟨A8, c8, q8, hy8, hA8⟩ := own_rd3 hown8
    injection q8 with q8 q9 q10
    subst q8; subst q10
    with_reducible refine (mcheck_any _ _ _ _ _ hy8 HGS.out).mono ?_
    rw [HR6.out]
    rintro e w9 ⟨rfl, hb9⟩
    have hr9 := hr8.below hb9
    have hb19 := below_step hb18 hb9
    clear hown8 hown7 hr6 hb7 hb16 hb17 hr8 hb18 hb78 hy8 hb9
    go_wp2_with fail
    have hp0 : 0 < ps.length := by omega
    have hbD := (Below.refl w9.heap.size w9).drew
    have hrT := (hr9.below hbD).take3 1 (by omega)
    obtain ⟨nm, hnm⟩ : ∃ x, ps[0].nm = x := ⟨_, rfl⟩
    obtain ⟨dg, hdg⟩ : ∃ x, ps[0].dg = x := ⟨_, rfl⟩
    obtain ⟨sz, hsz⟩ : ∃ x, ps[0].sz = x := ⟨_, rfl⟩
    have hlt5 : g5 < w9.heap.size := by
      obtain ⟨b', off', q, h1, _⟩ := hr9.part hp0
      injection q with q; injection q with q1 q2
      subst q1
      exact cell_lt h1
    have HS : Hid (∀ X : World, Below w9.heap.size w9 X → X.cell? ⟨g5, 0, none⟩ = some (.string (str nm)) ∧ X.cell? ⟨g5, 1, none⟩ = some (.string (str dg)) ∧ X.cell? ⟨g5, 2, none⟩ = some (.int .i64 sz)) := fun X hX => by
      obtain ⟨b', off', q, h1, h2, h3⟩ := (hr9.below hX).part hp0
      injection q with q; injection q with q1 q2
      subst q1; subst q2
      rw [hnm] at h1; rw [hdg] at h2; rw [hsz] at h3
      simp only [Nat.zero_mul, Nat.zero_add, Nat.add_zero] at h1 h2 h3
      exact ⟨h1, h2, h3⟩
    have hS0 := HS.out _ (Below.refl _ _)
    have hS1 := hS0.1
    have hS2 := hS0.2.1
    have hS3 := hS0.2.2
    have hbA := ((Below.refl w9.heap.size w9).alloc (Nat.le_refl _) (.cells #[.string (str nm), .string (str dg), .int .i64 sz] 39)).drew
    have hrA := (hr9.below hbA).take3 1 (by omega)
    have hcA : Hid (∀ X : World, Below ((w9.alloc (.cells #[.string (str nm), .string (str dg), .int .i64 sz] 39)).drew).heap.size ((w9.alloc (.cells #[.string (str nm), .string (str dg), .int .i64 sz] 39)).drew) X → ∀ j u, (pcs [⟨nm, dg, sz⟩])[j]? = some u → X.cell? ((⟨w9.heap.size, 0, none⟩ : Addr).add j) = some u) := fun X hX j u hj => by
      have h1 := cells_new w9 (pcs [⟨nm, dg, sz⟩]) 39 j u hj
      exact (hX.cell (cell_lt h1)).trans h1
    have HG9 : Hid (∀ p ∈ ps.take 1 ++ [⟨nm, dg, sz⟩], p.good) := fun p hp => by
      rcases List.mem_append.1 hp with hp | hp
      · exact HGP.out p (List.mem_of_mem_take hp)
      · rw [List.mem_singleton.1 hp, ← hnm, ← hdg, ← hsz]
        exact HGP.out _ (List.getElem_mem hp0)
    have HT9 : Hid (psErr (ps.take 1 ++ [⟨nm, dg, sz⟩]) = 6) := by
      show _ = _
      rw [← hnm, ← hdg, ← hsz]; exact HTW.out
    have hi1 : (1 : Int) ≤ (c5 : Int) := by omega
    have hi2 : (0 : Int) < (N : Int) := by omega
    have hi3 : 0 < N := by omega
    go_region_held3 (fun X => X.cell? ⟨g5, 0, none⟩ = some (.string (str nm)) ∧ X.cell? ⟨g5, 1, none⟩ = some (.string (str dg)) ∧ X.cell? ⟨g5, 2, none⟩ = some (.int .i64 sz)) (first | exact hS0 | exact HS.out _ hbD | exact kE | exact kP | exact kC | exact HS.out _ hbA | go_keep)
      (first
        | (go_at_call 28; (with_reducible refine (cloneParts_any _ _ _ _ _ hrT (fun q => by cases q) (by omega)).mono ?_; rintro e wC ⟨vC, rfl, hownC, hbC⟩; have hbC1 := below_step hbD hbC; have kC := HS.out _ hbC1; have hbC2 := (hbC1.alloc hbC1.size (.cells (pcs [⟨nm, dg, sz⟩]).toArray 39))))
        | (go_at_call 28; with_reducible refine (cloneParts_any _ _ _ _ _ hrA (fun q => by cases q) (by omega)).mono ?_; rintro e wC ⟨vC, rfl, hownC, hbC⟩; have hbC2 := below_step hbA hbC; have kC := HS.out _ hbC2)
        | (refine step_append2 (by rfl) (.tmp 53) (.tmp 57) _ (by rfl) Try.underlying22 hi0 hz0 hz1 hz2 rfl (by omega) vC _ _ (by rfl) (own_alloc hownC (.cells (pcs [⟨nm, dg, sz⟩]).toArray 39)) ⟨wC.heap.size, 0, none⟩ 1 1 (pcs [⟨nm, dg, sz⟩]) rfl (cells_new _ _ _) (pcs_one _) (by first | rfl | simp [Act.eval]) (by omega) (by unfold maxLen; omega) hbC2.size ?_; rintro vP wP ⟨hownP, hbP⟩; have hbP2 := hbC2.trans hbP; have kP := HS.out _ hbP2)
        | (refine step_append2 (by rfl) (.tmp 53) (.tmp 57) _ (by rfl) Try.underlying22 hi0 hz0 hz1 hz2 rfl (by omega) vC _ _ (by rfl) hownC ⟨w9.heap.size, 0, none⟩ 1 1 (pcs [⟨nm, dg, sz⟩]) rfl (hcA.out _ hbC) (pcs_one _) (by first | rfl | simp [Act.eval]) (by omega) (by unfold maxLen; omega) hbC.size ?_; rintro vP wP ⟨hownP, hbP⟩; have hbP2 := hbC2.trans (hbP.mono hbA.size); have kP := HS.out _ hbP2)
        | (go_at_call 15; obtain ⟨AP, cP, rfl, hrP, _⟩ := own_rd3 hownP; rw [← pcs_append] at hrP; have hEN := mencode_any _ _ _ _ _ hrP HG9.out; rw [HT9.out] at hEN; refine hEN.mono ?_; rintro e wE ⟨AE, nE, cE, rfl, hrE, hbE⟩; have hbE2 := below_step hbP2 hbE; have kE := HS.out _ hbE2))
    all_goals
      go_wp2
      go_ret
      exact ⟨rfl, below_step hb19 hbE2⟩
end Go.Proofs.Ytaaeihkbnfcolaa

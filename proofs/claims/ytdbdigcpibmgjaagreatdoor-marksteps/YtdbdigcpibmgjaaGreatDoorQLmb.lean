/- The landed mark: Begin. -/
import Derived.Test.YtdbdigcpibmgjaaGreatDoorQMow
import Derived.Test.YtdbdigcpibmgjaaGreatDoorGSC
import Derived.Test.YtdbdigcpibmgjaaGreatDoorGSC
import Derived.Test.YtdbdigcpibmgjaaGreatDoorGRD
import Derived.Deep.RegionHeldLaw
namespace Go.Proofs.YtdbdigcpibmgjaaGreatDoor
open Go.RowKit
/-- a new collector's cells -/
def colZ : List Value := [.int .i64 0, .slice none 0 0, .string ⟨#[]⟩]
theorem cell_dgs {l : List Bl} (h : ∀ p ∈ l, p.good) : ∀ b ∈ l, b.dg.length ≤ maxLen := fun b hb => (h b hb).1
theorem cell_pgs {es : List En} (h : ∀ p ∈ es, p.good) : ∀ e ∈ es, ∀ p ∈ e.ps, p.dg.length ≤ maxLen := fun e he p hp => ((h e he).2.1 p hp).2.1
set_option maxRecDepth 100000 in
set_option maxHeartbeats 4000000 in
theorem lMBegin_any {A B : Option Addr} {n c m k : Nat} {s : Sto} {w : World} (h : StA w A B n c m k s) :
    Calls Tryz.prog 7 #[.agg #[.slice A n c, .slice B m k, .int .i64 s.rm, .int .i64 s.ck]] w (GivesSC (sBegun s) w) := by
  obtain ⟨l, es, rm, ck⟩ := s
  obtain rfl : n = l.length := h.hr.len
  obtain rfl : m = es.length := h.he.len
  have hal := (((Below.refl w.heap.size w).alloc (Nat.le_refl _) (.cells #[.slice A l.length c, .slice B es.length k, .int .i64 rm, .int .i64 ck] 25)).alloc (by simp) (.cells #[.slice none 0 0, .slice none 0 0, .int .i64 0, .int .i64 0] 25)).alloc (by simp; omega) (.cells #[.int .i64 0, .slice none 0 0, .string ⟨#[]⟩] 28)
  have hb1 := ((Blk.new w 25 [.slice A l.length c, .slice B es.length k, .int .i64 rm, .int .i64 ck]).alloc (.cells #[.slice none 0 0, .slice none 0 0, .int .i64 0, .int .i64 0] 25)).alloc (.cells #[.int .i64 0, .slice none 0 0, .string ⟨#[]⟩] 28)
  have hb2 := (Blk.new (w.alloc (.cells #[.slice A l.length c, .slice B es.length k, .int .i64 rm, .int .i64 ck] 25)) 25 [.slice none 0 0, .slice none 0 0, .int .i64 0, .int .i64 0]).alloc (.cells #[.int .i64 0, .slice none 0 0, .string ⟨#[]⟩] 28)
  have hb3 := Blk.new ((w.alloc (.cells #[.slice A l.length c, .slice B es.length k, .int .i64 rm, .int .i64 ck] 25)).alloc (.cells #[.slice none 0 0, .slice none 0 0, .int .i64 0, .int .i64 0] 25)) 28 [.int .i64 0, .slice none 0 0, .string ⟨#[]⟩]
  have hsz : (w.alloc (.cells #[.slice A l.length c, .slice B es.length k, .int .i64 rm, .int .i64 ck] 25)).heap.size = w.heap.size + 1 := by simp
  have hsz2 : ((w.alloc (.cells #[.slice A l.length c, .slice B es.length k, .int .i64 rm, .int .i64 ck] 25)).alloc (.cells #[.slice none 0 0, .slice none 0 0, .int .i64 0, .int .i64 0] 25)).heap.size = w.heap.size + 1 + 1 := by simp
  rw [hsz] at hb2
  rw [hsz2] at hb3
  clear hsz hsz2
  have HC := Lib.hid (lCheck_any (h.below hal))
  obtain ⟨a0, a1, a2, a3⟩ := blk4 hb1
  by_cases q : sErr ⟨l, es, rm, ck⟩ = 0
  · have hok := sErr_zero.1 q
    rw [q] at HC
    have HCP := Lib.hid (fun (W : World) (hb : Below w.heap.size w W) => lCopyO (h.below hb))
    have HX := Lib.hid (begun_ok q)
    have hl24 : l.length ≤ 24 := (bsErr_zero.1 hok.be).1
    have hrt := roots_few ((map_ok (mks_mk false) ⟨l, es, rm, ck⟩).2 hok)
    have hgm : ∀ b ∈ l.map (mkB false), b.dg.length ≤ maxLen := fun b hb => by
      obtain ⟨a, ha, rfl⟩ := List.mem_map.1 hb
      exact (h.hgl a ha).1
    have HRR : Hid (∀ (P Q : Option Addr) (p f g e : Nat) (W : World), KRd kBl W P p f (l.map (mkB false)) → KRd kEn W Q g e es → Calls Tryz.prog 26 #[.agg #[.slice P p f, .slice Q g e, .int .i64 rm, .int .i64 ck]] W (GivesTx (ris (roots l es)) W)) := fun P Q p f g e W h1 h2 => by
      have := rroots_any P Q p f g e (l.map (mkB false)) es rm ck W h1 h2 hgm (cell_pgs h.hge) (by simp only at hrt; omega)
      rwa [un_roots] at this
    obtain ⟨R, hR⟩ : ∃ R, ris (roots l es) = R := ⟨_, rfl⟩
    simp only at HX
    rw [hR] at HX HRR
    generalize sBegun ⟨l, es, rm, ck⟩ = X at *
    clear h hok q hR hrt hgm
    go_enter Tryz.func7, Tryz.ntmps7
    go_wp2_with fail
    with_reducible refine HC.out.mono ?_
    rintro e w1 ⟨rfl, hc1⟩
    have k1 := hb1.below hc1 hb1.lt
    have k2 := hb2.below hc1 hb2.lt
    have k3 := hb3.below hc1 hb3.lt
    have hbA := below_step hal hc1
    clear HC hb1 hb2 hb3 hal hc1 a0 a1 a2 a3
    obtain ⟨a0, a1, a2, a3⟩ := blk4 k1
    go_wp2_with fail
    with_reducible refine (HCP.out _ hbA).mono ?_
    rintro e w2 ⟨v5, u5, M, rfl, hO, hE, hM, hg5, -, hc2⟩
    obtain ⟨A5, c5, rfl, hN5⟩ := hO.new
    obtain ⟨B5, d5, rfl, -⟩ := hE.new
    simp only at hO hE hN5 ⊢
    obtain ⟨_, -, -, -, hgA, -⟩ := hN5
    have p1 := k1.below hc2 k1.lt
    have p2 := k2.below hc2 k2.lt
    have p3 := k3.below hc2 k3.lt
    have hbB := below_step hbA hc2
    have hk3 := k3.lt
    have hw2 : w.heap.size + 2 + 1 ≤ w2.heap.size := by have := p3.lt; omega
    obtain ⟨z0, z1, z2, z3⟩ := blk4 p1
    obtain ⟨y0, y1, y2, y3⟩ := blk4z p1
    have v6 := p1.put4s (.slice A5 l.length c5) (.slice B5 es.length d5) (.int .i64 rm) (.int .i64 ck)
    have r6 := p2.far4s (q := w.heap.size) (by omega) (.slice A5 l.length c5) (.slice B5 es.length d5) (.int .i64 rm) (.int .i64 ck)
    have t6 := p3.far4s (q := w.heap.size) (by omega) (.slice A5 l.length c5) (.slice B5 es.length d5) (.int .i64 rm) (.int .i64 ck)
    have hb6 := below4s hbB (q := w.heap.size) (Nat.le_refl _) (.slice A5 l.length c5) (.slice B5 es.length d5) (.int .i64 rm) (.int .i64 ck)
    have hO6 := hO.set4s (q := w.heap.size) (by omega) (.slice A5 l.length c5) (.slice B5 es.length d5) (.int .i64 rm) (.int .i64 ck)
    have hE6 := hE.set4s (q := w.heap.size) (by omega) (.slice A5 l.length c5) (.slice B5 es.length d5) (.int .i64 rm) (.int .i64 ck)
    have hb5 : w.heap.size + 2 < w1.heap.size + 2 := by omega
    have hM5 : w.heap.size + 2 < M := by omega
    generalize w1.heap.size + 2 = base at *
    clear HCP k1 k2 k3 hbA hc2 hO hE p1 p2 p3 hbB a0 a1 a2 a3
    go_upto_region 5 with fail
    generalize hw6 : (((w2.setCell ⟨w.heap.size, 0, none⟩ (.slice A5 l.length c5)).setCell ⟨w.heap.size, 1, none⟩ (.slice B5 es.length d5)).setCell ⟨w.heap.size, 2, none⟩ (.int .i64 rm)).setCell ⟨w.heap.size, 3, none⟩ (.int .i64 ck) = w6 at *
    clear hw6 z0 z1 z2 z3 y0 y1 y2 y3
    obtain ⟨a0, a1, a2, a3⟩ := blk4 v6
    go_wp2_with fail
    clear a0 a1 a2 a3
    go_loopw [19] (fun s wr => ∃ i : Nat, i ≤ l.length ∧ s = .int .i64 i ∧ Blk wr w.heap.size 25 [.slice A5 l.length c5, .slice B5 es.length d5, .int .i64 rm, .int .i64 ck] ∧ Blk wr (w.heap.size + 1) 25 [.slice none 0 0, .slice none 0 0, .int .i64 0, .int .i64 0] ∧ Blk wr (w.heap.size + 1 + 1) 28 [.int .i64 0, .slice none 0 0, .string ⟨#[]⟩] ∧
      KOwn kBl wr base 45 (.slice A5 l.length c5) (mUn l i) ∧ KOwn kEn wr M 74 (.slice B5 es.length d5) es ∧ Below w.heap.size w wr) (fun s _ => l.length - (intOf s).toNat)
    case atStart => exact ⟨0, Nat.zero_le _, rfl, v6, r6, t6, by rw [mUn_zero]; exact hO6, hE6, hb6⟩
    case round =>
      clear v6 r6 t6 hO6 hE6 hb6
      obtain ⟨i, hi, rfl, hv, hr2, ht, hO, hE, hbel⟩ := hrel
      obtain ⟨a0, a1, a2, a3⟩ := blk4 hv
      by_cases hlt : i < l.length
      · have hol := mUn_len l i
        have hil : i < (mUn l i).length := by omega
        obtain ⟨g, c', qw, hgB, hgl, hcl, hfr, hO7⟩ := hO.markB hil false
        injection qw with q1 q3 q2
        subst q1; subst q2
        clear q3
        rw [mUn_step hlt] at hO7
        have hii : (i : Int) < (l.length : Int) := by omega
        have hgM := hg5 g rfl
        have hv7 := hv.far (p := ⟨g, i * 4 + 3, none⟩) (by show w.heap.size ≠ g; omega) (.bool false)
        have hr7 := hr2.far (p := ⟨g, i * 4 + 3, none⟩) (by show w.heap.size + 1 ≠ g; omega) (.bool false)
        have ht7 := ht.far (p := ⟨g, i * 4 + 3, none⟩) (by show w.heap.size + 1 + 1 ≠ g; omega) (.bool false)
        have hE7 := hE.set1 (g := g) (i := i * 4 + 3) hgM (.bool false)
        have hb7 := hbel.setCell (p := ⟨g, i * 4 + 3, none⟩) (by show w.heap.size ≤ g; omega) (.bool false)
        clear hv hr2 ht hO hE hbel hol
        go_wp2
        go_roundw
        case rel => exact ⟨i + 1, by omega, by go_num, hv7, hr7, ht7, hO7, hE7, hb7⟩
        case measure => simp [intOf] <;> omega
      · have hd2 : decide ((i : Int) < (l.length : Int)) = false := by rw [decide_eq_false_iff_not]; omega
        obtain rfl : i = l.length := by omega
        rw [mUn_end] at hO
        obtain ⟨_, _, qz, hNB⟩ := hO.new
        obtain ⟨_, _, qy, hNE⟩ := hE.new
        injection qz with q1 q2 q3
        subst q1; subst q3
        injection qy with q4 q5 q6
        subst q4; subst q6
        have hrB := hNB.rd
        have hrE := hNE.rd
        rw [List.length_map] at hrB
        clear q2 q5 hNB hNE
        have hdr := (Below.refl wr.heap.size wr).drew
        have H1 := Lib.hid (HRR.out _ _ _ _ _ _ wr.drew (hrB.below hdr) (hrE.below hdr))
        have hvD := hv.drew
        have hwz : w.heap.size + 2 < wr.heap.size := by have := ht.lt; omega
        clear HRR hrB hrE a0 a1 a2 a3
        go_upto_region 10 with fail
        go_region_held_law (fun W => W.cell? ⟨w.heap.size, 0, none⟩ = some (.slice A5 l.length c5) ∧ W.cell? ⟨w.heap.size, 1, none⟩ = some (.slice B5 es.length d5) ∧ W.cell? ⟨w.heap.size, 2, none⟩ = some (.int .i64 rm) ∧ W.cell? ⟨w.heap.size, 3, none⟩ = some (.int .i64 ck))
          (first | with_reducible exact blk4 hvD | with_reducible exact blk4 hv8 | with_reducible exact blk4 hv9 | with_reducible exact blk4 hv10 | go_keep)
          ((go_at_call 26; (with_reducible refine H1.out.mono ?_); rintro e w8 ⟨v8, rfl, hown8, hb8⟩; obtain ⟨P8, p8, rfl, hr8, hP8, hF8⟩ := own_rdK hown8; have hv8 := hvD.below hb8 hvD.lt; have hr8' := hr2.drew.below hb8 hr2.lt; have ht8 := ht.drew.below hb8 ht.lt; have hv9 := hv8.far4s (q := w.heap.size + 1) (by omega) (.slice A5 l.length c5) (.slice B5 es.length d5) (.int .i64 rm) (.int .i64 ck); have hv10 := hv9.far3s (q := w.heap.size + 1 + 1) (by omega) (.int .i64 1) (.slice P8 R.length p8) (.string ⟨#[]⟩); obtain ⟨z0, z1, z2, z3⟩ := blk4 hr8'; obtain ⟨y0, y1, y2, y3⟩ := blk4z hr8'; obtain ⟨x0, x1, x2⟩ := blk3 ht8; obtain ⟨x3, x4, x5⟩ := blk3z ht8; have HB := Lib.hid (two_cells hr8' ht8 (.slice A5 l.length c5) (.slice B5 es.length d5) (.int .i64 rm) (.int .i64 ck) (.int .i64 1) (.slice P8 R.length p8) (.string ⟨#[]⟩)); have HBL := Lib.hid (below7 (below_step hbel.drew hb8) (q := w.heap.size + 1) (by omega) (.slice A5 l.length c5) (.slice B5 es.length d5) (.int .i64 rm) (.int .i64 ck) (.int .i64 1) (.slice P8 R.length p8) (.string ⟨#[]⟩)); have HO := Lib.hid (((hO.below hdr).below hb8).set7 (q := w.heap.size + 1) (by omega) (.slice A5 l.length c5) (.slice B5 es.length d5) (.int .i64 rm) (.int .i64 ck) (.int .i64 1) (.slice P8 R.length p8) (.string ⟨#[]⟩)); have HE := Lib.hid (((hE.below hdr).below hb8).set7 (q := w.heap.size + 1) (by omega) (.slice A5 l.length c5) (.slice B5 es.length d5) (.int .i64 rm) (.int .i64 ck) (.int .i64 1) (.slice P8 R.length p8) (.string ⟨#[]⟩)); have HR3 := Lib.hid (rd_set7 hr8 (q := w.heap.size + 1) (fun a e => by have h1 := (hF8 a e).1; have h2 : wr.heap.size ≤ a.block := h1; omega) (.slice A5 l.length c5) (.slice B5 es.length d5) (.int .i64 rm) (.int .i64 ck) (.int .i64 1) (.slice P8 R.length p8) (.string ⟨#[]⟩)); clear hr8))
        all_goals
          go_wp2
          refine bodyPost_ret (results_cells_row3 rfl _ _ (w.heap.size + 1) (w.heap.size + 1 + 1) 25 28 _ _ (0, 0) (0, 0) _ _ rfl HB.out.1 rfl HB.out.2 Tryz.underlying25 rfl store_size Tryz.underlying28 rfl col_size) rfl ?_
          rw [HX.out]
          exact givesSC_mk (at_ := []) rfl (by have e := HO.out; first | exact e | (rw [List.length_map]; exact e)) HE.out HR3.out hP8 (fun a e => by have h1 : wr.heap.size ≤ a.block := (hF8 a e).1; omega) (by omega) (by omega) HBL.out
  · have HX := Lib.hid (begun_no q)
    generalize sBegun ⟨l, es, rm, ck⟩ = X at *
    generalize sErr ⟨l, es, rm, ck⟩ = E at *
    have d1 : (E != 0) = true := by rw [bne_iff_ne]; exact q
    clear h q
    go_enter Tryz.func7, Tryz.ntmps7
    go_wp2_with fail
    with_reducible refine HC.out.mono ?_
    rintro e w2 ⟨rfl, hc2⟩
    have k2 := hb2.below hc2 hb2.lt
    have k3 := hb3.below hc2 hb3.lt
    have hbB := below_step hal hc2
    clear HC hb1 hb2 hb3 hal hc2 a0 a1 a2 a3
    obtain ⟨z0, z1, z2, z3⟩ := blk4 k2
    obtain ⟨y0, y1, y2, y3⟩ := blk4z k2
    obtain ⟨x0, x1, x2⟩ := blk3 k3
    obtain ⟨x3, x4, x5⟩ := blk3z k3
    have HB := Lib.hid (two_cells k2 k3 (.slice none 0 0) (.slice none 0 0) (.int .i64 0) (.int .i64 0) (.int .i64 0) (.slice none 0 0) (.string ⟨#[]⟩))
    have HBL := Lib.hid (below3s (below4s hbB (q := w.heap.size + 1) (by omega) (.slice none 0 0) (.slice none 0 0) (.int .i64 0) (.int .i64 0)) (q := w.heap.size + 1 + 1) (by omega) (.int .i64 0) (.slice none 0 0) (.string ⟨#[]⟩))
    go_wp2
    refine bodyPost_ret (results_cells_row3 rfl _ _ (w.heap.size + 1) (w.heap.size + 1 + 1) 25 28 _ _ (0, 0) (0, 0) _ _ rfl HB.out.1 rfl HB.out.2 Tryz.underlying25 rfl store_size Tryz.underlying28 rfl col_size) rfl ?_
    rw [HX.out]
    exact givesSC_no rfl HBL.out
end Go.Proofs.YtdbdigcpibmgjaaGreatDoor

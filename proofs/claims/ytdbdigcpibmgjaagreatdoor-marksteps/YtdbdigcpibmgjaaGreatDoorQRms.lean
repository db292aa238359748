/- The reference's MarkStepped. -/
import Derived.Test.YtdbdigcpibmgjaaGreatDoorQRad
import Derived.Test.YtdbdigcpibmgjaaGreatDoorQMow
import Derived.Test.YtdbdigcpibmgjaaGreatDoorQZf
import Derived.Test.YtdbdigcpibmgjaaGreatDoorQZc
import Derived.Test.YtdbdigcpibmgjaaGreatDoorGR
import Derived.Test.YtdbdigcpibmgjaaGreatDoorGRB
import Derived.Test.YtdbdigcpibmgjaaGreatDoorGRC
import Derived.Test.YtdbdigcpibmgjaaGreatDoorGSB
import Derived.Deep.RegionHeldLaw
import Derived.BigRegion
import Derived.Deep.CutBlock
import Derived.Deep.CutRange
namespace Go.Proofs.YtdbdigcpibmgjaaGreatDoor
open Go.RowKit
theorem set_agree {w w2 : World} {a : Addr} {k : Nat} {u : Value} (hk : w2.heap[k]? = w.heap[k]?) : (w2.setCell a u).heap[k]? = (w.setCell a u).heap[k]? := by
  simp only [World.setCell, Array.getElem?_modify, hk]
/-- a row of blobs, one of them marked later: it stands wherever what was there at its making stands -/
theorem KOwn.markUp {w : World} {base : Nat} {e : TypeId} {v : Value} {l : List Bl} (h : KOwn kBl w base e v l) {i g : Nat} {c : Nat} (hi : i < l.length) (hv : v = .slice (some ⟨g, 0, none⟩) l.length c) {w8 w12 : World} (hz : w.heap.size ≤ w12.heap.size) (h8 : ∀ k, k < w.heap.size → w8.heap[k]? = w.heap[k]?)
    (h12 : ∀ k, k < w.heap.size → w12.heap[k]? = (w8.setCell ⟨g, i * 4 + 3, none⟩ (.bool true)).heap[k]?) : KOwn kBl w12 base e v (l.modify i (mkB true)) := by
  obtain ⟨g', c', q, -, -, -, -, hO⟩ := h.markB hi true
  rw [hv] at q
  injection q with q1 q2 q3
  injection q1 with q1
  injection q1 with q1 q4
  subst q1
  refine hO.upto.2 w12 (by simpa using hz) fun k _ hk => ?_
  have hk' : k < w.heap.size := by simpa using hk
  rw [h12 k hk']
  exact set_agree (h8 k hk')
set_option maxRecDepth 100000 in
set_option maxHeartbeats 8000000 in
theorem rStepped_any {A B : Option Addr} {n c m k : Nat} {s : Sto} {cl : Col} {P : Option Addr} {pn pf : Nat} {w : World} (h : StA w A B n c m k s) (hq : Rd w 1 P pn pf (cl.gr.map sv)) (hP : P = none → pf = 0) (hz : pn * 16 ≤ 140737488351232) :
    Calls Tryz.prog 15 #[.agg #[.slice A n c, .slice B m k, .int .i64 s.rm, .int .i64 s.ck], .agg #[.int .i64 cl.ph, .slice P pn pf, .string (str cl.at_)]] w (GivesSC (cStep s cl) w) := by
  obtain ⟨l, es, rm, ck⟩ := s
  obtain ⟨ph, gr, att⟩ := cl
  obtain rfl : n = l.length := h.hr.len
  obtain rfl : m = es.length := h.he.len
  simp only at hq ⊢
  have hal := ((((Below.refl w.heap.size w).alloc (Nat.le_refl _) (.cells #[.slice A l.length c, .slice B es.length k, .int .i64 rm, .int .i64 ck] 25)).alloc (by simp) (.cells #[.int .i64 ph, .slice P pn pf, .string (str att)] 28)).alloc (by simp; omega) (.cells #[.slice none 0 0, .slice none 0 0, .int .i64 0, .int .i64 0] 25)).alloc (by simp; omega) (.cells #[.int .i64 0, .slice none 0 0, .string ⟨#[]⟩] 28)
  have hb0 := (((Blk.new w 25 [.slice A l.length c, .slice B es.length k, .int .i64 rm, .int .i64 ck]).alloc (.cells #[.int .i64 ph, .slice P pn pf, .string (str att)] 28)).alloc (.cells #[.slice none 0 0, .slice none 0 0, .int .i64 0, .int .i64 0] 25)).alloc (.cells #[.int .i64 0, .slice none 0 0, .string ⟨#[]⟩] 28)
  have hb1 := ((Blk.new (w.alloc (.cells #[.slice A l.length c, .slice B es.length k, .int .i64 rm, .int .i64 ck] 25)) 28 [.int .i64 ph, .slice P pn pf, .string (str att)]).alloc (.cells #[.slice none 0 0, .slice none 0 0, .int .i64 0, .int .i64 0] 25)).alloc (.cells #[.int .i64 0, .slice none 0 0, .string ⟨#[]⟩] 28)
  have hb2 := (Blk.new ((w.alloc (.cells #[.slice A l.length c, .slice B es.length k, .int .i64 rm, .int .i64 ck] 25)).alloc (.cells #[.int .i64 ph, .slice P pn pf, .string (str att)] 28)) 25 [.slice none 0 0, .slice none 0 0, .int .i64 0, .int .i64 0]).alloc (.cells #[.int .i64 0, .slice none 0 0, .string ⟨#[]⟩] 28)
  have hb3 := Blk.new (((w.alloc (.cells #[.slice A l.length c, .slice B es.length k, .int .i64 rm, .int .i64 ck] 25)).alloc (.cells #[.int .i64 ph, .slice P pn pf, .string (str att)] 28)).alloc (.cells #[.slice none 0 0, .slice none 0 0, .int .i64 0, .int .i64 0] 25)) 28 [.int .i64 0, .slice none 0 0, .string ⟨#[]⟩]
  have e1 : (w.alloc (.cells #[.slice A l.length c, .slice B es.length k, .int .i64 rm, .int .i64 ck] 25)).heap.size = w.heap.size + 1 := by simp
  have e2 : ((w.alloc (.cells #[.slice A l.length c, .slice B es.length k, .int .i64 rm, .int .i64 ck] 25)).alloc (.cells #[.int .i64 ph, .slice P pn pf, .string (str att)] 28)).heap.size = w.heap.size + 1 + 1 := by simp
  have e3 : (((w.alloc (.cells #[.slice A l.length c, .slice B es.length k, .int .i64 rm, .int .i64 ck] 25)).alloc (.cells #[.int .i64 ph, .slice P pn pf, .string (str att)] 28)).alloc (.cells #[.slice none 0 0, .slice none 0 0, .int .i64 0, .int .i64 0] 25)).heap.size = w.heap.size + 1 + 1 + 1 := by simp
  rw [e1] at hb1
  rw [e2] at hb2
  rw [e3] at hb3
  clear e1 e2 e3
  have HC := Lib.hid (storeFault_any A B l.length c es.length k l es rm ck _ (h.below hal).hr (h.below hal).he h.hgl h.hge)
  have HQ := Lib.hid hq
  obtain ⟨a0, a1, a2, a3⟩ := blk4 hb0
  by_cases q : sErr ⟨l, es, rm, ck⟩ = 0
  · have hok := sErr_zero.1 q
    rw [q] at HC
    have HCP := Lib.hid (fun (W : World) (hb : Below w.heap.size w W) => storeCopy_own A B l.length c es.length k l es rm ck W (h.below hb).hr (h.below hb).he h.hgl h.hge h.hz h.hz2)
    have hl24 : l.length ≤ 24 := (bsErr_zero.1 hok.be).1
    have HRO := Lib.hid h.hr
    by_cases p1 : ph = 1
    · subst p1
      obtain ⟨i0, hi0, hz0, hz1, hz2⟩ := info_parts str_info
      have HX1 : Hid (gr = [] → cStep ⟨l, es, rm, ck⟩ ⟨1, gr, att⟩ = (0, ⟨l, es, rm, ck⟩, ⟨2, [], []⟩)) := fun e => step_end q rfl e
      have HX2 : Hid (gr ≠ [] → cStep ⟨l, es, rm, ck⟩ ⟨1, gr, att⟩ = (0, ⟨(mSt l gr).1, es, rm, ck⟩, ⟨1, (mSt l gr).2, []⟩)) := fun e => step_go q rfl e
      generalize cStep ⟨l, es, rm, ck⟩ ⟨1, gr, att⟩ = X at *
      clear h hok q hq
      go_enter Tryz.func15, Tryz.ntmps15
      go_wp2_with fail
      with_reducible refine HC.out.mono ?_
      rintro e w1 ⟨rfl, hc1⟩
      have k0 := hb0.below hc1 hb0.lt
      have k1 := hb1.below hc1 hb1.lt
      have k2 := hb2.below hc1 hb2.lt
      have k3 := hb3.below hc1 hb3.lt
      have hbA := below_step hal hc1
      clear HC hb0 hb1 hb2 hb3 hal hc1 a0 a1 a2 a3
      obtain ⟨a0, a1, a2, a3⟩ := blk4 k0
      obtain ⟨c0, c1, c2⟩ := blk3 k1
      go_wp2_with fail
      with_reducible refine (HCP.out _ hbA).mono ?_
      rintro e w2 ⟨v5, u5, M, rfl, hO, hE, hM, hg5, -, hc2⟩
      obtain ⟨A5, c5, rfl, hN5⟩ := hO.new
      obtain ⟨B5, d5, rfl, -⟩ := hE.new
      simp only at hO hE hN5 ⊢
      obtain ⟨_, -, -, -, hgA, -⟩ := hN5
      have p0 := k0.below hc2 k0.lt
      have p1 := k1.below hc2 k1.lt
      have p2 := k2.below hc2 k2.lt
      have p3 := k3.below hc2 k3.lt
      have hbB := below_step hbA hc2
      have hk3 := k3.lt
      have hw2 : w.heap.size + 3 < w2.heap.size := by have := p3.lt; omega
      have v6 := Blk.new w2 25 [.slice A5 l.length c5, .slice B5 es.length d5, .int .i64 rm, .int .i64 ck]
      have u6 := p0.alloc (.cells #[.slice A5 l.length c5, .slice B5 es.length d5, .int .i64 rm, .int .i64 ck] 25)
      have s6 := p1.alloc (.cells #[.slice A5 l.length c5, .slice B5 es.length d5, .int .i64 rm, .int .i64 ck] 25)
      have r6 := p2.alloc (.cells #[.slice A5 l.length c5, .slice B5 es.length d5, .int .i64 rm, .int .i64 ck] 25)
      have t6 := p3.alloc (.cells #[.slice A5 l.length c5, .slice B5 es.length d5, .int .i64 rm, .int .i64 ck] 25)
      have hl6 := (Below.refl w2.heap.size w2).alloc (Nat.le_refl _) (.cells #[.slice A5 l.length c5, .slice B5 es.length d5, .int .i64 rm, .int .i64 ck] 25)
      have hb6 := below_step hbB hl6
      have HUP := Lib.hid (fun (i g c : Nat) (hi : i < l.length) (hv : Value.slice A5 l.length c5 = .slice (some ⟨g, 0, none⟩) l.length c) (w8 w12 : World) => hO.markUp (w8 := w8) (w12 := w12) hi hv)
      have HG6 := Lib.hid hl6
      have hO6 := hO.below hl6
      have hE6 := hE.below hl6
      have hq6 := HQ.out.below hb6
      have hb5 : w.heap.size + 3 < w1.heap.size + 2 := by omega
      have hM5 : w.heap.size + 3 < M := by omega
      generalize w1.heap.size + 2 = base at *
      obtain ⟨gv, hgv⟩ : ∃ gv, w2.heap.size = gv := ⟨_, rfl⟩
      clear HCP k0 k1 k2 k3 hbA hc2 hO hE p0 p1 p2 p3 hbB a0 a1 a2 a3 c0 c1 c2 HQ hl6
      go_upto_region 7 with fail
      generalize hw6 : w2.alloc (.cells [Value.slice A5 l.length c5, .slice B5 es.length d5, .int .i64 rm, .int .i64 ck].toArray 25) = w6 at *
      clear hw6
      have HEU := Lib.hid hE6.upto.2
      rw [hgv] at v6 hgA hw2
      try rw [hgv]
      obtain ⟨a0, a1, a2, a3⟩ := blk4 v6
      obtain ⟨c0, c1, c2⟩ := blk3 s6
      rcases gr with _ | ⟨d, r⟩
      · have hX := HX1.out rfl
        obtain rfl : pn = 0 := by have := hq6.tlen; simpa using this
        obtain ⟨z0, z1, z2, z3⟩ := blk4 r6
        obtain ⟨y0, y1, y2, y3⟩ := blk4z r6
        obtain ⟨x0, x1, x2⟩ := blk3 t6
        obtain ⟨x3, x4, x5⟩ := blk3z t6
        have HXX := Lib.hid hX
        have HB := Lib.hid (two_cells r6 t6 (.slice A5 l.length c5) (.slice B5 es.length d5) (.int .i64 rm) (.int .i64 ck) (.int .i64 2) (.slice none 0 0) (.string ⟨#[]⟩))
        have HBL := Lib.hid (below7 hb6 (q := w.heap.size + 1 + 1) (by omega) (.slice A5 l.length c5) (.slice B5 es.length d5) (.int .i64 rm) (.int .i64 ck) (.int .i64 2) (.slice none 0 0) (.string ⟨#[]⟩))
        have HO := Lib.hid (hO6.set7 (q := w.heap.size + 1 + 1) (by omega) (.slice A5 l.length c5) (.slice B5 es.length d5) (.int .i64 rm) (.int .i64 ck) (.int .i64 2) (.slice none 0 0) (.string ⟨#[]⟩))
        have HE := Lib.hid (hE6.set7 (q := w.heap.size + 1 + 1) (by omega) (.slice A5 l.length c5) (.slice B5 es.length d5) (.int .i64 rm) (.int .i64 ck) (.int .i64 2) (.slice none 0 0) (.string ⟨#[]⟩))
        clear hX HX1 HX2 v6 u6 s6 r6 t6 hO6 hE6 hb6 hq6 hgA HRO
        go_wp2
        refine bodyPost_ret (results_cells_row3 rfl _ _ (w.heap.size + 1 + 1) (w.heap.size + 1 + 1 + 1) 25 28 _ _ (0, 0) (0, 0) _ _ rfl HB.out.1 rfl HB.out.2 Tryz.underlying25 rfl store_size Tryz.underlying28 rfl col_size) rfl ?_
        rw [HXX.out]
        exact givesSC_mk (gr := []) (at_ := []) rfl HO.out HE.out (Rd.nil _ _) (fun _ => rfl) (fun a e => by cases e) (by omega) (by omega) HBL.out
      · have HXX := Lib.hid (HX2.out (by simp))
        clear HX1 HX2
        obtain ⟨pb, poff, rfl, -⟩ := hq6.text (k := 0) (by simp)
        have hpn : pn = r.length + 1 := by have := hq6.tlen; simpa using this
        have hpc := hq6.2.1
        have hpm := hq6.2.2.1
        unfold maxLen at hpm
        have d3 : ((pn : Int) == 0) = false := by rw [beq_eq_false_iff_ne]; omega
        have hrT := hq6.drop 1 (by omega)
        rw [← List.map_drop, List.drop_one, List.tail_cons] at hrT
        have hi1 : (1 : Int) ≤ (pf : Int) := by omega
        have hi2 : (1 : Int) ≤ (pn : Int) := by omega
        have hi3 : 1 ≤ pf := by omega
        have hi4 : 1 ≤ pn := by omega
        have hi5 : 0 < pn := by omega
        have hi6 : (0 : Int) < (pn : Int) := by omega
        have HPN := Lib.hid hpn
        have halE := (Below.refl w6.heap.size w6).alloc (Nat.le_refl _) (.cells #[] 9)
        have hsE := halE.size
        clear hpn
        go_upto_region 9 with fail
        go_cut [9] from 31 to 36 (fun s9 wx => ∃ gc P7 p7, s9 = .pointer (some ⟨gc, 0, none⟩) ∧ Blk wx gc 28 [.int .i64 1, .slice P7 r.length p7, .string ⟨#[]⟩] ∧ Rd wx 1 P7 r.length p7 (r.map sv) ∧ (P7 = none → p7 = 0) ∧ w6.heap.size ≤ gc ∧ (∀ a : Addr, P7 = some a → w6.heap.size ≤ a.block ∧ a.block ≠ gc) ∧ Below w6.heap.size w6 wx)
        case first =>
          obtain ⟨g0, g1, g2⟩ := blk3 (s6.alloc (.cells #[] 9))
          by_cases hpf : pf = 1
          · have hr0 : r = [] := List.eq_nil_of_length_eq_zero (by have := HPN.out; omega)
            subst hr0
            subst hpf
            obtain rfl : pn = 1 := HPN.out
            have hrE : Rd (w6.alloc (.cells #[] 9)) 1 (some ⟨pb, poff, none⟩) 0 0 ([] : List Value) := Rd.none0 _ _ _ (by unfold maxLen; omega)
            clear HPN hrT
            have xN := Blk.new (w6.alloc (.cells #[] 9)) 28 [.int .i64 1, .slice (some ⟨w6.heap.size, 0, none⟩) 0 0, .string ⟨#[]⟩]
            have eN : (w6.alloc (.cells #[] 9)).heap.size = w6.heap.size + 1 := by simp
            rw [eN] at xN
            have hN := halE.alloc (by omega) (.cells #[.int .i64 1, .slice (some ⟨w6.heap.size, 0, none⟩) 0 0, .string ⟨#[]⟩] 28)
            have HXN := Lib.hid xN
            clear eN xN
            go_wp2_with fail
            go_meet
            exact ⟨_, _, _, rfl, HXN.out, Rd.none0 _ _ _ (by unfold maxLen; omega), (fun q => by cases q), by omega, fun a e => by injection e with e; subst e; exact ⟨Nat.le_refl _, by show w6.heap.size ≠ w6.heap.size + 1; omega⟩, hN⟩
          · have hi7 : ¬ pf - 1 = 0 := by omega
            have hrE := hrT.below halE
            have HPR : Hid (pn - 1 = r.length) := Lib.hid (by have := HPN.out; omega)
            clear hrT
            go_wp2_with (at_builtin; (refine wpList_appendM rfl (.tmp 31) (.tmp 34) _ rfl Tryz.underlying26 hi0 hz0 hz1 hz2 rfl (by omega) _ 0 [] rfl (own_empty w6 9) hrE (fun q => by cases q) (sv_one _) rfl (by omega) (by unfold maxLen; omega) hsE ?_; rintro v7 w7 ⟨hown7, hb7, hs7, -⟩; rw [Nat.zero_add, List.nil_append, HPR.out] at hown7; obtain ⟨P7, p7, rfl⟩ := own_slice hown7))
            obtain ⟨P8, p8, q8, hr7, hP7, hF7⟩ := own_rdK hown7
            injection q8 with e1 e2 e3
            subst e1
            subst e3
            go_wp2
            go_meet
            exact ⟨_, _, _, rfl, Blk.new _ _ _, hr7.below ((Below.refl w7.heap.size w7).alloc (Nat.le_refl _) _), hP7, by omega, fun a e => ⟨(hF7 a e).1, by have := (hF7 a e).2; omega⟩, (halE.trans hb7).alloc (by omega) _⟩
        case rest =>
          obtain ⟨gc, P7, p7, rfl, m7, hr7, hP7, hgc, hF7, hb7⟩ := hcut
          rename World => w7
          have v7 := v6.below hb7 v6.lt
          have u7 := u6.below hb7 u6.lt
          have s7 := s6.below hb7 s6.lt
          have r7 := r6.below hb7 r6.lt
          have t7 := t6.below hb7 t6.lt
          have hO7 := hO6.below hb7
          have hE7 := hE6.below hb7
          have hbC := below_step hb6 hb7
          have hq7 := hq6.below hb7
          have HG7 := Lib.hid (below_step HG6.out hb7)
          have HQ7 := Lib.hid hb7
          have hw67 : w.heap.size + 3 < w6.heap.size := by have := t6.lt; omega
          have hg67 : gv < w6.heap.size := v6.lt
          have hgc7 : gc < w7.heap.size := m7.lt
          obtain ⟨pb', poff', ep, hd7⟩ := hq7.text (k := 0) (by simp)
          injection ep with ep
          injection ep with e1 e2
          subst e1
          subst e2
          simp only [List.getElem_cons_zero, Nat.add_zero] at hd7
          have hdr := (Below.refl w7.heap.size w7).drew
          have HF := Lib.hid (blobAt_any A l.length c l d w7.drew (HRO.out.below (below_step hbC hdr)))
          have f1 : w7.drew.cell? ⟨w.heap.size, 0, none⟩ = some (.slice A l.length c) := (blk4 u7.drew).1
          have f2 : w7.drew.cell? ⟨w.heap.size + 1, 1, none⟩ = some (.slice (some ⟨pb, poff, none⟩) pn pf) := (blk3 s7.drew).2.1
          have f3 : w7.drew.cell? ⟨pb, poff, none⟩ = some (.string (str d)) := hd7
          clear v6 u6 s6 r6 t6 hO6 hE6 hb6 hq6 hq7 hd7 a0 a1 a2 a3 c0 c1 c2 hrT halE hsE
          go_upto_region 10 with fail
          go_cut [10] from 37 to 43 (fun s10 wx => ∃ i : Nat, s10 = .int .i64 (i : Int) ∧ i = bAt l d ∧ Below w7.heap.size w7 wx)
          case first =>
            go_region_held_law (fun W => W.cell? ⟨w.heap.size, 0, none⟩ = some (.slice A l.length c) ∧ W.cell? ⟨w.heap.size + 1, 1, none⟩ = some (.slice (some ⟨pb, poff, none⟩) pn pf) ∧ W.cell? ⟨pb, poff, none⟩ = some (.string (str d)))
              (first | with_reducible exact ⟨f1, f2, f3⟩ | go_keep)
              ((go_at_call 40; (with_reducible refine HF.out.mono ?_); rintro e w9 ⟨rfl, rfl⟩))
            all_goals
              go_wp2
              go_meet
              exact ⟨_, rfl, rfl, hdr⟩
          case rest =>
            obtain ⟨i, rfl, hi, hb8⟩ := hcut
            rename World => w8
            have v8 := v7.below hb8 v7.lt
            have u8 := u7.below hb8 u7.lt
            have r8 := r7.below hb8 r7.lt
            have t8 := t7.below hb8 t7.lt
            have m8 := m7.below hb8 m7.lt
            have hO8 := hO7.below hb8
            have hE8 := hE7.below hb8
            have hbD := below_step hbC hb8
            have hr8 := hr7.below hb8
            have hz8 := hb8.size
            have HG8 := Lib.hid (below_step HG7.out hb8)
            have HQ8 := Lib.hid (below_step HQ7.out hb8)
            clear HF f1 f2 f3 v7 u7 s7 r7 t7 m7 hO7 hE7 hr7 hb8 hdr hbC
            by_cases hlt : bAt l d < l.length
            · have hXo : ∀ (h : i < l.length), l[i].mr = true → X = (0, ⟨l, es, rm, ck⟩, ⟨1, r, []⟩) := by subst hi; intro h hm; rw [HXX.out, mst_old h hm]
              have hXn : ∀ (h : i < l.length), l[i].mr = false → X = (0, ⟨l.modify i (mkB true), es, rm, ck⟩, ⟨1, ris (r ++ pOf l[i]), []⟩) := by subst hi; intro h hm; rw [HXX.out, mst_new h hm]
              have hil : i < l.length := by rw [hi]; exact hlt
              clear hi hlt HXX
              have hii : (i : Int) < (l.length : Int) := by omega
              have hdd : decide ((i : Int) < (l.length : Int)) = true := decide_eq_true hii
              obtain ⟨gA, offA, D, m, dd, rfl, b0, b1, b2, b3, hrD, -⟩ := (HRO.out.below hbD).blob hil
              obtain ⟨a0, a1, a2, a3⟩ := blk4 u8
              by_cases hm : l[i].mr = true
              · have hX := hXo hil hm
                rw [hm] at b3
                clear hXo hXn
                go_upto_region 14 with fail
                clear a0 a1 a2 a3 b0 b1 b2 b3 hrD
                have HXZ := Lib.hid hX
                have HB := Lib.hid (two_cells r8 t8 (.slice A5 l.length c5) (.slice B5 es.length d5) (.int .i64 rm) (.int .i64 ck) (.int .i64 1) (.slice P7 r.length p7) (.string ⟨#[]⟩))
                have HBL := Lib.hid ((below7 hbD (q := w.heap.size + 1 + 1) (by omega) (.slice A5 l.length c5) (.slice B5 es.length d5) (.int .i64 rm) (.int .i64 ck) (.int .i64 1) (.slice P7 r.length p7) (.string ⟨#[]⟩)).drew)
                have HO := Lib.hid (hO8.set7 (q := w.heap.size + 1 + 1) (by omega) (.slice A5 l.length c5) (.slice B5 es.length d5) (.int .i64 rm) (.int .i64 ck) (.int .i64 1) (.slice P7 r.length p7) (.string ⟨#[]⟩))
                have HE := Lib.hid (hE8.set7 (q := w.heap.size + 1 + 1) (by omega) (.slice A5 l.length c5) (.slice B5 es.length d5) (.int .i64 rm) (.int .i64 ck) (.int .i64 1) (.slice P7 r.length p7) (.string ⟨#[]⟩))
                have HR := Lib.hid (rd_set7 hr8 (q := w.heap.size + 1 + 1) (fun a e => by have h1 := (hF7 a e).1; omega) (.slice A5 l.length c5) (.slice B5 es.length d5) (.int .i64 rm) (.int .i64 ck) (.int .i64 1) (.slice P7 r.length p7) (.string ⟨#[]⟩))
                have gc1 := m8.far4s (q := w.heap.size + 1 + 1) (by omega) (.slice A5 l.length c5) (.slice B5 es.length d5) (.int .i64 rm) (.int .i64 ck)
                have ta := t8.far4s (q := w.heap.size + 1 + 1) (by omega) (.slice A5 l.length c5) (.slice B5 es.length d5) (.int .i64 rm) (.int .i64 ck)
                obtain ⟨u0, u1, u2, u3⟩ := blk4 v8
                obtain ⟨n0, n1, n2⟩ := blk3 m8
                obtain ⟨n3, n4, n5⟩ := blk3 gc1
                obtain ⟨z0, z1, z2, z3⟩ := blk4 r8
                obtain ⟨y0, y1, y2, y3⟩ := blk4z r8
                obtain ⟨x0, x1, x2⟩ := blk3 ta
                obtain ⟨x3, x4, x5⟩ := blk3z ta
                clear hX v8 u8 r8 t8 m8 hO8 hE8 hr8 hbD HRO gc1 ta
                go_upto_region 14 with fail
                go_region
                all_goals
                  go_wp2
                  refine bodyPost_ret (results_cells_row3 rfl _ _ (w.heap.size + 1 + 1) (w.heap.size + 1 + 1 + 1) 25 28 _ _ (0, 0) (0, 0) _ _ rfl HB.out.1.drew rfl HB.out.2.drew Tryz.underlying25 rfl store_size Tryz.underlying28 rfl col_size) rfl ?_
                  rw [HXZ.out]
                  exact givesSC_mk (at_ := []) rfl (HO.out.below (Below.refl _ _).drew) (HE.out.below (Below.refl _ _).drew) (HR.out.below (Below.refl _ _).drew) hP7 (fun a e => by have h1 := hF7 a e; omega) (by omega) (by omega) HBL.out
              · have hm' : l[i].mr = false := by simpa using hm
                have hX := hXn hil hm'
                rw [hm'] at b3
                clear hXo hXn hm
                obtain ⟨g, c', qw, hgB, hgl, hcl, hfr, hO10⟩ := hO8.markB hil true
                injection qw with q1 q2 q3
                subst q1
                subst q3
                have HUG := Lib.hid (HUP.out i g _ hil rfl)
                have hgM := hg5 g rfl
                have hgg : g < gv := (hgA _ rfl).2
                obtain ⟨L, hL⟩ : ∃ L, l.modify i (mkB true) = L := ⟨_, rfl⟩
                have hLl : L.length = l.length := by rw [← hL, List.length_modify]
                have hp8 : (pOf l[i]).length ≤ 8 := pIn_len _
                have hpo : pIn l[i].dt = pOf l[i] := rfl
                rw [hL] at hX hO10
                have HLL := Lib.hid hL
                have v10 := v8.far (p := ⟨g, i * 4 + 3, none⟩) (by show gv ≠ g; omega) (.bool true)
                have u10 := u8.far (p := ⟨g, i * 4 + 3, none⟩) (by show w.heap.size ≠ g; omega) (.bool true)
                have r10 := r8.far (p := ⟨g, i * 4 + 3, none⟩) (by show w.heap.size + 1 + 1 ≠ g; omega) (.bool true)
                have t10 := t8.far (p := ⟨g, i * 4 + 3, none⟩) (by show w.heap.size + 1 + 1 + 1 ≠ g; omega) (.bool true)
                have m10 := m8.far (p := ⟨g, i * 4 + 3, none⟩) (by show gc ≠ g; omega) (.bool true)
                have hE10 := hE8.set1 (g := g) (i := i * 4 + 3) hgM (.bool true)
                have hbE := hbD.setCell (p := ⟨g, i * 4 + 3, none⟩) (by show w.heap.size ≤ g; omega) (.bool true)
                have hr10 := hr8.keepLt (w' := w8.setCell ⟨g, i * 4 + 3, none⟩ (.bool true)) (fun a e _ => Below.heap_setCell _ ⟨g, i * 4 + 3, none⟩ _ _ (by have := (hF7 a e).1; show a.block ≠ g; omega))
                obtain ⟨e0, e1, e2, e3⟩ := blk4 v8
                have hz10 : (w8.setCell ⟨g, i * 4 + 3, none⟩ (.bool true)).heap.size = w8.heap.size := by simp
                clear hrD v8 u8 r8 t8 m8 hE8 hO8 hr8
                go_upto_region 13 with fail
                generalize hw10 : w8.setCell ⟨g, i * 4 + 3, none⟩ (.bool true) = w10 at *
                have HW10 := Lib.hid hw10
                clear hw10 hcl hfr a0 a1 a2 a3 b0 b1 b2 b3 e0 e1 e2 e3 hbD
                have hdr := (Below.refl w10.heap.size w10).drew
                obtain ⟨gA', offA', D', m', dd', q4, b0, b1, b2, b3, hrD, -⟩ := (HRO.out.below (hbE.drew)).blob hil
                injection q4 with q4
                injection q4 with q5 q6
                subst q5
                subst q6
                rw [hm'] at b3
                obtain ⟨a0, a1, a2, a3⟩ := blk4 u10.drew
                obtain ⟨c0, c1, c2⟩ := blk3 m10.drew
                obtain ⟨c3, c4, c5'⟩ := blk3z m10.drew
                have HP := Lib.hid (partsIn_any l[i] D' m' dd' w10.drew hrD)
                rw [hpo, hm'] at HP
                obtain ⟨Q, hQ⟩ : ∃ Q, pOf l[i] = Q := ⟨_, rfl⟩
                rw [hQ] at HP hX hp8
                obtain ⟨dg, hdg⟩ : ∃ x, l[i].dg = x := ⟨_, rfl⟩
                obtain ⟨pp, hpp⟩ : ∃ x, l[i].pn = x := ⟨_, rfl⟩
                rw [hdg] at b0 HP
                rw [hpp] at b2 HP
                obtain ⟨G, hG⟩ : ∃ G, ris (r ++ Q) = G := ⟨_, rfl⟩
                rw [hG] at hX
                have HG := Lib.hid hG
                have hrow := hr10.below hdr
                have hsz : (r.length + Q.length) * 16 ≤ 140737488355328 := by have := HPN.out; omega
                clear hpo hQ hdg hpp hG hrD hm' HPN HRO q2
                go_cut [72] from 63 to 72 (fun _ wx => ∃ W P p, wx = W.setCell ⟨gc, 1, none⟩ (.slice P G.length p) ∧ Below w10.heap.size w10 W ∧ Rd W 1 P G.length p (G.map sv) ∧ (P = none → p = 0) ∧ ∀ a : Addr, P = some a → w10.heap.size ≤ a.block)
                case first =>
                  go_region_law (first
                    | (go_simp; go_at_call 41; ((with_reducible refine HP.out.mono ?_); rintro e w11 ⟨v11, rfl, hown11, hb11⟩; obtain ⟨A11, c11, rfl, r11, hA11, -⟩ := own_rdK hown11; have HA := Lib.hid (rAdded_any P7 A11 r.length p7 Q.length c11 r Q w11 (hrow.below hb11) r11 hP7 hA11 hsz); rw [HG.out] at HA; have k0 := (hb11.cell (cell_lt a0)).trans a0; have k1 := (hb11.cell (cell_lt c1)).trans c1; have kb0 := (hb11.cell (cell_lt b0)).trans b0; have kb1 := (hb11.cell (cell_lt b1)).trans b1; have kb2 := (hb11.cell (cell_lt b2)).trans b2; have kb3 := (hb11.cell (cell_lt b3)).trans b3; have hb11' := below_step hdr hb11; have m11 := m10.below hb11' m10.lt))
                    | (go_simp; go_at_call 10; (with_reducible refine HA.out.mono ?_); rintro e w12 h12; obtain ⟨A12, c12, rfl, r12, hA12, hF12, hb12⟩ := h12.rd; have hb12' := hb11'.trans (hb12.mono hb11'.size); obtain ⟨n0, n1, n2⟩ := blk3 (m10.below hb12' m10.lt); obtain ⟨n3, n4, n5⟩ := blk3z (m10.below hb12' m10.lt)))
                  all_goals
                    go_wp2
                    go_meet
                    exact ⟨_, _, _, rfl, hb12', r12, hA12, fun a e => by have h1 := (hF12 a e).1; have h2 := hb11'.size; omega⟩
                case rest =>
                  rename World => w12
                  obtain ⟨W, P9, p9, hwx, hbW, hr12, hP9, hF9⟩ := hcut
                  have v12 := (v10.below hbW v10.lt).far (p := ⟨gc, 1, none⟩) (by show gv ≠ gc; omega) (.slice P9 G.length p9)
                  have r12 := (r10.below hbW r10.lt).far (p := ⟨gc, 1, none⟩) (by show w.heap.size + 1 + 1 ≠ gc; omega) (.slice P9 G.length p9)
                  have t12 := (t10.below hbW t10.lt).far (p := ⟨gc, 1, none⟩) (by show w.heap.size + 1 + 1 + 1 ≠ gc; omega) (.slice P9 G.length p9)
                  have m12 := (m10.below hbW m10.lt).put 1 (.slice P9 G.length p9)
                  have hO12 : KOwn kBl (W.setCell ⟨gc, 1, none⟩ (.slice P9 G.length p9)) base 45 (.slice (some ⟨g, 0, none⟩) l.length c5) L := by
                    rw [← HLL.out]
                    refine HUG.out w8 _ ?_ (fun k hk => HG8.out.block k hk) fun k hk => ?_
                    · have h1 := HG8.out.size
                      have h2 := hbW.size
                      have h3 := congrArg (fun W : World => W.heap.size) HW10.out
                      simp at h1 h2 h3 ⊢
                      omega
                    · have h1 := HG8.out.size
                      have h3 := congrArg (fun W : World => W.heap.size) HW10.out
                      simp at h1 h3
                      rw [Below.heap_setCell _ ⟨gc, 1, none⟩ _ _ (show k ≠ gc by omega), HW10.out]
                      exact hbW.block k (by omega)
                  have hE12 : KOwn kEn (W.setCell ⟨gc, 1, none⟩ (.slice P9 G.length p9)) M 74 (.slice B5 es.length d5) es := by
                    refine HEU.out _ ?_ fun k hM hk => ?_
                    · have h1 := HQ8.out.size
                      have h2 := hbW.size
                      have h3 := congrArg (fun W : World => W.heap.size) HW10.out
                      simp at h1 h2 h3 ⊢
                      omega
                    · have h1 := HQ8.out.size
                      have h3 := congrArg (fun W : World => W.heap.size) HW10.out
                      simp at h1 h3
                      rw [Below.heap_setCell _ ⟨gc, 1, none⟩ _ _ (show k ≠ gc by omega), hbW.block k (by omega), ← HW10.out, Below.heap_setCell _ ⟨g, i * 4 + 3, none⟩ _ _ (show k ≠ g by omega)]
                      exact HQ8.out.block k hk
                  have hbF := (below_step hbE hbW).setCell (p := ⟨gc, 1, none⟩) (by show w.heap.size ≤ gc; omega) (.slice P9 G.length p9)
                  have hr13 := hr12.keepLt (w' := W.setCell ⟨gc, 1, none⟩ (.slice P9 G.length p9)) (fun a e _ => Below.heap_setCell _ ⟨gc, 1, none⟩ _ _ (by have := hF9 a e; show a.block ≠ gc; omega))
                  rw [← hwx] at v12 r12 t12 m12 hO12 hE12 hbF hr13
                  simp only [List.set_cons_succ, List.set_cons_zero] at m12
                  have HXZ := Lib.hid hX
                  have HB := Lib.hid (two_cells r12 t12 (.slice (some ⟨g, 0, none⟩) l.length c5) (.slice B5 es.length d5) (.int .i64 rm) (.int .i64 ck) (.int .i64 1) (.slice P9 G.length p9) (.string ⟨#[]⟩))
                  have HBL := Lib.hid ((below7 hbF (q := w.heap.size + 1 + 1) (by omega) (.slice (some ⟨g, 0, none⟩) l.length c5) (.slice B5 es.length d5) (.int .i64 rm) (.int .i64 ck) (.int .i64 1) (.slice P9 G.length p9) (.string ⟨#[]⟩)).drew)
                  have HO := Lib.hid (hO12.set7 (q := w.heap.size + 1 + 1) (by omega) (.slice (some ⟨g, 0, none⟩) l.length c5) (.slice B5 es.length d5) (.int .i64 rm) (.int .i64 ck) (.int .i64 1) (.slice P9 G.length p9) (.string ⟨#[]⟩))
                  have HE := Lib.hid (hE12.set7 (q := w.heap.size + 1 + 1) (by omega) (.slice (some ⟨g, 0, none⟩) l.length c5) (.slice B5 es.length d5) (.int .i64 rm) (.int .i64 ck) (.int .i64 1) (.slice P9 G.length p9) (.string ⟨#[]⟩))
                  have HR := Lib.hid (rd_set7 hr13 (q := w.heap.size + 1 + 1) (fun a e => by have h1 := hF9 a e; omega) (.slice (some ⟨g, 0, none⟩) l.length c5) (.slice B5 es.length d5) (.int .i64 rm) (.int .i64 ck) (.int .i64 1) (.slice P9 G.length p9) (.string ⟨#[]⟩))
                  have gc1 := m12.far4s (q := w.heap.size + 1 + 1) (by omega) (.slice (some ⟨g, 0, none⟩) l.length c5) (.slice B5 es.length d5) (.int .i64 rm) (.int .i64 ck)
                  have ta := t12.far4s (q := w.heap.size + 1 + 1) (by omega) (.slice (some ⟨g, 0, none⟩) l.length c5) (.slice B5 es.length d5) (.int .i64 rm) (.int .i64 ck)
                  obtain ⟨u0, u1, u2, u3⟩ := blk4 v12
                  obtain ⟨n0, n1, n2⟩ := blk3 m12
                  obtain ⟨n3, n4, n5⟩ := blk3 gc1
                  obtain ⟨z0, z1, z2, z3⟩ := blk4 r12
                  obtain ⟨y0, y1, y2, y3⟩ := blk4z r12
                  obtain ⟨x0, x1, x2⟩ := blk3 ta
                  obtain ⟨x3, x4, x5⟩ := blk3z ta
                  clear hX hwx v12 r12 t12 m12 hO12 hE12 hr13 hbF v10 u10 r10 t10 m10 hO10 hE10 hbE hbW hr12 hrow hr10 gc1 ta
                  go_upto_region 14 with fail
                  go_region
                  all_goals
                    go_wp2
                    refine bodyPost_ret (results_cells_row3 rfl _ _ (w.heap.size + 1 + 1) (w.heap.size + 1 + 1 + 1) 25 28 _ _ (0, 0) (0, 0) _ _ rfl HB.out.1.drew rfl HB.out.2.drew Tryz.underlying25 rfl store_size Tryz.underlying28 rfl col_size) rfl ?_
                    rw [HXZ.out]
                    exact givesSC_mk (at_ := []) rfl (HO.out.below (Below.refl _ _).drew) (HE.out.below (Below.refl _ _).drew) (HR.out.below (Below.refl _ _).drew) hP9 (fun a e => by have h1 := hF9 a e; omega) (by omega) (by omega) HBL.out
            · have hXo : X = (0, ⟨l, es, rm, ck⟩, ⟨1, r, []⟩) := by rw [HXX.out, mst_none hlt]
              have hdd : decide ((i : Int) < (l.length : Int)) = false := by rw [decide_eq_false_iff_not, hi]; omega
              have hdn : decide (i < l.length) = false := by rw [decide_eq_false_iff_not, hi]; omega
              have hdl : l.length ≤ i := by rw [hi]; omega
              clear hi hlt HXX
              obtain ⟨a0, a1, a2, a3⟩ := blk4 u8
              go_upto_region 14 with fail
              clear a0 a1 a2 a3
              have HXZ := Lib.hid hXo
              have HB := Lib.hid (two_cells r8 t8 (.slice A5 l.length c5) (.slice B5 es.length d5) (.int .i64 rm) (.int .i64 ck) (.int .i64 1) (.slice P7 r.length p7) (.string ⟨#[]⟩))
              have HBL := Lib.hid ((below7 hbD (q := w.heap.size + 1 + 1) (by omega) (.slice A5 l.length c5) (.slice B5 es.length d5) (.int .i64 rm) (.int .i64 ck) (.int .i64 1) (.slice P7 r.length p7) (.string ⟨#[]⟩)).drew)
              have HO := Lib.hid (hO8.set7 (q := w.heap.size + 1 + 1) (by omega) (.slice A5 l.length c5) (.slice B5 es.length d5) (.int .i64 rm) (.int .i64 ck) (.int .i64 1) (.slice P7 r.length p7) (.string ⟨#[]⟩))
              have HE := Lib.hid (hE8.set7 (q := w.heap.size + 1 + 1) (by omega) (.slice A5 l.length c5) (.slice B5 es.length d5) (.int .i64 rm) (.int .i64 ck) (.int .i64 1) (.slice P7 r.length p7) (.string ⟨#[]⟩))
              have HR := Lib.hid (rd_set7 hr8 (q := w.heap.size + 1 + 1) (fun a e => by have h1 := (hF7 a e).1; omega) (.slice A5 l.length c5) (.slice B5 es.length d5) (.int .i64 rm) (.int .i64 ck) (.int .i64 1) (.slice P7 r.length p7) (.string ⟨#[]⟩))
              have gc1 := m8.far4s (q := w.heap.size + 1 + 1) (by omega) (.slice A5 l.length c5) (.slice B5 es.length d5) (.int .i64 rm) (.int .i64 ck)
              have ta := t8.far4s (q := w.heap.size + 1 + 1) (by omega) (.slice A5 l.length c5) (.slice B5 es.length d5) (.int .i64 rm) (.int .i64 ck)
              obtain ⟨u0, u1, u2, u3⟩ := blk4 v8
              obtain ⟨n0, n1, n2⟩ := blk3 m8
              obtain ⟨n3, n4, n5⟩ := blk3 gc1
              obtain ⟨z0, z1, z2, z3⟩ := blk4 r8
              obtain ⟨y0, y1, y2, y3⟩ := blk4z r8
              obtain ⟨x0, x1, x2⟩ := blk3 ta
              obtain ⟨x3, x4, x5⟩ := blk3z ta
              clear hXo v8 u8 r8 t8 m8 hO8 hE8 hr8 hbD HRO gc1 ta
              go_upto_region 14 with fail
              go_region
              all_goals
                go_wp2
                refine bodyPost_ret (results_cells_row3 rfl _ _ (w.heap.size + 1 + 1) (w.heap.size + 1 + 1 + 1) 25 28 _ _ (0, 0) (0, 0) _ _ rfl HB.out.1.drew rfl HB.out.2.drew Tryz.underlying25 rfl store_size Tryz.underlying28 rfl col_size) rfl ?_
                rw [HXZ.out]
                exact givesSC_mk (at_ := []) rfl (HO.out.below (Below.refl _ _).drew) (HE.out.below (Below.refl _ _).drew) (HR.out.below (Below.refl _ _).drew) hP7 (fun a e => by have h1 := hF7 a e; omega) (by omega) (by omega) HBL.out
    · have hX : cStep ⟨l, es, rm, ck⟩ ⟨ph, gr, att⟩ = (11, sNil, cNil) := step_idle q p1
      generalize cStep ⟨l, es, rm, ck⟩ ⟨ph, gr, att⟩ = X at *
      have d1 : (ph != 1) = true := by rw [bne_iff_ne]; exact p1
      have HXX := Lib.hid hX
      clear h hok q hq p1 hX HRO HCP
      go_enter Tryz.func15, Tryz.ntmps15
      go_wp2_with fail
      with_reducible refine HC.out.mono ?_
      rintro e w2 ⟨rfl, hc2⟩
      have k1 := hb1.below hc2 hb1.lt
      have k2 := hb2.below hc2 hb2.lt
      have k3 := hb3.below hc2 hb3.lt
      have hbB := below_step hal hc2
      clear HC hb0 hb1 hb2 hb3 hal hc2 a0 a1 a2 a3
      obtain ⟨c0, c1, c2⟩ := blk3 k1
      obtain ⟨z0, z1, z2, z3⟩ := blk4 k2
      obtain ⟨y0, y1, y2, y3⟩ := blk4z k2
      obtain ⟨x0, x1, x2⟩ := blk3 k3
      obtain ⟨x3, x4, x5⟩ := blk3z k3
      have HB := Lib.hid (two_cells k2 k3 (.slice none 0 0) (.slice none 0 0) (.int .i64 0) (.int .i64 0) (.int .i64 0) (.slice none 0 0) (.string ⟨#[]⟩))
      have HBL := Lib.hid (below7 hbB (q := w.heap.size + 1 + 1) (by omega) (.slice none 0 0) (.slice none 0 0) (.int .i64 0) (.int .i64 0) (.int .i64 0) (.slice none 0 0) (.string ⟨#[]⟩))
      go_wp2
      refine bodyPost_ret (results_cells_row3 rfl _ _ (w.heap.size + 1 + 1) (w.heap.size + 1 + 1 + 1) 25 28 _ _ (0, 0) (0, 0) _ _ rfl HB.out.1 rfl HB.out.2 Tryz.underlying25 rfl store_size Tryz.underlying28 rfl col_size) rfl ?_
      rw [HXX.out]
      exact givesSC_no rfl HBL.out
  · have hX := step_no q ⟨ph, gr, att⟩
    generalize cStep ⟨l, es, rm, ck⟩ ⟨ph, gr, att⟩ = X at *
    generalize sErr ⟨l, es, rm, ck⟩ = E at *
    have d1 : (E != 0) = true := by rw [bne_iff_ne]; exact q
    have HXX := Lib.hid hX
    clear h q hq hX
    go_enter Tryz.func15, Tryz.ntmps15
    go_wp2_with fail
    with_reducible refine HC.out.mono ?_
    rintro e w2 ⟨rfl, hc2⟩
    have k2 := hb2.below hc2 hb2.lt
    have k3 := hb3.below hc2 hb3.lt
    have hbB := below_step hal hc2
    clear HC hb0 hb1 hb2 hb3 hal hc2 a0 a1 a2 a3
    obtain ⟨z0, z1, z2, z3⟩ := blk4 k2
    obtain ⟨y0, y1, y2, y3⟩ := blk4z k2
    obtain ⟨x0, x1, x2⟩ := blk3 k3
    obtain ⟨x3, x4, x5⟩ := blk3z k3
    have HB := Lib.hid (two_cells k2 k3 (.slice none 0 0) (.slice none 0 0) (.int .i64 0) (.int .i64 0) (.int .i64 0) (.slice none 0 0) (.string ⟨#[]⟩))
    have HBL := Lib.hid (below7 hbB (q := w.heap.size + 1 + 1) (by omega) (.slice none 0 0) (.slice none 0 0) (.int .i64 0) (.int .i64 0) (.int .i64 0) (.slice none 0 0) (.string ⟨#[]⟩))
    go_wp2
    refine bodyPost_ret (results_cells_row3 rfl _ _ (w.heap.size + 1 + 1) (w.heap.size + 1 + 1 + 1) 25 28 _ _ (0, 0) (0, 0) _ _ rfl HB.out.1 rfl HB.out.2 Tryz.underlying25 rfl store_size Tryz.underlying28 rfl col_size) rfl ?_
    rw [HXX.out]
    exact givesSC_no rfl HBL.out
end Go.Proofs.YtdbdigcpibmgjaaGreatDoor

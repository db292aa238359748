/- Texts that belong together: what the functions of the program and of the statements return. -/
import Derived.Test.YtdbdigcpibmgjaaGreatDoorGSB
import Derived.Test.YtdbdigcpibmgjaaGreatDoorGSB
import Derived.Test.YtdbdigcpibmgjaaGreatDoorGEE
import Derived.Test.YtdbdigcpibmgjaaGreatDoorGW
import Derived.Test.YtdbdigcpibmgjaaGreatDoorGQ
import Derived.Deep.RegionHeldLaw
import Derived.Deep.CutBlock
import Derived.Deep.CutRange
/- The landed store: checkEntries, Check. -/
namespace Go.Proofs.YtdbdigcpibmgjaaGreatDoor
open Go.RowKit
/-- is there an entry out of its store: the error -/
def cesErr (s : Sto) : Int := if s.es.any (eBad s) then 12 else 0
set_option maxRecDepth 100000 in
set_option maxHeartbeats 4000000 in
theorem checkEntries_any (A B : Option Addr) (n c m k : Nat) (l : List Bl) (es : List En) (rm ck : Int) (w : World) (hr : KRd kBl w A n c l) (he : KRd kEn w B m k es) :
    Calls Tryz.prog 66 #[.agg #[.slice A n c, .slice B m k, .int .i64 rm, .int .i64 ck]] w fun e w' => e = .returned (.int .i64 (cesErr ⟨l, es, rm, ck⟩)) ∧ Below w.heap.size w w' := by
  obtain rfl := hr.len
  obtain rfl := he.len
  have hcap := hr.cap
  have hcap2 := he.cap
  unfold maxLen at hcap hcap2
  obtain ⟨R, hR⟩ : ∃ R, cesErr ⟨l, es, rm, ck⟩ = R := ⟨_, rfl⟩
  rw [hR]
  have hR' : (if es.any (eBad ⟨l, es, rm, ck⟩) then 12 else 0) = R := hR
  have HR := Lib.hid hR'
  clear hR hR'
  have hal := (Below.refl w.heap.size w).alloc (Nat.le_refl _) (.cells #[.slice A l.length c, .slice B es.length k, .int .i64 rm, .int .i64 ck] 25)
  have hbk := Blk.new w 25 [.slice A l.length c, .slice B es.length k, .int .i64 rm, .int .i64 ck]
  have e1 := hbk.cell 1
  simp only [List.getElem?_cons_succ, List.getElem?_cons_zero] at e1
  go_enter Tryz.func66, Tryz.ntmps66
  go_wp2
  go_loopw [8] (fun s wr => ∃ i : Nat, i ≤ es.length ∧ s = .int .i64 i ∧ Hid (∀ j (h : j < es.length), j < i → eBad ⟨l, es, rm, ck⟩ es[j] = false) ∧ Below (w.alloc (.cells #[.slice A l.length c, .slice B es.length k, .int .i64 rm, .int .i64 ck] 25)).heap.size (w.alloc (.cells #[.slice A l.length c, .slice B es.length k, .int .i64 rm, .int .i64 ck] 25)) wr) (fun s _ => es.length - (intOf s).toNat)
  case atStart => exact ⟨0, Nat.zero_le _, rfl, fun j _ h => absurd h (by omega), Below.refl _ _⟩
  case round =>
    obtain ⟨i, hi, rfl, HA, hbel⟩ := hrel
    have hbD := below_step hal hbel
    by_cases hlt : i < es.length
    · obtain ⟨b, off, D, dn, dc, rfl, hc0, hc1, hc2, hc3, hrD, hDn⟩ := (he.below hbD).entry hlt
      have hii : (i : Int) < (es.length : Int) := by omega
      have HB : Hid (eBad ⟨l, es, rm, ck⟩ es[i] = (decide (ck < es[i].st) || !(pThere l es[i].ps == 0))) := rfl
      have HAN : Hid (eBad ⟨l, es, rm, ck⟩ es[i] = false → ∀ j (h : j < es.length), j < i + 1 → eBad ⟨l, es, rm, ck⟩ es[j] = false) := fun q j h hj => by
        rcases Nat.lt_or_eq_of_le (Nat.le_of_lt_succ hj) with p | p
        · exact HA.out j h p
        · subst p; exact q
      have HAY : Hid (eBad ⟨l, es, rm, ck⟩ es[i] = true → R = 12) := fun q => by
        rw [← HR.out, if_pos (List.any_eq_true.2 ⟨_, List.getElem_mem hlt, q⟩)]
      obtain ⟨bad, hbad⟩ : ∃ bad, eBad ⟨l, es, rm, ck⟩ es[i] = bad := ⟨_, rfl⟩
      rw [hbad] at HB HAN HAY
      clear hbad HA
      generalize es[i] = x at *
      obtain ⟨ky, ps, pn, st⟩ := x
      simp only at hc0 hc1 hc2 hc3 hrD HB
      obtain rfl : dn = ps.length := hrD.plen
      have hal2 := (Below.refl wr.heap.size wr).alloc (Nat.le_refl _) (.cells #[.string (str ky), .slice D ps.length dc, .int .i64 pn, .int .i64 st] 74)
      have hbk2 := Blk.new wr 74 [.string (str ky), .slice D ps.length dc, .int .i64 pn, .int .i64 st]
      have q1 := hbk2.cell 1
      have q3 := hbk2.cell 3
      have hbel2 := below_step hbel hal2
      have hbD2 := below_step hbD hal2
      have k5 := (hbk.below hbel hbk.lt).below hal2 (hbk.below hbel hbk.lt).lt
      have t0 := k5.cell 0
      have t3 := k5.cell 3
      simp only [List.getElem?_cons_succ, List.getElem?_cons_zero] at q1 q3 t0 t3
      have HPT := Lib.hid (present_any _ _ _ l _ _ _ ps _ (hr.below hbD2) (hrD.below hal2))
      clear hrD hbk2 k5 hal2
      by_cases hst : ck < st
      · have e1' : decide (ck < st) = true := by simpa using hst
        have HF : Hid (R = 12) := HAY.out (by rw [HB.out, e1']; rfl)
        go_wp2
        go_ret
        exact ⟨ret_int HF.out.symm, hbD2⟩
      · have e1' : decide (ck < st) = false := by simpa using hst
        by_cases hpt : pThere l ps = 0
        · have e2 : (pThere l ps != 0) = false := by rw [bne_eq_false_iff_eq]; exact hpt
          have HF := Lib.hid (HAN.out (by rw [HB.out, e1', hpt]; rfl))
          clear hpt
          go_wp2_with fail
          with_reducible refine HPT.out.mono ?_
          rintro e w6 ⟨rfl, hb6⟩
          go_wp2
          go_roundw
          case rel => exact ⟨i + 1, by omega, by go_num, HF.out, below_step hbel2 hb6⟩
          case measure => simp [intOf] <;> omega
        · have e2 : (pThere l ps != 0) = true := by rw [bne_iff_ne]; exact hpt
          have HF : Hid (R = 12) := HAY.out (by rw [HB.out, beq_eq_false_iff_ne.2 hpt]; simp)
          clear hpt
          go_wp2_with fail
          with_reducible refine HPT.out.mono ?_
          rintro e w6 ⟨rfl, hb6⟩
          go_wp2
          go_ret
          exact ⟨ret_int HF.out.symm, below_step hbD2 hb6⟩
    · have hd2 : decide ((i : Int) < (es.length : Int)) = false := by rw [decide_eq_false_iff_not]; omega
      have HF : Hid (R = 0) := by
        show _ = _
        rw [← HR.out, if_neg]
        intro q
        obtain ⟨x, hx, hq⟩ := List.any_eq_true.1 q
        obtain ⟨j, hj, rfl⟩ := List.mem_iff_getElem.1 hx
        rw [HA.out j hj (by omega)] at hq
        cases hq
      go_wp2
      go_ret
      exact ⟨ret_int HF.out.symm, hbD⟩
/-- what fitting says of blobs that may be -/
theorem rF_of {l : List Bl} (h : bsErr l = 0) (rm : Int) : rF l rm 0 = if rm < 0 ∨ 4000 < rm then 4 else if rm < wrap64 (uS l) then 7 else 0 := by
  have hu := bs_us h
  unfold rF
  by_cases hr : rm < 0 ∨ 4000 < rm
  · have e : rL l rm 0 = (0, 4) := by unfold rL; rw [if_pos (by omega)]
    rw [e, if_pos hr]; rfl
  · rw [rL_small hu.1 (by omega) (by omega) (by omega) (by omega) (by omega), if_neg hr, uS_small hu.1 (by omega)]
    by_cases q : rm < uS l
    · rw [if_pos q, if_pos (show 0 < uS l + 0 - rm by omega)]; simp; omega
    · rw [if_neg q, if_neg (show ¬ 0 < uS l + 0 - rm by omega)]; simp
/-- the error of a store, one test behind the other -/
theorem sErr_way (s : Sto) : sErr s = if bsErr s.bs ≠ 0 then bsErr s.bs else if xsErr s.es ≠ 0 then xsErr s.es else if rF s.bs s.rm 0 ≠ 0 then rF s.bs s.rm 0 else if s.ck < 0 ∨ 1099511627776 < s.ck then 4 else cesErr s := by
  unfold sErr cesErr
  by_cases h1 : bsErr s.bs = 0
  · rw [rF_of h1]
    by_cases h2 : s.rm < 0 ∨ 4000 < s.rm
    · simp [h1, h2]
    · by_cases h3 : s.rm < wrap64 (uS s.bs)
      · simp [h1, h2, h3]
      · simp [h1, h2, h3]
  · simp [h1]
set_option maxRecDepth 100000 in
set_option maxHeartbeats 2000000 in
theorem lCheck_any {A B : Option Addr} {n c m k : Nat} {s : Sto} {w : World} (h : StA w A B n c m k s) :
    Calls Tryz.prog 24 #[.agg #[.slice A n c, .slice B m k, .int .i64 s.rm, .int .i64 s.ck]] w fun e w' => e = .returned (.int .i64 (sErr s)) ∧ Below w.heap.size w w' := by
  obtain ⟨l, es, rm, ck⟩ := s
  obtain ⟨hK, hr, he, -, -, hgl, hge, -, -⟩ := h
  simp only at hr he hgl hge ⊢
  obtain ⟨R, hR⟩ : ∃ R, sErr ⟨l, es, rm, ck⟩ = R := ⟨_, rfl⟩
  rw [hR]
  rw [sErr_way] at hR
  simp only at hR
  have HR := Lib.hid hR
  clear hR
  have hal := (Below.refl w.heap.size w).alloc (Nat.le_refl _) (.cells #[.slice A n c, .slice B m k, .int .i64 rm, .int .i64 ck] 25)
  have hbk := Blk.new w 25 [.slice A n c, .slice B m k, .int .i64 rm, .int .i64 ck]
  obtain ⟨a0, a1, a2, a3⟩ := blk4 hbk
  have HB := Lib.hid (bcheck_any A n c l _ (hK.below hal) (hr.below hal) hgl)
  have HX : Hid (∀ W : World, Below w.heap.size w W → Calls Tryz.prog 64 #[.slice B m k] W fun e w' => e = .returned (.int .i64 (xsErr es)) ∧ Below W.heap.size W w') := fun W hW => icheck_any B m k es W (he.below hW) hge
  have HF : Hid (∀ W : World, Below w.heap.size w W → Calls Tryz.prog 65 #[.slice A n c, .int .i64 rm, .int .i64 0] W fun e w' => e = .returned (.int .i64 (rF l rm 0)) ∧ Below W.heap.size W w') := fun W hW => fits_any A n c l rm 0 W (hr.below hW)
  have HC : Hid (∀ W : World, Below w.heap.size w W → Calls Tryz.prog 66 #[.agg #[.slice A n c, .slice B m k, .int .i64 rm, .int .i64 ck]] W fun e w' => e = .returned (.int .i64 (cesErr ⟨l, es, rm, ck⟩)) ∧ Below W.heap.size W w') := fun W hW => checkEntries_any A B n c m k l es rm ck W (hr.below hW) (he.below hW)
  clear hr he hgl hge hK
  go_enter Tryz.func24, Tryz.ntmps24
  go_wp2_with fail
  with_reducible refine HB.out.mono ?_
  rintro e w2 ⟨rfl, hb2⟩
  have k2 := hbk.below hb2 hbk.lt
  have hbB := below_step hal hb2
  clear hbk a0 a1 a2 a3 hal hb2 HB
  obtain ⟨a0, a1, a2, a3⟩ := blk4 k2
  by_cases p1 : bsErr l = 0
  · have d1 : (bsErr l != 0) = false := by rw [bne_eq_false_iff_eq]; exact p1
    have HR1 := HR.out
    rw [if_neg (by simpa using p1)] at HR1
    have HR := Lib.hid HR1
    clear HR1 p1
    go_wp2_with fail
    with_reducible refine (HX.out _ hbB).mono ?_
    rintro e w3 ⟨rfl, hb3⟩
    have k3 := k2.below hb3 k2.lt
    have hbC := below_step hbB hb3
    clear k2 a0 a1 a2 a3 hbB hb3 HX d1
    obtain ⟨a0, a1, a2, a3⟩ := blk4 k3
    by_cases p2 : xsErr es = 0
    · have d2 : (xsErr es != 0) = false := by rw [bne_eq_false_iff_eq]; exact p2
      have HR1 := HR.out
      rw [if_neg (by simpa using p2)] at HR1
      have HR := Lib.hid HR1
      clear HR1 p2
      go_wp2_with fail
      with_reducible refine (HF.out _ hbC).mono ?_
      rintro e w4 ⟨rfl, hb4⟩
      have k4 := k3.below hb4 k3.lt
      have hbD := below_step hbC hb4
      clear k3 a0 a1 a2 a3 hbC hb4 HF d2
      obtain ⟨a0, a1, a2, a3⟩ := blk4 k4
      by_cases p3 : rF l rm 0 = 0
      · have d3 : (rF l rm 0 != 0) = false := by rw [bne_eq_false_iff_eq]; exact p3
        have HR1 := HR.out
        rw [if_neg (by simpa using p3)] at HR1
        have HR := Lib.hid HR1
        clear HR1 p3
        by_cases p6 : ck < 0
        · have d6 : decide (ck < 0) = true := by simpa using p6
          have HF : Hid (R = 4) := by show _ = _; rw [← HR.out, if_pos (.inl p6)]
          go_wp2
          go_ret
          exact ⟨ret_int HF.out.symm, hbD⟩
        · have d6 : decide (ck < 0) = false := by simpa using p6
          by_cases p7 : 1099511627776 < ck
          · have d7 : decide (1099511627776 < ck) = true := by simpa using p7
            have HF : Hid (R = 4) := by show _ = _; rw [← HR.out, if_pos (.inr p7)]
            go_wp2
            go_ret
            exact ⟨ret_int HF.out.symm, hbD⟩
          · have d7 : decide (1099511627776 < ck) = false := by simpa using p7
            have HR1 := HR.out
            rw [if_neg (by omega)] at HR1
            have HR := Lib.hid HR1
            clear HR1 p6 p7
            go_wp2_with fail
            with_reducible refine (HC.out _ hbD).mono ?_
            rintro e w5 ⟨rfl, hb5⟩
            go_wp2
            go_ret
            exact ⟨ret_int HR.out, below_step hbD hb5⟩
      · have d3 : (rF l rm 0 != 0) = true := by rw [bne_iff_ne]; exact p3
        have HF : Hid (rF l rm 0 = R) := by show _ = _; rw [← HR.out, if_pos p3]
        go_wp2
        go_ret
        exact ⟨ret_int HF.out, hbD⟩
    · have d2 : (xsErr es != 0) = true := by rw [bne_iff_ne]; exact p2
      have HF : Hid (xsErr es = R) := by show _ = _; rw [← HR.out, if_pos p2]
      go_wp2
      go_ret
      exact ⟨ret_int HF.out, hbC⟩
  · have d1 : (bsErr l != 0) = true := by rw [bne_iff_ne]; exact p1
    have HF : Hid (bsErr l = R) := by show _ = _; rw [← HR.out, if_pos p1]
    go_wp2
    go_ret
    exact ⟨ret_int HF.out, hbB⟩
end Go.Proofs.YtdbdigcpibmgjaaGreatDoor
/- The landed store: Copy. -/
namespace Go.Proofs.YtdbdigcpibmgjaaGreatDoor
open Go.RowKit
theorem map_len {α β : Type} {f : α → β} {l : List α} {m : List β} (h : l.map f = m) : l.length = m.length := by rw [← h, List.length_map]
/-- a block of blobs, known whole, as new blobs -/
theorem kb_new {w : World} {base g : Nat} {t : TypeId} {hs : List (Bl × Hd)} {l : List Bl} (h : KB w base g t hs) (hm : hs.map Prod.fst = l) (hx : l.length ≤ maxLen) : KNew kBl w base (some ⟨g, 0, none⟩) l.length l.length l := by
  obtain rfl := hm
  rw [List.length_map] at hx ⊢
  obtain ⟨A, c, q, hN⟩ := (h.kh hx).own.new
  injection q with q1 q2 q3
  subst q1; subst q3
  rw [List.length_map] at hN
  exact hN
set_option maxRecDepth 100000 in
set_option maxHeartbeats 2000000 in
theorem lCopyO {A B : Option Addr} {n c m k : Nat} {s : Sto} {w : World} (h : StA w A B n c m k s) :
    Calls Tryz.prog 25 #[.agg #[.slice A n c, .slice B m k, .int .i64 s.rm, .int .i64 s.ck]] w (GivesStoO s w) := by
  obtain ⟨l, es, rm, ck⟩ := s
  obtain ⟨-, hr, he, -, -, hgl, hge, hz, hz2⟩ := h
  simp only at hr he hgl hge ⊢
  have hx1 : l.length ≤ maxLen := by have h1 := hr.len; have h2 := hr.cap; omega
  have hx2 : es.length ≤ maxLen := by have h1 := he.len; have h2 := he.cap; omega
  have hal := ((Below.refl w.heap.size w).alloc (Nat.le_refl _) (.cells #[.slice A n c, .slice B m k, .int .i64 rm, .int .i64 ck] 25)).alloc (by simp) (.cells #[.slice none 0 0, .slice none 0 0, .int .i64 0, .int .i64 0] 25)
  have hb1 := (Blk.new w 25 [.slice A n c, .slice B m k, .int .i64 rm, .int .i64 ck]).alloc (.cells #[.slice none 0 0, .slice none 0 0, .int .i64 0, .int .i64 0] 25)
  have hb2 := Blk.new (w.alloc (.cells #[.slice A n c, .slice B m k, .int .i64 rm, .int .i64 ck] 25)) 25 [.slice none 0 0, .slice none 0 0, .int .i64 0, .int .i64 0]
  have hsz : (w.alloc (.cells #[.slice A n c, .slice B m k, .int .i64 rm, .int .i64 ck] 25)).heap.size = w.heap.size + 1 := by simp
  rw [hsz] at hb2
  have hr0 := hr.below hal
  clear hsz
  go_enter Tryz.func25, Tryz.ntmps25
  go_upto_region 1 with fail
  generalize hu : (w.alloc (.cells [Value.slice A n c, Value.slice B m k, Value.int .i64 rm, Value.int .i64 ck].toArray 25)).alloc (.cells [Value.slice none 0 0, Value.slice none 0 0, Value.int .i64 0, Value.int .i64 0].toArray 25) = u at *
  clear hu
  have hsu : w.heap.size + 2 ≤ u.heap.size := by have := hb2.lt; omega
  have hne : w.heap.size + 1 ≠ w.heap.size := by omega
  obtain ⟨a0, a1, a2, a3⟩ := blk4 hb1
  have HC := Lib.hid (bcopy_any A n c l u hr0 hgl hz)
  go_wp2_with fail
  with_reducible refine HC.out.mono ?_
  rintro e w1 ⟨g1, hs1, rfl, hm1, hkb1, hc1⟩
  have hz1 := hc1.size
  have k1 := hb1.below hc1 hb1.lt
  have j1 := hb2.below hc1 hb2.lt
  have hbA := below_step hal hc1
  have hl1 := map_len hm1
  have hO1 := (hkb1.kh (by omega)).own
  rw [hm1, hl1] at hO1
  obtain ⟨y0, -, -, -⟩ := blk4z k1
  obtain ⟨x0, -, -, -⟩ := blk4 k1
  have kA := k1.put 0 (.slice (some ⟨g1, 0, none⟩) l.length l.length)
  have jA := j1.far (p := ⟨w.heap.size, 0, none⟩) hne (.slice (some ⟨g1, 0, none⟩) l.length l.length)
  have hbA' := hbA.setCell (p := ⟨w.heap.size, 0, none⟩) (Nat.le_refl _) (.slice (some ⟨g1, 0, none⟩) l.length l.length)
  simp only [List.set_cons_zero] at kA
  have HE := Lib.hid (icopy_any B m k es _ (he.below hbA') hge hz2)
  clear hb1 hb2 hal hr0 hr he HC a0 a1 a2 a3 k1 j1 hkb1 hbA
  obtain ⟨a0, a1, a2, a3⟩ := blk4 kA
  go_wp2_with fail
  with_reducible refine HE.out.mono ?_
  rintro e w2 ⟨g2, hs2, rfl, hm2, hke2, hc2⟩
  have hz2' := hc2.size
  have k2 := kA.below hc2 kA.lt
  have j2 := jA.below hc2 jA.lt
  have hbB := below_step hbA' hc2
  have hl2 := map_len hm2
  have hO2 := (hke2.kh (by omega)).own
  rw [hm2, hl2] at hO2
  obtain ⟨-, y1, -, -⟩ := blk4z k2
  obtain ⟨-, x1, -, -⟩ := blk4 k2
  have kB := k2.put 1 (.slice (some ⟨g2, 0, none⟩) es.length es.length)
  have jB := j2.far (p := ⟨w.heap.size, 1, none⟩) hne (.slice (some ⟨g2, 0, none⟩) es.length es.length)
  simp only [List.set_cons_succ, List.set_cons_zero] at kB
  clear a0 a1 a2 a3 kA jA k2 j2 HE hke2
  obtain ⟨a0, a1, a2, a3⟩ := blk4 kB
  obtain ⟨b0, b1, b2, b3⟩ := blk4 jB
  obtain ⟨c0, c1, c2, c3⟩ := blk4z jB
  have HJ := Lib.hid (jB.put4s (.slice (some ⟨g1, 0, none⟩) l.length l.length) (.slice (some ⟨g2, 0, none⟩) es.length es.length) (.int .i64 rm) (.int .i64 ck))
  go_wp2
  refine bodyPost_ret (results_cell_row rfl _ _ (w.heap.size + 1) 25 _ (0, 0) _ rfl HJ.out Tryz.underlying25 rfl store_size) rfl ?_
  obtain ⟨hg1, hup⟩ := (hO1.rebase (base' := w.heap.size + 2) hsu).upto
  have hs1' : (w1.setCell ⟨w.heap.size, 0, none⟩ (.slice (some ⟨g1, 0, none⟩) l.length l.length)).heap.size = w1.heap.size := by simp
  rw [hs1'] at hz2' hO2 hc2
  have hkeep : ∀ k, w.heap.size + 2 ≤ k → k < w1.heap.size → (((((w2.setCell ⟨w.heap.size, 1, none⟩ (.slice (some ⟨g2, 0, none⟩) es.length es.length)).setCell ⟨w.heap.size + 1, 0, none⟩ (.slice (some ⟨g1, 0, none⟩) l.length l.length)).setCell ⟨w.heap.size + 1, 1, none⟩ (.slice (some ⟨g2, 0, none⟩) es.length es.length)).setCell ⟨w.heap.size + 1, 2, none⟩ (.int .i64 rm)).setCell ⟨w.heap.size + 1, 3, none⟩ (.int .i64 ck)).heap[k]? = w1.heap[k]? := fun k k1 k2 => by
    have e1 : k ≠ w.heap.size + 1 := by omega
    have e2 : k ≠ w.heap.size := by omega
    rw [Below.heap_setCell _ ⟨w.heap.size + 1, 3, none⟩ _ _ e1, Below.heap_setCell _ ⟨w.heap.size + 1, 2, none⟩ _ _ e1, Below.heap_setCell _ ⟨w.heap.size + 1, 1, none⟩ _ _ e1, Below.heap_setCell _ ⟨w.heap.size + 1, 0, none⟩ _ _ e1, Below.heap_setCell _ ⟨w.heap.size, 1, none⟩ _ _ e2, hc2.block k k2, Below.heap_setCell _ ⟨w.heap.size, 0, none⟩ _ _ e2]
  refine ⟨_, _, w1.heap.size, rfl, hup _ (by simp; omega) hkeep, (hO2.set1 (by omega) _).set4s (by omega) _ _ _ _, by omega, hg1, fun w3 h1 h2 => hup w3 (by simp at h1; omega) fun k k1 k2 => by rw [h2 k k1 k2]; exact hkeep k k1 k2, below4s (hbB.setCell (p := ⟨w.heap.size, 1, none⟩) (Nat.le_refl _) _) (by omega) _ _ _ _⟩
theorem lCopy_any {A B : Option Addr} {n c m k : Nat} {s : Sto} {w : World} (h : StA w A B n c m k s) :
    Calls Tryz.prog 25 #[.agg #[.slice A n c, .slice B m k, .int .i64 s.rm, .int .i64 s.ck]] w (GivesSto s w) :=
  (lCopyO h).mono fun _ _ h => h.sto
end Go.Proofs.YtdbdigcpibmgjaaGreatDoor

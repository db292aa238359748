/- Reading a manifest: the reference's PartsOf. -/
import Derived.Test.YtaaeihkbnfcolaaPd
namespace Go.Proofs.Ytaaeihkbnfcolaa
open Go.RowKit
set_option maxHeartbeats 400000 in
theorem partsOf_big (A : Option Addr) (n c : Nat) (w : World) (h : 2000 < n) (hn : n ≤ 9223372036854775807) :
    Calls Try.prog 19 #[.slice A n c] w fun e w' => e = .returned (.tuple #[.slice none 0 0, .int .i64 1]) ∧ Below w.heap.size w w' := by
  go_enter Try.func19, Try.ntmps19
  go_wp2
  go_ret2
  exact ⟨rfl, Below.refl _ _⟩
set_option maxHeartbeats 400000 in
theorem partsOf_short (A : Option Addr) (n c : Nat) (w : World) (h : n < 3) :
    Calls Try.prog 19 #[.slice A n c] w fun e w' => e = .returned (.tuple #[.slice none 0 0, .int .i64 3]) ∧ Below w.heap.size w w' := by
  have hd : decide (2000 < (n : Int)) = false := by simp; omega
  have hd2 : decide ((n : Int) < 3) = true := by simp; omega
  go_enter Try.func19, Try.ntmps19
  go_wp2
  go_ret2
  exact ⟨rfl, Below.refl _ _⟩
set_option maxHeartbeats 400000 in
theorem partsOf_form (A : Option Addr) (n c : Nat) (l : List UInt8) (w : World) (hr : Rd w 1 A n c (l.map bv8)) (h : 3 ≤ n) (h2 : n ≤ 2000) (hne : l.take 3 ≠ [65, 77, 49]) :
    Calls Try.prog 19 #[.slice A n c] w fun e w' => e = .returned (.tuple #[.slice none 0 0, .int .i64 3]) ∧ Below w.heap.size w w' := by
  have hd : decide (2000 < (n : Int)) = false := by simp; omega
  have hd2 : decide ((n : Int) < 3) = false := by simp; omega
  have hcm := hr.2.1
  have hci : (3 : Int) ≤ (c : Int) := by omega
  have ht := hr.take 3 h
  rw [← List.map_take] at ht
  have htl : (l.take 3).length = 3 := by have := hr.len; rw [List.length_take]; omega
  have k1 := run_bytes_str (P := Try.prog) Try.underlying27 Try.underlying5 Try.underlying9 ht.as
  rw [htl] at k1
  have f5 : (l.take 3 == [65, 77, 49]) = false := by rw [beq_eq_false_iff_ne]; exact hne
  clear hne htl
  go_enter Try.func19, Try.ntmps19
  go_wp2
  go_ret2
  exact ⟨rfl, Below.refl _ _⟩
set_option maxRecDepth 100000 in
set_option maxHeartbeats 4000000 in
theorem partsOf_in (b off n c : Nat) (l : List UInt8) (w : World) (hr : Rd w 1 (some ⟨b, off, none⟩) n c (l.map bv8)) (h : 3 ≤ n) (h2 : n ≤ 2000) (heq : l.take 3 = [65, 77, 49]) (hc3 : ¬ c = 3) (er : Int) (ps : List Prt) (hdec : Hid ((if rErr (l.drop 3) ≠ 0 then (rErr (l.drop 3), []) else if 8 < rVal (l.drop 3) then (1, []) else rdTail (rVal (l.drop 3)) [] (rRest (l.drop 3))) = (er, ps))) :
    Calls Try.prog 19 #[.slice (some ⟨b, off, none⟩) n c] w (GivesP ps er w) := by
  have hd : decide (2000 < (n : Int)) = false := by simp; omega
  have hd2 : decide ((n : Int) < 3) = false := by simp; omega
  have hcm := hr.2.1
  have hci : (3 : Int) ≤ (c : Int) := by omega
  have hni : (3 : Int) ≤ (n : Int) := by omega
  have ht := hr.take 3 h
  rw [← List.map_take, heq] at ht
  have k1 : (convert 27 9 (.slice (some ⟨b, off, none⟩) 3 c)).run Try.prog w = .ok (.string (str [65, 77, 49])) w := run_bytes_str (P := Try.prog) Try.underlying27 Try.underlying5 Try.underlying9 (l := [65, 77, 49]) ht
  have f5 : (([65, 77, 49] : List UInt8) == [65, 77, 49]) = true := rfl
  have hr3 := hr.drop 3 h
  rw [← List.map_drop] at hr3
  clear heq ht
  obtain ⟨i0, hi0, hz0, hz1, hz2⟩ := info_parts part_info
  go_enter Try.func19, Try.ntmps19
  go_wp2_with fail
  with_reducible refine (rof_any _ _ _ _ _ hr3 (by omega)).mono ?_
  rintro e w1 ⟨A1, n1, c1, rfl, hr1, hA1, hn1, hF1, hb1⟩
  have hl1 : n1 ≤ 2000 := by have h5 := hr1.len; have h6 := rRest_le (l.drop 3); have h7 := hr3.len; omega
  have hvx := rVal_lt (l.drop 3)
  clear hr3 k1 hr hc3 hcm hci hni hd hd2
  generalize l.drop 3 = r3 at *
  by_cases he : rErr r3 = 0
  · have n1' : (rErr r3 != 0) = false := by rw [bne_eq_false_iff_eq]; exact he
    have HD := hdec.out
    rw [if_neg (by omega)] at HD
    obtain ⟨v, hv⟩ : ∃ v, rVal r3 = v := ⟨_, rfl⟩
    rw [hv] at HD hvx ⊢
    clear hdec hv
    by_cases h8 : 8 < v
    · have d8 : decide (8 < (v : Int)) = true := by simp; omega
      rw [if_pos h8] at HD
      have HD := Lib.hid HD
      clear he
      go_wp2
      go_ret2
      have e1 := congrArg Prod.fst HD.out
      have e2 := congrArg Prod.snd HD.out
      simp only at e1 e2
      rw [← e1, ← e2]
      exact givesP_nil ⟨rfl, hb1⟩
    · have d8 : decide (8 < (v : Int)) = false := by simp; omega
      rw [if_neg h8] at HD
      have HD := Lib.hid HD
      clear he
      generalize rRest r3 = r1 at *
      go_wp2
      go_loopw [5, 6, 7, 8, 9] (fun rest _ out i _ wr => ∃ (k n' c' : Nat) (A' : Option Addr) (acc : List Prt) (r : List UInt8), k ≤ v ∧ i = .int .i64 k ∧ rest = .slice A' n' c' ∧ n' ≤ 2000 ∧ Rd wr 1 A' n' c' (r.map bv8) ∧ wr.ownsRow w.heap.size 39 3 out k (pcs acc) ∧ Hid (∀ p ∈ acc, p.good) ∧ Hid (rdTail (v - k) acc r = (er, ps)) ∧ Below w.heap.size w wr) (fun _ _ _ i _ _ => v - (intOf i).toNat)
      case atStart => exact ⟨0, _, _, _, [], r1, Nat.zero_le _, rfl, rfl, hl1, hr1, World.ownsRow_nil _ _ _ _, fun _ h => (by cases h), HD.out, hb1⟩
      case round =>
        clear hr1 hA1 hn1 hb1 hl1 HD
        obtain ⟨k, n', c', A', acc, r, hk, rfl, rfl, hn', hr, hown, HG, HD, hbel⟩ := hrel
        by_cases hlt : k < v
        · have hki : (k : Int) < (v : Int) := by omega
          have hal := (Below.refl wr.heap.size wr).alloc (Nat.le_refl _) (.cells #[.string ⟨#[]⟩, .string ⟨#[]⟩, .int .i64 0] 39)
          have hbk := Blk.new wr 39 [.string ⟨#[]⟩, .string ⟨#[]⟩, .int .i64 0]
          have hX : ∀ (s t : ByteArray) (i : Int), ∀ u ∈ ([.string s, .string t, .int .i64 i] : List Value), ∀ y, u ≠ bv8 y := fun s t i u hu y => by
            simp only [List.mem_cons, List.not_mem_nil, or_false] at hu
            rcases hu with rfl | rfl | rfl <;> (unfold bv8; intro q; cases q)
          have HXX := Lib.hid hX
          obtain ⟨k', hk1, hk2⟩ : ∃ k', v - k = k' + 1 ∧ v - (k + 1) = k' := ⟨v - k - 1, by omega, by omega⟩
          have HR : Hid (rdTail (k' + 1) acc r = (er, ps)) := by show _ = _; rw [← hk1]; exact HD.out
          have HK2 := Lib.hid hk2
          have hob : u7.ownBlock ≠ some wr.heap.size := fun q => by have := (hown.lt _ q).2; omega
          have hown0 := own_alloc hown (.cells #[.string ⟨#[]⟩, .string ⟨#[]⟩, .int .i64 0] 39)
          have hra := hr.below hal
          have Hrl := Lib.hid hr.len
          clear hX hk1 hk2 HD
          go_wp2_with fail
          with_reducible refine (rtextOf_any _ _ _ _ _ hra (by omega)).mono ?_
          rintro e w2 ⟨A2, n2, c2, rfl, hr2, hA2, hn2, hF2, hb2⟩
          have hl2 : n2 ≤ 2000 := by have h5 := hr2.len; have h6 := tRest_le r; have := Hrl.out; omega
          have hts : (tStr r).length ≤ 2000 := by have h6 := tStr_le r; have := Hrl.out; omega
          have hbk2 := hbk.below hb2 hbk.lt
          have hown2 := own_below hown0 hb2
          have hbA := below_step hbel (hal.trans (hb2.mono (by simp)))
          have hcA := hbk2.cell 0
          have hfA := hbk2.frozen 0
          simp only [List.getElem?_cons_zero] at hcA
          have hbkB := hbk2.put 0 (.string (str (tStr r)))
          have hrB := hr2.put_other hbk2 (HXX.out _ _ _) 0 (.string (str (tStr r)))
          have hownB := ownsRow_setCell_other hown2 (a := ⟨wr.heap.size, 0, none⟩) hob (.string (str (tStr r)))
          have hbelB := hbA.setCell (p := ⟨wr.heap.size, 0, none⟩) hbel.size (.string (str (tStr r)))
          simp only [List.set_cons_zero] at hbkB
          clear hbk hal hown0 hra hr2 hown2 hbA
          have HNL := Lib.hid hrB.len
          by_cases he1 : tErr r = 0
          · have t1 : (tErr r != 0) = false := by rw [bne_eq_false_iff_eq]; exact he1
            have HR1 := HR.out
            rw [rdTail, if_neg (by omega)] at HR1
            by_cases hs : n2 < 32
            · have s1 : decide ((n2 : Int) < 32) = true := by simp; omega
              rw [if_pos (by have := HNL.out; omega)] at HR1
              have HR2 := Lib.hid HR1
              clear HR1 HR he1
              go_wp2
              go_ret2
              have e1 := congrArg Prod.fst HR2.out
              have e2 := congrArg Prod.snd HR2.out
              simp only at e1 e2
              rw [← e1, ← e2]
              exact givesP_nil ⟨rfl, hbelB⟩
            · have s1 : decide ((n2 : Int) < 32) = false := by simp; omega
              rw [if_neg (by have := HNL.out; omega)] at HR1
              have HR2 := Lib.hid HR1
              clear HR1 HR he1
              have hrt := hrB.take 32 (by omega)
              rw [← List.map_take] at hrt
              have hc2 := hrB.2.1
              have hi2 : (32 : Int) ≤ (c2 : Int) := by omega
              have hi3 : (32 : Int) ≤ (n2 : Int) := by omega
              obtain ⟨b2, o2, rfl, _⟩ := hrB.2.2.2 (by rw [List.length_map]; have := HNL.out; omega)
              go_wp2_with fail
              clear hbk2 hcA hfA hb2 hA2
              generalize w2.setCell ⟨wr.heap.size, 0, none⟩ (.string (str (tStr r))) = w2' at *
              have HT : Hid (str (tStr r) = str (tStr r)) := rfl
              with_reducible refine (hexText_any _ _ _ _ _ hrt (by omega)).mono ?_
              rintro e w3 ⟨rfl, hb3⟩
              have hbk3 := hbkB.below hb3 hbkB.lt
              have hcC := hbk3.cell 1
              have hfC := hbk3.frozen 1
              simp only [List.getElem?_cons_succ, List.getElem?_cons_zero] at hcC
              have hbkC := hbk3.put 1 (.string (str (hexT ((tRest r).take 32))))
              have hrC := (hrB.below hb3).put_other hbk3 (HXX.out _ _ _) 1 (.string (str (hexT ((tRest r).take 32))))
              have hownC := ownsRow_setCell_other (own_below hownB hb3) (a := ⟨wr.heap.size, 1, none⟩) hob (.string (str (hexT ((tRest r).take 32))))
              have hbelC := (below_step hbelB hb3).setCell (p := ⟨wr.heap.size, 1, none⟩) hbel.size (.string (str (hexT ((tRest r).take 32))))
              simp only [List.set_cons_succ, List.set_cons_zero] at hbkC
              clear hbkB hrB hownB hbelB hrt
              have hdl : (hexT ((tRest r).take 32)).length ≤ maxLen := by rw [hexT_length, List.length_take]; unfold maxLen; omega
              by_cases hc32 : c2 = 32
              · obtain rfl : n2 = 32 := by omega
                subst hc32
                have hr4 : Rd (w3.setCell ⟨wr.heap.size, 1, none⟩ (.string (str (hexT ((tRest r).take 32))))) 1 (some ⟨b2, o2, none⟩) 0 0 (([] : List UInt8).map bv8) := Rd.none0 _ _ 0 (by unfold maxLen; omega)
                have hd32 : (tRest r).drop 32 = [] := List.drop_of_length_le (by have := HNL.out; omega)
                have R8 : rErr [] = 8 := (read_short (l := []) (by decide) rfl).1
                have HR3 := HR2.out
                rw [hd32, R8, if_pos (by omega)] at HR3
                have HR4 := Lib.hid HR3
                clear HR3 HR2 hd32
                go_wp2_with fail
                generalize w3.setCell ⟨wr.heap.size, 1, none⟩ (.string (str (hexT ((tRest r).take 32)))) = w3' at *
                with_reducible refine (rof_at _ _ _ _ _ hr4 (by omega) _ 8 rfl R8).mono ?_
                rintro e w4 ⟨A4, n4, c4, rfl, hr5, hA4, hn4, hF4, hb4⟩
                have hbk4 := hbkC.below hb4 hbkC.lt
                have hcD := hbk4.cell 2
                have hfD := hbk4.frozen 2
                simp only [List.getElem?_cons_succ, List.getElem?_cons_zero] at hcD
                have hbelD := below_step hbelC hb4
                go_wp2
                go_ret2
                have e1 := congrArg Prod.fst HR4.out
                have e2 := congrArg Prod.snd HR4.out
                simp only at e1 e2
                rw [← e1, ← e2]
                exact givesP_nil ⟨rfl, hbelD.setCell (p := ⟨wr.heap.size, 2, none⟩) hbel.size _⟩
              · have hr4 := hrC.drop 32 (by omega)
                rw [← List.map_drop] at hr4
                go_wp2_with fail
                generalize w3.setCell ⟨wr.heap.size, 1, none⟩ (.string (str (hexT ((tRest r).take 32)))) = w3' at *
                generalize (tRest r).drop 32 = r4 at *
                with_reducible refine (rof_any _ _ _ _ _ hr4 (by omega)).mono ?_
                rintro e w4 ⟨A4, n4, c4, rfl, hr5, hA4, hn4, hF4, hb4⟩
                have hl4 : n4 ≤ 2000 := by have h5 := hr5.len; have h6 := rRest_le r4; have h7 := hr4.len; omega
                have hbk4 := hbkC.below hb4 hbkC.lt
                have hcD := hbk4.cell 2
                have hfD := hbk4.frozen 2
                simp only [List.getElem?_cons_succ, List.getElem?_cons_zero] at hcD
                have hbkD := hbk4.put 2 (.int .i64 (rVal r4))
                have hrD := hr5.put_other hbk4 (HXX.out _ _ _) 2 (.int .i64 (rVal r4))
                have hownD := ownsRow_setCell_other (own_below hownC hb4) (a := ⟨wr.heap.size, 2, none⟩) hob (.int .i64 (rVal r4))
                have hbelD := (below_step hbelC hb4).setCell (p := ⟨wr.heap.size, 2, none⟩) hbel.size (.int .i64 (rVal r4))
                simp only [List.set_cons_succ, List.set_cons_zero] at hbkD
                have hw3 : wr.heap.size < w3'.heap.size := hbkC.lt
                clear hbkC hrC hownC hbelC hr4
                by_cases he4 : rErr r4 = 0
                · have t4 : (rErr r4 != 0) = false := by rw [bne_eq_false_iff_eq]; exact he4
                  have HR3 := HR2.out
                  rw [if_neg (by omega)] at HR3
                  have HR4 := Lib.hid HR3
                  clear HR3 HR2 he4
                  have m0 := hbkD.cell 0
                  have m1 := hbkD.cell 1
                  have m2 := hbkD.cell 2
                  simp only [List.getElem?_cons_succ, List.getElem?_cons_zero] at m0 m1 m2
                  have hbDs := hbelD.size
                  have hvr := rVal_lt r4
                  go_wp2_with (at_builtin; refine wpList_append1 rfl (.tmp 69) (.tmp 71) _ rfl Try.underlying22 hi0 hz0 hz1 hz2 rfl (by omega) _ _ _ rfl hownD [.string (str (tStr r)), .string (str (hexT ((tRest r).take 32))), .int .i64 (rVal r4)] rfl (by simp [Value.oneCell']) (by simp [Act.eval]) (by omega) (by omega) hbDs ?_; rintro v5 w5 ⟨hown5, hb5, hsz5, hfar5⟩)
                  have hr6 : Rd w5 1 A4 n4 c4 ((rRest r4).map bv8) := by
                    rcases Nat.eq_zero_or_pos (rRest r4).length with hz' | hz'
                    · exact ⟨hrD.1, hrD.2.1, hrD.2.2.1, fun hp => absurd hp (by rw [List.length_map, hz']; omega)⟩
                    · obtain ⟨b', o', q', hlt', _⟩ := hrD.addr (by rw [List.length_map]; exact hz')
                      refine hrD.keepAt fun a q => ?_
                      have ha := hF4.out a q
                      rw [q] at q'
                      injection q' with q'
                      subst q'
                      exact (hfar5 b' hlt' (fun o => by have := (hown.lt _ o).2; simp only at ha; omega)).2
                  go_roundw
                  case rel =>
                    refine ⟨k + 1, _, _, _, acc ++ [⟨tStr r, hexT ((tRest r).take 32), (rVal r4 : Int)⟩], rRest r4, by omega, by go_num, rfl, hl4, hr6, ?_, ?_, ?_, hbelD.trans hb5⟩
                    · rw [pcs_append]; exact hown5
                    · intro p hp
                      rcases List.mem_append.1 hp with hp | hp
                      · exact HG.out p hp
                      · simp only [List.mem_cons, List.not_mem_nil, or_false] at hp
                        subst hp
                        refine ⟨by unfold maxLen; simp only; omega, hdl, ?_⟩
                        simp [Lit.wf, IntKind.min, IntKind.max, IntKind.bits, IntKind.signed]
                        omega
                    · show _ = _
                      rw [HK2.out]; exact HR4.out
                  case measure => simp [intOf] <;> omega
                · have t4 : (rErr r4 != 0) = true := by rw [bne_iff_ne]; exact he4
                  have HR3 := HR2.out
                  rw [if_pos he4] at HR3
                  have HR4 := Lib.hid HR3
                  clear HR3 HR2 he4
                  go_wp2
                  go_ret2
                  have e1 := congrArg Prod.fst HR4.out
                  have e2 := congrArg Prod.snd HR4.out
                  simp only at e1 e2
                  rw [← e1, ← e2]
                  exact givesP_nil ⟨rfl, hbelD⟩
          · have t1 : (tErr r != 0) = true := by rw [bne_iff_ne]; exact he1
            have HR1 := HR.out
            rw [rdTail, if_pos he1] at HR1
            have HR2 := Lib.hid HR1
            clear HR1 HR he1
            go_wp2
            go_ret2
            have e1 := congrArg Prod.fst HR2.out
            have e2 := congrArg Prod.snd HR2.out
            simp only at e1 e2
            rw [← e1, ← e2]
            exact givesP_nil ⟨rfl, hbelB⟩
        · have hkv : k = v := by omega
          have hki : decide ((k : Int) < (v : Int)) = false := by simp; omega
          have HR : Hid (rdTail 0 acc r = (er, ps)) := by
            show _ = _
            have := HD.out
            rwa [show v - k = 0 from by omega] at this
          have hrl := hr.len
          have Hrl := Lib.hid hrl
          clear HD hkv hrl
          by_cases hz : 0 < n'
          · have z1 : decide (0 < (n' : Int)) = true := by simp; omega
            have HR1 := HR.out
            rw [rdTail, if_pos (by rw [← Hrl.out]; exact hz)] at HR1
            have HR2 := Lib.hid HR1
            clear HR1 HR
            go_wp2
            go_ret2
            have e1 := congrArg Prod.fst HR2.out
            have e2 := congrArg Prod.snd HR2.out
            simp only at e1 e2
            rw [← e1, ← e2]
            exact givesP_nil ⟨rfl, hbel⟩
          · have z1 : decide (0 < (n' : Int)) = false := by simp; omega
            have HR1 := HR.out
            rw [rdTail, if_neg (by rw [← Hrl.out]; exact hz)] at HR1
            have hrp : ∃ A c, u7 = .slice A k c ∧ Rd wr 3 A k c (pcs acc) ∧ (A = none → c = 0) := by
              rcases hown.2 with ⟨q1, q2⟩ | ⟨g, cap, cur, q1, _, _, q3, q4, _⟩
              · subst q2
                have : pcs acc = [] := List.eq_nil_of_length_eq_zero (by simpa using hown.1)
                rw [this]
                exact ⟨none, 0, q1, Rd.nil _ _, fun _ => rfl⟩
              · subst q1
                exact ⟨_, _, rfl, Rd.of_own hown q4 q3, fun q => by cases q⟩
            obtain ⟨A7, c7, rfl, hr7, hA7⟩ := hrp
            have HR2 := Lib.hid HR1
            clear HR1 HR hown
            go_wp2_with fail
            with_reducible refine (partsFault_any _ _ _ _ _ hr7 HG.out).mono ?_
            rintro e w8 ⟨rfl, hb8⟩
            have hbC := below_step hbel hb8
            by_cases hp0 : psErr acc = 0
            · have p1 : (psErr acc != 0) = false := by rw [bne_eq_false_iff_eq]; exact hp0
              have HR3 := HR2.out
              rw [if_neg (by omega)] at HR3
              have HR4 := Lib.hid HR3
              clear HR3 HR2 hp0
              go_wp2
              go_ret2
              have e1 := congrArg Prod.fst HR4.out
              have e2 := congrArg Prod.snd HR4.out
              simp only at e1 e2
              rw [← e1, ← e2]
              exact ⟨_, _, _, rfl, hr7.below hb8, hA7, hbC⟩
            · have p1 : (psErr acc != 0) = true := by rw [bne_iff_ne]; exact hp0
              have HR3 := HR2.out
              rw [if_pos hp0] at HR3
              have HR4 := Lib.hid HR3
              clear HR3 HR2 hp0
              go_wp2
              go_ret2
              have e1 := congrArg Prod.fst HR4.out
              have e2 := congrArg Prod.snd HR4.out
              simp only at e1 e2
              rw [← e1, ← e2]
              exact givesP_nil ⟨rfl, hbC⟩
  · have n1' : (rErr r3 != 0) = true := by rw [bne_iff_ne]; exact he
    have HD := hdec.out
    rw [if_pos he] at HD
    have HD := Lib.hid HD
    clear he hdec
    go_wp2
    go_ret2
    have e1 := congrArg Prod.fst HD.out
    have e2 := congrArg Prod.snd HD.out
    simp only at e1 e2
    rw [← e1, ← e2]
    exact givesP_nil ⟨rfl, hb1⟩
set_option maxRecDepth 100000 in
set_option maxHeartbeats 400000 in
theorem partsOf_full (b off n : Nat) (l : List UInt8) (w : World) (hr : Rd w 1 (some ⟨b, off, none⟩) n 3 (l.map bv8)) (h : 3 ≤ n) (heq : l.take 3 = [65, 77, 49]) :
    Calls Try.prog 19 #[.slice (some ⟨b, off, none⟩) n 3] w fun e w' => e = .returned (.tuple #[.slice none 0 0, .int .i64 8]) ∧ Below w.heap.size w w' := by
  obtain rfl : n = 3 := by have := hr.2.1; omega
  have ht := hr.take 3 h
  rw [← List.map_take, heq] at ht
  have k1 : (convert 27 9 (.slice (some ⟨b, off, none⟩) 3 3)).run Try.prog w = .ok (.string (str [65, 77, 49])) w := run_bytes_str (P := Try.prog) Try.underlying27 Try.underlying5 Try.underlying9 (l := [65, 77, 49]) ht
  have f5 : (([65, 77, 49] : List UInt8) == [65, 77, 49]) = true := rfl
  have hr4 : Rd w 1 (some ⟨b, off, none⟩) 0 0 (([] : List UInt8).map bv8) := Rd.none0 _ _ 0 (by unfold maxLen; omega)
  have R8 : rErr [] = 8 := (read_short (l := []) (by decide) rfl).1
  clear heq ht h
  go_enter Try.func19, Try.ntmps19
  go_wp2_with fail
  with_reducible refine (rof_at _ _ _ _ _ hr4 (by omega) _ 8 rfl R8).mono ?_
  rintro e w1 ⟨A1, n1, c1, rfl, hr1, hA1, hn1, -, hb1⟩
  go_wp2
  go_ret2
  exact ⟨rfl, hb1⟩
theorem partsOf_any (A : Option Addr) (n c : Nat) (l : List UInt8) (w : World) (hr : Rd w 1 A n c (l.map bv8)) :
    Calls Try.prog 19 #[.slice A n c] w (GivesP (dec l).2 (dec l).1 w) := by
  have hn := hr.len
  have hcm := hr.2.1
  have hcx := hr.2.2.1
  unfold maxLen at hcx
  by_cases h1 : 2000 < n
  · rw [show dec l = (1, []) from if_pos (by omega)]
    exact (partsOf_big A n c w h1 (by omega)).mono fun _ _ k => givesP_nil k
  · by_cases h2 : n < 3
    · rw [show dec l = (3, []) by unfold dec; rw [if_neg (by omega), if_pos (.inl (by omega))]]
      exact (partsOf_short A n c w h2).mono fun _ _ k => givesP_nil k
    · by_cases h3 : l.take 3 = [65, 77, 49]
      · obtain ⟨b, off, rfl, _⟩ := hr.2.2.2 (by simp; omega)
        have hd : dec l = if rErr (l.drop 3) ≠ 0 then (rErr (l.drop 3), []) else if 8 < rVal (l.drop 3) then (1, []) else rdTail (rVal (l.drop 3)) [] (rRest (l.drop 3)) := by
          unfold dec
          rw [if_neg (by omega), if_neg]
          rintro (q | q)
          · omega
          · exact q h3
        by_cases h4 : c = 3
        · subst h4
          have h0 : l.drop 3 = [] := List.drop_of_length_le (by omega)
          have R8 : rErr [] = 8 := (read_short (l := []) (by decide) rfl).1
          rw [hd, h0, R8, if_pos (by omega)]
          exact (partsOf_full b off n l w hr (by omega) h3).mono fun _ _ k => givesP_nil k
        · exact partsOf_in b off n c l w hr (by omega) (by omega) h3 h4 _ _ hd.symm
      · rw [show dec l = (3, []) by unfold dec; rw [if_neg (by omega), if_pos (.inr h3)]]
        exact (partsOf_form A n c l w hr (by omega) (by omega) h3).mono fun _ _ k => givesP_nil k
end Go.Proofs.Ytaaeihkbnfcolaa

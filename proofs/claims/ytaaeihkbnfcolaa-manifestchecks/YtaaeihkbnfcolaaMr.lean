/- Reading one part: the program's readPart; bytes.HasPrefix. -/
import Derived.Test.YtaaeihkbnfcolaaMa
import Derived.Test.YtaaeihkbnfcolaaPd
import Derived.Test.YtaaeihkbnfcolaaH2t
import Derived.Test.YtaaeihkbnfcolaaApf
import Derived.Laws.Rows
namespace Go.Proofs.Ytaaeihkbnfcolaa
open Go.RowKit
theorem results_cell_row3 {P : Program} {fn : Func} {p q r : Tmp} {ty : TypeId} (h : fn.results = #[.cell p ty, .tmp q, .tmp r]) (tmps : Array Value) (w : World) (g : Nat) (t : TypeId) (cs : Array Value) (fr : Nat × Nat) (d : TypeDesc)
    (hp : tmps.getD p undef = .pointer (some ⟨g, 0, none⟩)) (hg : w.heap[g]? = some (.cells cs t fr))
    (hu : P.underlying ty = some d) (hd : (match d with | .struct _ | .array _ _ => true | _ => false) = true) (hi : (P.info? ty).map (·.size) = some cs.size) :
    (results fn tmps).run P w = .ok (.tuple #[.agg cs, tmps.getD q undef, tmps.getD r undef]) w := by
  have hp' : tmps[p]?.getD undef = .pointer (some ⟨g, 0, none⟩) := by simpa using hp
  simp [results, h, hp', asAddr, run_loadVar_row w g t ty cs fr d hg hu hd hi]
/-- the error of one part's bytes; the part; what is behind it -/
def pe (r : List UInt8) : Int := if tErr r ≠ 0 then tErr r else if (tRest r).length < 32 then 8 else rErr ((tRest r).drop 32)
def pp (r : List UInt8) : Prt := if pe r = 0 then ⟨tStr r, hexT ((tRest r).take 32), (rVal ((tRest r).drop 32) : Int)⟩ else ⟨[], [], 0⟩
def pr (r : List UInt8) : List UInt8 := if pe r = 0 then rRest ((tRest r).drop 32) else []
theorem rdTail_pe (k : Nat) (acc : List Prt) (r : List UInt8) : rdTail (k + 1) acc r = if pe r ≠ 0 then (pe r, []) else rdTail k (acc ++ [pp r]) (pr r) := by
  rw [rdTail]
  by_cases h1 : tErr r = 0
  · rw [if_neg (by omega)]
    by_cases h2 : (tRest r).length < 32
    · have : pe r = 8 := by unfold pe; rw [if_neg (by omega), if_pos h2]
      rw [if_pos h2, this, if_pos (by omega)]
    · have : pe r = rErr ((tRest r).drop 32) := by unfold pe; rw [if_neg (by omega), if_neg h2]
      rw [if_neg h2, ← this]
      by_cases h3 : pe r = 0
      · rw [if_neg (by omega), if_neg (by omega)]
        unfold pp pr
        rw [if_pos h3, if_pos h3]
      · rw [if_pos h3, if_pos h3]
  · have : pe r = tErr r := by unfold pe; rw [if_pos h1]
    rw [if_pos h1, this, if_pos h1]
set_option maxHeartbeats 400000 in
theorem bequal_any (A B : Option Addr) (n c m d : Nat) (a b : List UInt8) (w : World) (hr : Rd w 1 A n c (a.map bv8)) (hs : Rd w 1 B m d (b.map bv8)) :
    Calls Try.prog 46 #[.slice A n c, .slice B m d] w fun e w' => e = .returned (.bool (a == b)) ∧ w = w' := by
  have k1 := run_bytes_str (P := Try.prog) Try.underlying27 Try.underlying5 Try.underlying9 hr.as
  have k2 := run_bytes_str (P := Try.prog) Try.underlying27 Try.underlying5 Try.underlying9 hs.as
  obtain rfl := hr.len
  obtain rfl := hs.len
  go_enter Try.func46, Try.ntmps46
  go_wp2
  go_ret
  exact ⟨rfl, rfl⟩
set_option maxHeartbeats 400000 in
theorem hasPrefix_short (A : Option Addr) (n c : Nat) (B : Option Addr) (w : World) (h : n < 3) :
    Calls Try.prog 35 #[.slice A n c, .slice B 3 3] w fun e w' => e = .returned (.bool false) ∧ w = w' := by
  have hd : decide ((3 : Int) ≤ (n : Int)) = false := by simp; omega
  go_enter Try.func35, Try.ntmps35
  go_wp2
  go_ret
  exact ⟨rfl, rfl⟩
set_option maxHeartbeats 400000 in
theorem hasPrefix_ok (A : Option Addr) (n c : Nat) (l : List UInt8) (B : Option Addr) (m : List UInt8) (w : World) (hr : Rd w 1 A n c (l.map bv8)) (hs : Rd w 1 B 3 3 (m.map bv8)) (h : 3 ≤ n) :
    Calls Try.prog 35 #[.slice A n c, .slice B 3 3] w fun e w' => e = .returned (.bool (l.take 3 == m)) ∧ w = w' := by
  have hd : decide ((3 : Int) ≤ (n : Int)) = true := by simp; omega
  have hcm := hr.2.1
  have hci : (3 : Int) ≤ (c : Int) := by omega
  have ht := hr.take 3 h
  rw [← List.map_take] at ht
  obtain ⟨res, hres⟩ : ∃ b : Bool, (l.take 3 == m) = b := ⟨_, rfl⟩
  have HRS := Lib.hid hres
  rw [HRS.out]
  clear hres
  go_enter Try.func35, Try.ntmps35
  go_wp2_with fail
  with_reducible refine (bequal_any _ _ _ _ _ _ _ _ _ ht hs).mono ?_
  rintro e w' ⟨rfl, rfl⟩
  rw [HRS.out]
  cases res
  all_goals
    go_wp2
    go_ret
    exact ⟨rfl, rfl⟩
/-- one part, bytes of the call's own and an error -/
def GivesR (p : Prt) (l : List UInt8) (err : Int) (w : World) (e : Ending) (w' : World) : Prop :=
  ∃ A n c, e = .returned (.tuple #[.agg #[.string (str p.nm), .string (str p.dg), .int .i64 p.sz], .slice A n c, .int .i64 err]) ∧ Rd w' 1 A n c (l.map bv8) ∧ Below w.heap.size w w'
theorem part_size : (Try.prog.info? 39).map (·.size) = some 3 := by kernel_rfl
theorem Blk.put3 {w : World} {g : Nat} {t : TypeId} {x y z : Value} (h : Blk w g t [x, y, z]) (a b c : Value) : Blk (((w.setCell ⟨g, 0, none⟩ a).setCell ⟨g, 1, none⟩ b).setCell ⟨g, 2, none⟩ c) g t [a, b, c] := by
  simpa using ((h.put 0 a).put 1 b).put 2 c
theorem below_set3 {w w1 : World} {g i j k : Nat} (h : Below w.heap.size w w1) (hg : w.heap.size ≤ g) (a b c : Value) : Below w.heap.size w (((w1.setCell ⟨g, i, none⟩ a).setCell ⟨g, j, none⟩ b).setCell ⟨g, k, none⟩ c) :=
  ((h.setCell (p := ⟨g, i, none⟩) hg a).setCell (p := ⟨g, j, none⟩) hg b).setCell (p := ⟨g, k, none⟩) hg c
theorem pe_text {l : List UInt8} (h : tErr l ≠ 0) : pe l = tErr l := if_pos h
theorem pe_short {l : List UInt8} (h : tErr l = 0) (h2 : (tRest l).length < 32) : pe l = 8 := by unfold pe; rw [if_neg (by omega), if_pos h2]
theorem pe_rest {l : List UInt8} (h : tErr l = 0) (h2 : ¬ (tRest l).length < 32) : pe l = rErr ((tRest l).drop 32) := by unfold pe; rw [if_neg (by omega), if_neg h2]
theorem gives_no {l : List UInt8} {er : Int} {w w' : World} {e : Ending} (he : pe l = er) (hne : er ≠ 0) (hb : Below w.heap.size w w') (h : e = .returned (.tuple #[.agg #[.string ⟨#[]⟩, .string ⟨#[]⟩, .int .i64 0], .slice none 0 0, .int .i64 er])) : GivesR (pp l) (pr l) (pe l) w e w' := by
  subst he
  have e1 : pp l = ⟨[], [], 0⟩ := if_neg hne
  have e2 : pr l = [] := if_neg hne
  rw [e1, e2]
  exact ⟨none, 0, 0, h, Rd.nil _ _, hb⟩
set_option maxRecDepth 100000 in
set_option maxHeartbeats 1000000 in
theorem readPart_any (A : Option Addr) (n c : Nat) (l : List UInt8) (w : World) (hr : Rd w 1 A n c (l.map bv8)) (hz : n ≤ 2000) :
    Calls Try.prog 48 #[.slice A n c] w (GivesR (pp l) (pr l) (pe l) w) := by
  have hal := (Below.refl w.heap.size w).alloc (Nat.le_refl _) (.cells #[.string ⟨#[]⟩, .string ⟨#[]⟩, .int .i64 0] 39)
  have hbk := Blk.new w 39 [.string ⟨#[]⟩, .string ⟨#[]⟩, .int .i64 0]
  have HL := Lib.hid hr.len
  go_enter Try.func48, Try.ntmps48
  go_wp2_with fail
  with_reducible refine (readText_any _ _ _ _ _ (hr.below hal) (by omega)).mono ?_
  rintro e w1 ⟨A1, n1, c1, rfl, hr1, hA1, hn1, hF1, hb1⟩
  have hbk1 := hbk.below hb1 hbk.lt
  have hbA := hal.trans (hb1.mono (by simp))
  have e0 := hbk1.cell 0
  have e1 := hbk1.cell 1
  have e2 := hbk1.cell 2
  have f0 := hbk1.frozen 0
  have f1 := hbk1.frozen 1
  have f2 := hbk1.frozen 2
  simp only [List.getElem?_cons_succ, List.getElem?_cons_zero] at e0 e1 e2
  clear hbk hal hb1 hF1 hr
  by_cases he : tErr l = 0
  · have hd : (tErr l != 0) = false := by rw [bne_eq_false_iff_eq]; exact he
    have HE := Lib.hid he
    have HNL := Lib.hid hr1.len
    have HTL := Lib.hid (tRest_le l)
    clear he
    by_cases hs : n1 < 32
    · have s1 : decide ((n1 : Int) < 32) = true := by simp; omega
      go_wp2
      refine bodyPost_ret (results_cell_row3 rfl _ _ w.heap.size 39 _ (0, 0) _ rfl (hbk1.put3 _ _ _) Try.underlying39 rfl part_size) rfl ?_
      exact gives_no (pe_short HE.out (by have := HNL.out; omega)) (by omega) (below_set3 hbA (Nat.le_refl _) _ _ _) rfl
    · have s1 : decide ((n1 : Int) < 32) = false := by simp; omega
      have hrt := hr1.take 32 (by omega)
      rw [← List.map_take] at hrt
      have hc2 := hr1.2.1
      have hi2 : (32 : Int) ≤ (c1 : Int) := by omega
      have hi3 : (32 : Int) ≤ (n1 : Int) := by omega
      obtain ⟨b2, o2, rfl, _⟩ := hr1.2.2.2 (by rw [List.length_map]; have := HNL.out; omega)
      go_wp2_with fail
      with_reducible refine (text_any _ _ _ _ _ hrt (by omega)).mono ?_
      rintro e w3 ⟨rfl, hb3⟩
      have hbk3 := hbk1.below hb3 hbk1.lt
      have hbB := below_step hbA hb3
      have hr3 := hr1.below hb3
      clear e0 e1 e2 f0 f1 f2 hbk1 hbA hb3 hr1 hrt
      by_cases hc32 : c1 = 32
      · obtain rfl : n1 = 32 := by omega
        subst hc32
        have hr4 : Rd w3 1 (some ⟨b2, o2, none⟩) 0 0 (([] : List UInt8).map bv8) := Rd.none0 _ _ 0 (by unfold maxLen; omega)
        have hd32 : (tRest l).drop 32 = [] := List.drop_of_length_le (by have := HNL.out; omega)
        have R8 : rErr [] = 8 := (read_short (l := []) (by decide) rfl).1
        have HP : Hid (pe l = 8) := by show _ = _; rw [pe_rest HE.out (by have := HNL.out; omega), hd32, R8]
        clear hd32
        go_wp2_with fail
        with_reducible refine (readNumber_any _ _ _ _ _ hr4 (by omega)).mono ?_
        rintro e w4 ⟨A4, n4, c4, rfl, hr5, hA4, hn4, hF4, hb4⟩
        rw [R8]
        have hbk4 := hbk3.below hb4 hbk3.lt
        have hbC := below_step hbB hb4
        have e0 := hbk4.cell 0
        have e1 := hbk4.cell 1
        have e2 := hbk4.cell 2
        have f0 := hbk4.frozen 0
        have f1 := hbk4.frozen 1
        have f2 := hbk4.frozen 2
        simp only [List.getElem?_cons_succ, List.getElem?_cons_zero] at e0 e1 e2
        clear hbk3 hbB hb4
        go_wp2
        refine bodyPost_ret (results_cell_row3 rfl _ _ w.heap.size 39 _ (0, 0) _ rfl (hbk4.put3 _ _ _) Try.underlying39 rfl part_size) rfl ?_
        exact gives_no HP.out (by omega) (below_set3 hbC (Nat.le_refl _) _ _ _) rfl
      · have hr4 := hr3.drop 32 (by omega)
        rw [← List.map_drop] at hr4
        have HP : Hid (pe l = rErr ((tRest l).drop 32)) := pe_rest HE.out (by have := HNL.out; omega)
        obtain ⟨r4, hr4e⟩ : ∃ r4, (tRest l).drop 32 = r4 := ⟨_, rfl⟩
        have HR4 := Lib.hid hr4e
        rw [HR4.out] at HP hr4
        clear hr4e
        go_wp2_with fail
        with_reducible refine (readNumber_any _ _ _ _ _ hr4 (by omega)).mono ?_
        rintro e w4 ⟨A4, n4, c4, rfl, hr5, hA4, hn4, hF4, hb4⟩
        have hbk4 := hbk3.below hb4 hbk3.lt
        have hbC := below_step hbB hb4
        have e0 := hbk4.cell 0
        have e1 := hbk4.cell 1
        have e2 := hbk4.cell 2
        have f0 := hbk4.frozen 0
        have f1 := hbk4.frozen 1
        have f2 := hbk4.frozen 2
        simp only [List.getElem?_cons_succ, List.getElem?_cons_zero] at e0 e1 e2
        have HXX : Hid (∀ v ∈ [Value.string ⟨#[]⟩, .string ⟨#[]⟩, .int .i64 0], ∀ y, v ≠ bv8 y) := by
          intro v hv y
          simp only [List.mem_cons, List.not_mem_nil, or_false] at hv
          rcases hv with rfl | rfl | rfl <;> simp [bv8]
        clear hbk3 hbB hb4 hr4 hr3
        by_cases he4 : rErr r4 = 0
        · have t4 : (rErr r4 != 0) = false := by rw [bne_eq_false_iff_eq]; exact he4
          have HP0 : Hid (pe l = 0) := HP.out.trans he4
          have HPP : Hid (pp l = ⟨tStr l, hexT ((tRest l).take 32), (rVal r4 : Int)⟩) := by show _ = _; rw [← HR4.out]; exact if_pos HP0.out
          have HPR : Hid (pr l = rRest r4) := by show _ = _; rw [← HR4.out]; exact if_pos HP0.out
          clear he4
          go_wp2
          refine bodyPost_ret (results_cell_row3 rfl _ _ w.heap.size 39 _ (0, 0) _ rfl (hbk4.put3 _ _ _) Try.underlying39 rfl part_size) rfl ?_
          rw [HPP.out, HPR.out, HP0.out]
          have q1 := hr5.put_other hbk4 HXX.out 0 (.string (str (tStr l)))
          have k1 := hbk4.put 0 (.string (str (tStr l)))
          have q2 := q1.put_other k1 (fun v hv y => by simp only [List.set_cons_zero, List.mem_cons, List.not_mem_nil, or_false] at hv; rcases hv with rfl | rfl | rfl <;> simp [bv8]) 1 (.string (str (hexT ((tRest l).take 32))))
          have k2 := k1.put 1 (.string (str (hexT ((tRest l).take 32))))
          have q3 := q2.put_other k2 (fun v hv y => by simp only [List.set_cons_succ, List.set_cons_zero, List.mem_cons, List.not_mem_nil, or_false] at hv; rcases hv with rfl | rfl | rfl <;> simp [bv8]) 2 (.int .i64 (rVal r4 : Int))
          exact ⟨_, _, _, rfl, q3, below_set3 hbC (Nat.le_refl _) _ _ _⟩
        · have t4 : (rErr r4 != 0) = true := by rw [bne_iff_ne]; exact he4
          have HE4 := Lib.hid he4
          clear he4
          go_wp2
          refine bodyPost_ret (results_cell_row3 rfl _ _ w.heap.size 39 _ (0, 0) _ rfl (hbk4.put3 _ _ _) Try.underlying39 rfl part_size) rfl ?_
          exact gives_no HP.out HE4.out (below_set3 hbC (Nat.le_refl _) _ _ _) rfl
  · have hd : (tErr l != 0) = true := by rw [bne_iff_ne]; exact he
    have HE := Lib.hid he
    clear he
    go_wp2
    refine bodyPost_ret (results_cell_row3 rfl _ _ w.heap.size 39 _ (0, 0) _ rfl (hbk1.put3 _ _ _) Try.underlying39 rfl part_size) rfl ?_
    exact gives_no (pe_text HE.out) HE.out (below_set3 hbA (Nat.le_refl _) _ _ _) rfl
end Go.Proofs.Ytaaeihkbnfcolaa

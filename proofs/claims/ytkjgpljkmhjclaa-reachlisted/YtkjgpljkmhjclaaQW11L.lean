/- The law ReachListed: the walk. -/
import Derived.Test.YtkjgpljkmhjclaaGRD
import Derived.Test.YtkjgpljkmhjclaaGH
import Derived.Test.YtkjgpljkmhjclaaGF
import Derived.Test.YtkjgpljkmhjclaaGO
import Derived.Test.YtkjgpljkmhjclaaGG
import Derived.Test.YtkjgpljkmhjclaaGG
import Derived.Test.YtkjgpljkmhjclaaGV
import Derived.BigQuiet
namespace Go.Proofs.Ytkjgpljkmhjclaa
open Go.RowKit
theorem pIn_man {ps : List Prt} (h : psErr ps = 0) : pIn (man ps) = ps.map Prt.dg := by
  have := dec_man h [] (by simp)
  rw [List.append_nil] at this
  unfold pIn
  rw [this]; rfl
theorem pIn_no (t : List UInt8) : pIn ([110, 111] ++ t) = [] := by
  have h : dec ([110, 111] ++ t) = (1, []) ∨ dec ([110, 111] ++ t) = (3, []) := by
    unfold dec
    split
    · exact .inl rfl
    · refine .inr (if_pos (.inr fun q => ?_))
      cases t <;> simp at q
  unfold pIn
  rcases h with h | h <;> rw [h] <;> rfl
/-- the part a, of the digest of nothing -/
def oneP : Prt := ⟨[97], dig [], 0⟩
theorem oneP_ok : psErr [oneP] = 0 := by
  have h1 : nmErr [97] = 0 := by decide +kernel
  have h2 : nle [97] [] = false := by decide +kernel
  show (if 8 < [oneP].length then 1 else pErr [] [oneP]) = 0
  simp [pErr, oneP, h1, h2, cErr_dig]
theorem one_rd (W : World) : Rd (W.alloc (.cells #[.string ⟨#[97]⟩, .string (str (dig [])), .int .i64 0] 44)) 3 (some ⟨W.heap.size, 0, none⟩) 1 1 (pcs [oneP]) :=
  (Blk.new W 44 (pcs [oneP])).rd (Nat.le_refl _) (by unfold maxLen; omega) (by rw [pcs_length]; exact Nat.le_refl _)
theorem raw_cells (q : Rw) (w : World) : Blk (w.alloc (.cells #[.int .i64 q.kd, .int .i64 q.ra, .int .i64 q.rb, .string (str q.tx)] 39)) w.heap.size 39 [.int .i64 q.kd, .int .i64 q.ra, .int .i64 q.rb, .string (str q.tx)] := Blk.new w _ _
set_option maxRecDepth 100000 in
set_option maxHeartbeats 4000000 in
theorem reachListed_walk (A : Option Addr) (n c : Nat) (l : List Rw) (q : Rw) (w : World) (hr : Rd w 4 A n c (rcs l)) (hg : ∀ p ∈ l, p.good) (hn : n ≤ 4294967296000) (hq : q.good) :
    Calls Try.prog 6 #[.slice A n c, .agg #[.int .i64 q.kd, .int .i64 q.ra, .int .i64 q.rb, .string (str q.tx)]] w fun e w' => e = .returned (.bool true) ∧ Below w.heap.size w w' := by
  obtain ⟨i0, hi0, hz0, hz1, hz2⟩ := info_parts u8_info
  have HP : ∀ (W : World) (A : Option Addr) (n c : Nat) (l : List UInt8), Rd W 1 A n c (l.map bv8) → Hid (Calls Try.prog 7 #[.agg #[.string ⟨#[]⟩, .slice A n c, .int .i64 0, .bool false]] W (GivesTx (pIn l) W)) := fun W A n c l h => rparts_any ⟨[], l, 0, false⟩ A n c W h
  have hps := listedP_ok l
  have hfine := (psErr_zero hps).2
  have h8 : (listedP l).length ≤ 8 := by rw [listedP_length]; omega
  have hpm := pIn_man hps
  have hal := (Below.refl w.heap.size w).alloc (Nat.le_refl _) (.cells #[.int .i64 q.kd, .int .i64 q.ra, .int .i64 q.rb, .string (str q.tx)] 39)
  have hbk := raw_cells q w
  have H1 := Lib.hid (listed_any A n c l _ (hr.below hal) hg hn)
  have htx := hq.2.2.2
  obtain ⟨kd, ra, rb, tx⟩ := q
  simp only at hal hbk H1 htx
  clear hr hg hq
  obtain ⟨ps, hpe⟩ : ∃ ps, listedP l = ps := ⟨_, rfl⟩
  rw [hpe] at hps hfine h8 hpm H1
  clear hpe
  have HPM := Lib.hid hpm
  have HF := Lib.hid hfine
  clear hpm hfine hps
  go_enter Try.func6, Try.ntmps6
  go_wp2_with fail
  with_reducible refine H1.out.mono ?_
  rintro e w2 ⟨v2, rfl, hown2, hb2⟩
  obtain ⟨A2, c2, rfl, hr2, hA2, -⟩ := own_rdK hown2
  have hbk2 := hbk.below hb2 hbk.lt
  have hbA := below_step hal hb2
  have H2 := Lib.hid (kmanifest_ok A2 _ c2 ps w2 hr2 h8 HF.out)
  clear hown2 hal hb2 hbk H1
  go_wp2_with fail
  with_reducible refine H2.out.mono ?_
  rintro e w3 ⟨v3, rfl, hown3, hb3⟩
  obtain ⟨A3, c3, rfl, hr3, -, -⟩ := own_rdK hown3
  have hbk3 := hbk2.below hb3 hbk2.lt
  have hbB := below_step hbA hb3
  have hr2' := hr2.below hb3
  have H3 := HP w3 A3 _ c3 (man ps) hr3
  clear hown3 hbA hb3 hbk2 H2 hr2 hr3
  go_wp2_with fail
  with_reducible refine H3.out.mono ?_
  rintro e w4 h4
  obtain ⟨A4, c4, rfl, hr4, -, -, hb4⟩ := h4.rd
  rw [HPM.out] at hr4 ⊢
  have hll : (ps.map Prt.dg).length = ps.length := List.length_map _
  rw [hll] at hr4 ⊢
  have hbk4 := hbk3.below hb4 hbk3.lt
  have hbC := below_step hbB hb4
  have hr5 := hr2'.below hb4
  clear h4 hbB hb4 hbk3 H3 hr2' hll
  have hne : ((ps.length : Int) != (ps.length : Int)) = false := by rw [bne_eq_false_iff_eq]
  go_wp2
  go_loopw [24] (fun i wr => ∃ k nn : Nat, k ≤ ps.length ∧ i = .int .i64 k ∧ wr = w4.drewN nn) (fun i _ => ps.length - (intOf i).toNat)
  case atStart => exact ⟨0, 0, Nat.zero_le _, rfl, rfl⟩
  case round =>
    obtain ⟨k, nn, hk, rfl, rfl⟩ := hrel
    by_cases hlt : k < ps.length
    · obtain ⟨b2, off, rfl, c0, c1', c2'⟩ := hr5.part hlt
      obtain ⟨b4, off4, rfl, d0⟩ := hr4.text (k := k) (by rw [List.length_map]; exact hlt)
      have hki : (k : Int) < (ps.length : Int) := by omega
      rw [List.getElem_map] at d0
      have hcm := hr5.2.1
      have hcm4 := hr4.2.1
      generalize ps[k] = x at *
      have d1 : (x.dg == x.dg) = true := by simp
      clear hr4 hr5
      go_wp2
      go_quiet (fail)
      go_wp2
      go_roundw
      case rel => exact ⟨k + 1, nn + nq, by omega, by go_num, by first | rfl | exact World.drewN_drewN _ _ _⟩
      case measure => simp [intOf] <;> omega
    · have hd2 : decide ((k : Int) < (ps.length : Int)) = false := by rw [decide_eq_false_iff_not]; omega
      have hbk5 := hbk4.drewN nn
      have hbD := below_drewN hbC nn
      generalize w4.drewN nn = w5 at *
      have H6 := Lib.hid (digest_ok none 0 0 [] w5 (Rd.nil _ _) (by omega))
      clear hr4 hr5 hbk4 hbC
      go_wp2_with fail
      with_reducible refine H6.out.mono ?_
      rintro e w6 ⟨rfl, hb6⟩
      have hbE := below_step hbD hb6
      have hbk6 := hbk5.below hb6 hbk5.lt
      clear hbD hb6 hbk5 H6
      have hal6 := (Below.refl w6.heap.size w6).alloc (Nat.le_refl _) (.cells #[.string ⟨#[97]⟩, .string (str (dig [])), .int .i64 0] 44)
      have H7 := Lib.hid (kmanifest_ok (some ⟨w6.heap.size, 0, none⟩) 1 1 [oneP] _ (one_rd w6) (by simp) (psErr_zero oneP_ok).2)
      have hbk6' := hbk6.below hal6 hbk6.lt
      have hbF := below_step hbE hal6
      clear hbE hal6 hbk6
      go_wp2_with fail
      with_reducible refine H7.out.mono ?_
      rintro e w7 ⟨v7, rfl, hown7, hb7⟩
      obtain ⟨A7, c7, rfl, hr7, -, -⟩ := own_rdK hown7
      have hbk7 := hbk6'.below hb7 hbk6'.lt
      have hbG := below_step hbF hb7
      have H8 := HP w7 A7 _ c7 (man [oneP]) hr7
      rw [pIn_man oneP_ok] at H8
      clear hown7 hbF hb7 hbk6' H7 hr7
      go_wp2_with fail
      with_reducible refine H8.out.mono ?_
      rintro e w8 h8'
      obtain ⟨A8, c8, rfl, hr8, -, -, hb8⟩ := h8'.rd
      have hbk8 := hbk7.below hb8 hbk7.lt
      have hbH := below_step hbG hb8
      have hl1 : ([oneP].map Prt.dg).length = 1 := rfl
      rw [hl1]
      clear h8' hr8 hbG hb8 hbk7 H8 hl1
      have kc := head_run
      have hal8 := (Below.refl w8.heap.size w8).alloc (Nat.le_refl _) (.cells #[.int .u8 110, .int .u8 111] 5 (2, 3))
      have hroom : Room (w8.alloc (.cells #[.int .u8 110, .int .u8 111] 5 (2, 3))) w8.heap.size (some ⟨w8.heap.size, 0, none⟩) 2 2 [110, 111] := const_room w8 _ [110, 111] (by simp)
      have hbk9 := hbk8.below hal8 hbk8.lt
      have e3 := hbk9.cell 3
      simp only [List.getElem?_cons_succ, List.getElem?_cons_zero] at e3
      have hbI := below_step hbH hal8
      have hbI0 := hbH.size
      clear hbH hbk8 hbk9
      go_wp2_with (at_builtin; refine wpList_append_byW (.tmp 49) (.tmp 51) _ _ rfl (by simp [Region.wanted, yielded]) Try.underlying22 hi0 hz0 hz1 hz2 rfl hroom _ rfl (src_str Try.underlying9 tx) hal8.size (by omega) ?_; rintro A9 c9 w9 ⟨hr9, -, -, hb9⟩)
      have hbJ := hbI.trans (hb9.mono hbI0)
      have H9 := HP w9 A9 _ c9 ([110, 111] ++ tx) hr9
      rw [pIn_no] at H9
      clear hr9 hb9 hbI hroom e3 kc HP
      go_wp2_with fail
      with_reducible refine H9.out.mono ?_
      rintro e w10 h10
      obtain ⟨A10, c10, rfl, hr10, -, -, hb10⟩ := h10.rd
      have hbK := below_step hbJ hb10
      clear h10 hr10 hb10 hbJ H9
      simp only [List.length_nil]
      go_wp2
      go_ret
      exact ⟨by simp, hbK⟩
end Go.Proofs.Ytkjgpljkmhjclaa

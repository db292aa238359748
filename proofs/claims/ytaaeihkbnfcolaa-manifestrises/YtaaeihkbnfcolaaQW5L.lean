/- The law ManifestLong: the walk. -/
import Derived.Test.YtaaeihkbnfcolaaQW5T
import Derived.Deep.QuietTactic
import Derived.BigQuiet
namespace Go.Proofs.Ytaaeihkbnfcolaa
open Go.RowKit
theorem pcs_take : ∀ (l : List Prt) (k : Nat), (pcs l).take (k * 3) = pcs (l.take k)
  | _, 0 => by simp [pcs]
  | [], k + 1 => by simp [pcs]
  | p :: l, k + 1 => by rw [pcs_cons, show (k + 1) * 3 = k * 3 + 1 + 1 + 1 from by omega, List.take_succ_cons, List.take_succ_cons, List.take_succ_cons, pcs_take l k, List.take_succ_cons, pcs_cons]
theorem pcs_drop : ∀ (l : List Prt) (k : Nat), (pcs l).drop (k * 3) = pcs (l.drop k)
  | _, 0 => by simp
  | [], k + 1 => by simp [pcs]
  | p :: l, k + 1 => by rw [pcs_cons, show (k + 1) * 3 = k * 3 + 1 + 1 + 1 from by omega, List.drop_succ_cons, List.drop_succ_cons, List.drop_succ_cons, pcs_drop l k, List.drop_succ_cons]
theorem Rd.take3 {w : World} {A : Option Addr} {n c : Nat} {l : List Prt} (h : Rd w 3 A n c (pcs l)) (k : Nat) (hk : k ≤ n) : Rd w 3 A k c (pcs (l.take k)) := by
  obtain ⟨h1, h2, h3, h4⟩ := h
  refine ⟨by rw [pcs_length, List.length_take]; rw [pcs_length] at h1; omega, by omega, h3, fun hp => ?_⟩
  rw [← pcs_take] at hp ⊢
  obtain ⟨b, off, e, hc⟩ := h4 (by rw [List.length_take] at hp; omega)
  refine ⟨b, off, e, fun j v hv => hc j v ?_⟩
  rw [List.getElem?_take] at hv
  split at hv
  · exact hv
  · cases hv
theorem Rd.drop3 {w : World} {b off n c : Nat} {l : List Prt} (h : Rd w 3 (some ⟨b, off, none⟩) n c (pcs l)) (k : Nat) (hk : k ≤ n) : Rd w 3 (some ⟨b, off + k * 3, none⟩) (n - k) (c - k) (pcs (l.drop k)) := by
  obtain ⟨h1, h2, h3, h4⟩ := h
  refine ⟨by rw [pcs_length, List.length_drop]; rw [pcs_length] at h1; omega, by omega, by omega, fun hp => ⟨b, off + k * 3, rfl, fun j v hv => ?_⟩⟩
  rw [← pcs_drop] at hp hv
  obtain ⟨b', off', e, hc⟩ := h4 (by rw [List.length_drop] at hp; omega)
  injection e with e
  injection e with e1 e2
  subst e1; subst e2
  rw [List.getElem?_drop] at hv
  have := hc _ _ hv
  rwa [← Nat.add_assoc] at this
theorem lst_take : ∀ (i : Nat) (l : List Rw) (k : Nat), (lst i l).take k = lst i (l.take k)
  | _, [], k => by simp [lst]
  | _, _ :: _, 0 => by simp [lst]
  | i, r :: t, k + 1 => by rw [lst, List.take_succ_cons, lst_take (i + 1) t k, List.take_succ_cons, lst]
theorem lst_drop : ∀ (i : Nat) (l : List Rw) (k : Nat), (lst i l).drop k = lst (i + k) (l.drop k)
  | _, [], k => by simp [lst]
  | _, _ :: _, 0 => by simp
  | i, r :: t, k + 1 => by rw [lst, List.drop_succ_cons, lst_drop (i + 1) t k, List.drop_succ_cons, show i + 1 + k = i + (k + 1) from by omega]
theorem listedP_take (l : List Rw) (k : Nat) : psErr ((listedP l).take k) = 0 := by
  unfold psErr
  rw [if_neg (by rw [List.length_take, listedP_length]; omega)]
  unfold listedP
  rw [lst_take]
  exact lst_pErr _ 0 [] (by rw [List.length_take, List.length_take]; omega) (.inl rfl)
theorem listedP_drop (l : List Rw) (k : Nat) (hk : k ≤ (listedP l).length) : psErr ((listedP l).drop k) = 0 := by
  rw [listedP_length] at hk
  unfold psErr
  rw [if_neg (by rw [List.length_drop, listedP_length]; omega)]
  unfold listedP
  rw [lst_drop]
  exact lst_pErr _ _ [] (by rw [List.length_drop, List.length_take]; omega) (.inl rfl)
theorem man_drop4 {l : List Prt} (h : psErr l = 0) : (man l).drop 4 = mBs l := by
  rw [man_eq (psErr_zero h).1]; rfl
theorem man_len4 {l : List Prt} (h : psErr l = 0) : (man l).length = 4 + (mBs l).length := by
  rw [man_eq (psErr_zero h).1, List.length_append]; rfl
/-- bytes cut off behind the fourth, and what they say as a text -/
theorem cut4 {A : Option Addr} {n c : Nat} {m : List UInt8} {W : World} (hr : Rd W 1 A n c (m.map bv8)) (h4 : 4 ≤ n) :
    ∃ b off, A = some ⟨b, off, none⟩ ∧ (c = 4 ∨ ¬ c = 4) ∧ (c = 4 → n = 4) ∧ Hid (∀ nn : Nat, (convert 27 9 (.slice (if c = 4 then some ⟨b, off, none⟩ else some ⟨b, off + 4, none⟩) (n - 4) (c - 4))).run Try.prog (W.drewN nn) = .ok (.string (str (m.drop 4))) (W.drewN nn)) := by
  obtain ⟨b, off, rfl, _⟩ := hr.2.2.2 (by rw [List.length_map, ← hr.len]; omega)
  have hcm := hr.2.1
  have hl := hr.len
  refine ⟨b, off, rfl, Classical.em _, fun q => by omega, fun nn => ?_⟩
  by_cases hc : c = 4
  · have hn : n = 4 := by omega
    have hd : m.drop 4 = [] := List.drop_of_length_le (by omega)
    rw [if_pos hc, hd, hn, hc]
    exact run_bytes_str (P := Try.prog) Try.underlying27 Try.underlying5 Try.underlying9 (l := []) (Rd.none0 _ _ 0 (by unfold maxLen; omega))
  · rw [if_neg hc]
    have h := hr.drop 4 h4
    rw [← List.map_drop] at h
    have e : (m.drop 4).length = n - 4 := by rw [List.length_drop, ← hl]
    have k := run_bytes_str (P := Try.prog) Try.underlying27 Try.underlying5 Try.underlying9 (h.drewN nn).as
    rw [e] at k
    exact k
set_option maxRecDepth 100000 in
set_option maxHeartbeats 4000000 in
theorem manifestLong_walk (A : Option Addr) (n c : Nat) (l : List Rw) (q : Int) (hq : (Lit.int .i64 q).wf = true) (w : World) (hr : Rd w 4 A n c (rcs l)) (hg : ∀ p ∈ l, p.good) (hn : n ≤ 4294967296000) :
    Calls Try.prog 10 #[.slice A n c, .int .i64 q] w fun e w' => e = .returned (.bool true) ∧ Below w.heap.size w w' := by
  obtain ⟨q1, q2⟩ := i64_range hq
  have HG := Lib.hid hg
  obtain ⟨ps, hps⟩ : ∃ ps, listedP l = ps := ⟨_, rfl⟩
  have h0 := listedP_ok l
  have hgood := listedP_good l
  have htk := listedP_take l
  have hdr := listedP_drop l
  have hpl := listedP_length l
  rw [hps] at h0 hgood hdr hpl
  simp only [hps] at htk
  obtain ⟨N, hN⟩ : ∃ N, ps.length = N := ⟨_, rfl⟩
  have hN8 : N ≤ 8 := by omega
  obtain ⟨k, hk, hk2⟩ := pk_nat q ((N : Int) + 1) (by omega)
  have hkN : k ≤ N := by omega
  have HK := Lib.hid hk
  have HA0 := Lib.hid (htk k)
  have HB0 := Lib.hid (hdr k (by omega))
  have HC0 := Lib.hid h0
  have HGA : Hid (∀ p ∈ ps.take k, p.good) := fun p hp => hgood p (List.mem_of_mem_take hp)
  have HGB : Hid (∀ p ∈ ps.drop k, p.good) := fun p hp => hgood p (List.mem_of_mem_drop hp)
  have HGC := Lib.hid hgood
  have HPS := Lib.hid hps
  have HN := Lib.hid hN
  have HM : Hid (mBs ps = mBs (ps.take k) ++ mBs (ps.drop k)) := by show _ = _; rw [← mBs_append, List.take_append_drop]
  clear hg hps h0 hgood htk hdr hpl hN hk hq
  go_enter Try.func10, Try.ntmps10
  go_wp2_with fail
  with_reducible refine (listed_any _ _ _ _ _ hr HG.out hn).mono ?_
  rw [HPS.out, HN.out]
  rintro e w1 ⟨v1, rfl, hown1, hb1⟩
  obtain ⟨A1, c1, rfl, hr1, hA1⟩ := own_rd3 hown1
  have hc1 := hr1.2.1
  have hform : A1 = none ∨ ∃ g, A1 = some ⟨g, 0, none⟩ := by
    rcases hown1.2 with ⟨e1, _⟩ | ⟨g, cap, cur, e1, _⟩
    · injection e1 with e1; exact .inl e1
    · injection e1 with e1; exact .inr ⟨g, e1⟩
  have hki : (k : Int) ≤ (c1 : Int) := by omega
  have hkn : (k : Int) ≤ (N : Int) := by omega
  have hrt := hr1.take3 k hkN
  clear hown1
  go_wp2_with fail
  with_reducible refine (picked_nat q ((N : Int) + 1) k _ q1 q2 (by omega) (by omega) HK.out).mono ?_
  rintro e w' ⟨rfl, rfl⟩
  go_wp2_with fail
  with_reducible refine (mencode_ok _ _ _ _ _ hrt HGA.out HA0.out).mono ?_
  rintro e w2 ⟨Aa, na, ca, rfl, hra, hb2⟩
  obtain ⟨A9, hcut, hrd⟩ : ∃ A9, (c1 = k ∧ A9 = A1 ∨ ¬ c1 = k ∧ ∃ g, A1 = some ⟨g, 0, none⟩ ∧ A9 = some ⟨g, 0 + k * 3, none⟩) ∧ Rd w2 3 A9 (N - k) (c1 - k) (pcs (ps.drop k)) := by
    by_cases hck : c1 = k
    · refine ⟨A1, .inl ⟨hck, rfl⟩, ?_⟩
      have h9 : ps.drop k = [] := List.drop_of_length_le (by have := HN.out; omega)
      rw [h9, show N - k = 0 from by omega, show c1 - k = 0 from by omega]
      exact ⟨rfl, Nat.le_refl _, by unfold maxLen; omega, fun h => absurd h (by simp [pcs])⟩
    · rcases hform with rfl | ⟨g, rfl⟩
      · have := hA1 rfl; omega
      · exact ⟨_, .inr ⟨hck, g, rfl, rfl⟩, (hr1.below hb2).drop3 k hkN⟩
  have HR9 := Lib.hid hrd
  clear hrd hform
  rcases hcut with ⟨hck, rfl⟩ | ⟨hck, g, rfl, rfl⟩
  · subst hck
    rw [Nat.sub_self, show N - c1 = 0 from by omega] at HR9
    go_wp2_with fail
    with_reducible refine (mencode_ok _ _ _ _ _ HR9.out HGB.out HB0.out).mono ?_
    rintro e w3 ⟨Ab, nb, cb, rfl, hrb, hb3⟩
    go_wp2_with fail
    with_reducible refine (mencode_ok _ _ _ _ _ ((hr1.below hb2).below hb3) HGC.out HC0.out).mono ?_
    rintro e w4 ⟨Ac, nc, cc, rfl, hrc, hb4⟩
    have la := hra.len
    have lb := hrb.len
    have lc := hrc.len
    rw [man_len4 HA0.out] at la
    rw [man_len4 HB0.out] at lb
    rw [man_len4 HC0.out, HM.out, List.length_append] at lc
    have ua := man_length HA0.out
    have ub := man_length HB0.out
    rw [man_len4 HA0.out] at ua
    rw [man_len4 HB0.out] at ub
    obtain ⟨ba, oa, rfl, ea, fa, za⟩ := cut4 ((hra.below hb3).below hb4) (by omega)
    obtain ⟨bb, ob, rfl, eb, fb, zb⟩ := cut4 (hrb.below hb4) (by omega)
    obtain ⟨bc, oc, rfl, ec, fc, zc⟩ := cut4 hrc (by omega)
    rw [man_drop4 HA0.out] at za
    rw [man_drop4 HB0.out] at zb
    rw [man_drop4 HC0.out, HM.out] at zc
    have hbZ := below_step (below_step (below_step hb1 hb2) hb3) hb4
    have a4 : (4 : Int) ≤ (na : Int) := by omega
    have b4 : (4 : Int) ≤ (nb : Int) := by omega
    have c4 : (4 : Int) ≤ (nc : Int) := by omega
    have d4 : decide ((4 : Int) ≤ (na : Int)) = true := by simpa using a4
    have s1 : IntKind.i64.wrap ((na : Int) + (nb : Int)) = (na : Int) + (nb : Int) := IntWalk.i64_in _ (by omega)
    have s2 : IntKind.i64.wrap ((na : Int) + (nb : Int) - 4) = (na : Int) + (nb : Int) - 4 := IntWalk.i64_in _ (by omega)
    have s3 : ((nc : Int) == (na : Int) + (nb : Int) - 4) = true := by rw [beq_iff_eq]; omega
    have t1 : na ≤ 500 := by omega
    have t2 : nb ≤ 500 := by omega
    have t3 : nc ≤ 1000 := by omega
    have ha' : (mBs (ps.take c1)).length ≤ 500 := by omega
    have hb' : (mBs (ps.drop c1)).length ≤ 500 := by omega
    clear hra hrb hrc HM HA0 HB0 HC0 HR9 la lb lc ua ub fa fb fc
    generalize mBs (ps.take c1) = Ma at *
    generalize mBs (ps.drop c1) = Mb at *
    have ee : (Ma ++ Mb == Ma ++ Mb) = true := by simp
    rcases ea with ea | ea
    · rcases eb with eb | eb
      · rcases ec with ec | ec
        · have za' : ∀ nn : Nat, (convert 27 9 (.slice (some ⟨ba, oa, none⟩) (na - 4) 0)).run Try.prog (w4.drewN nn) = .ok (.string (str Ma)) (w4.drewN nn) := fun nn => by have h := za.out nn; rw [if_pos ea, ea] at h; exact h
          have zb' : ∀ nn : Nat, (convert 27 9 (.slice (some ⟨bb, ob, none⟩) (nb - 4) 0)).run Try.prog (w4.drewN nn) = .ok (.string (str Mb)) (w4.drewN nn) := fun nn => by have h := zb.out nn; rw [if_pos eb, eb] at h; exact h
          have zc' : ∀ nn : Nat, (convert 27 9 (.slice (some ⟨bc, oc, none⟩) (nc - 4) 0)).run Try.prog (w4.drewN nn) = .ok (.string (str (Ma ++ Mb))) (w4.drewN nn) := fun nn => by have h := zc.out nn; rw [if_pos ec, ec] at h; exact h
          clear za zb zc
          go_wp2_with fail
          go_quiet (fail)
          go_wp2
          go_ret
          exact ⟨rfl, below_drewN hbZ nq⟩
        · have za' : ∀ nn : Nat, (convert 27 9 (.slice (some ⟨ba, oa, none⟩) (na - 4) 0)).run Try.prog (w4.drewN nn) = .ok (.string (str Ma)) (w4.drewN nn) := fun nn => by have h := za.out nn; rw [if_pos ea, ea] at h; exact h
          have zb' : ∀ nn : Nat, (convert 27 9 (.slice (some ⟨bb, ob, none⟩) (nb - 4) 0)).run Try.prog (w4.drewN nn) = .ok (.string (str Mb)) (w4.drewN nn) := fun nn => by have h := zb.out nn; rw [if_pos eb, eb] at h; exact h
          have zc' : ∀ nn : Nat, (convert 27 9 (.slice (some ⟨bc, oc + 4, none⟩) (nc - 4) (cc - 4))).run Try.prog (w4.drewN nn) = .ok (.string (str (Ma ++ Mb))) (w4.drewN nn) := fun nn => by have h := zc.out nn; rw [if_neg ec] at h; exact h
          clear za zb zc
          go_wp2_with fail
          go_quiet (fail)
          go_wp2
          go_ret
          exact ⟨rfl, below_drewN hbZ nq⟩
      · rcases ec with ec | ec
        · have za' : ∀ nn : Nat, (convert 27 9 (.slice (some ⟨ba, oa, none⟩) (na - 4) 0)).run Try.prog (w4.drewN nn) = .ok (.string (str Ma)) (w4.drewN nn) := fun nn => by have h := za.out nn; rw [if_pos ea, ea] at h; exact h
          have zb' : ∀ nn : Nat, (convert 27 9 (.slice (some ⟨bb, ob + 4, none⟩) (nb - 4) (cb - 4))).run Try.prog (w4.drewN nn) = .ok (.string (str Mb)) (w4.drewN nn) := fun nn => by have h := zb.out nn; rw [if_neg eb] at h; exact h
          have zc' : ∀ nn : Nat, (convert 27 9 (.slice (some ⟨bc, oc, none⟩) (nc - 4) 0)).run Try.prog (w4.drewN nn) = .ok (.string (str (Ma ++ Mb))) (w4.drewN nn) := fun nn => by have h := zc.out nn; rw [if_pos ec, ec] at h; exact h
          clear za zb zc
          go_wp2_with fail
          go_quiet (fail)
          go_wp2
          go_ret
          exact ⟨rfl, below_drewN hbZ nq⟩
        · have za' : ∀ nn : Nat, (convert 27 9 (.slice (some ⟨ba, oa, none⟩) (na - 4) 0)).run Try.prog (w4.drewN nn) = .ok (.string (str Ma)) (w4.drewN nn) := fun nn => by have h := za.out nn; rw [if_pos ea, ea] at h; exact h
          have zb' : ∀ nn : Nat, (convert 27 9 (.slice (some ⟨bb, ob + 4, none⟩) (nb - 4) (cb - 4))).run Try.prog (w4.drewN nn) = .ok (.string (str Mb)) (w4.drewN nn) := fun nn => by have h := zb.out nn; rw [if_neg eb] at h; exact h
          have zc' : ∀ nn : Nat, (convert 27 9 (.slice (some ⟨bc, oc + 4, none⟩) (nc - 4) (cc - 4))).run Try.prog (w4.drewN nn) = .ok (.string (str (Ma ++ Mb))) (w4.drewN nn) := fun nn => by have h := zc.out nn; rw [if_neg ec] at h; exact h
          clear za zb zc
          go_wp2_with fail
          go_quiet (fail)
          go_wp2
          go_ret
          exact ⟨rfl, below_drewN hbZ nq⟩
    · rcases eb with eb | eb
      · rcases ec with ec | ec
        · have za' : ∀ nn : Nat, (convert 27 9 (.slice (some ⟨ba, oa + 4, none⟩) (na - 4) (ca - 4))).run Try.prog (w4.drewN nn) = .ok (.string (str Ma)) (w4.drewN nn) := fun nn => by have h := za.out nn; rw [if_neg ea] at h; exact h
          have zb' : ∀ nn : Nat, (convert 27 9 (.slice (some ⟨bb, ob, none⟩) (nb - 4) 0)).run Try.prog (w4.drewN nn) = .ok (.string (str Mb)) (w4.drewN nn) := fun nn => by have h := zb.out nn; rw [if_pos eb, eb] at h; exact h
          have zc' : ∀ nn : Nat, (convert 27 9 (.slice (some ⟨bc, oc, none⟩) (nc - 4) 0)).run Try.prog (w4.drewN nn) = .ok (.string (str (Ma ++ Mb))) (w4.drewN nn) := fun nn => by have h := zc.out nn; rw [if_pos ec, ec] at h; exact h
          clear za zb zc
          go_wp2_with fail
          go_quiet (fail)
          go_wp2
          go_ret
          exact ⟨rfl, below_drewN hbZ nq⟩
        · have za' : ∀ nn : Nat, (convert 27 9 (.slice (some ⟨ba, oa + 4, none⟩) (na - 4) (ca - 4))).run Try.prog (w4.drewN nn) = .ok (.string (str Ma)) (w4.drewN nn) := fun nn => by have h := za.out nn; rw [if_neg ea] at h; exact h
          have zb' : ∀ nn : Nat, (convert 27 9 (.slice (some ⟨bb, ob, none⟩) (nb - 4) 0)).run Try.prog (w4.drewN nn) = .ok (.string (str Mb)) (w4.drewN nn) := fun nn => by have h := zb.out nn; rw [if_pos eb, eb] at h; exact h
          have zc' : ∀ nn : Nat, (convert 27 9 (.slice (some ⟨bc, oc + 4, none⟩) (nc - 4) (cc - 4))).run Try.prog (w4.drewN nn) = .ok (.string (str (Ma ++ Mb))) (w4.drewN nn) := fun nn => by have h := zc.out nn; rw [if_neg ec] at h; exact h
          clear za zb zc
          go_wp2_with fail
          go_quiet (fail)
          go_wp2
          go_ret
          exact ⟨rfl, below_drewN hbZ nq⟩
      · rcases ec with ec | ec
        · have za' : ∀ nn : Nat, (convert 27 9 (.slice (some ⟨ba, oa + 4, none⟩) (na - 4) (ca - 4))).run Try.prog (w4.drewN nn) = .ok (.string (str Ma)) (w4.drewN nn) := fun nn => by have h := za.out nn; rw [if_neg ea] at h; exact h
          have zb' : ∀ nn : Nat, (convert 27 9 (.slice (some ⟨bb, ob + 4, none⟩) (nb - 4) (cb - 4))).run Try.prog (w4.drewN nn) = .ok (.string (str Mb)) (w4.drewN nn) := fun nn => by have h := zb.out nn; rw [if_neg eb] at h; exact h
          have zc' : ∀ nn : Nat, (convert 27 9 (.slice (some ⟨bc, oc, none⟩) (nc - 4) 0)).run Try.prog (w4.drewN nn) = .ok (.string (str (Ma ++ Mb))) (w4.drewN nn) := fun nn => by have h := zc.out nn; rw [if_pos ec, ec] at h; exact h
          clear za zb zc
          go_wp2_with fail
          go_quiet (fail)
          go_wp2
          go_ret
          exact ⟨rfl, below_drewN hbZ nq⟩
        · have za' : ∀ nn : Nat, (convert 27 9 (.slice (some ⟨ba, oa + 4, none⟩) (na - 4) (ca - 4))).run Try.prog (w4.drewN nn) = .ok (.string (str Ma)) (w4.drewN nn) := fun nn => by have h := za.out nn; rw [if_neg ea] at h; exact h
          have zb' : ∀ nn : Nat, (convert 27 9 (.slice (some ⟨bb, ob + 4, none⟩) (nb - 4) (cb - 4))).run Try.prog (w4.drewN nn) = .ok (.string (str Mb)) (w4.drewN nn) := fun nn => by have h := zb.out nn; rw [if_neg eb] at h; exact h
          have zc' : ∀ nn : Nat, (convert 27 9 (.slice (some ⟨bc, oc + 4, none⟩) (nc - 4) (cc - 4))).run Try.prog (w4.drewN nn) = .ok (.string (str (Ma ++ Mb))) (w4.drewN nn) := fun nn => by have h := zc.out nn; rw [if_neg ec] at h; exact h
          clear za zb zc
          go_wp2_with fail
          go_quiet (fail)
          go_wp2
          go_ret
          exact ⟨rfl, below_drewN hbZ nq⟩
  · rw [Nat.zero_add] at HR9
    go_wp2_with fail
    with_reducible refine (mencode_ok _ _ _ _ _ HR9.out HGB.out HB0.out).mono ?_
    rintro e w3 ⟨Ab, nb, cb, rfl, hrb, hb3⟩
    go_wp2_with fail
    with_reducible refine (mencode_ok _ _ _ _ _ ((hr1.below hb2).below hb3) HGC.out HC0.out).mono ?_
    rintro e w4 ⟨Ac, nc, cc, rfl, hrc, hb4⟩
    have la := hra.len
    have lb := hrb.len
    have lc := hrc.len
    rw [man_len4 HA0.out] at la
    rw [man_len4 HB0.out] at lb
    rw [man_len4 HC0.out, HM.out, List.length_append] at lc
    have ua := man_length HA0.out
    have ub := man_length HB0.out
    rw [man_len4 HA0.out] at ua
    rw [man_len4 HB0.out] at ub
    obtain ⟨ba, oa, rfl, ea, fa, za⟩ := cut4 ((hra.below hb3).below hb4) (by omega)
    obtain ⟨bb, ob, rfl, eb, fb, zb⟩ := cut4 (hrb.below hb4) (by omega)
    obtain ⟨bc, oc, rfl, ec, fc, zc⟩ := cut4 hrc (by omega)
    rw [man_drop4 HA0.out] at za
    rw [man_drop4 HB0.out] at zb
    rw [man_drop4 HC0.out, HM.out] at zc
    have hbZ := below_step (below_step (below_step hb1 hb2) hb3) hb4
    have a4 : (4 : Int) ≤ (na : Int) := by omega
    have b4 : (4 : Int) ≤ (nb : Int) := by omega
    have c4 : (4 : Int) ≤ (nc : Int) := by omega
    have d4 : decide ((4 : Int) ≤ (na : Int)) = true := by simpa using a4
    have s1 : IntKind.i64.wrap ((na : Int) + (nb : Int)) = (na : Int) + (nb : Int) := IntWalk.i64_in _ (by omega)
    have s2 : IntKind.i64.wrap ((na : Int) + (nb : Int) - 4) = (na : Int) + (nb : Int) - 4 := IntWalk.i64_in _ (by omega)
    have s3 : ((nc : Int) == (na : Int) + (nb : Int) - 4) = true := by rw [beq_iff_eq]; omega
    have t1 : na ≤ 500 := by omega
    have t2 : nb ≤ 500 := by omega
    have t3 : nc ≤ 1000 := by omega
    have ha' : (mBs (ps.take k)).length ≤ 500 := by omega
    have hb' : (mBs (ps.drop k)).length ≤ 500 := by omega
    clear hra hrb hrc HM HA0 HB0 HC0 HR9 la lb lc ua ub fa fb fc
    generalize mBs (ps.take k) = Ma at *
    generalize mBs (ps.drop k) = Mb at *
    have ee : (Ma ++ Mb == Ma ++ Mb) = true := by simp
    rcases ea with ea | ea
    · rcases eb with eb | eb
      · rcases ec with ec | ec
        · have za' : ∀ nn : Nat, (convert 27 9 (.slice (some ⟨ba, oa, none⟩) (na - 4) 0)).run Try.prog (w4.drewN nn) = .ok (.string (str Ma)) (w4.drewN nn) := fun nn => by have h := za.out nn; rw [if_pos ea, ea] at h; exact h
          have zb' : ∀ nn : Nat, (convert 27 9 (.slice (some ⟨bb, ob, none⟩) (nb - 4) 0)).run Try.prog (w4.drewN nn) = .ok (.string (str Mb)) (w4.drewN nn) := fun nn => by have h := zb.out nn; rw [if_pos eb, eb] at h; exact h
          have zc' : ∀ nn : Nat, (convert 27 9 (.slice (some ⟨bc, oc, none⟩) (nc - 4) 0)).run Try.prog (w4.drewN nn) = .ok (.string (str (Ma ++ Mb))) (w4.drewN nn) := fun nn => by have h := zc.out nn; rw [if_pos ec, ec] at h; exact h
          clear za zb zc
          go_wp2_with fail
          go_quiet (fail)
          go_wp2
          go_ret
          exact ⟨rfl, below_drewN hbZ nq⟩
        · have za' : ∀ nn : Nat, (convert 27 9 (.slice (some ⟨ba, oa, none⟩) (na - 4) 0)).run Try.prog (w4.drewN nn) = .ok (.string (str Ma)) (w4.drewN nn) := fun nn => by have h := za.out nn; rw [if_pos ea, ea] at h; exact h
          have zb' : ∀ nn : Nat, (convert 27 9 (.slice (some ⟨bb, ob, none⟩) (nb - 4) 0)).run Try.prog (w4.drewN nn) = .ok (.string (str Mb)) (w4.drewN nn) := fun nn => by have h := zb.out nn; rw [if_pos eb, eb] at h; exact h
          have zc' : ∀ nn : Nat, (convert 27 9 (.slice (some ⟨bc, oc + 4, none⟩) (nc - 4) (cc - 4))).run Try.prog (w4.drewN nn) = .ok (.string (str (Ma ++ Mb))) (w4.drewN nn) := fun nn => by have h := zc.out nn; rw [if_neg ec] at h; exact h
          clear za zb zc
          go_wp2_with fail
          go_quiet (fail)
          go_wp2
          go_ret
          exact ⟨rfl, below_drewN hbZ nq⟩
      · rcases ec with ec | ec
        · have za' : ∀ nn : Nat, (convert 27 9 (.slice (some ⟨ba, oa, none⟩) (na - 4) 0)).run Try.prog (w4.drewN nn) = .ok (.string (str Ma)) (w4.drewN nn) := fun nn => by have h := za.out nn; rw [if_pos ea, ea] at h; exact h
          have zb' : ∀ nn : Nat, (convert 27 9 (.slice (some ⟨bb, ob + 4, none⟩) (nb - 4) (cb - 4))).run Try.prog (w4.drewN nn) = .ok (.string (str Mb)) (w4.drewN nn) := fun nn => by have h := zb.out nn; rw [if_neg eb] at h; exact h
          have zc' : ∀ nn : Nat, (convert 27 9 (.slice (some ⟨bc, oc, none⟩) (nc - 4) 0)).run Try.prog (w4.drewN nn) = .ok (.string (str (Ma ++ Mb))) (w4.drewN nn) := fun nn => by have h := zc.out nn; rw [if_pos ec, ec] at h; exact h
          clear za zb zc
          go_wp2_with fail
          go_quiet (fail)
          go_wp2
          go_ret
          exact ⟨rfl, below_drewN hbZ nq⟩
        · have za' : ∀ nn : Nat, (convert 27 9 (.slice (some ⟨ba, oa, none⟩) (na - 4) 0)).run Try.prog (w4.drewN nn) = .ok (.string (str Ma)) (w4.drewN nn) := fun nn => by have h := za.out nn; rw [if_pos ea, ea] at h; exact h
          have zb' : ∀ nn : Nat, (convert 27 9 (.slice (some ⟨bb, ob + 4, none⟩) (nb - 4) (cb - 4))).run Try.prog (w4.drewN nn) = .ok (.string (str Mb)) (w4.drewN nn) := fun nn => by have h := zb.out nn; rw [if_neg eb] at h; exact h
          have zc' : ∀ nn : Nat, (convert 27 9 (.slice (some ⟨bc, oc + 4, none⟩) (nc - 4) (cc - 4))).run Try.prog (w4.drewN nn) = .ok (.string (str (Ma ++ Mb))) (w4.drewN nn) := fun nn => by have h := zc.out nn; rw [if_neg ec] at h; exact h
          clear za zb zc
          go_wp2_with fail
          go_quiet (fail)
          go_wp2
          go_ret
          exact ⟨rfl, below_drewN hbZ nq⟩
    · rcases eb with eb | eb
      · rcases ec with ec | ec
        · have za' : ∀ nn : Nat, (convert 27 9 (.slice (some ⟨ba, oa + 4, none⟩) (na - 4) (ca - 4))).run Try.prog (w4.drewN nn) = .ok (.string (str Ma)) (w4.drewN nn) := fun nn => by have h := za.out nn; rw [if_neg ea] at h; exact h
          have zb' : ∀ nn : Nat, (convert 27 9 (.slice (some ⟨bb, ob, none⟩) (nb - 4) 0)).run Try.prog (w4.drewN nn) = .ok (.string (str Mb)) (w4.drewN nn) := fun nn => by have h := zb.out nn; rw [if_pos eb, eb] at h; exact h
          have zc' : ∀ nn : Nat, (convert 27 9 (.slice (some ⟨bc, oc, none⟩) (nc - 4) 0)).run Try.prog (w4.drewN nn) = .ok (.string (str (Ma ++ Mb))) (w4.drewN nn) := fun nn => by have h := zc.out nn; rw [if_pos ec, ec] at h; exact h
          clear za zb zc
          go_wp2_with fail
          go_quiet (fail)
          go_wp2
          go_ret
          exact ⟨rfl, below_drewN hbZ nq⟩
        · have za' : ∀ nn : Nat, (convert 27 9 (.slice (some ⟨ba, oa + 4, none⟩) (na - 4) (ca - 4))).run Try.prog (w4.drewN nn) = .ok (.string (str Ma)) (w4.drewN nn) := fun nn => by have h := za.out nn; rw [if_neg ea] at h; exact h
          have zb' : ∀ nn : Nat, (convert 27 9 (.slice (some ⟨bb, ob, none⟩) (nb - 4) 0)).run Try.prog (w4.drewN nn) = .ok (.string (str Mb)) (w4.drewN nn) := fun nn => by have h := zb.out nn; rw [if_pos eb, eb] at h; exact h
          have zc' : ∀ nn : Nat, (convert 27 9 (.slice (some ⟨bc, oc + 4, none⟩) (nc - 4) (cc - 4))).run Try.prog (w4.drewN nn) = .ok (.string (str (Ma ++ Mb))) (w4.drewN nn) := fun nn => by have h := zc.out nn; rw [if_neg ec] at h; exact h
          clear za zb zc
          go_wp2_with fail
          go_quiet (fail)
          go_wp2
          go_ret
          exact ⟨rfl, below_drewN hbZ nq⟩
      · rcases ec with ec | ec
        · have za' : ∀ nn : Nat, (convert 27 9 (.slice (some ⟨ba, oa + 4, none⟩) (na - 4) (ca - 4))).run Try.prog (w4.drewN nn) = .ok (.string (str Ma)) (w4.drewN nn) := fun nn => by have h := za.out nn; rw [if_neg ea] at h; exact h
          have zb' : ∀ nn : Nat, (convert 27 9 (.slice (some ⟨bb, ob + 4, none⟩) (nb - 4) (cb - 4))).run Try.prog (w4.drewN nn) = .ok (.string (str Mb)) (w4.drewN nn) := fun nn => by have h := zb.out nn; rw [if_neg eb] at h; exact h
          have zc' : ∀ nn : Nat, (convert 27 9 (.slice (some ⟨bc, oc, none⟩) (nc - 4) 0)).run Try.prog (w4.drewN nn) = .ok (.string (str (Ma ++ Mb))) (w4.drewN nn) := fun nn => by have h := zc.out nn; rw [if_pos ec, ec] at h; exact h
          clear za zb zc
          go_wp2_with fail
          go_quiet (fail)
          go_wp2
          go_ret
          exact ⟨rfl, below_drewN hbZ nq⟩
        · have za' : ∀ nn : Nat, (convert 27 9 (.slice (some ⟨ba, oa + 4, none⟩) (na - 4) (ca - 4))).run Try.prog (w4.drewN nn) = .ok (.string (str Ma)) (w4.drewN nn) := fun nn => by have h := za.out nn; rw [if_neg ea] at h; exact h
          have zb' : ∀ nn : Nat, (convert 27 9 (.slice (some ⟨bb, ob + 4, none⟩) (nb - 4) (cb - 4))).run Try.prog (w4.drewN nn) = .ok (.string (str Mb)) (w4.drewN nn) := fun nn => by have h := zb.out nn; rw [if_neg eb] at h; exact h
          have zc' : ∀ nn : Nat, (convert 27 9 (.slice (some ⟨bc, oc + 4, none⟩) (nc - 4) (cc - 4))).run Try.prog (w4.drewN nn) = .ok (.string (str (Ma ++ Mb))) (w4.drewN nn) := fun nn => by have h := zc.out nn; rw [if_neg ec] at h; exact h
          clear za zb zc
          go_wp2_with fail
          go_quiet (fail)
          go_wp2
          go_ret
          exact ⟨rfl, below_drewN hbZ nq⟩
end Go.Proofs.Ytaaeihkbnfcolaa

/- The law ManifestTorn: the walk. -/
import Derived.Test.YtaaeihkbnfcolaaGD
import Derived.Test.YtaaeihkbnfcolaaGG
import Derived.Test.YtaaeihkbnfcolaaGG
namespace Go.Proofs.Ytaaeihkbnfcolaa
open Go.RowKit
/-- a row of parts of the call's own reads as parts -/
theorem own_rd3 {w : World} {base : Nat} {e : TypeId} {v : Value} {n : Nat} {xs : List Value} (h : w.ownsRow base e 3 v n xs) : ∃ A c, v = .slice A n c ∧ Rd w 3 A n c xs ∧ (A = none → c = 0) := by
  rcases h.2 with ⟨q1, q2⟩ | ⟨g, cap, cur, q1, _, _, q3, q4, _⟩
  · subst q2
    have : xs = [] := List.eq_nil_of_length_eq_zero (by simpa using h.1)
    subst this
    exact ⟨none, 0, q1, Rd.nil _ _, fun _ => rfl⟩
  · subst q1
    exact ⟨_, _, rfl, Rd.of_own h q4 q3, fun q => by cases q⟩
theorem mencode_ok (A : Option Addr) (n c : Nat) (l : List Prt) (w : World) (hr : Rd w 3 A n c (pcs l)) (hg : ∀ p ∈ l, p.good) (h0 : psErr l = 0) :
    Calls Try.prog 15 #[.slice A n c] w (GivesB (man l) 0 w) := by
  have := mencode_any A n c l w hr hg
  rw [show mRes l = man l from if_pos h0, h0] at this
  exact this
theorem mdecode_at (A : Option Addr) (n c : Nat) (l : List UInt8) (w : World) (hr : Rd w 1 A n c (l.map bv8)) (hz : n ≤ 140737488351232) (e : Int) (ps : List Prt) (he : (dec l).1 = e) (hp : (dec l).2 = ps) :
    Calls Try.prog 18 #[.slice A n c] w (GivesP ps e w) := by
  rw [← he, ← hp]; exact mdecode_any A n c l w hr hz
set_option maxRecDepth 100000 in
set_option maxHeartbeats 1000000 in
theorem manifestTorn_walk (A : Option Addr) (n c : Nat) (l : List Rw) (k : Int) (x : UInt8) (hk : (Lit.int .i64 k).wf = true) (w : World) (hr : Rd w 4 A n c (rcs l)) (hg : ∀ p ∈ l, p.good) (hn : n ≤ 4294967296000) :
    Calls Try.prog 7 #[.slice A n c, .int .i64 k, .int .u8 (y8 x)] w fun e w' => e = .returned (.bool true) ∧ Below w.heap.size w w' := by
  obtain ⟨k1, k2⟩ := i64_range hk
  obtain ⟨i0, hi0, hz0, hz1, hz2⟩ := info_parts u8_info
  have HG := Lib.hid hg
  obtain ⟨ps, hps⟩ : ∃ ps, listedP l = ps := ⟨_, rfl⟩
  have h0 := listedP_ok l
  have hgood := listedP_good l
  rw [hps] at h0 hgood
  have HG2 := Lib.hid hgood
  have H0 := Lib.hid h0
  have HPS := Lib.hid hps
  obtain ⟨N, hN⟩ : ∃ N, (man ps).length = N := ⟨_, rfl⟩
  have hml := man_length h0
  rw [hN] at hml
  obtain ⟨N4, N500⟩ := hml
  obtain ⟨p, hp, hp2⟩ := pk_nat k (N : Int) (by omega)
  have Hp := Lib.hid hp
  have hpN : p < N := by omega
  obtain ⟨e1, he1⟩ : ∃ e1, (dec ((man ps).take p)).1 = e1 := ⟨_, rfl⟩
  have ht := dec_torn h0 (p := p) (by rw [hN]; exact hpN)
  rw [he1] at ht
  have hne : (e1 != 0) = true := by rw [bne_iff_ne]; exact ht
  have HE1 := Lib.hid he1
  have hd3 := dec_man h0 [x] (by simp)
  rw [if_pos (by simp)] at hd3
  have HD3 := Lib.hid hd3
  have HN := Lib.hid hN
  clear hg hgood h0 hps hN hp ht he1 hd3 hk
  go_enter Try.func7, Try.ntmps7
  go_wp2_with fail
  with_reducible refine (listed_any _ _ _ _ _ hr HG.out hn).mono ?_
  rw [HPS.out]
  rintro e w1 ⟨v1, rfl, hown1, hb1⟩
  obtain ⟨A1, c1, rfl, hr1, hA1⟩ := own_rd3 hown1
  clear hown1
  go_wp2_with fail
  with_reducible refine (mencode_ok _ _ _ _ _ hr1 HG2.out H0.out).mono ?_
  rintro e w2 ⟨A2, n2, c2, rfl, hr2, hb2⟩
  obtain rfl : n2 = N := by rw [hr2.len]; exact HN.out
  have hbB := below_step hb1 hb2
  have s4 : decide ((n2 : Int) < 4) = false := by simp; omega
  have hc2 := hr2.2.1
  have hrt := hr2.take p (by omega)
  rw [← List.map_take] at hrt
  have hpi : (p : Int) ≤ (c2 : Int) := by omega
  go_wp2_with fail
  with_reducible refine (picked_nat k (n2 : Int) p _ k1 k2 (by omega) (by omega) Hp.out).mono ?_
  rintro e w' ⟨rfl, rfl⟩
  go_wp2_with fail
  with_reducible refine (mdecode_at _ _ _ _ _ hrt (by omega) e1 _ HE1.out rfl).mono ?_
  rintro e w3 ⟨A3, n3, c3, rfl, hr3, hA3, hb3⟩
  go_wp2_with fail
  with_reducible refine (clone_any _ _ _ _ _ (hr2.below hb3) (by omega)).mono ?_
  rintro e w4 ⟨v4, rfl, hown4, hb4⟩
  have hbs4 : w3.heap.size ≤ w4.heap.size := hb4.size
  go_wp2_with (first
    | (at_builtin; refine wpList_append1 rfl (.tmp 38) (.tmp 40) _ rfl Try.underlying27 hi0 hz0 hz1 hz2 rfl (by omega) _ _ _ rfl hown4 [.int .u8 (y8 x)] rfl (by simp [Value.oneCell']) rfl (by omega) (by omega) hbs4 ?_; rintro v5 w5 ⟨hown5, hb5, hsz5, hfar5⟩)
    | fail)
  have hm1 : (man ps).map bv8 ++ [.int .u8 (y8 x)] = (man ps ++ [x]).map bv8 := by rw [List.map_append]; rfl
  rw [hm1] at hown5
  obtain ⟨A5, c5, rfl, hr5⟩ := own_rd hown5
  have hbC := below_step hbB hb3
  have hbD := below_step hbC (hb4.trans hb5)
  clear hown4 hown5 hm1
  with_reducible refine (mdecode_at _ _ _ _ _ hr5 (by omega) 3 [] (by rw [HD3.out]) (by rw [HD3.out])).mono ?_
  rintro e w6 ⟨A6, n6, c6, rfl, hr6, hA6, hb6⟩
  go_wp2
  go_ret
  exact ⟨rfl, below_step hbD hb6⟩
end Go.Proofs.Ytaaeihkbnfcolaa

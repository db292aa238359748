/- The law IndexBack: the walk. -/
import Derived.Test.YtfleegidlncmjaaGZ
import Derived.Test.YtfleegidlncmjaaQIx
import Derived.Test.YtfleegidlncmjaaQYf
import Derived.Test.YtfleegidlncmjaaGO
namespace Go.Proofs.Ytfleegidlncmjaa
open Go.RowKit
/-- the new entry -/
def eNew : En := ⟨keyNew, [], 0, 0⟩
theorem eNew_fine : eNew.fine := ⟨cErr_dig _, rfl, by show (0 : Int) ≤ 0; omega, by show (0 : Int) ≤ 5; omega, by show (0 : Int) ≤ 0; omega, by show (0 : Int) ≤ 1099511627776; omega⟩
theorem en_good {L : List En} (h : ∀ e ∈ L, e.fine) : ∀ e ∈ L, e.good := fun e he => fine_good_en (h e he)
set_option maxRecDepth 100000 in
set_option maxHeartbeats 4000000 in
theorem indexBack_walk (A : Option Addr) (n c : Nat) (l : List Rw) (w : World) (hr : Rd w 4 A n c (rcs l)) (hg : ∀ p ∈ l, p.good) (hn : n ≤ 4294967296000) :
    Calls Try.prog 8 #[.slice A n c] w fun e w' => e = .returned (.bool true) ∧ Below w.heap.size w w' := by
  have hfd := store_field1
  have kc := head_run
  go_enter Try.func8, Try.ntmps8
  go_wp2_with fail
  with_reducible refine (store_entries _ _ _ _ _ hr hg hn).mono ?_
  rintro e w1 ⟨A1, c1, L, A2, n2, c2, vr, vk, rfl, hN1, hS, hb1⟩
  have r1 := hN1.rd
  have hne : ∀ y ∈ L, y.ky ≠ eNew.ky := fun y hy q => by
    obtain ⟨m, hm⟩ := hS.key y hy
    exact keyB_new m (hm.symm.trans q)
  have hput := xPut_new (x := eNew) hS.err (by have := hS.len; omega) eNew_fine hne
  have hdrop := xDrop_new (x := eNew) hS.err (by have := hS.len; omega) eNew_fine rfl hne
  obtain ⟨m, hm⟩ := xPut_ok (x := eNew) hS.err (by have := hS.len; omega) eNew_fine
  have hmm : m = xNew L eNew := by
    have := hm.put
    rw [hput] at this
    injection this with _ this
    exact this.symm
  have hmg : ∀ e ∈ xNew L eNew, e.good := by rw [← hmm]; exact en_good hm.fine
  have hlen := xNew_length L eNew
  have hLg := en_good hS.fine
  have hL7 := hS.len
  obtain ⟨K, hK⟩ : ∃ K, keyNew = K := ⟨_, rfl⟩
  have hP : ∀ W : World, KRd kEn W A1 L.length c1 L → Calls Try.prog 13 #[.slice A1 L.length c1, .agg #[.string (str K), .slice none 0 0, .int .i64 0, .int .i64 0]] W (GivesEs (xNew L eNew) 0 W) := fun W h => by
    have := iput_any _ _ _ L eNew ⟨none, 0, 0⟩ W h hLg ⟨Rd.nil _ _, fun _ => rfl⟩ (fine_good_en eNew_fine)
    rw [hput] at this
    rw [← hK]
    exact this
  have hD : ∀ (W : World) (A : Option Addr) (n c : Nat), KRd kEn W A n c (xNew L eNew) → Calls Try.prog 18 #[.slice A n c, .string (str K)] W (GivesEs L 0 W) := fun W A n c h => by
    have := idrop_any _ _ _ (xNew L eNew) eNew.ky W h hmg
    rw [hdrop] at this
    rw [← hK]
    exact this
  have HP := Lib.hid hP
  have HD := Lib.hid hD
  have HK : Hid (dig [110, 101, 119, 32, 97, 110, 100, 32, 110, 101, 118, 101, 114, 32, 101, 108, 115, 101] = K) := hK
  clear hP hD hput hdrop hm hmm hmg hne hS hN1 hr hg hLg hK
  generalize xNew L eNew = M at *
  have hrd := new_rd w1 5 [110, 101, 119, 32, 97, 110, 100, 32, 110, 101, 118, 101, 114, 32, 101, 108, 115, 101] (18, 19) (by unfold maxLen; simp)
  have hal := (Below.refl w1.heap.size w1).alloc (Nat.le_refl _) (.cells (([110, 101, 119, 32, 97, 110, 100, 32, 110, 101, 118, 101, 114, 32, 101, 108, 115, 101] : List UInt8).map bv8).toArray 5 (18, 19))
  have hdg := digest_ok _ _ _ _ _ hrd (by simp)
  rw [HK.out] at hdg
  have HDG := Lib.hid hdg
  clear hdg hrd
  go_wp2_with fail
  refine HDG.out.mono ?_
  rintro e w2 ⟨rfl, hb2⟩
  have hbA := below_step hal hb2
  have r2 := r1.below hbA
  have hbB := below_step hb1 hbA
  go_wp2_with fail
  with_reducible refine (HP.out _ r2).mono ?_
  rintro e w3 ⟨A3, n3, c3, rfl, hN3, hb3⟩
  have r3 := hN3.rd
  obtain rfl : n3 = L.length + 1 := r3.len.trans hlen
  have hbC := below_step hbB hb3
  have r2' := r2.below hb3
  clear hN3
  go_wp2_with fail
  with_reducible refine (HD.out _ _ _ _ r3).mono ?_
  rintro e w4 ⟨A4, n4, c4, rfl, hN4, hb4⟩
  have r4 := hN4.rd
  obtain rfl : n4 = L.length := r4.len
  have hbD := below_step hbC hb4
  have r2'' := r2'.below hb4
  clear hN4
  have q1 : (((L.length + 1 : Nat) : Int) == (L.length : Int) + 1) = true := by simp
  go_wp2_with fail
  with_reducible refine (indexed_ok _).mono ?_
  rintro e w5 ⟨rfl, hb5⟩
  have r5 := r4.below hb5
  have r5' := r2''.below hb5
  have hbE := below_step hbD hb5
  go_wp2_with fail
  with_reducible refine (ksameStore_any _ _ _ _ _ _ _ _ _ _ _ _ [] [] L L 0 0 _ (KRd.nil _) r5' (KRd.nil _) r5 true (by simp [alks])).mono ?_
  rintro e w6 ⟨rfl, hb6⟩
  go_wp2
  go_ret
  exact ⟨by simp, below_step hbE hb6⟩
end Go.Proofs.Ytfleegidlncmjaa

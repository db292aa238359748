/- The landed store: GetBlob. -/
import Derived.Test.YtnadgdjaldemhaaGreatDoorQL2
import Derived.Test.YtnadgdjaldemhaaGreatDoorGQ
namespace Go.Proofs.YtnadgdjaldemhaaGreatDoor
open Go.RowKit
set_option maxRecDepth 100000 in
set_option maxHeartbeats 2000000 in
theorem lGetBlob_any {A B : Option Addr} {n c m k : Nat} {s : Sto} {dg : List UInt8} {w : World} (h : StA w A B n c m k s) (_hd : dg.length ≤ maxLen) :
    Calls Tryz.prog 23 #[.agg #[.slice A n c, .slice B m k, .int .i64 s.rm, .int .i64 s.ck], .string (str dg)] w (GivesGB (sGetBlob s dg) w) := by
  obtain ⟨l, es, rm, ck⟩ := s
  have hr := h.hr
  have hbs : sErr ⟨l, es, rm, ck⟩ = 0 → ∀ b ∈ l, b.dt.length ≤ 300 := fun q b hb => ((bsErr_zero.1 (sErr_zero.1 q).be).2.1 b hb).2.1
  simp only at hr ⊢
  obtain rfl := hr.len
  have hal := (Below.refl w.heap.size w).alloc (Nat.le_refl _) (.cells #[.slice A l.length c, .slice B m k, .int .i64 rm, .int .i64 ck] 28)
  have hb1 := Blk.new w 28 [.slice A l.length c, .slice B m k, .int .i64 rm, .int .i64 ck]
  have HS := Lib.hid (lCheck_any (h.below hal))
  clear h
  obtain ⟨X, hX⟩ : ∃ X, sGetBlob ⟨l, es, rm, ck⟩ dg = X := ⟨_, rfl⟩
  rw [hX]
  have hX' : (if sErr ⟨l, es, rm, ck⟩ ≠ 0 then (sErr ⟨l, es, rm, ck⟩, []) else if h : bAt l dg < l.length then (0, l[bAt l dg].dt) else (5, [])) = X := hX
  have HXX := Lib.hid hX'
  clear hX hX'
  go_enter Tryz.func23, Tryz.ntmps23
  go_upto_region 1 with fail
  generalize hu : w.alloc (.cells [Value.slice A l.length c, Value.slice B m k, Value.int .i64 rm, Value.int .i64 ck].toArray 28) = u at *
  clear hu
  obtain ⟨a0, a1, a2, a3⟩ := blk4 hb1
  go_wp2_with fail
  with_reducible refine HS.out.mono ?_
  rintro e w2 ⟨rfl, hc2⟩
  have k1 := hb1.below hc2 hb1.lt
  have hbB := below_step hal hc2
  have H1 := Lib.hid (hr.below hbB)
  clear hb1 hal hc2 HS a0 a1 a2 a3 hr
  have HBS := Lib.hid hbs
  clear hbs
  obtain ⟨S, hS⟩ : ∃ S, sErr ⟨l, es, rm, ck⟩ = S := ⟨_, rfl⟩
  rw [hS] at HXX HBS ⊢
  clear hS
  by_cases p1 : S = 0
  · subst p1
    have HR1 := HXX.out
    rw [if_neg (by simp)] at HR1
    have HX2 := Lib.hid HR1
    clear HR1 HXX
    obtain ⟨e0, -, -, -⟩ := blk4 k1
    have HAT := Lib.hid (find_any _ _ _ l dg w2 H1.out)
    have hle := bAt_le l dg
    by_cases hb : bAt l dg < l.length
    · have hfe : fErr l dg = 0 := if_pos hb
      have hfa : fAt l dg = bAt l dg := if_pos hb
      rw [hfe, hfa] at HAT
      have h300 := HBS.out rfl _ (List.getElem_mem hb)
      have HF : Hid (X = (0, l[bAt l dg].dt)) := by show _ = _; rw [← HX2.out, dif_pos hb]
      obtain ⟨K, hK⟩ : ∃ K, bAt l dg = K := ⟨_, rfl⟩
      have hbK : K < l.length := by rw [← hK]; exact hb
      have HF' : Hid (X = (0, l[K].dt)) := by show _ = _; rw [HF.out]; simp only [hK]
      have h300' : l[K].dt.length ≤ 300 := by simp only [hK] at h300; exact h300
      rw [hK] at HAT
      have hbi : (K : Int) < (l.length : Int) := by omega
      clear HX2 HF hK hle hb hfe hfa h300 HBS
      go_wp2_with fail
      with_reducible refine HAT.out.mono ?_
      rintro e w3 ⟨rfl, hc3⟩
      have k3 := k1.below hc3 k1.lt
      have r3 := H1.out.below hc3
      have hbC := below_step hbB hc3
      obtain ⟨x0, -, -, -⟩ := blk4 k3
      obtain ⟨b, boff, D, dn, dc, rfl, ic0, ic1, ic2, ic3, hrD, hDn⟩ := r3.blob hbK
      have HCL := Lib.hid (bclone_any D dn dc l[K].dt w3 hrD (by have := hrD.len; omega))
      clear k1 k3 r3 H1 HAT hbB hc3 e0 ic0 ic2 ic3 hrD hDn
      go_wp2_with fail
      with_reducible refine HCL.out.mono ?_
      rintro e w4 ⟨v4, rfl, hown, hc4⟩
      obtain ⟨A4, c4, rfl, hrd4, hA4, -⟩ := own_rdK hown
      go_wp2
      go_ret2
      rw [HF'.out]
      exact ⟨A4, dn, c4, rfl, hrd4, hA4, below_step hbC hc4⟩
    · have hfe : fErr l dg = 5 := if_neg hb
      have hfa : fAt l dg = 0 := if_neg hb
      rw [hfe, hfa] at HAT
      have HF : Hid (X = (5, [])) := by show _ = _; rw [← HX2.out, dif_neg hb]
      clear HX2 hb hle hfe hfa
      go_wp2_with fail
      with_reducible refine HAT.out.mono ?_
      rintro e w3 ⟨rfl, hc3⟩
      go_wp2
      go_ret2
      rw [HF.out]
      exact givesGB_no rfl (below_step hbB hc3)
  · have d1 : (S != 0) = true := by rw [bne_iff_ne]; exact p1
    have HF : Hid (X = (S, [])) := by show _ = _; rw [← HXX.out, if_pos p1]
    go_wp2
    go_ret2
    rw [HF.out]
    exact givesGB_no rfl hbB
end Go.Proofs.YtnadgdjaldemhaaGreatDoor

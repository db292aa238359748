/- The reference's StoreGetBlob. -/
import Derived.Test.YtnadgdjaldemhaaDoorQZd
import Derived.Test.YtnadgdjaldemhaaDoorQZf
import Derived.Test.YtnadgdjaldemhaaDoorQZc
namespace Go.Proofs.YtnadgdjaldemhaaDoor
open Go.RowKit
set_option maxRecDepth 100000 in
set_option maxHeartbeats 4000000 in
theorem storeGetBlob_any (A B : Option Addr) (n c m k : Nat) (l : List Bl) (es : List En) (rm ck : Int) (dg : List UInt8) (w : World) (hr : KRd kBl w A n c l) (he : KRd kEn w B m k es) (hgl : ∀ p ∈ l, p.good) (hge : ∀ p ∈ es, p.good) :
    Calls Tryd.prog 17 #[.agg #[.slice A n c, .slice B m k, .int .i64 rm, .int .i64 ck], .string (str dg)] w (GivesGB (sGetBlob ⟨l, es, rm, ck⟩ dg) w) := by
  obtain rfl := hr.len
  have hal := (Below.refl w.heap.size w).alloc (Nat.le_refl _) (.cells #[.slice A l.length c, .slice B m k, .int .i64 rm, .int .i64 ck] 25)
  have hb1 := Blk.new w 25 [.slice A l.length c, .slice B m k, .int .i64 rm, .int .i64 ck]
  have HS := Lib.hid (storeFault_any A B l.length c m k l es rm ck _ (hr.below hal) (he.below hal) hgl hge)
  obtain ⟨a0, a1, a2, a3⟩ := blk4 hb1
  obtain ⟨X, hX⟩ : ∃ X, sGetBlob ⟨l, es, rm, ck⟩ dg = X := ⟨_, rfl⟩
  rw [hX]
  have hX' : (if sErr ⟨l, es, rm, ck⟩ ≠ 0 then (sErr ⟨l, es, rm, ck⟩, []) else if h : bAt l dg < l.length then (0, l[bAt l dg].dt) else (5, [])) = X := hX
  have HXX := Lib.hid hX'
  clear hX hX'
  go_enter Tryd.func17, Tryd.ntmps17
  go_wp2_with fail
  with_reducible refine HS.out.mono ?_
  rintro e w2 ⟨rfl, hc2⟩
  have k1 := hb1.below hc2 hb1.lt
  have hbB := below_step hal hc2
  have H1 := Lib.hid (hr.below hbB)
  clear hb1 hal hc2 HS a0 a1 a2 a3 hr he
  obtain ⟨S, hS⟩ : ∃ S, sErr ⟨l, es, rm, ck⟩ = S := ⟨_, rfl⟩
  rw [hS] at HXX ⊢
  clear hS
  by_cases p1 : S = 0
  · subst p1
    have HR1 := HXX.out
    rw [if_neg (by simp)] at HR1
    have HX2 := Lib.hid HR1
    clear HR1 HXX
    have e0 := k1.cell 0
    simp only [List.getElem?_cons_zero] at e0
    have HAT := Lib.hid (blobAt_any _ _ _ l dg w2 H1.out)
    have hle := bAt_le l dg
    by_cases hb : bAt l dg < l.length
    · obtain ⟨b, boff, D, dn, dc, rfl, ic0, ic1, ic2, ic3, hrD, hDn⟩ := H1.out.blob hb
      have hF : X = (0, l[bAt l dg].dt) := by rw [← HX2.out, dif_pos hb]
      have HD := Lib.hid hrD
      have HF := Lib.hid hF
      obtain ⟨K, hK⟩ : ∃ K, bAt l dg = K := ⟨_, rfl⟩
      rw [hK] at HAT
      have ic1' : w2.cell? ⟨b, boff + K * 4 + 1, none⟩ = some (.slice D dn dc) := by rw [← hK]; exact ic1
      have hbi : (K : Int) < (l.length : Int) := by omega
      have hbe : ((K : Int) == (l.length : Int)) = false := by rw [beq_eq_false_iff_ne]; omega
      have HG : Hid (GivesGB X w (.returned (.tuple #[.slice D dn dc, .int .i64 0])) w2) := by
        show GivesGB X _ _ _
        rw [hF]
        exact ⟨D, dn, dc, rfl, hrD, hDn, hbB⟩
      clear HX2 hF HF HD hrD ic0 ic1 ic2 ic3 hK hle hDn hb
      go_wp2_with fail
      with_reducible refine HAT.out.mono ?_
      rintro e w3 ⟨rfl, rfl⟩
      go_wp2
      go_ret2
      exact HG.out
    · have hbe : bAt l dg = l.length := by omega
      have HF : Hid (X = (5, [])) := by show _ = _; rw [← HX2.out, dif_neg hb]
      rw [hbe] at HAT
      have hq : ((l.length : Int) == (l.length : Int)) = true := by simp
      clear HX2 hbe hb hle
      go_wp2_with fail
      with_reducible refine HAT.out.mono ?_
      rintro e w3 ⟨rfl, rfl⟩
      go_wp2
      go_ret2
      rw [HF.out]
      exact givesGB_no rfl hbB
  · have d1 : (S != 0) = true := by rw [bne_iff_ne]; exact p1
    have HF : Hid (X = (S, [])) := by show _ = _; rw [← HXX.out, if_pos p1]
    go_wp2
    go_ret2
    rw [HF.out]
    exact givesGB_no rfl hbB
end Go.Proofs.YtnadgdjaldemhaaDoor

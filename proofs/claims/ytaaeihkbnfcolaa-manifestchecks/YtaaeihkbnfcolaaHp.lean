/- Hexadecimal digits and bytes, back and forth: plain facts. -/
import Derived.Test.YtaaeihkbnfcolaaH2c
namespace Go.Proofs.Ytaaeihkbnfcolaa
open Go.RowKit
theorem dg_table : ∀ n : Fin 256, two (dg (UInt8.ofNat n.val >>> 4)) (dg (UInt8.ofNat n.val &&& 15)) = UInt8.ofNat n.val ∧ isD (dg (UInt8.ofNat n.val >>> 4)) = true ∧ isD (dg (UInt8.ofNat n.val &&& 15)) = true := by decide +kernel
theorem dg_spec (x : UInt8) : two (dg (x >>> 4)) (dg (x &&& 15)) = x ∧ isD (dg (x >>> 4)) = true ∧ isD (dg (x &&& 15)) = true := by
  have := dg_table ⟨x.toNat, x.toNat_lt⟩
  simpa only [UInt8.ofNat_toNat] using this
theorem hexT_cons (a : UInt8) (r : List UInt8) : hexT (a :: r) = dg (a >>> 4) :: dg (a &&& 15) :: hexT r := rfl
theorem unh_hexT : ∀ l : List UInt8, unh (hexT l) = l
  | [] => rfl
  | a :: r => by rw [hexT_cons, unh, unh_hexT r, (dg_spec a).1]
theorem hexT_all : ∀ l : List UInt8, (hexT l).all isD = true
  | [] => rfl
  | a :: r => by rw [hexT_cons, List.all_cons, List.all_cons, (dg_spec a).2.1, (dg_spec a).2.2, hexT_all r]; rfl
theorem two_parts_table : ∀ a b : Fin 16, (UInt8.ofNat a.val <<< 4 ||| UInt8.ofNat b.val) >>> 4 = UInt8.ofNat a.val ∧ (UInt8.ofNat a.val <<< 4 ||| UInt8.ofNat b.val) &&& 15 = UInt8.ofNat b.val := by decide +kernel
theorem two_parts {a b : UInt8} (ha : isD a = true) (hb : isD b = true) : dg (two a b >>> 4) = a ∧ dg (two a b &&& 15) = b := by
  have h1 := vl_spec ha
  have h2 := vl_spec hb
  have := two_parts_table ⟨(vl a).toNat, h1.2.2⟩ ⟨(vl b).toNat, h2.2.2⟩
  simp only [UInt8.ofNat_toNat] at this
  unfold two
  rw [this.1, this.2]
  exact ⟨h1.2.1, h2.2.1⟩
theorem hexT_unh : ∀ l : List UInt8, l.length % 2 = 0 → l.all isD = true → hexT (unh l) = l
  | [], _, _ => rfl
  | [_], h, _ => absurd h (by simp)
  | a :: b :: r, h, hd => by
    simp only [List.all_cons, Bool.and_eq_true] at hd
    rw [unh, hexT_cons, (two_parts hd.1 hd.2.1).1, (two_parts hd.1 hd.2.1).2, hexT_unh r (by simp at h; omega) hd.2.2]
end Go.Proofs.Ytaaeihkbnfcolaa

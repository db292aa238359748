/- The digits of words. Nothing of the program. -/
import Derived.Test.YtcaojihkogmdjaaDoorShp
namespace Go.Proofs.YtcaojihkogmdjaaDoor
open Go.RowKit
@[go_sem] theorem bv_and15 (x : BitVec 32) : bits .and .u32 (u x) 15 = u (x &&& 15#32) := bv_and x 15#32
theorem and15_lt (x : BitVec 32) : (by8 (x &&& 15#32)).toNat < 16 := by
  unfold by8
  have h : x.toNat &&& 15 = x.toNat % 16 := Nat.and_two_pow_sub_one_eq_mod _ 4
  rw [UInt8.toNat_ofNat', BitVec.toNat_and]
  show (x.toNat &&& 15) % 256 < 16
  rw [h]; omega
theorem u_and15 (x : BitVec 32) : u (x &&& 15#32) = y8 (by8 (x &&& 15#32)) := by
  unfold by8 u y8
  have h : x.toNat &&& 15 = x.toNat % 16 := Nat.and_two_pow_sub_one_eq_mod _ 4
  rw [UInt8.toNat_ofNat', BitVec.toNat_and]
  show ((x.toNat &&& 15 : Nat) : Int) = ((x.toNat &&& 15) % 256 : Nat)
  rw [h]; omega
@[go_sem high] theorem run_digs_w {P : Program} (w : World) (t : TypeId) (k : IntKind) (x : BitVec 32) (h : P.underlying t = some .string) :
    (Instr.index t (.string digs) (.int k (u (x &&& 15#32)))).run P w = .ok (.int .u8 (y8 (dg (by8 (x &&& 15#32))))) w := run_digs w t k _ _ h (u_and15 x) (and15_lt x)
theorem by8_hi (y : BitVec 32) : by8 y >>> 4 = by8 ((y >>> 4) &&& 15#32) := by
  apply UInt8.toNat_inj.1
  have h1 := y8_hi' (by8 y)
  have h : (y >>> 4).toNat &&& 15 = (y >>> 4).toNat % 16 := Nat.and_two_pow_sub_one_eq_mod _ 4
  have h2 : (by8 ((y >>> 4) &&& 15#32)).toNat = ((y >>> 4).toNat &&& 15) % 256 := by unfold by8; rw [UInt8.toNat_ofNat', BitVec.toNat_and]; rfl
  have h3 : (by8 y).toNat = y.toNat % 256 := by unfold by8; rw [UInt8.toNat_ofNat']
  have h4 : (y >>> 4).toNat = y.toNat / 16 := by rw [BitVec.toNat_ushiftRight, Nat.shiftRight_eq_div_pow]
  rw [h2, h, h4, h1, h3]; omega
theorem by8_lo (y : BitVec 32) : by8 y &&& 15 = by8 (y &&& 15#32) := by
  apply UInt8.toNat_inj.1
  have h : y.toNat &&& 15 = y.toNat % 16 := Nat.and_two_pow_sub_one_eq_mod _ 4
  have h2 : (by8 (y &&& 15#32)).toNat = (y.toNat &&& 15) % 256 := by unfold by8; rw [UInt8.toNat_ofNat', BitVec.toNat_and]; rfl
  have h3 : (by8 y).toNat = y.toNat % 256 := by unfold by8; rw [UInt8.toNat_ofNat']
  have h5 : (by8 y &&& 15).toNat = (by8 y).toNat % 16 := by
    rw [UInt8.toNat_and]; exact Nat.and_two_pow_sub_one_eq_mod _ 4
  rw [h2, h, h5, h3]; omega
theorem four_at (x : BitVec 32) (m : Nat) (h : m < 4) : (four x)[m]? = some (by8 (x >>> (24 - 8 * m))) := by
  rcases (by omega : m = 0 ∨ m = 1 ∨ m = 2 ∨ m = 3) with rfl | rfl | rfl | rfl
  · rfl
  · rfl
  · rfl
  · show some (by8 x) = some (by8 (x >>> 0)); rw [BitVec.ushiftRight_zero]
theorem shr_shr (x : BitVec 32) (a b : Nat) : x >>> a >>> b = x >>> (a + b) := (BitVec.shiftRight_add x a b).symm
theorem hexW_at (L : List (BitVec 32)) (q i : Nat) (hq : q < L.length) (hi : i < 8) : (hexT (bytesW L))[8 * q + i]? = some (dg (by8 ((L[q] >>> (28 - 4 * i)) &&& 15#32))) := by
  have hb := bytesW_at L q hq (i / 2) (by omega)
  rw [four_at _ _ (by omega)] at hb
  have hlt : 4 * q + i / 2 < (bytesW L).length := (List.getElem?_eq_some_iff.1 hb).1
  have hbe : (bytesW L)[4 * q + i / 2] = by8 (L[q] >>> (24 - 8 * (i / 2))) := by
    rw [List.getElem?_eq_getElem hlt] at hb; exact Option.some.inj hb
  have ha := hexT_at (bytesW L) (4 * q + i / 2) hlt
  rw [hbe, by8_hi, by8_lo, shr_shr] at ha
  by_cases hm : i % 2 = 0
  · have h := ha.1
    rwa [show 2 * (4 * q + i / 2) = 8 * q + i from by omega, show 24 - 8 * (i / 2) + 4 = 28 - 4 * i from by omega] at h
  · have h := ha.2
    rwa [show 2 * (4 * q + i / 2) + 1 = 8 * q + i from by omega, show 24 - 8 * (i / 2) = 28 - 4 * i from by omega] at h
theorem hexW_length (s : St) : (hexT (bytesW s.list)).length = 64 := by rw [hexT_length, bytesW_length]; rfl
theorem Rd.drop64 {w : World} {b off n c : Nat} {l : List UInt8} (h : Rd w 1 (some ⟨b, off, none⟩) n c (l.map bv8)) (hn : 64 ≤ n) : Rd w 1 (some ⟨b, off + 64, none⟩) (n - 64) (c - 64) ((l.drop 64).map bv8) := by
  obtain ⟨h1, h2, h3, h4⟩ := h
  refine ⟨by simp at h1 ⊢; omega, by omega, by omega, fun hp => ⟨b, off + 64, rfl, fun j v hv => ?_⟩⟩
  obtain ⟨b', off', e, hc⟩ := h4 (by simp at h1 ⊢; omega)
  injection e with e
  injection e with e1 e2
  subst e1; subst e2
  rw [List.map_drop, List.getElem?_drop] at hv
  have := hc (64 + j) v hv
  rwa [← Nat.add_assoc] at this
theorem Rd.empty {w : World} (A : Option Addr) (c : Nat) (hc : c ≤ maxLen) : Rd w 1 A 0 c [] := ⟨by simp, Nat.zero_le _, hc, fun h => absurd h (by simp)⟩
/-- the digest of bytes, as digits -/
def dig (l : List UInt8) : List UInt8 := hexT (bytesW (sumS l).list)
theorem dig_length (l : List UInt8) : (dig l).length = 64 := hexW_length _
end Go.Proofs.YtcaojihkogmdjaaDoor

/- Bytes as numbers: how the walk's numbers are told in their terms; hexadecimal digits. Nothing of the program. -/
import Derived.Test.YtaaeihkbnfcolaaMem
import Derived.Lib.Bytealg
namespace Go.Proofs.Ytaaeihkbnfcolaa
open Go.RowKit
@[go_sem] theorem wrap8_y8 (x : UInt8) : IntKind.u8.wrap (y8 x) = y8 x := by
  have := y8_nonneg x; have := y8_lt x
  rw [IntKind.wrap_u8]; omega
theorem y8_div16 (x : UInt8) : y8 x / (16 : Int) = y8 (x >>> 4) := by
  have : ∀ n : Fin 256, ((UInt8.ofNat n.val).toNat / 16 : Nat) = ((UInt8.ofNat n.val) >>> 4).toNat := by decide +kernel
  have h := this ⟨x.toNat, x.toNat_lt⟩
  simp only [UInt8.ofNat_toNat] at h
  unfold y8; rw [← h]; simp
theorem y8_and15 (x : UInt8) : bits .and .u8 (y8 x) 15 = y8 (x &&& 15) := by
  have : ∀ n : Fin 256, bits .and .u8 (n.val : Int) 15 = (((UInt8.ofNat n.val) &&& 15).toNat : Int) := by decide +kernel
  have h := this ⟨x.toNat, x.toNat_lt⟩
  simp only [UInt8.ofNat_toNat] at h
  exact h
/-- the digit of a number below 16 -/
def dg (n : UInt8) : UInt8 := if n < 10 then 48 + n else 87 + n
def hexT (l : List UInt8) : List UInt8 := l.flatMap fun x : UInt8 => [dg (x >>> 4), dg (x &&& 15)]
theorem hexT_length (l : List UInt8) : (hexT l).length = 2 * l.length := by
  induction l with
  | nil => rfl
  | cons a r ih =>
    have e : hexT (a :: r) = dg (a >>> 4) :: dg (a &&& 15) :: hexT r := rfl
    rw [e, List.length_cons, List.length_cons, ih, List.length_cons]; omega
theorem hexT_at : ∀ (l : List UInt8) (k : Nat) (h : k < l.length), (hexT l)[2 * k]? = some (dg (l[k] >>> 4)) ∧ (hexT l)[2 * k + 1]? = some (dg (l[k] &&& 15))
  | [], _, h => absurd h (by simp)
  | a :: r, 0, _ => ⟨rfl, rfl⟩
  | a :: r, k + 1, h => by
    have := hexT_at r k (by simpa using h)
    have e : hexT (a :: r) = dg (a >>> 4) :: dg (a &&& 15) :: hexT r := rfl
    rw [e, show 2 * (k + 1) = 2 * k + 1 + 1 from by omega, show 2 * k + 1 + 1 + 1 = (2 * k + 1) + 1 + 1 from rfl]
    simpa using this
def digs : ByteArray := ⟨#[48, 49, 50, 51, 52, 53, 54, 55, 56, 57, 97, 98, 99, 100, 101, 102]⟩
@[go_sem high] theorem fold_digs : (⟨#[48, 49, 50, 51, 52, 53, 54, 55, 56, 57, 97, 98, 99, 100, 101, 102]⟩ : ByteArray) = digs := rfl
theorem digs_at : ∀ n : Fin 16, digs[n.val]? = some (dg (UInt8.ofNat n.val)) := by decide +kernel
theorem run_digs {P : Program} (w : World) (t : TypeId) (k : IntKind) (i : Int) (n : UInt8) (h : P.underlying t = some .string) (hi : i = y8 n) (hn : n.toNat < 16) :
    (Instr.index t (.string digs) (.int k i)).run P w = .ok (.int .u8 (y8 (dg n))) w := by
  subst hi
  have hs : digs.size = 16 := by decide +kernel
  have e : (y8 n).toNat = n.toNat := by simp [y8]
  have h1 : 0 ≤ y8 n ∧ y8 n < (digs.size : Int) := by have := y8_nonneg n; rw [hs]; unfold y8; omega
  rw [run_index_string w t digs k _ h, dif_pos h1]
  have h2 := digs_at ⟨n.toNat, hn⟩
  simp only [UInt8.ofNat_toNat] at h2
  have h3 : digs[(y8 n).toNat]'(by omega) = dg n := by
    have h4 : n.toNat < digs.size := by omega
    rw [ByteArray.getElem?_lt' _ _ h4] at h2
    simp only [e]
    exact Option.some.inj h2
  rw [h3]; rfl
theorem y8_hi' (x : UInt8) : (x >>> 4).toNat = x.toNat / 16 := by have h := y8_div16 x; unfold y8 at h; omega
theorem hi_lt (x : UInt8) : (x >>> 4).toNat < 16 := by
  have h := y8_div16 x; have := y8_lt x; unfold y8 at *; omega
theorem lo_lt (x : UInt8) : (x &&& 15).toNat < 16 := by
  rw [UInt8.toNat_and]
  exact Nat.lt_of_le_of_lt Nat.and_le_right (by decide)
attribute [go_sem] y8_div16 y8_and15
@[go_sem high] theorem run_digs_hi {P : Program} (w : World) (t : TypeId) (k : IntKind) (x : UInt8) (h : P.underlying t = some .string) :
    (Instr.index t (.string digs) (.int k (y8 (x >>> 4)))).run P w = .ok (.int .u8 (y8 (dg (x >>> 4)))) w := run_digs w t k _ _ h rfl (hi_lt x)
@[go_sem high] theorem run_digs_lo {P : Program} (w : World) (t : TypeId) (k : IntKind) (x : UInt8) (h : P.underlying t = some .string) :
    (Instr.index t (.string digs) (.int k (y8 (x &&& 15)))).run P w = .ok (.int .u8 (y8 (dg (x &&& 15)))) w := run_digs w t k _ _ h rfl (lo_lt x)
end Go.Proofs.Ytaaeihkbnfcolaa

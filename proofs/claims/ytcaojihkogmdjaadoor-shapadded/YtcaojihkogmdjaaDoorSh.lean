/- SHA-256 on bit vectors and lists. Nothing of the program. -/
import Derived.Test.YtcaojihkogmdjaaDoorWp
namespace Go.Proofs.YtcaojihkogmdjaaDoor
open Go.RowKit
/-- the 64 round constants; the eight words at the start -/
def kon : List (BitVec 32) := [1116352408, 1899447441, 3049323471, 3921009573, 961987163, 1508970993, 2453635748, 2870763221, 3624381080, 310598401, 607225278, 1426881987, 1925078388, 2162078206, 2614888103, 3248222580, 3835390401, 4022224774, 264347078, 604807628, 770255983, 1249150122, 1555081692, 1996064986, 2554220882, 2821834349, 2952996808, 3210313671, 3336571891, 3584528711, 113926993, 338241895, 666307205, 773529912, 1294757372, 1396182291, 1695183700, 1986661051, 2177026350, 2456956037, 2730485921, 2820302411, 3259730800, 3345764771, 3516065817, 3600352804, 4094571909, 275423344, 430227734, 506948616, 659060556, 883997877, 958139571, 1322822218, 1537002063, 1747873779, 1955562222, 2024104815, 2227730452, 2361852424, 2428436474, 2756734187, 3204031479, 3329325298]
def ini : List (BitVec 32) := [1779033703, 3144134277, 1013904242, 2773480762, 1359893119, 2600822924, 528734635, 1541459225]
theorem kon_length : kon.length = 64 := by decide +kernel
/-- eight state words -/
structure St where
  (a b c d e f g h : BitVec 32)
def St.list (s : St) : List (BitVec 32) := [s.a, s.b, s.c, s.d, s.e, s.f, s.g, s.h]
def t1 (s : St) (k w : BitVec 32) : BitVec 32 := s.h + mix1 s.e + chs s.e s.f s.g + k + w
def t2 (s : St) : BitVec 32 := mix0 s.a + mst s.a s.b s.c
def rnd (s : St) (k w : BitVec 32) : St := ⟨t1 s k w + t2 s, s.a, s.b, s.c, s.d + t1 s k w, s.e, s.f, s.g⟩
/-- the schedule: one word more -/
def nxt (s : List (BitVec 32)) (t : Nat) : BitVec 32 := s.getD (t - 16) 0 + s.getD (t - 7) 0 + mix2 (s.getD (t - 15) 0) + mix3 (s.getD (t - 2) 0)
def sch (b : List (BitVec 32)) : Nat → List (BitVec 32)
  | 0 => b
  | n + 1 => sch b n ++ [nxt (sch b n) (16 + n)]
theorem sch_length (b : List (BitVec 32)) (hb : b.length = 16) : ∀ n, (sch b n).length = 16 + n
  | 0 => hb
  | n + 1 => by rw [sch, List.length_append, sch_length b hb n]; rfl
/-- n rounds -/
def rnds (s : St) (w : List (BitVec 32)) : Nat → St
  | 0 => s
  | n + 1 => rnd (rnds s w n) (kon.getD n 0) (w.getD n 0)
def St.add (s v : St) : St := ⟨s.a + v.a, s.b + v.b, s.c + v.c, s.d + v.d, s.e + v.e, s.f + v.f, s.g + v.g, s.h + v.h⟩
/-- one block of sixteen words -/
@[irreducible] def stp (s : St) (b : List (BitVec 32)) : St := s.add (rnds s (sch b 48) 64)
/-- all blocks of bytes, 64 each -/
def each64 {σ : Type} (f : σ → List UInt8 → σ) : Nat → List UInt8 → σ → σ
  | 0, _, s => s
  | n + 1, l, s => each64 f n (l.drop 64) (f s (l.take 64))
theorem each64_snoc {σ : Type} (f : σ → List UInt8 → σ) (n : Nat) : ∀ (l : List UInt8) (s : σ), each64 f (n + 1) l s = f (each64 f n l s) ((l.drop (64 * n)).take 64) := by
  induction n with
  | zero => intro l s; rfl
  | succ n ih =>
    intro l s
    rw [each64, ih, each64, List.drop_drop]
    rw [show 64 + 64 * n = 64 * (n + 1) from by omega]
def stpB (s : St) (b : List UInt8) : St := stp s (words b)
def blocks (n : Nat) (l : List UInt8) (s : St) : St := each64 stpB n l s
def iniS : St := ⟨1779033703, 3144134277, 1013904242, 2773480762, 1359893119, 2600822924, 528734635, 1541459225⟩
/-- how many zero bytes are padded -/
def zeros (n : Nat) : Nat := (119 - n % 64) % 64
def len8 (n : Nat) : List UInt8 := (List.range 8).map fun i => UInt8.ofNat ((n * 8) >>> (56 - 8 * i))
def pad (l : List UInt8) : List UInt8 := l ++ [128] ++ List.replicate (zeros l.length) 0 ++ len8 l.length
theorem len8_length (n : Nat) : (len8 n).length = 8 := by simp [len8]
theorem pad_length (l : List UInt8) : (pad l).length = l.length + 9 + zeros l.length := by
  simp [pad, len8_length]; omega
theorem zeros_spec (n : Nat) : (n + 9 + zeros n) % 64 = 0 := by unfold zeros; omega
theorem zeros_lt (n : Nat) : zeros n < 64 := by unfold zeros; omega
def sumS (l : List UInt8) : St := blocks ((pad l).length / 64) (pad l) iniS
theorem chs_xor (x y z : BitVec 32) : (x &&& y) ^^^ (~~~x &&& z) = chs x y z := by
  unfold chs
  apply BitVec.eq_of_getLsbD_eq
  intro i hi
  simp only [BitVec.getLsbD_xor, BitVec.getLsbD_or, BitVec.getLsbD_and, BitVec.getLsbD_not, hi, decide_true, Bool.true_and]
  cases x.getLsbD i <;> cases y.getLsbD i <;> cases z.getLsbD i <;> rfl
theorem mst_xor (x y z : BitVec 32) : (x &&& y) ^^^ (x &&& z) ^^^ (y &&& z) = mst x y z := by
  unfold mst
  apply BitVec.eq_of_getLsbD_eq
  intro i hi
  simp only [BitVec.getLsbD_xor, BitVec.getLsbD_or, BitVec.getLsbD_and]
  cases x.getLsbD i <;> cases y.getLsbD i <;> cases z.getLsbD i <;> rfl
theorem rotl_rotr (x : BitVec 32) (k n : Int) (h : k % 32 = (-n) % 32) : rotl x k = rotr x n := by
  unfold rotr rotl; rw [h]
theorem mix0_rotl (x : BitVec 32) : rotl x 30 ^^^ rotl x 19 ^^^ rotl x 10 = mix0 x := by
  rw [rotl_rotr x 30 2 (by decide), rotl_rotr x 19 13 (by decide), rotl_rotr x 10 22 (by decide)]; rfl
theorem mix1_rotl (x : BitVec 32) : rotl x 26 ^^^ rotl x 21 ^^^ rotl x 7 = mix1 x := by
  rw [rotl_rotr x 26 6 (by decide), rotl_rotr x 21 11 (by decide), rotl_rotr x 7 25 (by decide)]; rfl
theorem mix2_rotl (x : BitVec 32) : rotl x 25 ^^^ rotl x 14 ^^^ x >>> 3 = mix2 x := by
  rw [rotl_rotr x 25 7 (by decide), rotl_rotr x 14 18 (by decide)]; rfl
theorem mix3_rotl (x : BitVec 32) : rotl x 15 ^^^ rotl x 13 ^^^ x >>> 10 = mix3 x := by
  rw [rotl_rotr x 15 17 (by decide), rotl_rotr x 13 19 (by decide)]; rfl
theorem blocks_zero (l : List UInt8) (s : St) : blocks 0 l s = s := rfl
theorem blocks_snoc (n : Nat) (l : List UInt8) (s : St) : blocks (n + 1) l s = stpB (blocks n l s) ((l.drop (64 * n)).take 64) := each64_snoc stpB n l s
end Go.Proofs.YtcaojihkogmdjaaDoor

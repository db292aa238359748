/- Texts that belong together: what the functions of the program and of the statements return. -/
import Derived.WalkKit
import Derived.WalkSpells
import Derived.WalkLawsBesides
import Derived.Laws.BitsLemmas
import Derived.Below
import Derived.Laws.OwnMore
import Derived.Deep.AppendLies
import Derived.Deep.Draws
import Derived.Laws.Rows
import Derived.Lib.Hide
import Derived.Laws.MakeOwn
import Derived.Laws.BytesArg
import Derived.Lib.Bytes
import Derived.Laws.IdiomStrings
import Derived.Laws.AppendOwn
import Derived.Maps.AppendAt
import Derived.RegionTactic
import Derived.OwnWalk
import Derived.Test.YtdbdigcpibmgjaaGreatDoorRows
import Derived.Lib.Bytealg
import Derived.IntWalk
import Derived.Laws.CopyOwn
import Derived.StillTailTactics
import Derived.Deep.QuietTactic
import Derived.BigQuiet
/- Words of 32 bits as bit vectors: how the walk's numbers are told in their terms. Nothing of the program. -/
namespace Go.Proofs.YtdbdigcpibmgjaaGreatDoor
open Go.RowKit

/-- a word as a number -/
def u (x : BitVec 32) : Int := (x.toNat : Int)
theorem u_def (x : BitVec 32) : u x = (x.toNat : Int) := rfl
theorem u_nonneg (x : BitVec 32) : 0 ≤ u x := Int.natCast_nonneg _
theorem u_lt (x : BitVec 32) : u x < 4294967296 := by have := x.isLt; unfold u; omega
theorem u_wf (x : BitVec 32) : (Lit.int .u32 (u x)).wf = true := by
  have := u_nonneg x; have := u_lt x
  simp [Lit.wf, IntKind.min, IntKind.max, IntKind.bits, IntKind.signed]; omega
theorem of_wf {n : Int} (h : (Lit.int .u32 n).wf = true) : ∃ x : BitVec 32, n = u x := by
  simp [Lit.wf, IntKind.min, IntKind.max, IntKind.bits, IntKind.signed] at h
  refine ⟨BitVec.ofNat 32 n.toNat, ?_⟩
  rw [u_def, BitVec.toNat_ofNat]; omega
theorem ofInt_u32 (x : BitVec 32) : BitVec.ofInt 32 (u x) = x := by
  rw [u_def, BitVec.ofInt_natCast, BitVec.ofNat_toNat, BitVec.setWidth_eq]
theorem wrap_bv32 (x : BitVec 32) : IntKind.u32.wrap (x.toNat : Int) = u x := by
  have := x.isLt
  rw [IntKind.wrap_u32, u_def]; omega
@[go_sem] theorem wrap_u (x : BitVec 32) : IntKind.u32.wrap (u x) = u x := wrap_bv32 x
@[go_sem] theorem bv_and (x y : BitVec 32) : bits .and .u32 (u x) (u y) = u (x &&& y) := by
  show IntKind.u32.wrap ((BitVec.ofInt 32 (u x) &&& BitVec.ofInt 32 (u y)).toNat : Int) = _
  rw [ofInt_u32, ofInt_u32, wrap_bv32]
@[go_sem] theorem bv_or (x y : BitVec 32) : bits .or .u32 (u x) (u y) = u (x ||| y) := by
  show IntKind.u32.wrap ((BitVec.ofInt 32 (u x) ||| BitVec.ofInt 32 (u y)).toNat : Int) = _
  rw [ofInt_u32, ofInt_u32, wrap_bv32]
@[go_sem] theorem bv_xor (x y : BitVec 32) : bits .xor .u32 (u x) (u y) = u (x ^^^ y) := by
  show IntKind.u32.wrap ((BitVec.ofInt 32 (u x) ^^^ BitVec.ofInt 32 (u y)).toNat : Int) = _
  rw [ofInt_u32, ofInt_u32, wrap_bv32]
@[go_sem] theorem bv_zero_xor (y : BitVec 32) : bits .xor .u32 0 (u y) = u y := by
  have := bv_xor 0#32 y
  rw [BitVec.zero_xor] at this
  exact this
@[go_sem] theorem bv_not (x : BitVec 32) : bits .xor .u32 IntKind.u32.max (u x) = u (~~~ x) := by
  show IntKind.u32.wrap ((BitVec.ofInt 32 IntKind.u32.max ^^^ BitVec.ofInt 32 (u x)).toNat : Int) = _
  rw [ofInt_u32, wrap_bv32]
  have : BitVec.ofInt 32 IntKind.u32.max = BitVec.allOnes 32 := by decide
  rw [this, BitVec.allOnes_xor]
@[go_sem] theorem bv_and_one (x : BitVec 32) : bits .and .u32 (u x) 1 = u (x &&& 1#32) := bv_and x 1#32
@[go_sem] theorem bv_add (x y : BitVec 32) : (u x + u y) % (4294967296 : Int) = u (x + y) := by
  unfold u; rw [BitVec.toNat_add]; omega
@[go_sem] theorem bv_wadd (x y : BitVec 32) : IntKind.u32.wrap (u x + u y) = u (x + y) := by rw [IntKind.wrap_u32]; exact bv_add x y
@[go_sem] theorem bv_shl (x : BitVec 32) (n : Nat) : (u x * 2 ^ n) % (4294967296 : Int) = u (x <<< n) := by
  unfold u; rw [BitVec.toNat_shiftLeft, Nat.shiftLeft_eq]; simp
@[go_sem] theorem bv_shr (x : BitVec 32) (n : Nat) : u x / 2 ^ n = u (x >>> n) := by
  unfold u; rw [BitVec.toNat_ushiftRight, Nat.shiftRight_eq_div_pow]; simp
@[go_sem] theorem bv_shl24 (x : BitVec 32) : IntKind.u32.wrap (u x * (16777216 : Int)) = u (x <<< 24) := by rw [IntKind.wrap_u32]; exact bv_shl x 24
@[go_sem] theorem bv_shl16 (x : BitVec 32) : IntKind.u32.wrap (u x * (65536 : Int)) = u (x <<< 16) := by rw [IntKind.wrap_u32]; exact bv_shl x 16
@[go_sem] theorem bv_shl8 (x : BitVec 32) : IntKind.u32.wrap (u x * (256 : Int)) = u (x <<< 8) := by rw [IntKind.wrap_u32]; exact bv_shl x 8
theorem u_inj {x y : BitVec 32} : (u x = u y) ↔ x = y := by
  rw [u_def, u_def, Int.natCast_inj, BitVec.toNat_inj]
@[go_sem] theorem u_beq (x y : BitVec 32) : (u x == u y) = (x == y) := by
  rw [Bool.eq_iff_iff]; simp only [beq_iff_eq, u_inj]
theorem ret_u {a b : BitVec 32} (h : a = b) : Ending.returned (.int .u32 (u a)) = .returned (.int .u32 (u b)) := by rw [h]
theorem and31 (k : Int) : bits .and .u64 (IntKind.u64.wrap k) 31 = k % 32 := by
  have h0 : 0 ≤ IntKind.u64.wrap k := by rw [IntKind.wrap_u64]; omega
  have h1 : IntKind.u64.wrap k < 18446744073709551616 := by rw [IntKind.wrap_u64]; omega
  obtain ⟨n, hn⟩ := Int.eq_ofNat_of_zero_le h0
  have hk : k % 32 = ((n % 32 : Nat) : Int) := by rw [IntKind.wrap_u64] at hn; omega
  rw [hn, hk]
  have h2 := Go.bits_and_u64_nat n 31 (by omega) (by omega)
  have h3 : n &&& 31 = n % 32 := Nat.and_two_pow_sub_one_eq_mod n 5
  rw [h3] at h2
  exact h2
theorem and1 (n : Nat) (h : n < 9223372036854775808) : bits .and .i64 (n : Int) 1 = ((n % 2 : Nat) : Int) := by
  have h2 : n &&& 1 = n % 2 := Nat.and_two_pow_sub_one_eq_mod n 1
  have ho : ∀ a : Nat, a < 9223372036854775808 → (BitVec.ofInt 64 (a : Int)).toNat = a := fun a ha => by
    rw [BitVec.ofInt_natCast, BitVec.toNat_ofNat]; exact Nat.mod_eq_of_lt (by omega)
  show IntKind.i64.wrap ((BitVec.ofInt 64 (n : Int) &&& BitVec.ofInt 64 ((1 : Nat) : Int)).toNat : Int) = _
  rw [BitVec.toNat_and, ho n h, ho 1 (by omega), h2, IntKind.wrap_i64]; omega
theorem and3 (n : Nat) (h : n < 4294967296) : bits .and .i64 (n : Int) 3 = ((n % 4 : Nat) : Int) := by
  have h2 : n &&& 3 = n % 4 := Nat.and_two_pow_sub_one_eq_mod n 2
  have ho : ∀ a : Nat, a < 9223372036854775808 → (BitVec.ofInt 64 (a : Int)).toNat = a := fun a ha => by
    rw [BitVec.ofInt_natCast, BitVec.toNat_ofNat]; exact Nat.mod_eq_of_lt (by omega)
  show IntKind.i64.wrap ((BitVec.ofInt 64 (n : Int) &&& BitVec.ofInt 64 ((3 : Nat) : Int)).toNat : Int) = _
  rw [BitVec.toNat_and, ho n (by omega), ho 3 (by omega), h2, IntKind.wrap_i64]; omega
end Go.Proofs.YtdbdigcpibmgjaaGreatDoor
/- Slices that read as lists, and blocks of the call's own: what is known of them from world to world. Nothing of the program. -/
namespace Go.Proofs.YtdbdigcpibmgjaaGreatDoor
open Go.RowKit

theorem below_drewN {B : Nat} {a w : World} (h : Below B a w) (n : Nat) : Below B a (w.drewN n) := ⟨h.os, h.tape, h.output, h.size, h.block⟩
theorem below_step {a w w' : World} (h : Below a.heap.size a w) (k : Below w.heap.size w w') : Below a.heap.size a w' := h.trans (k.mono h.size)
theorem cell_lt {w : World} {p : Addr} {v : Value} (h : w.cell? p = some v) : p.block < w.heap.size := by
  rcases Nat.lt_or_ge p.block w.heap.size with hlt | hge
  · exact hlt
  · rw [World.cell?] at h; simp [Array.getElem?_eq_none hge] at h

/-- the slice value '.slice A n c', of elements of 'size' cells, holds the cells xs -/
def Rd (w : World) (size : Nat) (A : Option Addr) (n c : Nat) (xs : List Value) : Prop :=
  xs.length = n * size ∧ n ≤ c ∧ c ≤ maxLen ∧ (0 < xs.length → ∃ b off, A = some ⟨b, off, none⟩ ∧ ∀ (j : Nat) v, xs[j]? = some v → w.cell? ⟨b, off + j, none⟩ = some v)
section
variable {w w' : World} {size n c : Nat} {A : Option Addr} {xs : List Value}
theorem Rd.keep (h : Rd w size A n c xs) (hk : ∀ p : Addr, p.block < w.heap.size → w'.cell? p = w.cell? p) : Rd w' size A n c xs := by
  obtain ⟨h1, h2, h3, h4⟩ := h
  refine ⟨h1, h2, h3, fun hp => ?_⟩
  obtain ⟨b, off, rfl, hc⟩ := h4 hp
  exact ⟨b, off, rfl, fun j v hv => (hk _ (cell_lt (hc j v hv))).trans (hc j v hv)⟩
theorem Rd.below (h : Rd w size A n c xs) (hb : Below w.heap.size w w') : Rd w' size A n c xs := h.keep fun _ hp => hb.cell hp
theorem Rd.drew (h : Rd w size A n c xs) : Rd w.drew size A n c xs := h
theorem Rd.drewN (h : Rd w size A n c xs) (k : Nat) : Rd (w.drewN k) size A n c xs := h
theorem Rd.nil (w : World) (size : Nat) : Rd w size none 0 0 [] := ⟨by simp, Nat.le_refl _, by simp [maxLen], fun h => absurd h (by simp)⟩
theorem Rd.len {α : Type} {f : α → Value} {l : List α} (h : Rd w 1 A n c (l.map f)) : n = l.length := by have := h.1; simp at this; omega
theorem Rd.at {k : Nat} {v : Value} (h : Rd w size A n c xs) (hv : xs[k]? = some v) : ∃ b off, A = some ⟨b, off, none⟩ ∧ w.cell? ⟨b, off + k, none⟩ = some v := by
  have hl : k < xs.length := (List.getElem?_eq_some_iff.1 hv).1
  obtain ⟨b, off, rfl, hc⟩ := h.2.2.2 (by omega)
  exact ⟨b, off, rfl, hc k v hv⟩
theorem Rd.addr (h : Rd w size A n c xs) (hp : 0 < xs.length) : ∃ b off, A = some ⟨b, off, none⟩ ∧ b < w.heap.size ∧ ∀ (j : Nat) v, xs[j]? = some v → w.cell? ⟨b, off + j, none⟩ = some v := by
  obtain ⟨b, off, rfl, hc⟩ := h.2.2.2 hp
  refine ⟨b, off, rfl, ?_, hc⟩
  exact cell_lt (hc 0 _ (List.getElem?_eq_getElem hp))
end

/-- block g is just the cells xs, of element type t, none frozen -/
def Blk (w : World) (g : Nat) (t : TypeId) (xs : List Value) : Prop := w.heap[g]? = some (.cells xs.toArray t (0, 0))
section
variable {w w' : World} {g : Nat} {t : TypeId} {xs : List Value}
theorem Blk.lt (h : Blk w g t xs) : g < w.heap.size := by
  rcases Nat.lt_or_ge g w.heap.size with hlt | hge
  · exact hlt
  · unfold Blk at h; rw [Array.getElem?_eq_none hge] at h; cases h
theorem Blk.cell (h : Blk w g t xs) (i : Nat) : w.cell? ⟨g, i, none⟩ = xs[i]? := by
  rw [cell_of_row w g i xs.toArray t (0, 0) h, List.getElem?_toArray]
theorem Blk.frozen (h : Blk w g t xs) (i : Nat) : w.frozen? ⟨g, i, none⟩ = false := by
  unfold Blk at h
  simp [World.frozen?, h]
theorem Blk.new (w : World) (t : TypeId) (xs : List Value) : Blk (w.alloc (.cells xs.toArray t)) w.heap.size t xs := heap_alloc_new w _
theorem Blk.drew (h : Blk w g t xs) : Blk w.drew g t xs := h
theorem Blk.drewN (h : Blk w g t xs) (n : Nat) : Blk (w.drewN n) g t xs := h
theorem Blk.alloc (h : Blk w g t xs) (o : Obj) : Blk (w.alloc o) g t xs := (Below.heap_alloc w o g h.lt).trans h
theorem Blk.put (h : Blk w g t xs) (i : Nat) (u : Value) : Blk (w.setCell ⟨g, i, none⟩ u) g t (xs.set i u) := by
  unfold Blk at h ⊢
  simp [World.setCell, Array.getElem?_modify, h]
theorem Blk.far (h : Blk w g t xs) {p : Addr} (hp : g ≠ p.block) (u : Value) : Blk (w.setCell p u) g t xs := (Below.heap_setCell w p u g hp).trans h
theorem Blk.below {B : Nat} (h : Blk w g t xs) (hb : Below B w w') (hg : g < B) : Blk w' g t xs := (hb.block g hg).trans h
theorem Blk.grown {row : Option Nat} (h : Blk w g t xs) (hb : w.grownBy w' row) (hg : some g ≠ row) : Blk w' g t xs := (hb.block g h.lt hg).trans h
theorem Blk.rd {size n c : Nat} (h : Blk w g t xs) (hn : n ≤ c) (hc : c ≤ maxLen) (hl : n * size ≤ xs.length) : Rd w size (some ⟨g, 0, none⟩) n c (xs.take (n * size)) := by
  refine ⟨by rw [List.length_take]; omega, hn, hc, fun _ => ⟨g, 0, rfl, fun j v hv => ?_⟩⟩
  rw [h.cell, Nat.zero_add]
  rw [List.getElem?_take] at hv
  split at hv
  · exact hv
  · cases hv
end
/-- a row that the call owns reads as its cells -/
theorem Rd.of_own {w : World} {base : Nat} {e : TypeId} {size n c : Nat} {A : Option Addr} {xs : List Value} (h : w.ownsRow base e size (.slice A n c) n xs) (hc : c ≤ maxLen) (hn : n ≤ c) : Rd w size A n c xs := by
  refine ⟨h.1, hn, hc, fun hp => ?_⟩
  have hn0 : 0 < n := by
    rcases Nat.eq_zero_or_pos n with h0 | h0
    · subst h0; have := h.1; simp at this; subst this; simp at hp
    · exact h0
  obtain ⟨g, cap, hv, _, hlt⟩ := h.form hn0
  have hA : A = some ⟨g, 0, none⟩ := by injection hv
  subst hA
  refine ⟨g, 0, rfl, fun j v hj => ?_⟩
  have := h.cells (g := g) rfl j v hj
  rcases Nat.eq_zero_or_pos j with e | e
  · subst e; simpa [Addr.add] using this
  · simpa [Addr.add, Nat.ne_of_gt e] using this

def reps (n : Nat) (z : Value) : List Value := List.replicate n z
theorem reps_length (n : Nat) (z : Value) : (reps n z).length = n := by simp [reps]
theorem fill_step {ys : List Value} {m k : Nat} {z v : Value} (hk : k < m) (hv : ys[k]? = some v) : (ys.take k ++ reps (m - k) z).set k v = ys.take (k + 1) ++ reps (m - (k + 1)) z := by
  have hl : k < ys.length := (List.getElem?_eq_some_iff.1 hv).1
  have e1 : ys.take (k + 1) = ys.take k ++ [v] := by rw [List.take_add_one, hv]; rfl
  have e2 : reps (m - k) z = z :: reps (m - (k + 1)) z := by
    have : m - k = (m - (k + 1)) + 1 := by omega
    unfold reps; rw [this, List.replicate_succ]
  have e3 : (ys.take k).length = k := by rw [List.length_take]; omega
  rw [e1, e2, List.set_append_right _ _ (by omega), e3, Nat.sub_self, List.set_cons_zero, List.append_assoc]; rfl
theorem fill_at {ys : List Value} {m k : Nat} {z : Value} (hk : k < m) (hl : k < ys.length) : (ys.take k ++ reps (m - k) z)[k]? = some z := by
  have e3 : (ys.take k).length = k := by rw [List.length_take]; omega
  rw [List.getElem?_append_right (by omega), e3, Nat.sub_self]
  unfold reps
  rw [List.getElem?_replicate]; simp; omega
theorem fill_end {ys : List Value} {m : Nat} {z : Value} (hl : ys.length = m) : ys.take m ++ reps (m - m) z = ys := by
  rw [Nat.sub_self, ← hl, List.take_length]; simp [reps]
theorem made_one (z : Value) (n : Nat) : madeCells #[z] n = (reps n z).toArray := by
  apply Array.ext
  · simp [madeCells, reps]
  · intro i h1 h2
    simp [madeCells, reps, Nat.mod_one]
theorem run_make1 {P : Program} {t e : TypeId} {i : TypeInfo} {z : Value} (ht : P.underlying t = some (.slice e)) (hi : P.info? e = some i) (hz : i.zero = some z) (hs : i.size = 1) (hzc : z.cells = #[z]) {by_ : Nat} (hby : i.bytes = by_)
    (k : Int) (n : Nat) (hk : k = n) (hb : by_ * n ≤ 281474976710656) (h63 : n ≤ 9223372036854775807) (w : World) :
    (Instr.makeSlice t (.int .i64 k) (.int .i64 k)).run P w = .ok (.slice (some ⟨w.heap.size, 0, none⟩) n n) (w.alloc (.cells (reps n z).toArray e)) := by
  subst hk
  have hb' : (i.bytes : Int) * (n : Int) ≤ 281474976710656 := by
    rw [hby]
    have h : ((by_ * n : Nat) : Int) ≤ 281474976710656 := by omega
    rwa [Int.natCast_mul] at h
  have hr := run_make (P := P) w t e i z ht hi hz .i64 .i64 n n (by omega) (by omega) hb' (by omega)
  simp only [Int.toNat_natCast, hs, Nat.mul_one, hzc, made_one] at hr
  exact hr

/-- a byte as a number -/
def y8 (x : UInt8) : Int := (x.toNat : Int)
theorem y8_nonneg (x : UInt8) : 0 ≤ y8 x := Int.natCast_nonneg _
theorem y8_lt (x : UInt8) : y8 x < 256 := by have := x.toNat_lt; unfold y8; omega
theorem y8_wf (x : UInt8) : (Lit.int .u8 (y8 x)).wf = true := by
  have := y8_nonneg x; have := y8_lt x
  simp [Lit.wf, IntKind.min, IntKind.max, IntKind.bits, IntKind.signed]; omega
theorem y8_of_wf {n : Int} (h : (Lit.int .u8 n).wf = true) : n = y8 (UInt8.ofNat n.toNat) := by
  simp [Lit.wf, IntKind.min, IntKind.max, IntKind.bits, IntKind.signed] at h
  simp [y8]; omega
theorem u_of_wf {n : Int} (h : (Lit.int .u32 n).wf = true) : n = u (BitVec.ofNat 32 n.toNat) := by
  simp [Lit.wf, IntKind.min, IntKind.max, IntKind.bits, IntKind.signed] at h
  simp only [u_def, BitVec.toNat_ofNat]; omega
theorem y8_inj {x y : UInt8} : y8 x = y8 y ↔ x = y := by
  unfold y8; rw [Int.natCast_inj, UInt8.toNat_inj]
def bv8 (x : UInt8) : Value := .int .u8 (y8 x)
def wv (x : BitVec 32) : Value := .int .u32 (u x)
/-- bytes and words that came in -/
theorem rd_bytes {w : World} {a : Addr} {len cap : Nat} {zs : List Int} (hl : len ≤ cap) (hm : cap ≤ maxLen) (hz : zs.length = cap) (hc : ∀ i, i < zs.length → w.cell? (a.add i) = some (.int .u8 (zs.getD i 0)))
    (hw : ∀ n ∈ zs, (Lit.int .u8 n).wf = true) : ∃ l : List UInt8, l.length = len ∧ Rd w 1 (some a) len cap (l.map bv8) := by
  refine ⟨(zs.take len).map fun n => UInt8.ofNat n.toNat, by simp; omega, ?_⟩
  refine ⟨by simp; omega, hl, hm, fun hp => ?_⟩
  obtain ⟨b, off, spot⟩ := a
  have h0 := hc 0 (by simp at hp; omega)
  have hspot : spot = none := by simpa [Addr.add] using World.cell?_spot h0
  subst hspot
  refine ⟨b, off, rfl, fun j v hv => ?_⟩
  simp only [List.getElem?_map, Option.map_map, Option.map_eq_some_iff] at hv
  obtain ⟨n, hn, rfl⟩ := hv
  rw [List.getElem?_take] at hn
  split at hn
  · have hj : j < zs.length := (List.getElem?_eq_some_iff.1 hn).1
    have h1 := hc j hj
    rw [List.getD_eq_getElem?_getD, hn] at h1
    have h2 : w.cell? ⟨b, off + j, none⟩ = some (.int .u8 n) := by
      rcases Nat.eq_zero_or_pos j with e | e
      · subst e; simpa [Addr.add] using h1
      · simpa [Addr.add, Nat.ne_of_gt e] using h1
    rw [h2, Function.comp, bv8, ← y8_of_wf (hw n (List.mem_of_getElem? hn))]
  · cases hn
theorem rd_words {w : World} {a : Addr} {len cap : Nat} {zs : List Int} (hl : len ≤ cap) (hm : cap ≤ maxLen) (hz : zs.length = cap) (hc : ∀ i, i < zs.length → w.cell? (a.add i) = some (.int .u32 (zs.getD i 0)))
    (hw : ∀ n ∈ zs, (Lit.int .u32 n).wf = true) : ∃ l : List (BitVec 32), l.length = len ∧ Rd w 1 (some a) len cap (l.map wv) := by
  refine ⟨(zs.take len).map fun n => BitVec.ofNat 32 n.toNat, by simp; omega, ?_⟩
  refine ⟨by simp; omega, hl, hm, fun hp => ?_⟩
  obtain ⟨b, off, spot⟩ := a
  have h0 := hc 0 (by simp at hp; omega)
  have hspot : spot = none := by simpa [Addr.add] using World.cell?_spot h0
  subst hspot
  refine ⟨b, off, rfl, fun j v hv => ?_⟩
  simp only [List.getElem?_map, Option.map_map, Option.map_eq_some_iff] at hv
  obtain ⟨n, hn, rfl⟩ := hv
  rw [List.getElem?_take] at hn
  split at hn
  · have hj : j < zs.length := (List.getElem?_eq_some_iff.1 hn).1
    have h1 := hc j hj
    rw [List.getD_eq_getElem?_getD, hn] at h1
    have h2 : w.cell? ⟨b, off + j, none⟩ = some (.int .u32 n) := by
      rcases Nat.eq_zero_or_pos j with e | e
      · subst e; simpa [Addr.add] using h1
      · simpa [Addr.add, Nat.ne_of_gt e] using h1
    rw [h2, Function.comp, wv, ← u_of_wf (hw n (List.mem_of_getElem? hn))]
  · cases hn
def str (l : List UInt8) : ByteArray := ⟨l.toArray⟩
@[go_sem] theorem str_toList (l : List UInt8) : (str l).toList = l := by
  rw [Lib.toList_data]; rfl
@[go_sem] theorem str_size (l : List UInt8) : (str l).size = l.length := rfl
theorem str_of (s : ByteArray) : ∃ l : List UInt8, s = str l := ⟨s.data.toList, by cases s; simp [str]⟩
theorem ret_bool {a b : Bool} (h : a = b) : Ending.returned (.bool a) = .returned (.bool b) := by rw [h]
theorem run_bytes_str {P : Program} {src dst e : TypeId} (hs : P.underlying src = some (.slice e)) (he : P.underlying e = some (.int .u8)) (hd : P.underlying dst = some .string)
    {w : World} {A : Option Addr} {c : Nat} {l : List UInt8} (h : Rd w 1 A l.length c (l.map bv8)) : (convert src dst (.slice A l.length c)).run P w = .ok (.string (str l)) w := by
  rcases A with _ | a
  · have hl : l = [] := by
      rcases Nat.eq_zero_or_pos (l.map bv8).length with h0 | h0
      · simpa using h0
      · obtain ⟨b, off, h1, _⟩ := h.2.2.2 h0; cases h1
    subst hl
    rw [run_convert_bytes_nil w src e hs he _ _ dst hd]
    rfl
  · have hl : (loadCells a l.length).run P w = .ok ((l.map y8).map (Value.int .u8)).toArray w := by
      have := run_loadCells_list (P := P) w a ((l.map y8).map (Value.int .u8)) (fun j v hj => by
        have hj' : (l.map bv8)[j]? = some v := by rw [← hj, List.map_map]; rfl
        obtain ⟨b, off, h1, hc⟩ := h.at hj'
        injection h1 with h1
        subst h1
        have hplain : (⟨b, off, none⟩ : Addr).add j = ⟨b, off + j, none⟩ := by unfold Addr.add; split <;> simp_all
        rw [hplain, hc])
      simpa using this
    rw [run_convert_bytes_string w src dst e _ l.length c hs he hd, run_bytesToString w _ l.length c (l.map y8) hl, foldl_push_bytes]
    have e1 : ((l.map y8).map fun n => UInt8.ofNat n.toNat) = l := by
      rw [List.map_map]
      have : (fun n : Int => UInt8.ofNat n.toNat) ∘ y8 = id := by
        funext x; simp [y8]
      rw [this, List.map_id]
    rw [e1]
    simp [str, ByteArray.empty, ByteArray.emptyWithCapacity]
    rfl
theorem getD_lt {α : Type} {l : List α} {k : Nat} (h : k < l.length) (d : α) : l.getD k d = l[k] := by
  rw [List.getD_eq_getElem?_getD, List.getElem?_eq_getElem h]; rfl
theorem getD_last {α : Type} (W : List α) (x d : α) (j : Nat) (h : W.length = j) : (W ++ [x]).getD j d = x := by
  rw [List.getD_eq_getElem?_getD, List.getElem?_append_right (by omega), h, Nat.sub_self]; rfl
theorem set_last {α : Type} (W : List α) (x y : α) (j : Nat) (h : W.length = j) : (W ++ [x]).set j y = W ++ [y] := by
  rw [List.set_append_right _ _ (by omega), h, Nat.sub_self]; rfl
theorem Rd.take {w : World} {A : Option Addr} {n c : Nat} {xs : List Value} (h : Rd w 1 A n c xs) (k : Nat) (hk : k ≤ n) : Rd w 1 A k c (xs.take k) := by
  obtain ⟨h1, h2, h3, h4⟩ := h
  refine ⟨by rw [List.length_take]; omega, by omega, h3, fun hp => ?_⟩
  obtain ⟨b, off, e, hc⟩ := h4 (by rw [List.length_take] at hp; omega)
  refine ⟨b, off, e, fun j v hv => hc j v ?_⟩
  rw [List.getElem?_take] at hv
  split at hv
  · exact hv
  · cases hv
theorem Rd.as {w : World} {A : Option Addr} {n c : Nat} {l : List UInt8} (h : Rd w 1 A n c (l.map bv8)) : Rd w 1 A l.length c (l.map bv8) := by have := h.len; subst this; exact h
theorem str_lt {l : List UInt8} {i : Nat} (h : i < (str l).size) : i < l.length := h
@[go_sem] theorem str_at (l : List UInt8) (i : Nat) (h : i < (str l).size) : (((str l)[i]'h).toNat : Int) = y8 (l[i]'(str_lt h)) := rfl
theorem ret_int {k : IntKind} {a b : Int} (h : a = b) : Ending.returned (.int k a) = .returned (.int k b) := by rw [h]
theorem blk_rd {w : World} {g : Nat} {t : TypeId} {xs : List Value} {n : Nat} (h : Blk w g t xs) (hn : xs.length = n) (hm : n ≤ 281474976710656) : Rd w 1 (some ⟨g, 0, none⟩) n n xs := by
  have := h.rd (size := 1) (n := n) (c := n) (Nat.le_refl _) (by unfold maxLen; omega) (by omega)
  rwa [List.take_of_length_le (by omega)] at this
/-- '[]byte(s)': a new block that reads as the string's bytes -/
theorem run_str_bytes {P : Program} {src dst e : TypeId} (hs : P.underlying src = some .string) (hd : P.underlying dst = some (.slice e)) (he : P.underlying e = some (.int .u8)) (w : World) (l : List UInt8) (hl : l.length ≤ maxLen) :
    ∃ c w', (convert src dst (.string (str l))).run P w = .ok (.slice (some ⟨w.heap.size, 0, none⟩) l.length c) w' ∧ Rd w' 1 (some ⟨w.heap.size, 0, none⟩) l.length c (l.map bv8) ∧ Below w.heap.size w w' ∧ w'.heap.size = w.heap.size + 1 := by
  refine ⟨_, _, run_bytes_of_string w src dst e (str l) hs hd he, ?_, ?_, ?_⟩
  · refine ⟨by simp, grownCap_ge _ _ _ _, grownCap_le_maxLen _ _ _ _ hl, fun hp => ⟨w.heap.size, 0, rfl, fun j v hv => ?_⟩⟩
    rw [cell_of_row _ w.heap.size (0 + j) _ _ _ (heap_alloc_new w.drew _), Nat.zero_add]
    rw [List.getElem?_map] at hv
    have hj : j < l.length := by
      rcases Nat.lt_or_ge j l.length with h | h
      · exact h
      · rw [List.getElem?_eq_none h] at hv; cases hv
    have hsz : ((str l).data.map (fun b => Value.int .u8 (b.toNat : Int))).size = l.length := by simp [str]
    unfold bytesRow
    rw [Array.getElem?_append_left (by omega), Array.getElem?_map]
    have : (str l).data[j]? = l[j]? := by simp [str]
    rw [this, ← hv]
    rfl
  · exact (Below.refl _ _).drew.alloc (Nat.le_refl _) _
  · simp
end Go.Proofs.YtdbdigcpibmgjaaGreatDoor
/- Texts in their order. Nothing of the program. -/
namespace Go.Proofs.YtdbdigcpibmgjaaGreatDoor
open Go.RowKit
/-- is a text not behind another one -/
def nle (a b : List UInt8) : Bool := Op.bytesLess a b || a == b
theorem bl_irrefl : ∀ a : List UInt8, Op.bytesLess a a = false
  | [] => rfl
  | x :: r => by simp [Op.bytesLess, bl_irrefl r]
theorem bl_trans : ∀ {a b c : List UInt8}, Op.bytesLess a b = true → Op.bytesLess b c = true → Op.bytesLess a c = true
  | [], [], _, h, _ => by simp [Op.bytesLess] at h
  | [], _ :: _, [], _, h => by simp [Op.bytesLess] at h
  | [], _ :: _, _ :: _, _, _ => rfl
  | _ :: _, [], _, h, _ => by simp [Op.bytesLess] at h
  | _ :: _, _ :: _, [], _, h => by simp [Op.bytesLess] at h
  | x :: r, y :: s, z :: t, h1, h2 => by
    simp only [Op.bytesLess, Bool.or_eq_true, Bool.and_eq_true, decide_eq_true_eq, beq_iff_eq] at h1 h2 ⊢
    rcases h1 with h1 | ⟨rfl, h1⟩
    · rcases h2 with h2 | ⟨rfl, h2⟩
      · exact .inl (UInt8.lt_trans h1 h2)
      · exact .inl h1
    · rcases h2 with h2 | ⟨rfl, h2⟩
      · exact .inl h2
      · exact .inr ⟨rfl, bl_trans h1 h2⟩
theorem bl_tri : ∀ {a b : List UInt8}, Op.bytesLess a b = false → Op.bytesLess b a = false → a = b
  | [], [], _, _ => rfl
  | [], _ :: _, h, _ => by simp [Op.bytesLess] at h
  | _ :: _, [], _, h => by simp [Op.bytesLess] at h
  | x :: r, y :: s, h1, h2 => by
    simp only [Op.bytesLess, Bool.or_eq_false_iff, Bool.and_eq_false_iff, decide_eq_false_iff_not, beq_eq_false_iff_ne] at h1 h2
    have e : x = y := by
      have a1 := h1.1
      have a2 := h2.1
      rw [UInt8.lt_iff_toNat_lt] at a1 a2
      exact UInt8.toNat_inj.1 (by omega)
    subst e
    have b1 := h1.2.resolve_left (by simp)
    have b2 := h2.2.resolve_left (by simp)
    rw [bl_tri b1 b2]
theorem bl_asymm {a b : List UInt8} (h : Op.bytesLess a b = true) : Op.bytesLess b a = false := by
  rw [Bool.eq_false_iff]
  intro q
  have := bl_trans h q
  rw [bl_irrefl] at this
  cases this
theorem bl_ne {a b : List UInt8} (h : Op.bytesLess a b = true) : a ≠ b := by
  rintro rfl
  rw [bl_irrefl] at h
  cases h
/-- just one of three -/
theorem bl_cases (a b : List UInt8) : Op.bytesLess a b = true ∨ a = b ∨ Op.bytesLess b a = true := by
  by_cases h1 : Op.bytesLess a b = true
  · exact .inl h1
  · by_cases h2 : Op.bytesLess b a = true
    · exact .inr (.inr h2)
    · exact .inr (.inl (bl_tri (by simpa using h1) (by simpa using h2)))
theorem nle_false {a b : List UInt8} : nle a b = false ↔ Op.bytesLess b a = true := by
  unfold nle
  constructor
  · intro h
    rw [Bool.or_eq_false_iff] at h
    rcases bl_cases a b with q | q | q
    · rw [q] at h; exact absurd h.1 (by simp)
    · subst q; simp at h
    · exact q
  · intro h
    rw [bl_asymm h, Bool.false_or, beq_eq_false_iff_ne]
    exact fun q => bl_ne h q.symm
end Go.Proofs.YtdbdigcpibmgjaaGreatDoor
/- Appending to a row of the call's own. Nothing of the program. -/
namespace Go.Proofs.YtdbdigcpibmgjaaGreatDoor
open Go.RowKit
section
variable {P : Program}
theorem own_alloc {w : World} {base : Nat} {e : TypeId} {size : Nat} {v : Value} {n : Nat} {xs : List Value} (h : w.ownsRow base e size v n xs) (o : Obj) : (w.alloc o).ownsRow base e size v n xs := by
  refine ⟨h.1, ?_⟩
  rcases h.2 with h0 | ⟨g, cap, cur, hv, hb, hg, r⟩
  · exact .inl h0
  · have hlt : g < w.heap.size := by
      rcases Nat.lt_or_ge g w.heap.size with hlt | hge
      · exact hlt
      · rw [Array.getElem?_eq_none hge] at hg; cases hg
    exact .inr ⟨g, cap, cur, hv, hb, (Below.heap_alloc w o g hlt).trans hg, r⟩
theorem own_drewN {w : World} {base : Nat} {e : TypeId} {size : Nat} {v : Value} {n : Nat} {xs : List Value} (h : w.ownsRow base e size v n xs) (k : Nat) : (w.drewN k).ownsRow base e size v n xs := h
theorem own_below {w w' : World} {base : Nat} {e : TypeId} {size : Nat} {v : Value} {n : Nat} {xs : List Value} (h : w.ownsRow base e size v n xs) (hb : Below w.heap.size w w') : w'.ownsRow base e size v n xs := by
  refine ⟨h.1, ?_⟩
  rcases h.2 with h0 | ⟨g, cap, cur, hv, hB, hg, r⟩
  · exact .inl h0
  · have hlt : g < w.heap.size := by
      rcases Nat.lt_or_ge g w.heap.size with hlt | hge
      · exact hlt
      · rw [Array.getElem?_eq_none hge] at hg; cases hg
    exact .inr ⟨g, cap, cur, hv, hB, (hb.block g hlt).trans hg, r⟩
/-- append of a slice to a row of the call's own -/
theorem wpList_append2 {ops : Array Oper} {rest : List Oper} {o : Oper} {a : Act} {Q : Exit → Act → World → Prop} (hgd : o.guard = none) (s x : Operand) (t : TypeId)
    (ho : o.op = .call { callee := .builtin .append, args := #[s, x], argTypes := #[t, t] })
    {base : Nat} {e : TypeId} {i : TypeInfo} {z : Value} {size bytes : Nat} (ht : P.underlying t = some (.slice e)) (hi : P.info? e = some i) (hz : i.zero = some z)
    (hsize : i.size = size) (hby : i.bytes = bytes) (hzs : z.cells.size = size) (hsz : 0 < size)
    (v : Value) (n : Nat) (xs : List Value) (hs : a.eval s = v) {w0 : World} (hown : w0.ownsRow base e size v n xs) (b : Addr) (m c : Nat) (ys : List Value) (hl : ys.length = m * size) (hc : ∀ j u, ys[j]? = some u → w0.cell? (b.add j) = some u) (hy : ∀ y ∈ ys, y.oneCell' = true)
    (hx : a.eval x = .slice (some b) m c) (hb : (n + m) * bytes ≤ 140737488355328) (hnm : n + m ≤ maxLen) (hbase : base ≤ w0.heap.size)
    (h : ∀ v' w', w'.ownsRow base e size v' (n + m) (xs ++ ys) ∧ Below base w0 w' → wpList P ops Q rest (a.put o.dst v') w') :
    wpList P ops Q (o :: rest) a w0 := by
  obtain ⟨v', w', hrun, h2, h3, _, _⟩ := run_append_own_at (P := P) w0 base t o.type e i z size bytes ht hi hz hsize hby hzs hsz v n xs hown b m c ys hl hc hy hnm hb hbase
  refine wpList_plain hgd fun _ hK => ?_
  unfold Oper.wp execOp
  simp only [ho, resolve, invoke, builtin, Sem.run_bind, Sem.run_pure, Result.andThen_ok, List.map_toArray, List.map_cons, List.map_nil, hs, hx, hrun]
  exact hK _ _ (h v' w' ⟨h2, (Below.refl base w0).grown h3 hbase (fun k hk => (hown.lt k hk).1)⟩)
/-- append of a slice that reads as a list, nil let in (a nil slice has no capacity) -/
theorem wpList_appendR {ops : Array Oper} {rest : List Oper} {o : Oper} {a : Act} {Q : Exit → Act → World → Prop} (hgd : o.guard = none) (s x : Operand) (t : TypeId)
    (ho : o.op = .call { callee := .builtin .append, args := #[s, x], argTypes := #[t, t] })
    {base : Nat} {e : TypeId} {i : TypeInfo} {z : Value} {size bytes : Nat} (ht : P.underlying t = some (.slice e)) (hi : P.info? e = some i) (hz : i.zero = some z)
    (hsize : i.size = size) (hby : i.bytes = bytes) (hzs : z.cells.size = size) (hsz : 0 < size)
    (v : Value) (n : Nat) (xs : List Value) (hs : a.eval s = v) {w0 : World} (hown : w0.ownsRow base e size v n xs) {A : Option Addr} {m c : Nat} {ys : List Value} (hr : Rd w0 size A m c ys) (hA : A = none → c = 0) (hy : ∀ y ∈ ys, y.oneCell' = true)
    (hx : a.eval x = .slice A m c) (hb : (n + m) * bytes ≤ 140737488355328) (hnm : n + m ≤ maxLen) (hbase : base ≤ w0.heap.size)
    (h : ∀ v' w', w'.ownsRow base e size v' (n + m) (xs ++ ys) ∧ Below base w0 w' → wpList P ops Q rest (a.put o.dst v') w') :
    wpList P ops Q (o :: rest) a w0 := by
  have spot : ∀ b off j, (⟨b, off, none⟩ : Addr).add j = ⟨b, off + j, none⟩ := fun b off j => by unfold Addr.add; split <;> simp_all
  rcases A with _ | ad
  · have hy0 : ys = [] := by
      rcases Nat.eq_zero_or_pos ys.length with h0 | h0
      · exact List.eq_nil_of_length_eq_zero h0
      · obtain ⟨_, _, h1, _⟩ := hr.2.2.2 h0; cases h1
    have hc0 := hA rfl
    subst hy0; subst hc0
    have hm0 : m = 0 := by have := hr.2.1; omega
    subst hm0
    refine wpList_plain hgd fun _ hK => ?_
    have hrun := run_append_owned_none (P := P) (w := w0) base t o.type e i size ht hi v n xs hown
    unfold Oper.wp execOp
    simp only [ho, resolve, invoke, builtin, Sem.run_bind, Sem.run_pure, Result.andThen_ok, List.map_toArray, List.map_cons, List.map_nil, hs, hx, hrun]
    exact hK _ _ (h v w0 ⟨by simpa using hown, Below.refl _ _⟩)
  · refine wpList_append2 hgd s x t ho ht hi hz hsize hby hzs hsz v n xs hs hown ad m c ys hr.1 (fun j u hj => ?_) hy hx hb hnm hbase h
    obtain ⟨b, off, h1, hc⟩ := hr.at hj
    injection h1 with h1
    subst h1
    rw [spot]; exact hc
/-- what is known behind an append of one element -/
def App1 (base : Nat) (e : TypeId) (size n : Nat) (xs ys : List Value) (v : Value) (w0 : World) (v' : Value) (w' : World) : Prop :=
  w'.ownsRow base e size v' (n + 1) (xs ++ ys) ∧ Below base w0 w' ∧ w0.heap.size ≤ w'.heap.size ∧ ∀ k, k < w0.heap.size → v.ownBlock ≠ some k → v'.ownBlock ≠ some k ∧ w'.heap[k]? = w0.heap[k]?
theorem cells_new (w : World) (ys : List Value) (t : TypeId) : ∀ (j : Nat) v, ys[j]? = some v → (w.alloc (.cells ys.toArray t)).cell? ((⟨w.heap.size, 0, none⟩ : Addr).add j) = some v := by
  intro j v hj
  have h := (Blk.new w t ys).cell j
  rw [hj] at h
  unfold Addr.add
  split
  · next e => subst e; exact h
  · simpa using h
theorem small_bytes {n bytes : Nat} (hn : n < 4294967296) (hbytes : bytes ≤ 4096) : (n + 1) * bytes ≤ 140737488355328 := by
  have : (n + 1) * bytes ≤ 4294967296 * 4096 := Nat.mul_le_mul (by omega) hbytes
  omega
theorem run_append1' {t ty e : TypeId} {base : Nat} {i : TypeInfo} {z : Value} {size bytes : Nat} (ht : P.underlying t = some (.slice e)) (hi : P.info? e = some i) (hz : i.zero = some z)
    (hsize : i.size = size) (hby : i.bytes = bytes) (hzs : z.cells.size = size) (hsz : 0 < size)
    (v : Value) (n : Nat) (xs : List Value) {w0 : World} (hown : w0.ownsRow base e size v n xs) (ys : List Value) (hl : ys.length = size) (hy : ∀ y ∈ ys, y.oneCell' = true)
    (hb : (n + 1) * bytes ≤ 140737488355328) (hnm : n + 1 ≤ maxLen) (hbase : base ≤ w0.heap.size) :
    ∃ v' w', (Builtin.append_ #[t, t] ty #[v, .slice (some ⟨w0.heap.size, 0, none⟩) 1 1]).run P (w0.alloc (.cells ys.toArray e)) = .ok v' w' ∧ App1 base e size n xs ys v w0 v' w' := by
  obtain ⟨v', w', hrun, h2, h3, _, h5⟩ := run_append_own_at (P := P) (w0.alloc (.cells ys.toArray e)) base t ty e i z size bytes ht hi hz hsize hby hzs hsz v n xs (own_alloc hown _) ⟨w0.heap.size, 0, none⟩ 1 1 ys (by simpa using hl) (cells_new _ _ _) hy
    hnm hb (by simp; omega)
  refine ⟨v', w', hrun, h2, ((Below.refl base w0).alloc hbase _).grown h3 (by simp; omega) (fun k hk => (hown.lt k hk).1), Nat.le_trans (by simp) h3.size, fun k hk hne => ⟨?_, ?_⟩⟩
  · rcases h5 with e | e
    · rw [e]; exact hne
    · rw [e]; simp; omega
  · rw [h3.block k (by simp; omega) (fun e => hne e.symm), Below.heap_alloc w0 _ k hk]
theorem wp_append1' {o : Oper} {a : Act} {K : Act → World → Prop} {Q : Exit → Act → World → Prop} (s x : Operand) (t : TypeId)
    (ho : o.op = .call { callee := .builtin .append, args := #[s, x], argTypes := #[t, t] })
    {base : Nat} {e : TypeId} {i : TypeInfo} {z : Value} {size bytes : Nat} (ht : P.underlying t = some (.slice e)) (hi : P.info? e = some i) (hz : i.zero = some z)
    (hsize : i.size = size) (hby : i.bytes = bytes) (hzs : z.cells.size = size) (hsz : 0 < size)
    (v : Value) (n : Nat) (xs : List Value) (hs : a.eval s = v) {w0 : World} (hown : w0.ownsRow base e size v n xs) (ys : List Value) (hl : ys.length = size) (hy : ∀ y ∈ ys, y.oneCell' = true)
    (hx : a.eval x = .slice (some ⟨w0.heap.size, 0, none⟩) 1 1) (hb : (n + 1) * bytes ≤ 140737488355328) (hnm : n + 1 ≤ maxLen) (hbase : base ≤ w0.heap.size)
    (h : ∀ v' w', App1 base e size n xs ys v w0 v' w' → K (a.put o.dst v') w') : o.wp P a (w0.alloc (.cells ys.toArray e)) K Q := by
  obtain ⟨v', w', hrun, h2⟩ := run_append1' (P := P) (ty := o.type) ht hi hz hsize hby hzs hsz v n xs hown ys hl hy hb hnm hbase
  unfold Oper.wp execOp
  simp only [ho, resolve, invoke, builtin, Sem.run_bind, Sem.run_pure, Result.andThen_ok, List.map_toArray, List.map_cons, List.map_nil, hs, hx, hrun]
  exact h v' w' h2
/-- the same as a step of a region that draws its order -/
theorem step_append1 {ops : Array Oper} {o : Oper} {a : Act} {K : Act → World → Prop} {Q : Exit → Act → World → Prop} {E : Prop} (hgd : o.guard = none) (s x : Operand) (t : TypeId)
    (ho : o.op = .call { callee := .builtin .append, args := #[s, x], argTypes := #[t, t] })
    {base : Nat} {e : TypeId} {i : TypeInfo} {z : Value} {size bytes : Nat} (ht : P.underlying t = some (.slice e)) (hi : P.info? e = some i) (hz : i.zero = some z)
    (hsize : i.size = size) (hby : i.bytes = bytes) (hzs : z.cells.size = size) (hsz : 0 < size)
    (v : Value) (n : Nat) (xs : List Value) (hs : a.eval s = v) {w0 : World} (hown : w0.ownsRow base e size v n xs) (ys : List Value) (hl : ys.length = size) (hy : ∀ y ∈ ys, y.oneCell' = true)
    (hx : a.eval x = .slice (some ⟨w0.heap.size, 0, none⟩) 1 1) (hb : (n + 1) * bytes ≤ 140737488355328) (hnm : n + 1 ≤ maxLen) (hbase : base ≤ w0.heap.size)
    (h : ∀ v' w', App1 base e size n xs ys v w0 v' w' → K (a.put o.dst v') w') :
    if Region.wanted o (yielded ops a.tmps) = true then o.wp P a (w0.alloc (.cells ys.toArray e)) K Q else E := by
  have hw : Region.wanted o (yielded ops a.tmps) = true := by simp [Region.wanted, hgd]
  rw [if_pos hw]
  exact wp_append1' s x t ho ht hi hz hsize hby hzs hsz v n xs hs hown ys hl hy hx hb hnm hbase h
theorem wpList_append1' {ops : Array Oper} {rest : List Oper} {o : Oper} {a : Act} {Q : Exit → Act → World → Prop} (hgd : o.guard = none) (s x : Operand) (t : TypeId)
    (ho : o.op = .call { callee := .builtin .append, args := #[s, x], argTypes := #[t, t] })
    {base : Nat} {e : TypeId} {i : TypeInfo} {z : Value} {size bytes : Nat} (ht : P.underlying t = some (.slice e)) (hi : P.info? e = some i) (hz : i.zero = some z)
    (hsize : i.size = size) (hby : i.bytes = bytes) (hzs : z.cells.size = size) (hsz : 0 < size)
    (v : Value) (n : Nat) (xs : List Value) (hs : a.eval s = v) {w0 : World} (hown : w0.ownsRow base e size v n xs) (ys : List Value) (hl : ys.length = size) (hy : ∀ y ∈ ys, y.oneCell' = true)
    (hx : a.eval x = .slice (some ⟨w0.heap.size, 0, none⟩) 1 1) (hb : (n + 1) * bytes ≤ 140737488355328) (hnm : n + 1 ≤ maxLen) (hbase : base ≤ w0.heap.size)
    (h : ∀ v' w', App1 base e size n xs ys v w0 v' w' → wpList P ops Q rest (a.put o.dst v') w') :
    wpList P ops Q (o :: rest) a (w0.alloc (.cells ys.toArray e)) :=
  wpList_plain hgd fun _ hK => wp_append1' s x t ho ht hi hz hsize hby hzs hsz v n xs hs hown ys hl hy hx hb hnm hbase fun v' w' h2 => hK _ _ (h v' w' h2)
theorem wpList_append1 {ops : Array Oper} {rest : List Oper} {o : Oper} {a : Act} {Q : Exit → Act → World → Prop} (hgd : o.guard = none) (s x : Operand) (t : TypeId)
    (ho : o.op = .call { callee := .builtin .append, args := #[s, x], argTypes := #[t, t] })
    {base : Nat} {e : TypeId} {i : TypeInfo} {z : Value} {size bytes : Nat} (ht : P.underlying t = some (.slice e)) (hi : P.info? e = some i) (hz : i.zero = some z)
    (hsize : i.size = size) (hby : i.bytes = bytes) (hzs : z.cells.size = size) (hsz : 0 < size)
    (v : Value) (n : Nat) (xs : List Value) (hs : a.eval s = v) {w0 : World} (hown : w0.ownsRow base e size v n xs) (ys : List Value) (hl : ys.length = size) (hy : ∀ y ∈ ys, y.oneCell' = true)
    (hx : a.eval x = .slice (some ⟨w0.heap.size, 0, none⟩) 1 1) (hn : n < 4294967296) (hbytes : bytes ≤ 4096) (hbase : base ≤ w0.heap.size)
    (h : ∀ v' w', App1 base e size n xs ys v w0 v' w' → wpList P ops Q rest (a.put o.dst v') w') :
    wpList P ops Q (o :: rest) a (w0.alloc (.cells ys.toArray e)) :=
  wpList_append1' hgd s x t ho ht hi hz hsize hby hzs hsz v n xs hs hown ys hl hy hx (small_bytes hn hbytes) (by unfold maxLen; omega) hbase h
end
def GivesB (l : List UInt8) (err : Int) (w : World) (e : Ending) (w' : World) : Prop :=
  ∃ A n c, e = .returned (.tuple #[.slice A n c, .int .i64 err]) ∧ Rd w' 1 A n c (l.map bv8) ∧ Below w.heap.size w w'
theorem own_rd {w : World} {base : Nat} {e : TypeId} {v : Value} {n : Nat} {xs : List Value} (h : w.ownsRow base e 1 v n xs) : ∃ A c, v = .slice A n c ∧ Rd w 1 A n c xs := by
  rcases h.2 with ⟨rfl, rfl⟩ | ⟨g, cap, cur, rfl, _, _, h1, h2, _⟩
  · have : xs = [] := List.eq_nil_of_length_eq_zero (by simpa using h.1)
    subst this
    exact ⟨none, 0, rfl, Rd.nil _ _⟩
  · exact ⟨_, _, rfl, Rd.of_own h h2 h1⟩
theorem gives_nil {w : World} {err : Int} {e : Ending} {w' : World} (h : e = .returned (.tuple #[.slice none 0 0, .int .i64 err]) ∧ w = w') : GivesB [] err w e w' := by
  obtain ⟨rfl, rfl⟩ := h
  exact ⟨none, 0, 0, rfl, Rd.nil _ _, Below.refl _ _⟩
end Go.Proofs.YtdbdigcpibmgjaaGreatDoor
/- The row of bytes in the program's table. -/
namespace Go.Proofs.YtdbdigcpibmgjaaGreatDoor

theorem u8_info : (Tryz.prog.info? 5).map (fun i => (i.zero, i.size, i.bytes)) = some (some (.int .u8 0), 1, 1) := by kernel_rfl
end Go.Proofs.YtdbdigcpibmgjaaGreatDoor
/- Bytes as numbers: how the walk's numbers are told in their terms; hexadecimal digits. Nothing of the program. -/
namespace Go.Proofs.YtdbdigcpibmgjaaGreatDoor
open Go.RowKit
@[go_sem] theorem wrap8_y8 (x : UInt8) : IntKind.u8.wrap (y8 x) = y8 x := by
  have := y8_nonneg x; have := y8_lt x
  rw [IntKind.wrap_u8]; omega
theorem y8_div16 (x : UInt8) : y8 x / (16 : Int) = y8 (x >>> 4) := by
  have : ∀ n : Fin 256, ((UInt8.ofNat n.val).toNat / 16 : Nat) = ((UInt8.ofNat n.val) >>> 4).toNat := by decide +kernel
  have h := this ⟨x.toNat, x.toNat_lt⟩
  simp only [UInt8.ofNat_toNat] at h
  unfold y8; rw [← h]; simp
theorem y8_and15 (x : UInt8) : bits .and .u8 (y8 x) 15 = y8 (x &&& 15) := by
  have : ∀ n : Fin 256, bits .and .u8 (n.val : Int) 15 = (((UInt8.ofNat n.val) &&& 15).toNat : Int) := by decide +kernel
  have h := this ⟨x.toNat, x.toNat_lt⟩
  simp only [UInt8.ofNat_toNat] at h
  exact h
/-- the digit of a number below 16 -/
def dg (n : UInt8) : UInt8 := if n < 10 then 48 + n else 87 + n
def hexT (l : List UInt8) : List UInt8 := l.flatMap fun x : UInt8 => [dg (x >>> 4), dg (x &&& 15)]
theorem hexT_length (l : List UInt8) : (hexT l).length = 2 * l.length := by
  induction l with
  | nil => rfl
  | cons a r ih =>
    have e : hexT (a :: r) = dg (a >>> 4) :: dg (a &&& 15) :: hexT r := rfl
    rw [e, List.length_cons, List.length_cons, ih, List.length_cons]; omega
theorem hexT_at : ∀ (l : List UInt8) (k : Nat) (h : k < l.length), (hexT l)[2 * k]? = some (dg (l[k] >>> 4)) ∧ (hexT l)[2 * k + 1]? = some (dg (l[k] &&& 15))
  | [], _, h => absurd h (by simp)
  | a :: r, 0, _ => ⟨rfl, rfl⟩
  | a :: r, k + 1, h => by
    have := hexT_at r k (by simpa using h)
    have e : hexT (a :: r) = dg (a >>> 4) :: dg (a &&& 15) :: hexT r := rfl
    rw [e, show 2 * (k + 1) = 2 * k + 1 + 1 from by omega, show 2 * k + 1 + 1 + 1 = (2 * k + 1) + 1 + 1 from rfl]
    simpa using this
def digs : ByteArray := ⟨#[48, 49, 50, 51, 52, 53, 54, 55, 56, 57, 97, 98, 99, 100, 101, 102]⟩
@[go_sem high] theorem fold_digs : (⟨#[48, 49, 50, 51, 52, 53, 54, 55, 56, 57, 97, 98, 99, 100, 101, 102]⟩ : ByteArray) = digs := rfl
theorem digs_at : ∀ n : Fin 16, digs[n.val]? = some (dg (UInt8.ofNat n.val)) := by decide +kernel
theorem run_digs {P : Program} (w : World) (t : TypeId) (k : IntKind) (i : Int) (n : UInt8) (h : P.underlying t = some .string) (hi : i = y8 n) (hn : n.toNat < 16) :
    (Instr.index t (.string digs) (.int k i)).run P w = .ok (.int .u8 (y8 (dg n))) w := by
  subst hi
  have hs : digs.size = 16 := by decide +kernel
  have e : (y8 n).toNat = n.toNat := by simp [y8]
  have h1 : 0 ≤ y8 n ∧ y8 n < (digs.size : Int) := by have := y8_nonneg n; rw [hs]; unfold y8; omega
  rw [run_index_string w t digs k _ h, dif_pos h1]
  have h2 := digs_at ⟨n.toNat, hn⟩
  simp only [UInt8.ofNat_toNat] at h2
  have h3 : digs[(y8 n).toNat]'(by omega) = dg n := by
    have h4 : n.toNat < digs.size := by omega
    rw [ByteArray.getElem?_lt' _ _ h4] at h2
    simp only [e]
    exact Option.some.inj h2
  rw [h3]; rfl
theorem y8_hi' (x : UInt8) : (x >>> 4).toNat = x.toNat / 16 := by have h := y8_div16 x; unfold y8 at h; omega
theorem hi_lt (x : UInt8) : (x >>> 4).toNat < 16 := by
  have h := y8_div16 x; have := y8_lt x; unfold y8 at *; omega
theorem lo_lt (x : UInt8) : (x &&& 15).toNat < 16 := by
  rw [UInt8.toNat_and]
  exact Nat.lt_of_le_of_lt Nat.and_le_right (by decide)
attribute [go_sem] y8_div16 y8_and15
@[go_sem high] theorem run_digs_hi {P : Program} (w : World) (t : TypeId) (k : IntKind) (x : UInt8) (h : P.underlying t = some .string) :
    (Instr.index t (.string digs) (.int k (y8 (x >>> 4)))).run P w = .ok (.int .u8 (y8 (dg (x >>> 4)))) w := run_digs w t k _ _ h rfl (hi_lt x)
@[go_sem high] theorem run_digs_lo {P : Program} (w : World) (t : TypeId) (k : IntKind) (x : UInt8) (h : P.underlying t = some .string) :
    (Instr.index t (.string digs) (.int k (y8 (x &&& 15)))).run P w = .ok (.int .u8 (y8 (dg (x &&& 15)))) w := run_digs w t k _ _ h rfl (lo_lt x)
theorem y8_ofNat (n : Nat) (h : n < 256) : y8 (UInt8.ofNat n) = (n : Int) := by
  unfold y8; rw [UInt8.toNat_ofNat']; omega
end Go.Proofs.YtdbdigcpibmgjaaGreatDoor
/- Hexadecimal digits: plain facts. Nothing of the program. -/
namespace Go.Proofs.YtdbdigcpibmgjaaGreatDoor
open Go.RowKit
/-- is the byte one of the digits -/
def isD (c : UInt8) : Bool := decide (48 ≤ y8 c ∧ y8 c ≤ 57 ∨ 97 ≤ y8 c ∧ y8 c ≤ 102)
/-- the number of a digit -/
def vl (c : UInt8) : UInt8 := if c ≤ 57 then c - 48 else c - 87
theorem isD_iff (c : UInt8) : isD c = true ↔ (48 ≤ y8 c ∧ y8 c ≤ 57 ∨ 97 ≤ y8 c ∧ y8 c ≤ 102) := by simp [isD]
theorem vl_table : ∀ n : Fin 256, isD (UInt8.ofNat n.val) = true → (y8 (vl (UInt8.ofNat n.val)) = if y8 (UInt8.ofNat n.val) ≤ 57 then y8 (UInt8.ofNat n.val) - 48 else y8 (UInt8.ofNat n.val) - 87) ∧ dg (vl (UInt8.ofNat n.val)) = UInt8.ofNat n.val ∧ (vl (UInt8.ofNat n.val)).toNat < 16 := by decide +kernel
theorem vl_spec {c : UInt8} (h : isD c = true) : (y8 (vl c) = if y8 c ≤ 57 then y8 c - 48 else y8 c - 87) ∧ dg (vl c) = c ∧ (vl c).toNat < 16 := by
  have := vl_table ⟨c.toNat, c.toNat_lt⟩
  simp only [UInt8.ofNat_toNat] at this
  exact this h
theorem dgD_table : ∀ n : Fin 256, isD (dg (UInt8.ofNat n.val >>> 4)) = true ∧ isD (dg (UInt8.ofNat n.val &&& 15)) = true := by decide +kernel
theorem dgD (x : UInt8) : isD (dg (x >>> 4)) = true ∧ isD (dg (x &&& 15)) = true := by
  have := dgD_table ⟨x.toNat, x.toNat_lt⟩
  simpa only [UInt8.ofNat_toNat] using this
theorem hexT_isD : ∀ l : List UInt8, (hexT l).all isD = true
  | [] => rfl
  | a :: r => by
    rw [show hexT (a :: r) = dg (a >>> 4) :: dg (a &&& 15) :: hexT r from rfl, List.all_cons, List.all_cons, (dgD a).1, (dgD a).2, hexT_isD r]; rfl
theorem all_snoc {l : List UInt8} {k : Nat} (hk : k < l.length) : (l.take (k + 1)).all isD = ((l.take k).all isD && isD l[k]) := by
  rw [List.take_succ_eq_append_getElem hk, List.all_append]; simp
end Go.Proofs.YtdbdigcpibmgjaaGreatDoor
/- A number picked. -/
namespace Go.Proofs.YtdbdigcpibmgjaaGreatDoor
open Go.RowKit
def pk (n m : Int) : Int := (if n < 0 then -(n + 1) else n) % m
theorem pk_range (n m : Int) (h : 0 < m) : 0 ≤ pk n m ∧ pk n m < m := ⟨Int.emod_nonneg _ (by omega), Int.emod_lt_of_pos _ h⟩
theorem i64_range {n : Int} (h : (Lit.int .i64 n).wf = true) : -9223372036854775808 ≤ n ∧ n ≤ 9223372036854775807 := by
  simpa [Lit.wf, IntKind.min, IntKind.max, IntKind.bits, IntKind.signed] using h
set_option maxRecDepth 100000 in
set_option maxHeartbeats 400000 in
theorem picked_any (n m : Int) (w : World) (h0 : -9223372036854775808 ≤ n) (h1 : n ≤ 9223372036854775807) (hm : 0 < m) (hm2 : m ≤ 4611686018427387904) :
    Calls Tryz.prog 20 #[.int .i64 n, .int .i64 m] w fun e w' => e = .returned (.int .i64 (pk n m)) ∧ w = w' := by
  by_cases hn : n < 0
  · have hp : Hid (pk n m = -(n + 1) % m) := by show _ = _; unfold pk; rw [if_pos hn]
    have he : (m == 0) = false := by simp; omega
    go_enter Tryz.func20, Tryz.ntmps20
    go_wp2
    go_ret
    exact ⟨ret_int (by rw [hp.out, ← Int.neg_tmod, Int.tmod_eq_emod_of_nonneg (by omega)]), rfl⟩
  · have hp : Hid (pk n m = n % m) := by show _ = _; unfold pk; rw [if_neg hn]
    have he : (m == 0) = false := by simp; omega
    go_enter Tryz.func20, Tryz.ntmps20
    go_wp2
    go_ret
    exact ⟨ret_int (by rw [hp.out]), rfl⟩
end Go.Proofs.YtdbdigcpibmgjaaGreatDoor
/- Numbers as bytes (groups of seven bits) and back, as plain functions on lists. Nothing of the program. -/
namespace Go.Proofs.YtdbdigcpibmgjaaGreatDoor
open Go.RowKit
/-- the bytes of a number -/
def enc (n : Nat) : List UInt8 := if h : n < 128 then [UInt8.ofNat n] else UInt8.ofNat (n % 128 + 128) :: enc (n / 128)
termination_by n
decreasing_by omega
theorem enc_small {n : Nat} (h : n < 128) : enc n = [UInt8.ofNat n] := by rw [enc, dif_pos h]
theorem enc_big {n : Nat} (h : ¬ n < 128) : enc n = UInt8.ofNat (n % 128 + 128) :: enc (n / 128) := by rw [enc, dif_neg h]
/-- the number of bytes -/
def val : List UInt8 → Nat
  | [] => 0
  | x :: r => x.toNat % 128 + 128 * val r
/-- how many bytes of 128 and above stand at the beginning -/
def lead : List UInt8 → Nat
  | [] => 0
  | x :: r => if 128 ≤ x.toNat then lead r + 1 else 0
theorem lead_le : ∀ l : List UInt8, lead l ≤ l.length
  | [] => Nat.le_refl _
  | x :: r => by
    have := lead_le r
    unfold lead
    split <;> simp <;> omega
theorem lead_at : ∀ (l : List UInt8) (k : Nat), k < lead l → ∀ h : k < l.length, 128 ≤ l[k].toNat
  | [], _, _, h => absurd h (by simp)
  | x :: r, 0, hk, _ => by
    unfold lead at hk
    split at hk
    · assumption
    · omega
  | x :: r, k + 1, hk, h => by
    unfold lead at hk
    split at hk
    · exact lead_at r k (by omega) (by simpa using h)
    · omega
theorem lead_stop : ∀ (l : List UInt8) (h : lead l < l.length), l[lead l].toNat < 128
  | [], h => absurd h (by simp)
  | x :: r, h => by
    by_cases hx : 128 ≤ x.toNat
    · have e : lead (x :: r) = lead r + 1 := by rw [lead, if_pos hx]
      have h' : lead r < r.length := by rw [e] at h; simpa using h
      have := lead_stop r h'
      have g : (x :: r)[lead (x :: r)]? = r[lead r]? := by rw [e, List.getElem?_cons_succ]
      rw [List.getElem?_eq_getElem h, List.getElem?_eq_getElem h'] at g
      rw [Option.some.inj g]; exact this
    · have e : lead (x :: r) = 0 := by rw [lead, if_neg hx]
      have g : (x :: r)[lead (x :: r)]? = some x := by rw [e]; rfl
      rw [List.getElem?_eq_getElem h] at g
      rw [Option.some.inj g]; omega
/-- at a place below 128 the beginning ends -/
theorem lead_eq {l : List UInt8} {k : Nat} (hk : k ≤ lead l) (h : k < l.length) (hx : l[k].toNat < 128) : lead l = k := by
  rcases Nat.lt_or_ge k (lead l) with h1 | h1
  · have := lead_at l k h1 h; omega
  · omega
theorem lead_more {l : List UInt8} {k : Nat} (hk : k ≤ lead l) (h : k < l.length) (hx : 128 ≤ l[k].toNat) : k + 1 ≤ lead l := by
  rcases Nat.lt_or_ge k (lead l) with h1 | h1
  · exact h1
  · have e : lead l = k := by omega
    subst e
    have := lead_stop l h; omega
theorem val_lt : ∀ l : List UInt8, val l < 128 ^ l.length
  | [] => by simp [val]
  | x :: r => by
    have := val_lt r
    rw [val, List.length_cons, Nat.pow_succ]
    omega
theorem val_drop {l : List UInt8} {j : Nat} (h : j < l.length) : val (l.drop j) = l[j].toNat % 128 + 128 * val (l.drop (j + 1)) := by
  rw [List.drop_eq_getElem_cons h, val]
theorem lead_enc (n : Nat) (r : List UInt8) : lead (enc n ++ r) + 1 = (enc n).length := by
  induction n using Nat.strongRecOn with
  | _ n ih =>
    by_cases h : n < 128
    · rw [enc_small h, List.singleton_append, lead, if_neg (by rw [UInt8.toNat_ofNat']; omega)]; rfl
    · rw [enc_big h, List.cons_append, lead, if_pos (by rw [UInt8.toNat_ofNat']; omega), ih (n / 128) (by omega)]; rfl
theorem val_enc (n : Nat) : val (enc n) = n := by
  induction n using Nat.strongRecOn with
  | _ n ih =>
    by_cases h : n < 128
    · rw [enc_small h, val, val, UInt8.toNat_ofNat']; omega
    · rw [enc_big h, val, ih (n / 128) (by omega), UInt8.toNat_ofNat']; omega
theorem enc_pos (n : Nat) : 1 ≤ (enc n).length := by
  by_cases h : n < 128
  · rw [enc_small h]; simp
  · rw [enc_big h]; simp
theorem enc_len : ∀ (k n : Nat), n < 128 ^ (k + 1) → (enc n).length ≤ k + 1
  | 0, n, h => by rw [enc_small (by simpa using h)]; simp
  | k + 1, n, h => by
    by_cases hn : n < 128
    · rw [enc_small hn]; simp
    · rw [enc_big hn, List.length_cons]
      have := enc_len k (n / 128) (by rw [Nat.pow_succ] at h; omega)
      omega
theorem enc_len5 {n : Nat} (h : n < 4294967296) : (enc n).length ≤ 5 := enc_len 4 n (Nat.lt_of_lt_of_le h (by decide))
theorem enc_mono : ∀ (n m : Nat), n ≤ m → (enc n).length ≤ (enc m).length := by
  intro n
  induction n using Nat.strongRecOn with
  | _ n ih =>
    intro m hm
    by_cases h : n < 128
    · rw [enc_small h]; exact enc_pos m
    · rw [enc_big h, enc_big (n := m) (by omega), List.length_cons, List.length_cons]
      have := ih (n / 128) (by omega) (m / 128) (Nat.div_le_div_right hm)
      omega
theorem ofNat_mod {x : UInt8} (h : 128 ≤ x.toNat) : UInt8.ofNat (x.toNat % 128 + 128) = x := by
  have := x.toNat_lt
  have e : x.toNat % 128 + 128 = x.toNat := by omega
  rw [e, UInt8.ofNat_toNat]
/-- bytes up to the first below 128 are a number's own if they are one byte, or the last is not zero -/
theorem enc_val : ∀ (l : List UInt8) (h : lead l < l.length), enc (val (l.take (lead l + 1))) = l.take (lead l + 1) ↔ (lead l = 0 ∨ l[lead l].toNat ≠ 0)
  | [], h => absurd h (by simp)
  | x :: r, h => by
    by_cases hx : 128 ≤ x.toNat
    · have e : lead (x :: r) = lead r + 1 := by rw [lead, if_pos hx]
      have h' : lead r < r.length := by rw [e] at h; simpa using h
      have ih := enc_val r h'
      have hs := lead_stop r h'
      have g : (x :: r)[lead (x :: r)]? = r[lead r]? := by rw [e, List.getElem?_cons_succ]
      rw [List.getElem?_eq_getElem h, List.getElem?_eq_getElem h'] at g
      rw [Option.some.inj g, e, List.take_succ_cons, val]
      have hlast : ∀ (t : List UInt8) (k : Nat), (hk : k < t.length) → val (t.take (k + 1)) = 0 → t[k].toNat % 128 = 0 := by
        intro t
        induction t with
        | nil => intro k hk; simp at hk
        | cons y t iht =>
          intro k hk hv
          cases k with
          | zero => simp [val] at hv; simp; omega
          | succ k =>
            rw [List.take_succ_cons, val] at hv
            have := iht k (by simpa using hk) (by omega)
            simpa using this
      by_cases hv : val (r.take (lead r + 1)) = 0
      · have hz := hlast r (lead r) h' hv
        rw [hv, enc_small (by omega)]
        constructor
        · intro q
          have := congrArg List.length q
          simp only [List.length_cons, List.length_nil, List.length_take] at this
          omega
        · intro q
          omega
      · rw [enc_big (by omega)]
        have e1 : (x.toNat % 128 + 128 * val (r.take (lead r + 1))) % 128 = x.toNat % 128 := by omega
        have e2 : (x.toNat % 128 + 128 * val (r.take (lead r + 1))) / 128 = val (r.take (lead r + 1)) := by omega
        rw [e1, e2, ofNat_mod hx, List.cons.injEq, ih]
        constructor
        · rintro ⟨_, q | q⟩
          · right
            intro hz
            apply hv
            have : r.take (lead r + 1) = [r[lead r]] := by
              obtain ⟨y, s, rfl⟩ : ∃ y s, r = y :: s := by cases r; simp at h'; exact ⟨_, _, rfl⟩
              have g2 : (y :: s)[lead (y :: s)]? = some y := by rw [q]; rfl
              rw [List.getElem?_eq_getElem h'] at g2
              rw [Option.some.inj g2, q]; rfl
            rw [this, val, val, hz]
          · exact .inr q
        · rintro (q | q)
          · omega
          · exact ⟨rfl, .inr q⟩
    · have e : lead (x :: r) = 0 := by rw [lead, if_neg hx]
      constructor
      · intro _; exact .inl e
      · intro _
        rw [e, List.take_succ_cons, List.take_zero, val, val, enc_small (by omega)]
        have : x.toNat % 128 + 128 * 0 = x.toNat := by omega
        rw [this, UInt8.ofNat_toNat]
theorem take_enc (n : Nat) (r : List UInt8) : (enc n ++ r).take (lead (enc n ++ r) + 1) = enc n := by
  rw [lead_enc, List.take_left' rfl]
theorem drop_enc (n : Nat) (r : List UInt8) : (enc n ++ r).drop (lead (enc n ++ r) + 1) = r := by
  rw [lead_enc, List.drop_left' rfl]
/-- what reading a number tells: the error, the number, how many bytes it took -/
def rErr (l : List UInt8) : Int :=
  if 5 ≤ lead l then 3 else if lead l = l.length then 8
  else if 4294967295 < val (l.take (lead l + 1)) ∨ enc (val (l.take (lead l + 1))) ≠ l.take (lead l + 1) then 3 else 0
def rVal (l : List UInt8) : Nat := if rErr l = 0 then val (l.take (lead l + 1)) else 0
def rLen (l : List UInt8) : Nat := if rErr l = 0 then lead l + 1 else 0
def rRest (l : List UInt8) : List UInt8 := if rErr l = 0 then l.drop (lead l + 1) else []
theorem rErr_ok {l : List UInt8} (h : rErr l = 0) : lead l < 5 ∧ lead l < l.length ∧ val (l.take (lead l + 1)) ≤ 4294967295 ∧ enc (val (l.take (lead l + 1))) = l.take (lead l + 1) := by
  unfold rErr at h
  have := lead_le l
  split at h
  · omega
  · split at h
    · omega
    · split at h
      · omega
      · rename_i h1 h2 h3
        refine ⟨by omega, by omega, ?_, ?_⟩
        · exact Nat.le_of_not_lt fun q => h3 (.inl q)
        · exact Classical.byContradiction fun q => h3 (.inr q)
theorem read_long {l : List UInt8} (h : 5 ≤ lead l) : rErr l = 3 ∧ rVal l = 0 ∧ rLen l = 0 ∧ rRest l = [] := by
  have e : rErr l = 3 := if_pos h
  unfold rVal rLen rRest; rw [e]; exact ⟨rfl, if_neg (by decide), if_neg (by decide), if_neg (by decide)⟩
theorem read_short {l : List UInt8} (h : lead l < 5) (h2 : lead l = l.length) : rErr l = 8 ∧ rVal l = 0 ∧ rLen l = 0 ∧ rRest l = [] := by
  have e : rErr l = 8 := by unfold rErr; rw [if_neg (by omega), if_pos h2]
  unfold rVal rLen rRest; rw [e]; exact ⟨rfl, if_neg (by decide), if_neg (by decide), if_neg (by decide)⟩
theorem read_form {l : List UInt8} (h : lead l < 5) (h2 : lead l < l.length) (h3 : 4294967295 < val (l.take (lead l + 1)) ∨ enc (val (l.take (lead l + 1))) ≠ l.take (lead l + 1)) : rErr l = 3 ∧ rVal l = 0 ∧ rLen l = 0 ∧ rRest l = [] := by
  have e : rErr l = 3 := by unfold rErr; rw [if_neg (by omega), if_neg (by omega), if_pos h3]
  unfold rVal rLen rRest; rw [e]; exact ⟨rfl, if_neg (by decide), if_neg (by decide), if_neg (by decide)⟩
theorem read_ok {l : List UInt8} (h : lead l < 5) (h2 : lead l < l.length) (h3 : val (l.take (lead l + 1)) ≤ 4294967295) (h4 : enc (val (l.take (lead l + 1))) = l.take (lead l + 1)) :
    rErr l = 0 ∧ rVal l = val (l.take (lead l + 1)) ∧ rLen l = lead l + 1 ∧ rRest l = l.drop (lead l + 1) := by
  have e : rErr l = 0 := by
    unfold rErr; rw [if_neg (by omega), if_neg (by omega), if_neg]
    rintro (q | q)
    · omega
    · exact q h4
  unfold rVal rLen rRest; rw [e]; exact ⟨rfl, rfl, rfl, rfl⟩
theorem read_enc {n : Nat} (h : n < 4294967296) (r : List UInt8) : rErr (enc n ++ r) = 0 ∧ rVal (enc n ++ r) = n ∧ rLen (enc n ++ r) = (enc n).length ∧ rRest (enc n ++ r) = r := by
  have h1 := lead_enc n r
  have h2 := enc_len5 h
  have h3 := enc_pos n
  have ht := take_enc n r
  have := read_ok (l := enc n ++ r) (by omega) (by rw [List.length_append]; omega) (by rw [ht, val_enc]; omega) (by rw [ht, val_enc])
  rw [ht, val_enc, drop_enc, h1] at this
  exact this
theorem rLen_le (l : List UInt8) : rLen l ≤ l.length := by
  unfold rLen
  split
  · rename_i h; have := (rErr_ok h).2.1; omega
  · omega
theorem rVal_lt (l : List UInt8) : rVal l < 4294967296 := by
  unfold rVal
  split
  · rename_i h; have := (rErr_ok h).2.2.1; omega
  · omega
theorem rRest_eq {l : List UInt8} (h : rErr l = 0) : rRest l = l.drop (rLen l) := by
  unfold rRest rLen; rw [if_pos h, if_pos h]
/-- no beginning of a number's bytes is one -/
theorem lead_take {n k : Nat} (h : k < (enc n).length) : lead ((enc n).take k) = k := by
  have h1 := lead_enc n []
  rw [List.append_nil] at h1
  have hall : ∀ (l : List UInt8), (∀ x ∈ l, 128 ≤ x.toNat) → lead l = l.length := by
    intro l
    induction l with
    | nil => intro _; rfl
    | cons x r ih => intro q; rw [lead, if_pos (q x (by simp)), ih (fun y hy => q y (by simp [hy]))]; rfl
  rw [hall _ fun x hx => ?_]
  · rw [List.length_take]; omega
  · obtain ⟨j, hj, rfl⟩ := List.mem_iff_getElem.1 hx
    rw [List.length_take] at hj
    rw [List.getElem_take]
    exact lead_at _ j (by omega) _
theorem read_cut {n k : Nat} (hn : n < 4294967296) (h : k < (enc n).length) : rErr ((enc n).take k) = 8 := by
  have h1 := lead_take h
  have h2 := enc_len5 hn
  exact (read_short (by omega) (by rw [h1, List.length_take]; omega)).1
end Go.Proofs.YtdbdigcpibmgjaaGreatDoor
/- Slices cut off at the front and at the end. Nothing of the program. -/
namespace Go.Proofs.YtdbdigcpibmgjaaGreatDoor
open Go.RowKit
theorem bytes_one (l : List UInt8) : ∀ y ∈ l.map bv8, y.oneCell' = true := by
  intro y hy
  obtain ⟨x, _, rfl⟩ := List.mem_map.1 hy
  rfl
theorem Rd.drop {w : World} {b off n c : Nat} {xs : List Value} (h : Rd w 1 (some ⟨b, off, none⟩) n c xs) (k : Nat) (hk : k ≤ n) : Rd w 1 (some ⟨b, off + k, none⟩) (n - k) (c - k) (xs.drop k) := by
  obtain ⟨h1, h2, h3, h4⟩ := h
  refine ⟨by rw [List.length_drop]; omega, by omega, by omega, fun hp => ⟨b, off + k, rfl, fun j v hv => ?_⟩⟩
  obtain ⟨b', off', e, hc⟩ := h4 (by rw [List.length_drop] at hp; omega)
  injection e with e
  injection e with e1 e2
  subst e1; subst e2
  rw [List.getElem?_drop] at hv
  have := hc _ _ hv
  rwa [← Nat.add_assoc] at this
theorem Rd.none0 (w : World) (A : Option Addr) (c : Nat) (hc : c ≤ maxLen) : Rd w 1 A 0 c [] := ⟨by simp, by omega, hc, fun h => absurd h (by simp)⟩
theorem own_rdN {w : World} {base : Nat} {e : TypeId} {v : Value} {n : Nat} {xs : List Value} (h : w.ownsRow base e 1 v n xs) : ∃ A c, v = .slice A n c ∧ Rd w 1 A n c xs ∧ (A = none → c = 0) := by
  rcases h.2 with ⟨rfl, rfl⟩ | ⟨g, cap, cur, rfl, _, _, h1, h2, _⟩
  · have : xs = [] := List.eq_nil_of_length_eq_zero (by simpa using h.1)
    subst this
    exact ⟨none, 0, rfl, Rd.nil _ _, fun _ => rfl⟩
  · exact ⟨_, _, rfl, Rd.of_own h h2 h1, fun q => by cases q⟩
theorem own_rdF {w : World} {base : Nat} {e : TypeId} {v : Value} {n : Nat} {xs : List Value} (h : w.ownsRow base e 1 v n xs) : ∃ A c, v = .slice A n c ∧ Rd w 1 A n c xs ∧ (A = none → c = 0) ∧ ∀ a : Addr, A = some a → base ≤ a.block := by
  obtain ⟨A, c, rfl, hr, hA⟩ := own_rdN h
  exact ⟨A, c, rfl, hr, hA, fun a q => (h.lt a.block (by rw [q]; rfl)).1⟩
/-- the call hands back a value, bytes of its own (if any) and an error -/
def GivesN (x : Value) (l : List UInt8) (err : Int) (w : World) (e : Ending) (w' : World) : Prop :=
  ∃ A n c, e = .returned (.tuple #[x, .slice A n c, .int .i64 err]) ∧ Rd w' 1 A n c (l.map bv8) ∧ (A = none → c = 0) ∧ n ≤ 140737488355328 ∧ Hid (∀ a : Addr, A = some a → w.heap.size ≤ a.block) ∧ Below w.heap.size w w'
theorem givesN_nil {w : World} {x : Value} {err : Int} {e : Ending} {w' : World} (h : e = .returned (.tuple #[x, .slice none 0 0, .int .i64 err]) ∧ w = w') : GivesN x [] err w e w' := by
  obtain ⟨rfl, rfl⟩ := h
  exact ⟨none, 0, 0, rfl, Rd.nil _ _, fun _ => rfl, by omega, fun _ q => (by cases q), Below.refl _ _⟩
end Go.Proofs.YtdbdigcpibmgjaaGreatDoor
/- Plain facts for reading and writing numbers; bytes of the call's own as an answer. Nothing of the program. -/
namespace Go.Proofs.YtdbdigcpibmgjaaGreatDoor
open Go.RowKit
/-- the call hands back bytes of its own, and no error -/
def GivesO (t : TypeId) (l : List UInt8) (w : World) (e : Ending) (w' : World) : Prop :=
  ∃ v, e = .returned (.tuple #[v, .int .i64 0]) ∧ w'.ownsRow w.heap.size t 1 v l.length (l.map bv8) ∧ Below w.heap.size w w'
theorem ret_two {a a' b b' : Int} (h : a = a') (h2 : b = b') : Ending.returned (.tuple #[.int .i64 a, .int .i64 b]) = .returned (.tuple #[.int .i64 a', .int .i64 b']) := by rw [h, h2]
theorem ret_three {a a' b b' c c' : Int} (h : a = a') (h2 : b = b') (h3 : c = c') : Ending.returned (.tuple #[.int .i64 a, .int .i64 b, .int .i64 c]) = .returned (.tuple #[.int .i64 a', .int .i64 b', .int .i64 c']) := by rw [h, h2, h3]
theorem y8_mod (x : UInt8) : y8 x % (128 : Int) = ((x.toNat % 128 : Nat) : Int) := by unfold y8; simp
theorem rErr_cases (l : List UInt8) : rErr l = 0 ∨ (rErr l = 3 ∧ rVal l = 0 ∧ rLen l = 0 ∧ rRest l = []) ∨ (rErr l = 8 ∧ rVal l = 0 ∧ rLen l = 0 ∧ rRest l = []) := by
  have hle := lead_le l
  by_cases h5 : 5 ≤ lead l
  · exact .inr (.inl (read_long h5))
  · by_cases h6 : lead l = l.length
    · exact .inr (.inr (read_short (by omega) h6))
    · by_cases h7 : 4294967295 < val (l.take (lead l + 1)) ∨ enc (val (l.take (lead l + 1))) ≠ l.take (lead l + 1)
      · exact .inr (.inl (read_form (by omega) (by omega) h7))
      · refine .inl (read_ok (by omega) (by omega) ?_ ?_).1
        · exact Nat.le_of_not_lt fun q => h7 (.inl q)
        · exact Classical.byContradiction fun q => h7 (.inr q)
end Go.Proofs.YtdbdigcpibmgjaaGreatDoor
/- A number as bytes: the reference's WireNumber. -/
namespace Go.Proofs.YtdbdigcpibmgjaaGreatDoor
open Go.RowKit
theorem and127 (n : Nat) (h : n < 9223372036854775808) : bits .and .i64 (n : Int) 127 = ((n % 128 : Nat) : Int) := by
  have h2 : n &&& 127 = n % 128 := Nat.and_two_pow_sub_one_eq_mod n 7
  have ho : ∀ a : Nat, a < 9223372036854775808 → (BitVec.ofInt 64 (a : Int)).toNat = a := fun a ha => by
    rw [BitVec.ofInt_natCast, BitVec.toNat_ofNat]; exact Nat.mod_eq_of_lt (by omega)
  show IntKind.i64.wrap ((BitVec.ofInt 64 (n : Int) &&& BitVec.ofInt 64 ((127 : Nat) : Int)).toNat : Int) = _
  rw [BitVec.toNat_and, ho n h, ho 127 (by omega), h2, IntKind.wrap_i64]; omega
@[go_sem] theorem y8_or128 (x : UInt8) : bits .or .u8 (y8 x) 128 = y8 (x ||| 128) := by
  have : ∀ n : Fin 256, bits .or .u8 (n.val : Int) 128 = (((UInt8.ofNat n.val) ||| 128).toNat : Int) := by decide +kernel
  have h := this ⟨x.toNat, x.toNat_lt⟩
  simp only [UInt8.ofNat_toNat] at h
  exact h
theorem or128 (k : Nat) (h : k < 128) : UInt8.ofNat k ||| 128 = UInt8.ofNat (k + 128) := by
  have : ∀ n : Fin 128, UInt8.ofNat n.val ||| 128 = UInt8.ofNat (n.val + 128) := by decide +kernel
  exact this ⟨k, h⟩
/-- the bytes that come of the loop: the last byte x, the number m still to come -/
def fin (bs : List UInt8) (x : UInt8) (m : Nat) : List UInt8 := if m = 0 then bs ++ [x] else bs ++ [x ||| 128] ++ enc m
theorem fin_start (n : Nat) : fin [] (UInt8.ofNat (n % 128)) (n / 128) = enc n := by
  unfold fin
  by_cases h : n < 128
  · rw [if_pos (by omega), enc_small h, Nat.mod_eq_of_lt h]; rfl
  · rw [if_neg (by omega), enc_big h, or128 _ (by omega)]; rfl
theorem fin_step (bs : List UInt8) (x : UInt8) {m : Nat} (h : 0 < m) : fin (bs ++ [x ||| 128]) (UInt8.ofNat (m % 128)) (m / 128) = fin bs x m := by
  have e : fin bs x m = bs ++ [x ||| 128] ++ enc m := if_neg (by omega)
  rw [e, ← fin_start m]
  unfold fin
  split
  · simp
  · simp
theorem fin_length (bs : List UInt8) (x : UInt8) (m : Nat) : bs.length + 1 ≤ (fin bs x m).length := by
  unfold fin; split <;> simp <;> omega
set_option maxRecDepth 100000 in
set_option maxHeartbeats 400000 in
theorem rnumber_out (n : Int) (w : World) (h0 : -9223372036854775808 ≤ n) (h1 : n ≤ 9223372036854775807) (h : n < 0 ∨ 4294967295 < n) :
    Calls Tryz.prog 164 #[.int .i64 n] w fun e w' => e = .returned (.tuple #[.slice none 0 0, .int .i64 4]) ∧ w = w' := by
  by_cases hn : n < 0
  · have hd : decide (n < 0) = true := by simpa using hn
    go_enter Tryz.func164, Tryz.ntmps164
    go_wp2
    go_ret2
    exact ⟨rfl, rfl⟩
  · have hd : decide (n < 0) = false := by simpa using hn
    have hd2 : decide (4294967296 ≤ n) = true := by simp; omega
    go_enter Tryz.func164, Tryz.ntmps164
    go_wp2
    go_ret2
    exact ⟨rfl, rfl⟩
set_option maxRecDepth 100000 in
set_option maxHeartbeats 1000000 in
theorem rnumber_ok (n : Nat) (w : World) (h : n < 4294967296) :
    Calls Tryz.prog 164 #[.int .i64 n] w (GivesO 5 (enc n) w) := by
  obtain ⟨i0, hi0, hz0, hz1, hz2⟩ := info_parts u8_info
  have hd : decide ((n : Int) < 0) = false := by simp
  have hd2 : decide (4294967296 ≤ (n : Int)) = false := by simp; omega
  have H5 := Lib.hid (enc_len5 h)
  have HS := Lib.hid (fin_start n)
  have ha := and127 n (by omega)
  rw [← y8_ofNat (n % 128) (by omega)] at ha
  generalize UInt8.ofNat (n % 128) = x0 at *
  have hown0 := World.ownsRow_lit (base := w.heap.size) (e := 5) (size := 1) w #[.int .u8 (y8 x0)] 1 (Nat.le_refl _) (by unfold maxLen; omega) rfl
  have hb0 := (Below.refl w.heap.size w).alloc (Nat.le_refl _) (.cells #[.int .u8 (y8 x0)] 5)
  go_enter Tryz.func164, Tryz.ntmps164
  go_wp2
  go_loopw [0, 4] (fun q v wr => ∃ (m : Nat) (bs : List UInt8) (x : UInt8), q = .int .i64 m ∧ m < 4294967296 ∧ wr.ownsRow w.heap.size 5 1 v (bs.length + 1) ((bs ++ [x]).map bv8) ∧ Hid (fin bs x m = enc n) ∧ Below w.heap.size w wr) (fun q _ _ => (intOf q).toNat)
  case atStart => exact ⟨n / 128, [], x0, by go_num, by omega, hown0, HS.out, hb0⟩
  case round =>
    clear hown0 hb0 ha HS
    obtain ⟨m, bs, x, rfl, hm, hown, HE, hbel⟩ := hrel
    have hlen : bs.length ≤ 4 := by
      have h1 := congrArg List.length HE.out
      have := fin_length bs x m
      have := H5.out
      omega
    by_cases hlt : 0 < m
    · have hge : decide (0 < (m : Int)) = true := by simp; omega
      have ha := and127 m (by omega)
      rw [← y8_ofNat (m % 128) (by omega)] at ha
      have HF := Lib.hid (fin_step bs x hlt)
      generalize UInt8.ofNat (m % 128) = y at *
      obtain ⟨g, cap, rfl, hg, hglt⟩ := hown.form (by omega)
      have hc1 : wr.cell? ⟨g, bs.length, none⟩ = some (.int .u8 (y8 x)) := by
        rw [hown.cellAt _ (by omega), List.getElem?_map, List.getElem?_append_right (by omega), Nat.sub_self]; rfl
      have hf1 := hown.frozenAt bs.length
      have hst := (hown.stored bs.length (.int .u8 (y8 (x ||| 128)))).1
      have e1 : ((bs ++ [x]).map bv8).set bs.length (.int .u8 (y8 (x ||| 128))) = (bs ++ [x ||| 128]).map bv8 := by
        rw [show (.int .u8 (y8 (x ||| 128)) : Value) = bv8 (x ||| 128) from rfl, ← List.map_set, set_last _ _ _ _ rfl]
      rw [e1] at hst
      have hbs := hbel.setCell (p := ⟨g, bs.length, none⟩) hg (.int .u8 (y8 (x ||| 128)))
      clear e1
      go_wp2_with (at_builtin; (refine wpList_append1 rfl (.tmp 29) (.tmp 33) _ rfl Tryz.underlying43 hi0 hz0 hz1 hz2 rfl (by omega) _ _ _ rfl hst [.int .u8 (y8 y)] rfl (by simp [Value.oneCell']) (by simp [Act.eval]) (by omega) (by omega) hbs.size ?_; rintro v1 w2 ⟨hown1, hbb1, hsz1, hfar1⟩))
      go_roundw
      case rel =>
        refine ⟨m / 128, bs ++ [x ||| 128], y, by go_num, by omega, ?_, HF.out.trans HE.out, hbs.trans hbb1⟩
        rw [List.map_append, List.length_append]; exact hown1
      case measure => simp [intOf]; omega
    · have hge : decide (0 < (m : Int)) = false := by simp; omega
      have hm0 : m = 0 := by omega
      have he : bs ++ [x] = enc n := by have := HE.out; rw [hm0] at this; exact this
      have hn : bs.length + 1 = (enc n).length := by rw [← he, List.length_append]; rfl
      rw [he, hn] at hown
      clear hm0 he hn
      go_wp2
      go_ret2
      exact ⟨_, rfl, hown, hbel⟩
end Go.Proofs.YtdbdigcpibmgjaaGreatDoor
/- A number picked, as a natural number. -/
namespace Go.Proofs.YtdbdigcpibmgjaaGreatDoor
open Go.RowKit
theorem picked_nat (n : Int) (m : Int) (a : Nat) (w : World) (h0 : -9223372036854775808 ≤ n) (h1 : n ≤ 9223372036854775807) (hm : 0 < m) (hm2 : m ≤ 4611686018427387904) (ha : pk n m = a) :
    Calls Tryz.prog 20 #[.int .i64 n, .int .i64 m] w fun e w' => e = .returned (.int .i64 (a : Int)) ∧ w = w' := by
  rw [← ha]; exact picked_any n m w h0 h1 hm hm2
theorem pk_nat (n m : Int) (h : 0 < m) : ∃ a : Nat, pk n m = (a : Int) ∧ (a : Int) < m := by
  obtain ⟨h0, h1⟩ := pk_range n m h
  obtain ⟨a, ha⟩ := Int.eq_ofNat_of_zero_le h0
  exact ⟨a, ha, by rw [← ha]; exact h1⟩
end Go.Proofs.YtdbdigcpibmgjaaGreatDoor
/- copy into a block that is known whole. Nothing of the program. -/
namespace Go.Proofs.YtdbdigcpibmgjaaGreatDoor
open Go.RowKit
theorem addr_addR (b off j : Nat) : (⟨b, off, none⟩ : Addr).add j = ⟨b, off + j, none⟩ := by unfold Addr.add; split <;> simp_all
/-- a guard for the walk: the next operation is a copy -/
theorem at_copy {P : Program} {w : World} {ops : Array Oper} {rest : List Oper} {dst : Option Tmp} {cl : Array Operand} {ty : TypeId} {ts : Array TypeId} {pos : String} {af : Array Edge} {gd : Option (Nat × Bool)} {a : Act} {Q : Exit → Act → World → Prop}
    (h : wpList P ops Q ({ dst := dst, op := .call { callee := .builtin .copy, args := cl, argTypes := ts }, type := ty, pos := pos, after := af, guard := gd } :: rest) a w) :
    wpList P ops Q ({ dst := dst, op := .call { callee := .builtin .copy, args := cl, argTypes := ts }, type := ty, pos := pos, after := af, guard := gd } :: rest) a w := h
/-- copy(dst, src), dst a block of the call's own from its start on, src not longer than dst -/
theorem wpList_copyR {P : Program} {w : World} {ops : Array Oper} {rest : List Oper} {o : Oper} {a : Act} {Q : Exit → Act → World → Prop} (hgd : o.guard = none) (d s : Operand) (dT sT : TypeId)
    (ho : o.op = .call { callee := .builtin .copy, args := #[d, s], argTypes := #[dT, sT] }) {e : TypeId} {i : TypeInfo} (hu : P.underlying dT = some (.slice e)) (hi : P.info? e = some i) (hsz : i.size = 1)
    (g dLen dCap : Nat) {A : Option Addr} {n c : Nat} {ys : List Value} (hd : a.eval d = .slice (some ⟨g, 0, none⟩) dLen dCap) (hs : a.eval s = .slice A n c)
    (cur : List Value) (t : TypeId) (hg : Blk w g t cur) (hr : Rd w 1 A n c ys) (hn : n ≤ dLen) (hfit : n ≤ cur.length) (h1 : ∀ v ∈ ys, v.oneCell' = true) (B : Nat) (w0 : World) (hb : Below B w0 w) (hBg : B ≤ g)
    (h : ∀ w', Hid (Blk w' g t (ys ++ cur.drop n)) → Below B w0 w' → wpList P ops Q rest (a.put o.dst (goInt n)) w') :
    wpList P ops Q (o :: rest) a w := by
  have hl : ys.length = n := by simpa using hr.1
  refine wpList_copy_splice hgd d s dT sT ho e hu (by rw [hi]; simp [hsz]) (some ⟨g, 0, none⟩) A dLen dCap n c hd hs g 0 cur t hg ys (by rw [hl]; exact (Nat.min_eq_left hn).symm) (fun hp => ⟨rfl, ?_⟩) (by omega) h1 B w0 hb hBg ?_
  · obtain ⟨b, off, rfl, hc⟩ := hr.2.2.2 hp
    exact ⟨_, rfl, fun j v hv => by rw [addr_addR]; exact hc j v hv⟩
  · intro w' HG hB
    rw [hl]
    refine h w' ?_ hB
    have := HG.out
    unfold splice at this
    rw [List.take_zero, List.nil_append, Nat.zero_add, hl] at this
    exact this
end Go.Proofs.YtdbdigcpibmgjaaGreatDoor
/- Reading a number: the program's copied, numberLength and number. -/
namespace Go.Proofs.YtdbdigcpibmgjaaGreatDoor
open Go.RowKit
set_option maxRecDepth 100000 in
set_option maxHeartbeats 400000 in
theorem copied_any (A : Option Addr) (n c : Nat) (l : List UInt8) (w : World) (hr : Rd w 1 A n c (l.map bv8)) (hz : n ≤ 140737488355328) :
    Calls Tryz.prog 182 #[.slice A n c] w fun e w' => e = .returned (.slice (some ⟨w.heap.size, 0, none⟩) n n) ∧ Rd w' 1 (some ⟨w.heap.size, 0, none⟩) n n (l.map bv8) ∧ Below w.heap.size w w' := by
  obtain rfl := hr.len
  obtain ⟨i0, hi0, hz0, hz1, hz2⟩ := info_parts u8_info
  have hmk := run_make1 (P := Tryz.prog) Tryz.underlying43 hi0 hz0 hz1 rfl hz2 (l.length : Int) l.length rfl (by omega) (by omega)
  have hb0 := (Below.refl w.heap.size w).alloc (Nat.le_refl _) (.cells (reps l.length (.int .u8 0)).toArray 5)
  have hr0 := hr.below hb0
  go_enter Tryz.func182, Tryz.ntmps182
  go_wp2_with ((with_reducible refine at_copy ?_); refine wpList_copyR rfl (.tmp 7) (.tmp 8) _ _ rfl Tryz.underlying43 hi0 hz1 w.heap.size l.length l.length rfl rfl (reps l.length (.int .u8 0)) 5 (Blk.new w _ _) hr0 (Nat.le_refl _) (by rw [reps_length]; exact Nat.le_refl _) (bytes_one l) w.heap.size w hb0 (Nat.le_refl _) ?_; intro w1 HG1 hb1)
  go_ret
  have hg := HG1.out
  rw [List.drop_of_length_le (by rw [reps_length]; exact Nat.le_refl _), List.append_nil] at hg
  exact ⟨rfl, blk_rd hg (by simp) (by omega), hb1⟩
/-- how many bytes the number takes, and the error -/
def nlen (l : List UInt8) : Nat := if lead l < 5 ∧ lead l < l.length then lead l + 1 else 0
def nlerr (l : List UInt8) : Int := if lead l < 5 ∧ lead l < l.length then 0 else if l.length < 5 then 8 else 3
theorem nl_ok {l : List UInt8} (h : lead l < 5) (h2 : lead l < l.length) : nlen l = lead l + 1 ∧ nlerr l = 0 := ⟨if_pos ⟨h, h2⟩, if_pos ⟨h, h2⟩⟩
theorem nl_short {l : List UInt8} (h : l.length < 5) (h2 : l.length ≤ lead l) : nlen l = 0 ∧ nlerr l = 8 := by
  constructor
  · exact if_neg (by omega)
  · unfold nlerr; rw [if_neg (by omega), if_pos h]
theorem nl_long {l : List UInt8} (h : 5 ≤ l.length) (h2 : 5 ≤ lead l) : nlen l = 0 ∧ nlerr l = 3 := by
  constructor
  · exact if_neg (by omega)
  · unfold nlerr; rw [if_neg (by omega), if_neg (by omega)]
set_option maxRecDepth 100000 in
set_option maxHeartbeats 400000 in
theorem numberLength_any (A : Option Addr) (n c : Nat) (l : List UInt8) (w : World) (hr : Rd w 1 A n c (l.map bv8)) :
    Calls Tryz.prog 196 #[.slice A n c] w fun e w' => e = .returned (.tuple #[.int .i64 (nlen l), .int .i64 (nlerr l)]) ∧ w = w' := by
  obtain rfl := hr.len
  have hcm := hr.2.1
  have hcx := hr.2.2.1
  unfold maxLen at hcx
  obtain ⟨lim, hlim, hb⟩ : ∃ lim : Nat, Hid (lim = min l.length 5) ∧ lim ≤ l.length := ⟨min l.length 5, rfl, by omega⟩
  by_cases h5 : 5 < l.length
  · have q5 : (5 : Int) < (l.length : Int) := by omega
    go_enter Tryz.func196, Tryz.ntmps196
    go_wp2
    go_loop [4, 8] (fun _ i => ∃ k : Nat, k ≤ 5 ∧ i = .int .i64 k ∧ Hid (k ≤ lead l)) (fun _ i => 5 - (intOf i).toNat)
    case atStart => exact ⟨0, by omega, rfl, Nat.zero_le _⟩
    case round =>
      obtain ⟨k, hk, rfl, HK⟩ := hrel
      by_cases hlt : k < 5
      · have hkl : k < l.length := by omega
        have hki : (k : Int) < (l.length : Int) := by omega
        have hk5 : (k : Int) < 5 := by omega
        obtain ⟨b, off, rfl, hcell⟩ := hr.at (k := k) (v := .int .u8 (y8 l[k])) (by rw [List.getElem?_map, List.getElem?_eq_getElem (by omega)]; rfl)
        by_cases hx : 128 ≤ l[k].toNat
        · have hd : decide (y8 l[k] < 128) = false := by unfold y8; simp; omega
          have HM := Lib.hid (lead_more HK.out (by omega) hx)
          clear hx
          go_wp2
          go_round
          case rel => exact ⟨k + 1, by omega, by go_num, HM.out⟩
          case measure => simp [intOf]; omega
        · have hd : decide (y8 l[k] < 128) = true := by unfold y8; simp; omega
          have he := lead_eq HK.out (by omega) (by omega : l[k].toNat < 128)
          have HE := Lib.hid (nl_ok (l := l) (by omega) (by omega))
          rw [he] at HE
          clear hx he
          go_wp2
          go_ret2
          exact ⟨ret_two (by rw [HE.out.1]; omega) HE.out.2.symm, rfl⟩
      · have hd : decide ((k : Int) < 5) = false := by simp; omega
        have HE := Lib.hid (nl_long (l := l) (by omega) (by have := HK.out; omega))
        go_wp2
        go_ret2
        exact ⟨ret_two (by rw [HE.out.1]; rfl) HE.out.2.symm, rfl⟩
  · have q5 : ¬ (5 : Int) < (l.length : Int) := by omega
    go_enter Tryz.func196, Tryz.ntmps196
    go_wp2
    go_loop [4, 8] (fun _ i => ∃ k : Nat, k ≤ l.length ∧ i = .int .i64 k ∧ Hid (k ≤ lead l)) (fun _ i => l.length - (intOf i).toNat)
    case atStart => exact ⟨0, by omega, rfl, Nat.zero_le _⟩
    case round =>
      obtain ⟨k, hk, rfl, HK⟩ := hrel
      by_cases hlt : k < l.length
      · obtain ⟨b, off, rfl, hcell⟩ := hr.at (k := k) (v := .int .u8 (y8 l[k])) (by rw [List.getElem?_map, List.getElem?_eq_getElem (by omega)]; rfl)
        by_cases hx : 128 ≤ l[k].toNat
        · have hd : decide (y8 l[k] < 128) = false := by unfold y8; simp; omega
          have HM := Lib.hid (lead_more HK.out (by omega) hx)
          clear hx
          go_wp2
          go_round
          case rel => exact ⟨k + 1, by omega, by go_num, HM.out⟩
          case measure => simp [intOf]; omega
        · have hd : decide (y8 l[k] < 128) = true := by unfold y8; simp; omega
          have he := lead_eq HK.out (by omega) (by omega : l[k].toNat < 128)
          have HE := Lib.hid (nl_ok (l := l) (by omega) (by omega))
          rw [he] at HE
          clear hx he
          go_wp2
          go_ret2
          exact ⟨ret_two (by rw [HE.out.1]; omega) HE.out.2.symm, rfl⟩
      · have hkl : k = l.length := by omega
        have HL := HK.out
        rw [hkl] at HL
        have hd : decide ((k : Int) < (l.length : Int)) = false := by simp; omega
        by_cases h4 : l.length < 5
        · have hd4 : decide ((l.length : Int) < 5) = true := by simp; omega
          have HE := Lib.hid (nl_short (l := l) h4 HL)
          clear hkl HL
          go_wp2
          go_ret2
          exact ⟨ret_two (by rw [HE.out.1]; rfl) HE.out.2.symm, rfl⟩
        · have hd4 : decide ((l.length : Int) < 5) = false := by simp; omega
          have HE := Lib.hid (nl_long (l := l) (by omega) (by omega))
          clear hkl HL
          go_wp2
          go_ret2
          exact ⟨ret_two (by rw [HE.out.1]; rfl) HE.out.2.symm, rfl⟩
end Go.Proofs.YtdbdigcpibmgjaaGreatDoor
/- Reading a number: the program's number. -/
namespace Go.Proofs.YtdbdigcpibmgjaaGreatDoor
open Go.RowKit
theorem numberLength_at (A : Option Addr) (n c : Nat) (l : List UInt8) (w : World) (hr : Rd w 1 A n c (l.map bv8)) (k e : Int) (hk : (nlen l : Int) = k) (he : nlerr l = e) :
    Calls Tryz.prog 196 #[.slice A n c] w fun e' w' => e' = .returned (.tuple #[.int .i64 k, .int .i64 e]) ∧ w = w' := by
  rw [← hk, ← he]; exact numberLength_any A n c l w hr
set_option maxRecDepth 100000 in
set_option maxHeartbeats 400000 in
theorem wnumber_no (A : Option Addr) (n c : Nat) (l : List UInt8) (w : World) (hr : Rd w 1 A n c (l.map bv8)) (e : Int) (hl : nlen l = 0) (he : nlerr l = e) (hne : e = 8 ∨ e = 3) :
    Calls Tryz.prog 181 #[.slice A n c] w fun e' w' => e' = .returned (.tuple #[.int .i64 0, .int .i64 0, .int .i64 e]) ∧ w = w' := by
  have HL := Lib.hid hl
  have HE := Lib.hid he
  clear hl he
  rcases hne with rfl | rfl
  · go_enter Tryz.func181, Tryz.ntmps181
    go_wp2_with ((with_reducible refine (numberLength_at _ _ _ _ _ hr 0 8 (by simp [HL.out]) HE.out).mono ?_); rintro e' w' ⟨rfl, rfl⟩)
    go_ret3
    exact ⟨rfl, rfl⟩
  · go_enter Tryz.func181, Tryz.ntmps181
    go_wp2_with ((with_reducible refine (numberLength_at _ _ _ _ _ hr 0 3 (by simp [HL.out]) HE.out).mono ?_); rintro e' w' ⟨rfl, rfl⟩)
    go_ret3
    exact ⟨rfl, rfl⟩
set_option maxRecDepth 100000 in
set_option maxHeartbeats 1000000 in
theorem wnumber_some (A : Option Addr) (n c : Nat) (l : List UInt8) (w : World) (hr : Rd w 1 A n c (l.map bv8)) (d : Nat) (hd5 : d < 5) (hdl : d < l.length) (hd : Hid (lead l = d)) :
    Calls Tryz.prog 181 #[.slice A n c] w fun e' w' => e' = .returned (.tuple #[.int .i64 (rVal l), .int .i64 (rLen l), .int .i64 (rErr l)]) ∧ w = w' := by
  obtain rfl := hr.len
  have hcm := hr.2.1
  have hcx := hr.2.2.1
  unfold maxLen at hcx
  obtain ⟨b, off, rfl, hcell⟩ := hr.2.2.2 (by simp; omega)
  have hcd : w.cell? ⟨b, off + d, none⟩ = some (.int .u8 (y8 l[d])) := hcell d _ (by rw [List.getElem?_map, List.getElem?_eq_getElem hdl]; rfl)
  have HC := Lib.hid hcell
  obtain ⟨t, ht⟩ : ∃ t, Hid (t = l.take (d + 1)) := ⟨_, rfl⟩
  have htl : Hid (t.length = d + 1) := by show _ = _; rw [ht.out, List.length_take]; omega
  have hdi : (d : Int) < (l.length : Int) := by omega
  have hnl := nl_ok (l := l) (by rw [hd.out]; omega) (by rw [hd.out]; omega)
  rw [hd.out] at hnl
  have HN := Lib.hid hnl
  clear hcell hnl
  go_enter Tryz.func181, Tryz.ntmps181
  go_wp2_with ((with_reducible refine (numberLength_at _ _ _ _ _ hr ((d : Int) + 1) 0 (by rw [HN.out.1]; omega) HN.out.2).mono ?_); rintro e' w' ⟨rfl, rfl⟩)
  go_loop [7, 8] (fun nv iv => ∃ (j v : Nat) (q : Int), j ≤ d + 1 ∧ v < 34359738368 ∧ nv = .int .i64 v ∧ iv = .int .i64 q ∧ Hid (q = (j : Int) - 1) ∧ -1 ≤ q ∧ Hid (v = val (t.drop j))) (fun _ iv => ((intOf iv) + 1).toNat)
  case atStart => exact ⟨d + 1, 0, _, by omega, by omega, rfl, rfl, by show _ = _; omega, by omega, by show _ = _; rw [List.drop_of_length_le (by rw [htl.out]; omega)]; rfl⟩
  case round =>
    obtain ⟨j, v, q, hj, hv, rfl, rfl, Hq, hq1, HV⟩ := hrel
    by_cases hq : 0 ≤ q
    · obtain ⟨i, rfl⟩ := Int.eq_ofNat_of_zero_le hq
      have hji : j = i + 1 := by have := Hq.out; omega
      have hil : i < l.length := by omega
      have hii : (i : Int) < (l.length : Int) := by omega
      have hci : w.cell? ⟨b, off + i, none⟩ = some (.int .u8 (y8 l[i])) := HC.out i _ (by rw [List.getElem?_map, List.getElem?_eq_getElem hil]; rfl)
      have hy := y8_mod l[i]
      have hy0 := y8_nonneg l[i]
      have hy1 := y8_lt l[i]
      have hid : i ≤ d := by omega
      obtain ⟨r, hr2⟩ : ∃ r, l[i].toNat % 128 = r := ⟨_, rfl⟩
      rw [hr2] at hy
      have hr3 : r < 128 := by omega
      have HW := Lib.hid (show v * 128 + r = val (t.drop i) ∧ v * 128 + r < 34359738368 by
        have h1 : v * 128 + r = val (t.drop i) := by
          rw [val_drop (l := t) (j := i) (by rw [htl.out]; omega), ← hji, ← HV.out, ← hr2]
          have : t[i]'(by rw [htl.out]; omega) = l[i] := by
            have h3 : t[i]? = l[i]? := by rw [ht.out, List.getElem?_take, if_pos (by omega)]
            rw [List.getElem?_eq_getElem (by rw [htl.out]; omega), List.getElem?_eq_getElem hil] at h3
            exact Option.some.inj h3
          rw [this]; omega
        refine ⟨h1, ?_⟩
        rw [h1]
        refine Nat.lt_of_lt_of_le (val_lt _) ?_
        rw [List.length_drop, htl.out]
        exact Nat.le_trans (Nat.pow_le_pow_right (by omega) (by omega : d + 1 - i ≤ 5)) (by decide))
      clear hji hr2 HV hq
      go_wp2
      go_round
      case rel => exact ⟨i, v * 128 + r, (i : Int) - 1, by omega, HW.out.2, by go_num, by go_num, rfl, by omega, HW.out.1⟩
      case measure => simp [intOf] <;> omega
    · have hq' : q = -1 := by omega
      have hj0 : j = 0 := by have := Hq.out; omega
      have HV2 : Hid (v = val (l.take (lead l + 1))) := by
        show _ = _
        have := HV.out
        rw [hj0, List.drop_zero, ht.out, ← hd.out] at this
        exact this
      have HEV := Lib.hid (enc_val l (by rw [hd.out]; exact hdl))
      have hd0 : lead l < 5 ∧ lead l < l.length := by rw [hd.out]; exact ⟨hd5, hdl⟩
      have HD0 := Lib.hid hd0
      have hdg : Hid (l[lead l]'hd0.2 = l[d]) := by
        show _ = _
        have h3 : l[lead l]? = l[d]? := by rw [hd.out]
        rw [List.getElem?_eq_getElem hd0.2, List.getElem?_eq_getElem hdl] at h3
        exact Option.some.inj h3
      have hqd : decide (0 ≤ q) = false := by simp; omega
      clear hq' hj0 HV
      by_cases hbig : 4294967295 < v
      · have hb1 : decide (4294967295 < (v : Int)) = true := by simp; omega
        have HR := Lib.hid (read_form (l := l) HD0.out.1 HD0.out.2 (.inl (by rw [← HV2.out]; exact hbig)))
        go_wp2
        go_ret3
        exact ⟨ret_three (by rw [HR.out.2.1]; rfl) (by rw [HR.out.2.2.1]; rfl) HR.out.1.symm, rfl⟩
      · have hb1 : decide (4294967295 < (v : Int)) = false := by simp; omega
        have HB := Lib.hid (show val (l.take (lead l + 1)) ≤ 4294967295 by rw [← HV2.out]; omega)
        by_cases h1 : d = 0
        · have hb2 : decide ((1 : Int) < (d : Int) + 1) = false := by simp; omega
          have HR := Lib.hid (read_ok (l := l) HD0.out.1 HD0.out.2 HB.out (HEV.out.2 (.inl (by rw [hd.out]; exact h1))))
          go_wp2
          go_ret3
          exact ⟨ret_three (by rw [HR.out.2.1, HV2.out]) (by rw [HR.out.2.2.1, hd.out]; omega) HR.out.1.symm, rfl⟩
        · have hb2 : decide ((1 : Int) < (d : Int) + 1) = true := by simp; omega
          by_cases hx : l[d].toNat = 0
          · have hb3 : (y8 l[d] == 0) = true := by rw [beq_iff_eq]; unfold y8; omega
            have HR := Lib.hid (read_form (l := l) HD0.out.1 HD0.out.2 (.inr fun h => by
              rcases HEV.out.1 h with h | h
              · rw [hd.out] at h; exact h1 h
              · rw [hdg.out] at h; exact h hx))
            go_wp2
            go_ret3
            exact ⟨ret_three (by rw [HR.out.2.1]; rfl) (by rw [HR.out.2.2.1]; rfl) HR.out.1.symm, rfl⟩
          · have hb3 : (y8 l[d] == 0) = false := by rw [beq_eq_false_iff_ne]; unfold y8; omega
            have HR := Lib.hid (read_ok (l := l) HD0.out.1 HD0.out.2 HB.out (HEV.out.2 (.inr (by rw [hdg.out]; exact hx))))
            go_wp2
            go_ret3
            exact ⟨ret_three (by rw [HR.out.2.1, HV2.out]) (by rw [HR.out.2.2.1, hd.out]; omega) HR.out.1.symm, rfl⟩
theorem wnumber_any (A : Option Addr) (n c : Nat) (l : List UInt8) (w : World) (hr : Rd w 1 A n c (l.map bv8)) :
    Calls Tryz.prog 181 #[.slice A n c] w fun e' w' => e' = .returned (.tuple #[.int .i64 (rVal l), .int .i64 (rLen l), .int .i64 (rErr l)]) ∧ w = w' := by
  have hle := lead_le l
  by_cases h5 : 5 ≤ lead l
  · have h1 := nl_long (l := l) (by omega) h5
    have h2 := read_long h5
    rw [h2.1, h2.2.1, h2.2.2.1]
    exact wnumber_no A n c l w hr 3 h1.1 h1.2 (.inr rfl)
  · by_cases h6 : lead l = l.length
    · have h1 := nl_short (l := l) (by omega) (by omega)
      have h2 := read_short (l := l) (by omega) h6
      rw [h2.1, h2.2.1, h2.2.2.1]
      exact wnumber_no A n c l w hr 8 h1.1 h1.2 (.inl rfl)
    · exact wnumber_some A n c l w hr (lead l) (by omega) (by omega) rfl
end Go.Proofs.YtdbdigcpibmgjaaGreatDoor
/- Reading a number: the program's ReadNumber. -/
namespace Go.Proofs.YtdbdigcpibmgjaaGreatDoor
open Go.RowKit
theorem wnumber_at (A : Option Addr) (n c : Nat) (l : List UInt8) (w : World) (hr : Rd w 1 A n c (l.map bv8)) (v k e : Int) (hv : (rVal l : Int) = v) (hk : (rLen l : Int) = k) (he : rErr l = e) :
    Calls Tryz.prog 181 #[.slice A n c] w fun e' w' => e' = .returned (.tuple #[.int .i64 v, .int .i64 k, .int .i64 e]) ∧ w = w' := by
  rw [← hv, ← hk, ← he]; exact wnumber_any A n c l w hr
set_option maxRecDepth 100000 in
set_option maxHeartbeats 400000 in
theorem readNumber_no (A : Option Addr) (n c : Nat) (l : List UInt8) (w : World) (hr : Rd w 1 A n c (l.map bv8)) (e : Int) (he : rErr l = e) (hv : rVal l = 0) (hk : rLen l = 0) (hne : e = 8 ∨ e = 3) :
    Calls Tryz.prog 161 #[.slice A n c] w fun e' w' => e' = .returned (.tuple #[.int .i64 0, .slice none 0 0, .int .i64 e]) ∧ w = w' := by
  have HV := Lib.hid hv
  have HK := Lib.hid hk
  have HE := Lib.hid he
  clear hv hk he
  rcases hne with rfl | rfl
  · go_enter Tryz.func161, Tryz.ntmps161
    go_wp2_with ((with_reducible refine (wnumber_at _ _ _ _ _ hr 0 0 8 (by simp [HV.out]) (by simp [HK.out]) HE.out).mono ?_); rintro e' w' ⟨rfl, rfl⟩)
    go_ret3
    exact ⟨rfl, rfl⟩
  · go_enter Tryz.func161, Tryz.ntmps161
    go_wp2_with ((with_reducible refine (wnumber_at _ _ _ _ _ hr 0 0 3 (by simp [HV.out]) (by simp [HK.out]) HE.out).mono ?_); rintro e' w' ⟨rfl, rfl⟩)
    go_ret3
    exact ⟨rfl, rfl⟩
set_option maxRecDepth 100000 in
set_option maxHeartbeats 400000 in
theorem readNumber_ok (A : Option Addr) (n c : Nat) (l : List UInt8) (w : World) (hr : Rd w 1 A n c (l.map bv8)) (hz : n ≤ 140737488355328) (he : rErr l = 0) :
    Calls Tryz.prog 161 #[.slice A n c] w (GivesN (.int .i64 (rVal l)) (rRest l) 0 w) := by
  obtain rfl := hr.len
  have hok := rErr_ok he
  have hcm := hr.2.1
  have hcx := hr.2.2.1
  unfold maxLen at hcx
  obtain ⟨k, hk⟩ : ∃ k, rLen l = k := ⟨_, rfl⟩
  have hkl : k ≤ l.length := by rw [← hk]; exact rLen_le l
  have hk1 : 1 ≤ k := by rw [← hk]; unfold rLen; rw [if_pos he]; omega
  have hrest := rRest_eq he
  rw [hk] at hrest
  obtain ⟨v, hv⟩ : ∃ v, rVal l = v := ⟨_, rfl⟩
  have HK := Lib.hid hk
  have HE := Lib.hid he
  have HV := Lib.hid hv
  have HR := Lib.hid hrest
  obtain ⟨b, off, rfl, hcell⟩ := hr.2.2.2 (by simp; omega)
  have hki : (k : Int) ≤ (l.length : Int) := by omega
  clear hcell hk he hv hrest hok
  by_cases hck : c = k
  · subst hck
    have hlc : l.length = c := by omega
    have hd : Rd w 1 (some ⟨b, off, none⟩) 0 0 (([] : List UInt8).map bv8) := Rd.none0 w (some ⟨b, off, none⟩) 0 (by unfold maxLen; omega)
    have Hlc := Lib.hid hlc
    clear hlc
    go_enter Tryz.func161, Tryz.ntmps161
    go_wp2_with fail
    with_reducible refine (wnumber_at _ _ _ _ _ hr (v : Int) (c : Int) 0 (by rw [HV.out]) (by rw [HK.out]) HE.out).mono ?_
    rintro e' w' ⟨rfl, rfl⟩
    go_wp2_with fail
    with_reducible refine (copied_any _ _ _ _ _ hd (by omega)).mono ?_
    rintro e' w1 ⟨rfl, hr1, hb1⟩
    go_wp2
    go_ret3
    have e0 : rRest l = [] := by rw [HR.out, ← Hlc.out, List.drop_length]
    rw [HV.out, e0]
    exact ⟨_, _, _, rfl, hr1, fun h => by (cases h), by omega, fun _ q => by (cases q; exact Nat.le_refl _), hb1⟩
  · have hck' : ¬ c = k := hck
    have hd := hr.drop k hkl
    rw [← List.map_drop] at hd
    go_enter Tryz.func161, Tryz.ntmps161
    go_wp2_with fail
    with_reducible refine (wnumber_at _ _ _ _ _ hr (v : Int) (k : Int) 0 (by rw [HV.out]) (by rw [HK.out]) HE.out).mono ?_
    rintro e' w' ⟨rfl, rfl⟩
    go_wp2_with fail
    with_reducible refine (copied_any _ _ _ _ _ hd (by omega)).mono ?_
    rintro e' w1 ⟨rfl, hr1, hb1⟩
    go_wp2
    go_ret3
    rw [HV.out, HR.out]
    exact ⟨_, _, _, rfl, hr1, fun h => by (cases h), by omega, fun _ q => by (cases q; exact Nat.le_refl _), hb1⟩
theorem readNumber_any (A : Option Addr) (n c : Nat) (l : List UInt8) (w : World) (hr : Rd w 1 A n c (l.map bv8)) (hz : n ≤ 140737488355328) :
    Calls Tryz.prog 161 #[.slice A n c] w (GivesN (.int .i64 (rVal l)) (rRest l) (rErr l) w) := by
  rcases rErr_cases l with h | h | h
  · rw [h]; exact readNumber_ok A n c l w hr hz h
  · rw [h.1, h.2.1, h.2.2.2]
    exact (readNumber_no A n c l w hr 3 h.1 h.2.1 h.2.2.1 (.inr rfl)).mono fun _ _ k => givesN_nil k
  · rw [h.1, h.2.1, h.2.2.2]
    exact (readNumber_no A n c l w hr 8 h.1 h.2.1 h.2.2.1 (.inl rfl)).mono fun _ _ k => givesN_nil k
end Go.Proofs.YtdbdigcpibmgjaaGreatDoor
/- Reading a number: the reference's WireNumberOf. -/
namespace Go.Proofs.YtdbdigcpibmgjaaGreatDoor
open Go.RowKit
theorem y8_and127 (x : UInt8) : bits .and .u8 (y8 x) 127 = ((x.toNat % 128 : Nat) : Int) := by
  have : ∀ n : Fin 256, bits .and .u8 (n.val : Int) 127 = ((n.val % 128 : Nat) : Int) := by decide +kernel
  exact this ⟨x.toNat, x.toNat_lt⟩
set_option maxRecDepth 100000 in
set_option maxHeartbeats 1000000 in
theorem rof_long (A : Option Addr) (n c : Nat) (l : List UInt8) (w : World) (hr : Rd w 1 A n c (l.map bv8)) (h5 : 5 ≤ lead l) :
    Calls Tryz.prog 121 #[.slice A n c] w fun e' w' => e' = .returned (.tuple #[.int .i64 0, .slice none 0 0, .int .i64 3]) ∧ w = w' := by
  obtain rfl := hr.len
  have hle := lead_le l
  have hcm := hr.2.1
  have hcx := hr.2.2.1
  unfold maxLen at hcx
  have hl5 : 5 ≤ l.length := by omega
  have H5 := Lib.hid h5
  clear h5 hle
  go_enter Tryz.func121, Tryz.ntmps121
  go_wp2
  go_loop [5] (fun q => ∃ k : Nat, k ≤ 5 ∧ q = .int .i64 k) (fun q => 5 - (intOf q).toNat)
  case atStart => exact ⟨0, by omega, rfl⟩
  case round =>
    obtain ⟨k, hk, rfl⟩ := hrel
    by_cases hlt : k < 5
    · have hkl : k < l.length := by omega
      have hki : (k : Int) < (l.length : Int) := by omega
      have hk5 : (k : Int) < 5 := by omega
      obtain ⟨b, off, rfl, hcell⟩ := hr.at (k := k) (v := .int .u8 (y8 l[k])) (by rw [List.getElem?_map, List.getElem?_eq_getElem (by omega)]; rfl)
      have hx := lead_at l k (by have := H5.out; omega) hkl
      have hd : decide (128 ≤ y8 l[k]) = true := by unfold y8; simp; omega
      clear hx
      go_wp2
      go_round
      case rel => exact ⟨k + 1, by omega, by go_num⟩
      case measure => simp [intOf] <;> omega
    · have hk5 : k = 5 := by omega
      subst hk5
      by_cases h6 : 5 < l.length
      · have hki : (5 : Int) < (l.length : Int) := by omega
        go_wp2
        go_ret3
        exact ⟨rfl, rfl⟩
      · have hki : ¬ (5 : Int) < (l.length : Int) := by omega
        go_wp2
        go_ret3
        exact ⟨rfl, rfl⟩
set_option maxRecDepth 100000 in
set_option maxHeartbeats 1000000 in
theorem rof_short (A : Option Addr) (n c : Nat) (l : List UInt8) (w : World) (hr : Rd w 1 A n c (l.map bv8)) (h5 : lead l < 5) (h6 : lead l = l.length) :
    Calls Tryz.prog 121 #[.slice A n c] w fun e' w' => e' = .returned (.tuple #[.int .i64 0, .slice none 0 0, .int .i64 8]) ∧ w = w' := by
  obtain rfl := hr.len
  have hcm := hr.2.1
  have hcx := hr.2.2.1
  unfold maxLen at hcx
  have hl5 : l.length < 5 := by omega
  have H6 := Lib.hid h6
  clear h5 h6
  go_enter Tryz.func121, Tryz.ntmps121
  go_wp2
  go_loop [5] (fun q => ∃ k : Nat, k ≤ l.length ∧ q = .int .i64 k) (fun q => 5 - (intOf q).toNat)
  case atStart => exact ⟨0, by omega, rfl⟩
  case round =>
    obtain ⟨k, hk, rfl⟩ := hrel
    by_cases hlt : k < l.length
    · have hki : (k : Int) < (l.length : Int) := by omega
      have hk5 : (k : Int) < 5 := by omega
      obtain ⟨b, off, rfl, hcell⟩ := hr.at (k := k) (v := .int .u8 (y8 l[k])) (by rw [List.getElem?_map, List.getElem?_eq_getElem (by omega)]; rfl)
      have hx := lead_at l k (by have := H6.out; omega) hlt
      have hd : decide (128 ≤ y8 l[k]) = true := by unfold y8; simp; omega
      clear hx
      go_wp2
      go_round
      case rel => exact ⟨k + 1, by omega, by go_num⟩
      case measure => simp [intOf] <;> omega
    · have hd : decide ((k : Int) < (l.length : Int)) = false := by simp; omega
      have hd2 : ((k : Int) == 5) = false := by rw [beq_eq_false_iff_ne]; omega
      have hd3 : ((k : Int) == (l.length : Int)) = true := by rw [beq_iff_eq]; omega
      go_wp2
      go_ret3
      exact ⟨rfl, rfl⟩
end Go.Proofs.YtdbdigcpibmgjaaGreatDoor
/- Reading a number: the reference's WireNumberOf where a byte below 128 stands among the first five. -/
namespace Go.Proofs.YtdbdigcpibmgjaaGreatDoor
open Go.RowKit
set_option maxRecDepth 100000 in
set_option maxHeartbeats 2000000 in
theorem rof_some (A : Option Addr) (n c : Nat) (l : List UInt8) (w : World) (hr : Rd w 1 A n c (l.map bv8)) (hz : n ≤ 140737488351232) (d : Nat) (hd5 : d < 5) (hdl : d < l.length) (hd : Hid (lead l = d)) :
    Calls Tryz.prog 121 #[.slice A n c] w (GivesN (.int .i64 (rVal l)) (rRest l) (rErr l) w) := by
  obtain rfl := hr.len
  obtain ⟨i0, hi0, hz0, hz1, hz2⟩ := info_parts u8_info
  have hcm := hr.2.1
  have hcx := hr.2.2.1
  unfold maxLen at hcx
  obtain ⟨b, off, rfl, hcell⟩ := hr.2.2.2 (by simp; omega)
  have hcd : w.cell? ⟨b, off + d, none⟩ = some (.int .u8 (y8 l[d])) := hcell d _ (by rw [List.getElem?_map, List.getElem?_eq_getElem hdl]; rfl)
  have HC := Lib.hid hcell
  obtain ⟨t, ht⟩ : ∃ t, Hid (t = l.take (d + 1)) := ⟨_, rfl⟩
  have htl : Hid (t.length = d + 1) := by show _ = _; rw [ht.out, List.length_take]; omega
  have hdi : (d : Int) < (l.length : Int) := by omega
  have hd5i : (d : Int) < 5 := by omega
  have hd0 : lead l < 5 ∧ lead l < l.length := by rw [hd.out]; exact ⟨hd5, hdl⟩
  have hst := lead_stop l hd0.2
  have hdg : l[lead l]'hd0.2 = l[d] := by
    have h3 : l[lead l]? = l[d]? := by rw [hd.out]
    rw [List.getElem?_eq_getElem hd0.2, List.getElem?_eq_getElem hdl] at h3
    exact Option.some.inj h3
  rw [hdg] at hst
  have hdx : decide (128 ≤ y8 l[d]) = false := by unfold y8; simp; omega
  have HD0 := Lib.hid hd0
  clear hcell hst hdg hd0
  go_enter Tryz.func121, Tryz.ntmps121
  go_wp2
  go_loop [5] (fun q => ∃ k : Nat, k ≤ d ∧ q = .int .i64 k) (fun q => 5 - (intOf q).toNat)
  case atStart => exact ⟨0, by omega, rfl⟩
  case round =>
    obtain ⟨k, hk, rfl⟩ := hrel
    by_cases hlt : k < d
    · have hkl : k < l.length := by omega
      have hki : (k : Int) < (l.length : Int) := by omega
      have hk5 : (k : Int) < 5 := by omega
      have hck : w.cell? ⟨b, off + k, none⟩ = some (.int .u8 (y8 l[k])) := HC.out k _ (by rw [List.getElem?_map, List.getElem?_eq_getElem hkl]; rfl)
      have hx := lead_at l k (by have := hd.out; omega) hkl
      have hd : decide (128 ≤ y8 l[k]) = true := by unfold y8; simp; omega
      clear hx
      go_wp2
      go_round
      case rel => exact ⟨k + 1, by omega, by go_num⟩
      case measure => simp [intOf] <;> omega
    · obtain rfl : k = d := by omega
      have e5 : ((k : Int) == 5) = false := by rw [beq_eq_false_iff_ne]; omega
      have e6 : ((k : Int) == (l.length : Int)) = false := by rw [beq_eq_false_iff_ne]; omega
      go_wp2
      go_loop [6, 7] (fun nv iv => ∃ (j v : Nat) (q : Int), j ≤ k + 1 ∧ v < 34359738368 ∧ nv = .int .i64 v ∧ iv = .int .i64 q ∧ Hid (q = (j : Int) - 1) ∧ -1 ≤ q ∧ Hid (v = val (t.drop j))) (fun _ iv => ((intOf iv) + 1).toNat)
      case atStart => exact ⟨k + 1, 0, _, by omega, by omega, rfl, rfl, by show _ = _; omega, by omega, by show _ = _; rw [List.drop_of_length_le (by rw [htl.out]; omega)]; rfl⟩
      case round =>
        obtain ⟨j, v, q, hj, hv, rfl, rfl, Hq, hq1, HV⟩ := hrel
        by_cases hq : 0 ≤ q
        · obtain ⟨i, rfl⟩ := Int.eq_ofNat_of_zero_le hq
          have hji : j = i + 1 := by have := Hq.out; omega
          have hil : i < l.length := by omega
          have hii : (i : Int) < (l.length : Int) := by omega
          have hci : w.cell? ⟨b, off + i, none⟩ = some (.int .u8 (y8 l[i])) := HC.out i _ (by rw [List.getElem?_map, List.getElem?_eq_getElem hil]; rfl)
          have hy := y8_and127 l[i]
          obtain ⟨r, hr2⟩ : ∃ r, l[i].toNat % 128 = r := ⟨_, rfl⟩
          rw [hr2] at hy
          have hr3 : r < 128 := by omega
          have hid : i ≤ k := by omega
          have HW := Lib.hid (show v * 128 + r = val (t.drop i) ∧ v * 128 + r < 34359738368 by
            have h1 : v * 128 + r = val (t.drop i) := by
              rw [val_drop (l := t) (j := i) (by rw [htl.out]; omega), ← hji, ← HV.out, ← hr2]
              have : t[i]'(by rw [htl.out]; omega) = l[i] := by
                have h3 : t[i]? = l[i]? := by rw [ht.out, List.getElem?_take, if_pos (by omega)]
                rw [List.getElem?_eq_getElem (by rw [htl.out]; omega), List.getElem?_eq_getElem hil] at h3
                exact Option.some.inj h3
              rw [this]; omega
            refine ⟨h1, ?_⟩
            rw [h1]
            refine Nat.lt_of_lt_of_le (val_lt _) ?_
            rw [List.length_drop, htl.out]
            exact Nat.le_trans (Nat.pow_le_pow_right (by omega) (by omega : k + 1 - i ≤ 5)) (by decide))
          clear hji hr2 HV hq
          go_wp2
          go_round
          case rel => exact ⟨i, v * 128 + r, (i : Int) - 1, by omega, HW.out.2, by go_num, by go_num, rfl, by omega, HW.out.1⟩
          case measure => simp [intOf] <;> omega
        · have hj0 : j = 0 := by have := Hq.out; omega
          have HVt : Hid (v = val t) := by
            show _ = _
            have := HV.out
            rwa [hj0, List.drop_zero] at this
          have hqd : decide (0 ≤ q) = false := by simp; omega
          have Ht2 : Hid (t = l.take (lead l + 1)) := by show _ = _; rw [ht.out, hd.out]
          clear hj0 HV hq
          by_cases hbig : 4294967295 < v
          · have HR := Lib.hid (read_form (l := l) HD0.out.1 HD0.out.2 (.inl (by rw [← Ht2.out, ← HVt.out]; exact hbig)))
            go_wp2_with fail
            with_reducible refine (rnumber_out (v : Int) _ (by omega) (by omega) (.inr (by omega))).mono ?_
            rintro e' w' ⟨rfl, rfl⟩
            go_wp2_with fail
            go_quiet (fail)
            go_wp2
            go_ret3
            rw [HR.out.1, HR.out.2.1, HR.out.2.2.2]
            exact ⟨none, 0, 0, rfl, Rd.nil _ _, fun _ => rfl, by omega, fun _ q => by (cases q), below_drewN (Below.refl _ _) _⟩
          · go_wp2_with fail
            with_reducible refine (rnumber_ok v _ (by omega)).mono ?_
            rintro e' w1 ⟨v1, rfl, hown1, hb1⟩
            obtain ⟨A1, c1, rfl, hr1⟩ := own_rd hown1
            have hrt := ((hr.take (k + 1) (by omega)).below hb1)
            rw [← List.map_take, ← ht.out] at hrt
            have k1 := fun nn : Nat => run_bytes_str (P := Tryz.prog) Tryz.underlying43 Tryz.underlying5 Tryz.underlying9 (hr1.drewN nn)
            have k2 := fun nn : Nat => run_bytes_str (P := Tryz.prog) Tryz.underlying43 Tryz.underlying5 Tryz.underlying9 (hrt.as.drewN nn)
            simp only [htl.out] at k2
            by_cases heq : enc v = t
            · have f5 : (enc v == t) = true := by rw [beq_iff_eq]; exact heq
              have HR := Lib.hid (read_ok (l := l) HD0.out.1 HD0.out.2 (by rw [← Ht2.out, ← HVt.out]; omega) (by rw [← Ht2.out, ← HVt.out]; exact heq))
              have v1 : IntKind.i64.wrap ((k : Int) + 1) = (k : Int) + 1 := IntWalk.i64_in _ (by omega)
              have f8 : (k : Int) + 1 ≤ (c : Int) := by omega
              clear heq
              go_wp2_with fail
              go_quiet (fail)
              have hrA := (hr.below hb1).drewN nq
              have hbA := below_drewN hb1 nq
              clear k1 k2 hr1 hown1 hrt hb1
              generalize w1.drewN nq = w2 at *
              have hb0 := hbA.alloc hbA.size (.cells #[] 5)
              have hown0 : (w2.alloc (.cells #[] 5)).ownsRow w2.heap.size 5 1 (.slice (some ⟨w2.heap.size, 0, none⟩) 0 0) 0 [] :=
                ⟨rfl, .inr ⟨w2.heap.size, 0, #[], rfl, Nat.le_refl _, heap_alloc_new w2 _, Nat.le_refl _, by simp [maxLen], rfl, rfl⟩⟩
              have hr0 := hrA.below ((Below.refl w2.heap.size w2).alloc (Nat.le_refl _) (.cells #[] 5))
              have hs0 : w2.heap.size ≤ (w2.alloc (.cells #[] 5)).heap.size := by simp
              have hsw := hbA.size
              have HF := Lib.hid (show rRest l = l.drop (k + 1) by rw [HR.out.2.2.2, hd.out])
              by_cases hck : c = k + 1
              · have hlk : l.length = k + 1 := by omega
                have hr2 : Rd (w2.alloc (.cells #[] 5)) 1 (some ⟨b, off, none⟩) 0 0 (([] : List UInt8).map bv8) := Rd.none0 _ _ 0 (by unfold maxLen; omega)
                have HLK := Lib.hid hlk
                have hlk2 : l.length - (k + 1) = 0 := by omega
                clear hlk
                go_wp2_with (at_builtin; refine wpList_appendR rfl (.tmp 65) (.tmp 69) _ rfl Tryz.underlying43 hi0 hz0 hz1 hz2 rfl (by omega) _ 0 [] rfl hown0 hr2 (fun h => by (cases h)) (bytes_one _) rfl (by omega) (by unfold maxLen; omega) hs0 ?_; rintro v3 w3 ⟨hown3, hb3⟩)
                go_ret3
                obtain ⟨A3, c3, rfl, hr3, hA3, hF3⟩ := own_rdF hown3
                rw [HR.out.1, HR.out.2.1, ← Ht2.out, ← HVt.out, HF.out, ← HLK.out, List.drop_length]
                exact ⟨A3, _, c3, rfl, hr3, hA3, by omega, fun a q => Nat.le_trans hsw (hF3 a q), hb0.trans (hb3.mono hsw)⟩
              · have hr2 := hr0.drop (k + 1) (by omega)
                rw [← List.map_drop] at hr2
                go_wp2_with (at_builtin; refine wpList_appendR rfl (.tmp 65) (.tmp 69) _ rfl Tryz.underlying43 hi0 hz0 hz1 hz2 rfl (by omega) _ 0 [] rfl hown0 hr2 (fun h => by (cases h)) (bytes_one _) rfl (by omega) (by unfold maxLen; omega) hs0 ?_; rintro v3 w3 ⟨hown3, hb3⟩)
                go_ret3
                obtain ⟨A3, c3, rfl, hr3, hA3, hF3⟩ := own_rdF hown3
                rw [HR.out.1, HR.out.2.1, ← Ht2.out, ← HVt.out, HF.out]
                rw [List.nil_append] at hr3
                exact ⟨A3, _, c3, rfl, hr3, hA3, by omega, fun a q => Nat.le_trans hsw (hF3 a q), hb0.trans (hb3.mono hsw)⟩
            · have f5 : (enc v == t) = false := by rw [beq_eq_false_iff_ne]; exact heq
              have HR := Lib.hid (read_form (l := l) HD0.out.1 HD0.out.2 (.inr (by rw [← Ht2.out, ← HVt.out]; exact heq)))
              have v1 : IntKind.i64.wrap ((k : Int) + 1) = (k : Int) + 1 := IntWalk.i64_in _ (by omega)
              have f8 : (k : Int) + 1 ≤ (c : Int) := by omega
              go_wp2_with fail
              go_quiet (fail)
              go_wp2
              go_ret3
              rw [HR.out.1, HR.out.2.1, HR.out.2.2.2]
              exact ⟨none, 0, 0, rfl, Rd.nil _ _, fun _ => rfl, by omega, fun _ q => by (cases q), below_drewN hb1 _⟩
theorem rof_any (A : Option Addr) (n c : Nat) (l : List UInt8) (w : World) (hr : Rd w 1 A n c (l.map bv8)) (hz : n ≤ 140737488351232) :
    Calls Tryz.prog 121 #[.slice A n c] w (GivesN (.int .i64 (rVal l)) (rRest l) (rErr l) w) := by
  have hle := lead_le l
  by_cases h5 : 5 ≤ lead l
  · have h := read_long h5
    rw [h.1, h.2.1, h.2.2.2]
    exact (rof_long A n c l w hr h5).mono fun _ _ k => givesN_nil k
  · by_cases h6 : lead l = l.length
    · have h := read_short (l := l) (by omega) h6
      rw [h.1, h.2.1, h.2.2.2]
      exact (rof_short A n c l w hr (by omega) h6).mono fun _ _ k => givesN_nil k
    · exact rof_some A n c l w hr hz (lead l) (by omega) (by omega) rfl
end Go.Proofs.YtdbdigcpibmgjaaGreatDoor
/- Texts as bytes and back, as plain functions on lists. Nothing of the program. -/
namespace Go.Proofs.YtdbdigcpibmgjaaGreatDoor
open Go.RowKit
/-- the bytes of a text -/
def txt (m : List UInt8) : List UInt8 := enc m.length ++ m
/-- what reading a text tells: the error, the text, the rest -/
def tErr (l : List UInt8) : Int := if rErr l ≠ 0 then rErr l else if 2000 < rVal l then 1 else if (rRest l).length < rVal l then 8 else 0
def tStr (l : List UInt8) : List UInt8 := if tErr l = 0 then (rRest l).take (rVal l) else []
def tRest (l : List UInt8) : List UInt8 := if tErr l = 0 then (rRest l).drop (rVal l) else []
theorem tErr_no {l : List UInt8} {e : Int} (h : tErr l = e) (he : e ≠ 0) : tStr l = [] ∧ tRest l = [] := by
  unfold tStr tRest; rw [h]; exact ⟨if_neg he, if_neg he⟩
theorem tErr_ok {l : List UInt8} (h : tErr l = 0) : tStr l = (rRest l).take (rVal l) ∧ tRest l = (rRest l).drop (rVal l) := ⟨if_pos h, if_pos h⟩
theorem tErr_r {l : List UInt8} {e : Int} (h : rErr l = e) (he : e ≠ 0) : tErr l = e := by unfold tErr; rw [h, if_pos he]
theorem tErr_big {l : List UInt8} (h : rErr l = 0) (h2 : 2000 < rVal l) : tErr l = 1 := by unfold tErr; rw [h, if_neg (by omega), if_pos h2]
theorem tErr_short {l : List UInt8} (h : rErr l = 0) (h2 : ¬ 2000 < rVal l) (h3 : (rRest l).length < rVal l) : tErr l = 8 := by unfold tErr; rw [h, if_neg (by omega), if_neg h2, if_pos h3]
theorem tErr_zero {l : List UInt8} (h : rErr l = 0) (h2 : ¬ 2000 < rVal l) (h3 : ¬ (rRest l).length < rVal l) : tErr l = 0 := by unfold tErr; rw [h, if_neg (by omega), if_neg h2, if_neg h3]
theorem text_read (m r : List UInt8) (h : m.length ≤ 2000) : tErr (txt m ++ r) = 0 ∧ tStr (txt m ++ r) = m ∧ tRest (txt m ++ r) = r := by
  have e : txt m ++ r = enc m.length ++ (m ++ r) := by unfold txt; rw [List.append_assoc]
  obtain ⟨r1, r2, _, r4⟩ := read_enc (n := m.length) (by omega) (m ++ r)
  rw [← e] at r1 r2 r4
  have h0 : tErr (txt m ++ r) = 0 := tErr_zero r1 (by rw [r2]; omega) (by rw [r2, r4, List.length_append]; omega)
  refine ⟨h0, ?_, ?_⟩
  · rw [(tErr_ok h0).1, r2, r4, List.take_left' rfl]
  · rw [(tErr_ok h0).2, r2, r4, List.drop_left' rfl]
theorem text_cut (m : List UInt8) (h : m.length ≤ 2000) (p : Nat) (hp : p < (txt m).length) : tErr ((txt m).take p) = 8 := by
  have hl : (txt m).length = (enc m.length).length + m.length := List.length_append
  by_cases h1 : p < (enc m.length).length
  · have e : (txt m).take p = (enc m.length).take p := by unfold txt; rw [List.take_append_of_le_length (by omega)]
    rw [e]
    exact tErr_r (read_cut (by omega) h1) (by omega)
  · have e : (txt m).take p = enc m.length ++ m.take (p - (enc m.length).length) := by
      unfold txt; rw [List.take_append, List.take_of_length_le (by omega)]
    obtain ⟨r1, r2, _, r4⟩ := read_enc (n := m.length) (by omega) (m.take (p - (enc m.length).length))
    rw [← e] at r1 r2 r4
    exact tErr_short r1 (by rw [r2]; omega) (by rw [r2, r4, List.length_take]; omega)
theorem txt_length (m : List UInt8) : (txt m).length = (enc m.length).length + m.length := List.length_append
theorem rRest_len {l : List UInt8} (h : rErr l = 0) : (rRest l).length = l.length - rLen l := by rw [rRest_eq h, List.length_drop]
theorem enc_rVal {l : List UInt8} (h : rErr l = 0) : enc (rVal l) = l.take (rLen l) := by
  have := (rErr_ok h).2.2.2
  unfold rVal rLen; rw [if_pos h, if_pos h]; exact this
/-- what is read is what stood there -/
theorem read_turn {l : List UInt8} (h : rErr l = 0) : enc (rVal l) ++ rRest l = l := by
  rw [enc_rVal h, rRest_eq h, List.take_append_drop]
theorem text_turn {l : List UInt8} (h : tErr l = 0) : txt (tStr l) ++ tRest l = l := by
  obtain ⟨h1, h2⟩ := tErr_ok h
  have hr : rErr l = 0 := by
    unfold tErr at h
    split at h
    · rename_i q; exact absurd h q
    · rename_i q; exact Classical.byContradiction q
  have hv : ¬ (rRest l).length < rVal l := by
    unfold tErr at h
    rw [hr, if_neg (by omega)] at h
    split at h
    · omega
    · split at h
      · omega
      · assumption
  have hl : (tStr l).length = rVal l := by rw [h1, List.length_take]; omega
  unfold txt
  rw [hl, h1, h2, List.append_assoc, List.take_append_drop, read_turn hr]
end Go.Proofs.YtdbdigcpibmgjaaGreatDoor

/- Texts that belong together: what the functions of the program and of the statements return. -/
import Derived.WalkKit
import Derived.WalkSpells
import Derived.WalkLawsBesides
import Derived.Laws.BitsLemmas
import Derived.Below
import Derived.Laws.OwnMore
import Derived.Deep.AppendLies
import Derived.Deep.Draws
import Derived.Laws.Rows
import Derived.Lib.Hide
import Derived.Laws.MakeOwn
import Derived.Laws.BytesArg
import Derived.Lib.Bytes
import Derived.Laws.IdiomStrings
import Derived.Laws.AppendOwn
import Derived.Test.YtglkfabjholnaaaRows
import Derived.IntWalk
/- Words of 32 bits as bit vectors: how the walk's numbers are told in their terms. Nothing of the program. -/
namespace Go.Proofs.Ytglkfabjholnaaa
open Go.RowKit

/-- a word as a number -/
def u (x : BitVec 32) : Int := (x.toNat : Int)
theorem u_def (x : BitVec 32) : u x = (x.toNat : Int) := rfl
theorem u_nonneg (x : BitVec 32) : 0 ≤ u x := Int.natCast_nonneg _
theorem u_lt (x : BitVec 32) : u x < 4294967296 := by have := x.isLt; unfold u; omega
theorem u_wf (x : BitVec 32) : (Lit.int .u32 (u x)).wf = true := by
  have := u_nonneg x; have := u_lt x
  simp [Lit.wf, IntKind.min, IntKind.max, IntKind.bits, IntKind.signed]; omega
theorem of_wf {n : Int} (h : (Lit.int .u32 n).wf = true) : ∃ x : BitVec 32, n = u x := by
  simp [Lit.wf, IntKind.min, IntKind.max, IntKind.bits, IntKind.signed] at h
  refine ⟨BitVec.ofNat 32 n.toNat, ?_⟩
  rw [u_def, BitVec.toNat_ofNat]; omega
theorem ofInt_u32 (x : BitVec 32) : BitVec.ofInt 32 (u x) = x := by
  rw [u_def, BitVec.ofInt_natCast, BitVec.ofNat_toNat, BitVec.setWidth_eq]
theorem wrap_bv32 (x : BitVec 32) : IntKind.u32.wrap (x.toNat : Int) = u x := by
  have := x.isLt
  rw [IntKind.wrap_u32, u_def]; omega
@[go_sem] theorem wrap_u (x : BitVec 32) : IntKind.u32.wrap (u x) = u x := wrap_bv32 x
@[go_sem] theorem bv_and (x y : BitVec 32) : bits .and .u32 (u x) (u y) = u (x &&& y) := by
  show IntKind.u32.wrap ((BitVec.ofInt 32 (u x) &&& BitVec.ofInt 32 (u y)).toNat : Int) = _
  rw [ofInt_u32, ofInt_u32, wrap_bv32]
@[go_sem] theorem bv_or (x y : BitVec 32) : bits .or .u32 (u x) (u y) = u (x ||| y) := by
  show IntKind.u32.wrap ((BitVec.ofInt 32 (u x) ||| BitVec.ofInt 32 (u y)).toNat : Int) = _
  rw [ofInt_u32, ofInt_u32, wrap_bv32]
@[go_sem] theorem bv_xor (x y : BitVec 32) : bits .xor .u32 (u x) (u y) = u (x ^^^ y) := by
  show IntKind.u32.wrap ((BitVec.ofInt 32 (u x) ^^^ BitVec.ofInt 32 (u y)).toNat : Int) = _
  rw [ofInt_u32, ofInt_u32, wrap_bv32]
@[go_sem] theorem bv_zero_xor (y : BitVec 32) : bits .xor .u32 0 (u y) = u y := by
  have := bv_xor 0#32 y
  rw [BitVec.zero_xor] at this
  exact this
@[go_sem] theorem bv_not (x : BitVec 32) : bits .xor .u32 IntKind.u32.max (u x) = u (~~~ x) := by
  show IntKind.u32.wrap ((BitVec.ofInt 32 IntKind.u32.max ^^^ BitVec.ofInt 32 (u x)).toNat : Int) = _
  rw [ofInt_u32, wrap_bv32]
  have : BitVec.ofInt 32 IntKind.u32.max = BitVec.allOnes 32 := by decide
  rw [this, BitVec.allOnes_xor]
@[go_sem] theorem bv_and_one (x : BitVec 32) : bits .and .u32 (u x) 1 = u (x &&& 1#32) := bv_and x 1#32
@[go_sem] theorem bv_add (x y : BitVec 32) : (u x + u y) % (4294967296 : Int) = u (x + y) := by
  unfold u; rw [BitVec.toNat_add]; omega
@[go_sem] theorem bv_wadd (x y : BitVec 32) : IntKind.u32.wrap (u x + u y) = u (x + y) := by rw [IntKind.wrap_u32]; exact bv_add x y
@[go_sem] theorem bv_shl (x : BitVec 32) (n : Nat) : (u x * 2 ^ n) % (4294967296 : Int) = u (x <<< n) := by
  unfold u; rw [BitVec.toNat_shiftLeft, Nat.shiftLeft_eq]; simp
@[go_sem] theorem bv_shr (x : BitVec 32) (n : Nat) : u x / 2 ^ n = u (x >>> n) := by
  unfold u; rw [BitVec.toNat_ushiftRight, Nat.shiftRight_eq_div_pow]; simp
@[go_sem] theorem bv_shl24 (x : BitVec 32) : IntKind.u32.wrap (u x * (16777216 : Int)) = u (x <<< 24) := by rw [IntKind.wrap_u32]; exact bv_shl x 24
@[go_sem] theorem bv_shl16 (x : BitVec 32) : IntKind.u32.wrap (u x * (65536 : Int)) = u (x <<< 16) := by rw [IntKind.wrap_u32]; exact bv_shl x 16
@[go_sem] theorem bv_shl8 (x : BitVec 32) : IntKind.u32.wrap (u x * (256 : Int)) = u (x <<< 8) := by rw [IntKind.wrap_u32]; exact bv_shl x 8
theorem u_inj {x y : BitVec 32} : (u x = u y) ↔ x = y := by
  rw [u_def, u_def, Int.natCast_inj, BitVec.toNat_inj]
@[go_sem] theorem u_beq (x y : BitVec 32) : (u x == u y) = (x == y) := by
  rw [Bool.eq_iff_iff]; simp only [beq_iff_eq, u_inj]
theorem ret_u {a b : BitVec 32} (h : a = b) : Ending.returned (.int .u32 (u a)) = .returned (.int .u32 (u b)) := by rw [h]
theorem and31 (k : Int) : bits .and .u64 (IntKind.u64.wrap k) 31 = k % 32 := by
  have h0 : 0 ≤ IntKind.u64.wrap k := by rw [IntKind.wrap_u64]; omega
  have h1 : IntKind.u64.wrap k < 18446744073709551616 := by rw [IntKind.wrap_u64]; omega
  obtain ⟨n, hn⟩ := Int.eq_ofNat_of_zero_le h0
  have hk : k % 32 = ((n % 32 : Nat) : Int) := by rw [IntKind.wrap_u64] at hn; omega
  rw [hn, hk]
  have h2 := Go.bits_and_u64_nat n 31 (by omega) (by omega)
  have h3 : n &&& 31 = n % 32 := Nat.and_two_pow_sub_one_eq_mod n 5
  rw [h3] at h2
  exact h2
theorem and1 (n : Nat) (h : n < 9223372036854775808) : bits .and .i64 (n : Int) 1 = ((n % 2 : Nat) : Int) := by
  have h2 : n &&& 1 = n % 2 := Nat.and_two_pow_sub_one_eq_mod n 1
  have ho : ∀ a : Nat, a < 9223372036854775808 → (BitVec.ofInt 64 (a : Int)).toNat = a := fun a ha => by
    rw [BitVec.ofInt_natCast, BitVec.toNat_ofNat]; exact Nat.mod_eq_of_lt (by omega)
  show IntKind.i64.wrap ((BitVec.ofInt 64 (n : Int) &&& BitVec.ofInt 64 ((1 : Nat) : Int)).toNat : Int) = _
  rw [BitVec.toNat_and, ho n h, ho 1 (by omega), h2, IntKind.wrap_i64]; omega
theorem and3 (n : Nat) (h : n < 4294967296) : bits .and .i64 (n : Int) 3 = ((n % 4 : Nat) : Int) := by
  have h2 : n &&& 3 = n % 4 := Nat.and_two_pow_sub_one_eq_mod n 2
  have ho : ∀ a : Nat, a < 9223372036854775808 → (BitVec.ofInt 64 (a : Int)).toNat = a := fun a ha => by
    rw [BitVec.ofInt_natCast, BitVec.toNat_ofNat]; exact Nat.mod_eq_of_lt (by omega)
  show IntKind.i64.wrap ((BitVec.ofInt 64 (n : Int) &&& BitVec.ofInt 64 ((3 : Nat) : Int)).toNat : Int) = _
  rw [BitVec.toNat_and, ho n (by omega), ho 3 (by omega), h2, IntKind.wrap_i64]; omega
end Go.Proofs.Ytglkfabjholnaaa
/- Slices that read as lists, and blocks of the call's own: what is known of them from world to world. Nothing of the program. -/
namespace Go.Proofs.Ytglkfabjholnaaa
open Go.RowKit

theorem below_drewN {B : Nat} {a w : World} (h : Below B a w) (n : Nat) : Below B a (w.drewN n) := ⟨h.os, h.tape, h.output, h.size, h.block⟩
theorem below_step {a w w' : World} (h : Below a.heap.size a w) (k : Below w.heap.size w w') : Below a.heap.size a w' := h.trans (k.mono h.size)
theorem cell_lt {w : World} {p : Addr} {v : Value} (h : w.cell? p = some v) : p.block < w.heap.size := by
  rcases Nat.lt_or_ge p.block w.heap.size with hlt | hge
  · exact hlt
  · rw [World.cell?] at h; simp [Array.getElem?_eq_none hge] at h

/-- the slice value '.slice A n c', of elements of 'size' cells, holds the cells xs -/
def Rd (w : World) (size : Nat) (A : Option Addr) (n c : Nat) (xs : List Value) : Prop :=
  xs.length = n * size ∧ n ≤ c ∧ c ≤ maxLen ∧ (0 < xs.length → ∃ b off, A = some ⟨b, off, none⟩ ∧ ∀ (j : Nat) v, xs[j]? = some v → w.cell? ⟨b, off + j, none⟩ = some v)
section
variable {w w' : World} {size n c : Nat} {A : Option Addr} {xs : List Value}
theorem Rd.keep (h : Rd w size A n c xs) (hk : ∀ p : Addr, p.block < w.heap.size → w'.cell? p = w.cell? p) : Rd w' size A n c xs := by
  obtain ⟨h1, h2, h3, h4⟩ := h
  refine ⟨h1, h2, h3, fun hp => ?_⟩
  obtain ⟨b, off, rfl, hc⟩ := h4 hp
  exact ⟨b, off, rfl, fun j v hv => (hk _ (cell_lt (hc j v hv))).trans (hc j v hv)⟩
theorem Rd.below (h : Rd w size A n c xs) (hb : Below w.heap.size w w') : Rd w' size A n c xs := h.keep fun _ hp => hb.cell hp
theorem Rd.drew (h : Rd w size A n c xs) : Rd w.drew size A n c xs := h
theorem Rd.drewN (h : Rd w size A n c xs) (k : Nat) : Rd (w.drewN k) size A n c xs := h
theorem Rd.nil (w : World) (size : Nat) : Rd w size none 0 0 [] := ⟨by simp, Nat.le_refl _, by simp [maxLen], fun h => absurd h (by simp)⟩
theorem Rd.len {α : Type} {f : α → Value} {l : List α} (h : Rd w 1 A n c (l.map f)) : n = l.length := by have := h.1; simp at this; omega
theorem Rd.at {k : Nat} {v : Value} (h : Rd w size A n c xs) (hv : xs[k]? = some v) : ∃ b off, A = some ⟨b, off, none⟩ ∧ w.cell? ⟨b, off + k, none⟩ = some v := by
  have hl : k < xs.length := (List.getElem?_eq_some_iff.1 hv).1
  obtain ⟨b, off, rfl, hc⟩ := h.2.2.2 (by omega)
  exact ⟨b, off, rfl, hc k v hv⟩
theorem Rd.addr (h : Rd w size A n c xs) (hp : 0 < xs.length) : ∃ b off, A = some ⟨b, off, none⟩ ∧ b < w.heap.size ∧ ∀ (j : Nat) v, xs[j]? = some v → w.cell? ⟨b, off + j, none⟩ = some v := by
  obtain ⟨b, off, rfl, hc⟩ := h.2.2.2 hp
  refine ⟨b, off, rfl, ?_, hc⟩
  exact cell_lt (hc 0 _ (List.getElem?_eq_getElem hp))
end

/-- block g is just the cells xs, of element type t, none frozen -/
def Blk (w : World) (g : Nat) (t : TypeId) (xs : List Value) : Prop := w.heap[g]? = some (.cells xs.toArray t (0, 0))
section
variable {w w' : World} {g : Nat} {t : TypeId} {xs : List Value}
theorem Blk.lt (h : Blk w g t xs) : g < w.heap.size := by
  rcases Nat.lt_or_ge g w.heap.size with hlt | hge
  · exact hlt
  · unfold Blk at h; rw [Array.getElem?_eq_none hge] at h; cases h
theorem Blk.cell (h : Blk w g t xs) (i : Nat) : w.cell? ⟨g, i, none⟩ = xs[i]? := by
  rw [cell_of_row w g i xs.toArray t (0, 0) h, List.getElem?_toArray]
theorem Blk.frozen (h : Blk w g t xs) (i : Nat) : w.frozen? ⟨g, i, none⟩ = false := by
  unfold Blk at h
  simp [World.frozen?, h]
theorem Blk.new (w : World) (t : TypeId) (xs : List Value) : Blk (w.alloc (.cells xs.toArray t)) w.heap.size t xs := heap_alloc_new w _
theorem Blk.drew (h : Blk w g t xs) : Blk w.drew g t xs := h
theorem Blk.drewN (h : Blk w g t xs) (n : Nat) : Blk (w.drewN n) g t xs := h
theorem Blk.alloc (h : Blk w g t xs) (o : Obj) : Blk (w.alloc o) g t xs := (Below.heap_alloc w o g h.lt).trans h
theorem Blk.put (h : Blk w g t xs) (i : Nat) (u : Value) : Blk (w.setCell ⟨g, i, none⟩ u) g t (xs.set i u) := by
  unfold Blk at h ⊢
  simp [World.setCell, Array.getElem?_modify, h]
theorem Blk.far (h : Blk w g t xs) {p : Addr} (hp : g ≠ p.block) (u : Value) : Blk (w.setCell p u) g t xs := (Below.heap_setCell w p u g hp).trans h
theorem Blk.below {B : Nat} (h : Blk w g t xs) (hb : Below B w w') (hg : g < B) : Blk w' g t xs := (hb.block g hg).trans h
theorem Blk.grown {row : Option Nat} (h : Blk w g t xs) (hb : w.grownBy w' row) (hg : some g ≠ row) : Blk w' g t xs := (hb.block g h.lt hg).trans h
theorem Blk.rd {size n c : Nat} (h : Blk w g t xs) (hn : n ≤ c) (hc : c ≤ maxLen) (hl : n * size ≤ xs.length) : Rd w size (some ⟨g, 0, none⟩) n c (xs.take (n * size)) := by
  refine ⟨by rw [List.length_take]; omega, hn, hc, fun _ => ⟨g, 0, rfl, fun j v hv => ?_⟩⟩
  rw [h.cell, Nat.zero_add]
  rw [List.getElem?_take] at hv
  split at hv
  · exact hv
  · cases hv
end
/-- a row that the call owns reads as its cells -/
theorem Rd.of_own {w : World} {base : Nat} {e : TypeId} {size n c : Nat} {A : Option Addr} {xs : List Value} (h : w.ownsRow base e size (.slice A n c) n xs) (hc : c ≤ maxLen) (hn : n ≤ c) : Rd w size A n c xs := by
  refine ⟨h.1, hn, hc, fun hp => ?_⟩
  have hn0 : 0 < n := by
    rcases Nat.eq_zero_or_pos n with h0 | h0
    · subst h0; have := h.1; simp at this; subst this; simp at hp
    · exact h0
  obtain ⟨g, cap, hv, _, hlt⟩ := h.form hn0
  have hA : A = some ⟨g, 0, none⟩ := by injection hv
  subst hA
  refine ⟨g, 0, rfl, fun j v hj => ?_⟩
  have := h.cells (g := g) rfl j v hj
  rcases Nat.eq_zero_or_pos j with e | e
  · subst e; simpa [Addr.add] using this
  · simpa [Addr.add, Nat.ne_of_gt e] using this

def reps (n : Nat) (z : Value) : List Value := List.replicate n z
theorem reps_length (n : Nat) (z : Value) : (reps n z).length = n := by simp [reps]
theorem fill_step {ys : List Value} {m k : Nat} {z v : Value} (hk : k < m) (hv : ys[k]? = some v) : (ys.take k ++ reps (m - k) z).set k v = ys.take (k + 1) ++ reps (m - (k + 1)) z := by
  have hl : k < ys.length := (List.getElem?_eq_some_iff.1 hv).1
  have e1 : ys.take (k + 1) = ys.take k ++ [v] := by rw [List.take_add_one, hv]; rfl
  have e2 : reps (m - k) z = z :: reps (m - (k + 1)) z := by
    have : m - k = (m - (k + 1)) + 1 := by omega
    unfold reps; rw [this, List.replicate_succ]
  have e3 : (ys.take k).length = k := by rw [List.length_take]; omega
  rw [e1, e2, List.set_append_right _ _ (by omega), e3, Nat.sub_self, List.set_cons_zero, List.append_assoc]; rfl
theorem fill_at {ys : List Value} {m k : Nat} {z : Value} (hk : k < m) (hl : k < ys.length) : (ys.take k ++ reps (m - k) z)[k]? = some z := by
  have e3 : (ys.take k).length = k := by rw [List.length_take]; omega
  rw [List.getElem?_append_right (by omega), e3, Nat.sub_self]
  unfold reps
  rw [List.getElem?_replicate]; simp; omega
theorem fill_end {ys : List Value} {m : Nat} {z : Value} (hl : ys.length = m) : ys.take m ++ reps (m - m) z = ys := by
  rw [Nat.sub_self, ← hl, List.take_length]; simp [reps]
theorem made_one (z : Value) (n : Nat) : madeCells #[z] n = (reps n z).toArray := by
  apply Array.ext
  · simp [madeCells, reps]
  · intro i h1 h2
    simp [madeCells, reps, Nat.mod_one]
theorem run_make1 {P : Program} {t e : TypeId} {i : TypeInfo} {z : Value} (ht : P.underlying t = some (.slice e)) (hi : P.info? e = some i) (hz : i.zero = some z) (hs : i.size = 1) (hzc : z.cells = #[z]) {by_ : Nat} (hby : i.bytes = by_)
    (k : Int) (n : Nat) (hk : k = n) (hb : by_ * n ≤ 281474976710656) (h63 : n ≤ 9223372036854775807) (w : World) :
    (Instr.makeSlice t (.int .i64 k) (.int .i64 k)).run P w = .ok (.slice (some ⟨w.heap.size, 0, none⟩) n n) (w.alloc (.cells (reps n z).toArray e)) := by
  subst hk
  have hb' : (i.bytes : Int) * (n : Int) ≤ 281474976710656 := by
    rw [hby]
    have h : ((by_ * n : Nat) : Int) ≤ 281474976710656 := by omega
    rwa [Int.natCast_mul] at h
  have hr := run_make (P := P) w t e i z ht hi hz .i64 .i64 n n (by omega) (by omega) hb' (by omega)
  simp only [Int.toNat_natCast, hs, Nat.mul_one, hzc, made_one] at hr
  exact hr

/-- a byte as a number -/
def y8 (x : UInt8) : Int := (x.toNat : Int)
theorem y8_nonneg (x : UInt8) : 0 ≤ y8 x := Int.natCast_nonneg _
theorem y8_lt (x : UInt8) : y8 x < 256 := by have := x.toNat_lt; unfold y8; omega
theorem y8_wf (x : UInt8) : (Lit.int .u8 (y8 x)).wf = true := by
  have := y8_nonneg x; have := y8_lt x
  simp [Lit.wf, IntKind.min, IntKind.max, IntKind.bits, IntKind.signed]; omega
theorem y8_of_wf {n : Int} (h : (Lit.int .u8 n).wf = true) : n = y8 (UInt8.ofNat n.toNat) := by
  simp [Lit.wf, IntKind.min, IntKind.max, IntKind.bits, IntKind.signed] at h
  simp [y8]; omega
theorem u_of_wf {n : Int} (h : (Lit.int .u32 n).wf = true) : n = u (BitVec.ofNat 32 n.toNat) := by
  simp [Lit.wf, IntKind.min, IntKind.max, IntKind.bits, IntKind.signed] at h
  simp only [u_def, BitVec.toNat_ofNat]; omega
theorem y8_inj {x y : UInt8} : y8 x = y8 y ↔ x = y := by
  unfold y8; rw [Int.natCast_inj, UInt8.toNat_inj]
def bv8 (x : UInt8) : Value := .int .u8 (y8 x)
def wv (x : BitVec 32) : Value := .int .u32 (u x)
/-- bytes and words that came in -/
theorem rd_bytes {w : World} {a : Addr} {len cap : Nat} {zs : List Int} (hl : len ≤ cap) (hm : cap ≤ maxLen) (hz : zs.length = cap) (hc : ∀ i, i < zs.length → w.cell? (a.add i) = some (.int .u8 (zs.getD i 0)))
    (hw : ∀ n ∈ zs, (Lit.int .u8 n).wf = true) : ∃ l : List UInt8, l.length = len ∧ Rd w 1 (some a) len cap (l.map bv8) := by
  refine ⟨(zs.take len).map fun n => UInt8.ofNat n.toNat, by simp; omega, ?_⟩
  refine ⟨by simp; omega, hl, hm, fun hp => ?_⟩
  obtain ⟨b, off, spot⟩ := a
  have h0 := hc 0 (by simp at hp; omega)
  have hspot : spot = none := by simpa [Addr.add] using World.cell?_spot h0
  subst hspot
  refine ⟨b, off, rfl, fun j v hv => ?_⟩
  simp only [List.getElem?_map, Option.map_map, Option.map_eq_some_iff] at hv
  obtain ⟨n, hn, rfl⟩ := hv
  rw [List.getElem?_take] at hn
  split at hn
  · have hj : j < zs.length := (List.getElem?_eq_some_iff.1 hn).1
    have h1 := hc j hj
    rw [List.getD_eq_getElem?_getD, hn] at h1
    have h2 : w.cell? ⟨b, off + j, none⟩ = some (.int .u8 n) := by
      rcases Nat.eq_zero_or_pos j with e | e
      · subst e; simpa [Addr.add] using h1
      · simpa [Addr.add, Nat.ne_of_gt e] using h1
    rw [h2, Function.comp, bv8, ← y8_of_wf (hw n (List.mem_of_getElem? hn))]
  · cases hn
theorem rd_words {w : World} {a : Addr} {len cap : Nat} {zs : List Int} (hl : len ≤ cap) (hm : cap ≤ maxLen) (hz : zs.length = cap) (hc : ∀ i, i < zs.length → w.cell? (a.add i) = some (.int .u32 (zs.getD i 0)))
    (hw : ∀ n ∈ zs, (Lit.int .u32 n).wf = true) : ∃ l : List (BitVec 32), l.length = len ∧ Rd w 1 (some a) len cap (l.map wv) := by
  refine ⟨(zs.take len).map fun n => BitVec.ofNat 32 n.toNat, by simp; omega, ?_⟩
  refine ⟨by simp; omega, hl, hm, fun hp => ?_⟩
  obtain ⟨b, off, spot⟩ := a
  have h0 := hc 0 (by simp at hp; omega)
  have hspot : spot = none := by simpa [Addr.add] using World.cell?_spot h0
  subst hspot
  refine ⟨b, off, rfl, fun j v hv => ?_⟩
  simp only [List.getElem?_map, Option.map_map, Option.map_eq_some_iff] at hv
  obtain ⟨n, hn, rfl⟩ := hv
  rw [List.getElem?_take] at hn
  split at hn
  · have hj : j < zs.length := (List.getElem?_eq_some_iff.1 hn).1
    have h1 := hc j hj
    rw [List.getD_eq_getElem?_getD, hn] at h1
    have h2 : w.cell? ⟨b, off + j, none⟩ = some (.int .u32 n) := by
      rcases Nat.eq_zero_or_pos j with e | e
      · subst e; simpa [Addr.add] using h1
      · simpa [Addr.add, Nat.ne_of_gt e] using h1
    rw [h2, Function.comp, wv, ← u_of_wf (hw n (List.mem_of_getElem? hn))]
  · cases hn
def str (l : List UInt8) : ByteArray := ⟨l.toArray⟩
@[go_sem] theorem str_toList (l : List UInt8) : (str l).toList = l := by
  rw [Lib.toList_data]; rfl
@[go_sem] theorem str_size (l : List UInt8) : (str l).size = l.length := rfl
theorem str_of (s : ByteArray) : ∃ l : List UInt8, s = str l := ⟨s.data.toList, by cases s; simp [str]⟩
theorem ret_bool {a b : Bool} (h : a = b) : Ending.returned (.bool a) = .returned (.bool b) := by rw [h]
theorem run_bytes_str {P : Program} {src dst e : TypeId} (hs : P.underlying src = some (.slice e)) (he : P.underlying e = some (.int .u8)) (hd : P.underlying dst = some .string)
    {w : World} {A : Option Addr} {c : Nat} {l : List UInt8} (h : Rd w 1 A l.length c (l.map bv8)) : (convert src dst (.slice A l.length c)).run P w = .ok (.string (str l)) w := by
  rcases A with _ | a
  · have hl : l = [] := by
      rcases Nat.eq_zero_or_pos (l.map bv8).length with h0 | h0
      · simpa using h0
      · obtain ⟨b, off, h1, _⟩ := h.2.2.2 h0; cases h1
    subst hl
    rw [run_convert_bytes_nil w src e hs he _ _ dst hd]
    rfl
  · have hl : (loadCells a l.length).run P w = .ok ((l.map y8).map (Value.int .u8)).toArray w := by
      have := run_loadCells_list (P := P) w a ((l.map y8).map (Value.int .u8)) (fun j v hj => by
        have hj' : (l.map bv8)[j]? = some v := by rw [← hj, List.map_map]; rfl
        obtain ⟨b, off, h1, hc⟩ := h.at hj'
        injection h1 with h1
        subst h1
        have hplain : (⟨b, off, none⟩ : Addr).add j = ⟨b, off + j, none⟩ := by unfold Addr.add; split <;> simp_all
        rw [hplain, hc])
      simpa using this
    rw [run_convert_bytes_string w src dst e _ l.length c hs he hd, run_bytesToString w _ l.length c (l.map y8) hl, foldl_push_bytes]
    have e1 : ((l.map y8).map fun n => UInt8.ofNat n.toNat) = l := by
      rw [List.map_map]
      have : (fun n : Int => UInt8.ofNat n.toNat) ∘ y8 = id := by
        funext x; simp [y8]
      rw [this, List.map_id]
    rw [e1]
    simp [str, ByteArray.empty, ByteArray.emptyWithCapacity]
    rfl
theorem getD_lt {α : Type} {l : List α} {k : Nat} (h : k < l.length) (d : α) : l.getD k d = l[k] := by
  rw [List.getD_eq_getElem?_getD, List.getElem?_eq_getElem h]; rfl
theorem getD_last {α : Type} (W : List α) (x d : α) (j : Nat) (h : W.length = j) : (W ++ [x]).getD j d = x := by
  rw [List.getD_eq_getElem?_getD, List.getElem?_append_right (by omega), h, Nat.sub_self]; rfl
theorem set_last {α : Type} (W : List α) (x y : α) (j : Nat) (h : W.length = j) : (W ++ [x]).set j y = W ++ [y] := by
  rw [List.set_append_right _ _ (by omega), h, Nat.sub_self]; rfl
theorem Rd.take {w : World} {A : Option Addr} {n c : Nat} {xs : List Value} (h : Rd w 1 A n c xs) (k : Nat) (hk : k ≤ n) : Rd w 1 A k c (xs.take k) := by
  obtain ⟨h1, h2, h3, h4⟩ := h
  refine ⟨by rw [List.length_take]; omega, by omega, h3, fun hp => ?_⟩
  obtain ⟨b, off, e, hc⟩ := h4 (by rw [List.length_take] at hp; omega)
  refine ⟨b, off, e, fun j v hv => hc j v ?_⟩
  rw [List.getElem?_take] at hv
  split at hv
  · exact hv
  · cases hv
theorem Rd.as {w : World} {A : Option Addr} {n c : Nat} {l : List UInt8} (h : Rd w 1 A n c (l.map bv8)) : Rd w 1 A l.length c (l.map bv8) := by have := h.len; subst this; exact h
theorem str_lt {l : List UInt8} {i : Nat} (h : i < (str l).size) : i < l.length := h
@[go_sem] theorem str_at (l : List UInt8) (i : Nat) (h : i < (str l).size) : (((str l)[i]'h).toNat : Int) = y8 (l[i]'(str_lt h)) := rfl
theorem ret_int {k : IntKind} {a b : Int} (h : a = b) : Ending.returned (.int k a) = .returned (.int k b) := by rw [h]
theorem blk_rd {w : World} {g : Nat} {t : TypeId} {xs : List Value} {n : Nat} (h : Blk w g t xs) (hn : xs.length = n) (hm : n ≤ 281474976710656) : Rd w 1 (some ⟨g, 0, none⟩) n n xs := by
  have := h.rd (size := 1) (n := n) (c := n) (Nat.le_refl _) (by unfold maxLen; omega) (by omega)
  rwa [List.take_of_length_le (by omega)] at this
/-- '[]byte(s)': a new block that reads as the string's bytes -/
theorem run_str_bytes {P : Program} {src dst e : TypeId} (hs : P.underlying src = some .string) (hd : P.underlying dst = some (.slice e)) (he : P.underlying e = some (.int .u8)) (w : World) (l : List UInt8) (hl : l.length ≤ maxLen) :
    ∃ c w', (convert src dst (.string (str l))).run P w = .ok (.slice (some ⟨w.heap.size, 0, none⟩) l.length c) w' ∧ Rd w' 1 (some ⟨w.heap.size, 0, none⟩) l.length c (l.map bv8) ∧ Below w.heap.size w w' ∧ w'.heap.size = w.heap.size + 1 := by
  refine ⟨_, _, run_bytes_of_string w src dst e (str l) hs hd he, ?_, ?_, ?_⟩
  · refine ⟨by simp, grownCap_ge _ _ _ _, grownCap_le_maxLen _ _ _ _ hl, fun hp => ⟨w.heap.size, 0, rfl, fun j v hv => ?_⟩⟩
    rw [cell_of_row _ w.heap.size (0 + j) _ _ _ (heap_alloc_new w.drew _), Nat.zero_add]
    rw [List.getElem?_map] at hv
    have hj : j < l.length := by
      rcases Nat.lt_or_ge j l.length with h | h
      · exact h
      · rw [List.getElem?_eq_none h] at hv; cases hv
    have hsz : ((str l).data.map (fun b => Value.int .u8 (b.toNat : Int))).size = l.length := by simp [str]
    unfold bytesRow
    rw [Array.getElem?_append_left (by omega), Array.getElem?_map]
    have : (str l).data[j]? = l[j]? := by simp [str]
    rw [this, ← hv]
    rfl
  · exact (Below.refl _ _).drew.alloc (Nat.le_refl _) _
  · simp
end Go.Proofs.Ytglkfabjholnaaa
/- A number picked. -/
namespace Go.Proofs.Ytglkfabjholnaaa
open Go.RowKit
def pk (n m : Int) : Int := (if n < 0 then -(n + 1) else n) % m
theorem pk_range (n m : Int) (h : 0 < m) : 0 ≤ pk n m ∧ pk n m < m := ⟨Int.emod_nonneg _ (by omega), Int.emod_lt_of_pos _ h⟩
theorem i64_range {n : Int} (h : (Lit.int .i64 n).wf = true) : -9223372036854775808 ≤ n ∧ n ≤ 9223372036854775807 := by
  simpa [Lit.wf, IntKind.min, IntKind.max, IntKind.bits, IntKind.signed] using h
set_option maxRecDepth 100000 in
set_option maxHeartbeats 400000 in
theorem picked_any (n m : Int) (w : World) (h0 : -9223372036854775808 ≤ n) (h1 : n ≤ 9223372036854775807) (hm : 0 < m) (hm2 : m ≤ 4611686018427387904) :
    Calls Try.prog 9 #[.int .i64 n, .int .i64 m] w fun e w' => e = .returned (.int .i64 (pk n m)) ∧ w = w' := by
  by_cases hn : n < 0
  · have hp : Hid (pk n m = -(n + 1) % m) := by show _ = _; unfold pk; rw [if_pos hn]
    have he : (m == 0) = false := by simp; omega
    go_enter Try.func9, Try.ntmps9
    go_wp2
    go_ret
    exact ⟨ret_int (by rw [hp.out, ← Int.neg_tmod, Int.tmod_eq_emod_of_nonneg (by omega)]), rfl⟩
  · have hp : Hid (pk n m = n % m) := by show _ = _; unfold pk; rw [if_neg hn]
    have he : (m == 0) = false := by simp; omega
    go_enter Try.func9, Try.ntmps9
    go_wp2
    go_ret
    exact ⟨ret_int (by rw [hp.out]), rfl⟩
end Go.Proofs.Ytglkfabjholnaaa
/- A number picked, as a natural number. -/
namespace Go.Proofs.Ytglkfabjholnaaa
open Go.RowKit
theorem picked_nat (n : Int) (m : Int) (a : Nat) (w : World) (h0 : -9223372036854775808 ≤ n) (h1 : n ≤ 9223372036854775807) (hm : 0 < m) (hm2 : m ≤ 4611686018427387904) (ha : pk n m = a) :
    Calls Try.prog 9 #[.int .i64 n, .int .i64 m] w fun e w' => e = .returned (.int .i64 (a : Int)) ∧ w = w' := by
  rw [← ha]; exact picked_any n m w h0 h1 hm hm2
theorem pk_nat (n m : Int) (h : 0 < m) : ∃ a : Nat, pk n m = (a : Int) ∧ (a : Int) < m := by
  obtain ⟨h0, h1⟩ := pk_range n m h
  obtain ⟨a, ha⟩ := Int.eq_ofNat_of_zero_le h0
  exact ⟨a, ha, by rw [← ha]; exact h1⟩
end Go.Proofs.Ytglkfabjholnaaa

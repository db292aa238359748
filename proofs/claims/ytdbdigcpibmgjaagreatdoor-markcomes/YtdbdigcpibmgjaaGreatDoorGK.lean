/- Texts that belong together: what the functions of the program and of the statements return. -/
import Derived.Test.YtdbdigcpibmgjaaGreatDoorRows
import Derived.Test.YtdbdigcpibmgjaaGreatDoorGF
import Derived.Test.YtdbdigcpibmgjaaGreatDoorGF
import Derived.Test.YtdbdigcpibmgjaaGreatDoorGA
import Derived.Lib.Hide
import Derived.IntWalk
import Derived.Deep.QuietTactic
import Derived.BigQuiet
import Derived.StillTailTactics
import Derived.Laws.Tables
import Derived.Test.YtdbdigcpibmgjaaGreatDoorCards
import Derived.Deep.DeepHandedRow
import Derived.Lib.LaidTab
import Derived.Test.YtdbdigcpibmgjaaGreatDoorGB
/- What the program's Choose, Most and Mix return. -/
namespace Go.Proofs.YtdbdigcpibmgjaaGreatDoor
open Go.RowKit

set_option maxRecDepth 100000 in
set_option maxHeartbeats 400000 in
theorem rotr_any (x : BitVec 32) (n : Int) (w : World) (h0 : 0 ≤ n) (h1 : n ≤ 31) :
    Calls Tryz.prog 203 #[.int .u32 (u x), .int .i64 n] w fun e w' => e = .returned (.int .u32 (u (rotr x n))) ∧ w = w' := by
  go_enter Tryz.func203, Tryz.ntmps203
  go_wp2_with (go_at_call 125; refine (rotl_any _ _ _).mono ?_; rintro e w' ⟨rfl, rfl⟩)
  go_ret
  exact ⟨rfl, rfl⟩
set_option maxRecDepth 100000 in
set_option maxHeartbeats 400000 in
theorem choose_any (x y z : BitVec 32) (w : World) :
    Calls Tryz.prog 200 #[.int .u32 (u x), .int .u32 (u y), .int .u32 (u z)] w fun e w' => e = .returned (.int .u32 (u (chs x y z))) ∧ w = w' := by
  go_enter Tryz.func200, Tryz.ntmps200
  go_wp2
  go_ret
  exact ⟨rfl, rfl⟩
set_option maxRecDepth 100000 in
set_option maxHeartbeats 400000 in
theorem most_any (x y z : BitVec 32) (w : World) :
    Calls Tryz.prog 201 #[.int .u32 (u x), .int .u32 (u y), .int .u32 (u z)] w fun e w' => e = .returned (.int .u32 (u (mst x y z))) ∧ w = w' := by
  go_enter Tryz.func201, Tryz.ntmps201
  go_wp2
  go_ret
  exact ⟨rfl, rfl⟩
set_option maxRecDepth 100000 in
set_option maxHeartbeats 400000 in
theorem mix_0 (x : BitVec 32) (w : World) :
    Calls Tryz.prog 202 #[.int .u32 (u x), .int .i64 0] w fun e w' => e = .returned (.tuple #[.int .u32 (u (mix0 x)), .int .i64 0]) ∧ w = w' := by
  go_enter Tryz.func202, Tryz.ntmps202
  go_wp2_with (go_at_call 203; refine (rotr_any _ _ _ (by omega) (by omega)).mono ?_; rintro e w' ⟨rfl, rfl⟩)
  go_ret2
  exact ⟨rfl, rfl⟩
set_option maxRecDepth 100000 in
set_option maxHeartbeats 400000 in
theorem mix_1 (x : BitVec 32) (w : World) :
    Calls Tryz.prog 202 #[.int .u32 (u x), .int .i64 1] w fun e w' => e = .returned (.tuple #[.int .u32 (u (mix1 x)), .int .i64 0]) ∧ w = w' := by
  go_enter Tryz.func202, Tryz.ntmps202
  go_wp2_with (go_at_call 203; refine (rotr_any _ _ _ (by omega) (by omega)).mono ?_; rintro e w' ⟨rfl, rfl⟩)
  go_ret2
  exact ⟨rfl, rfl⟩
set_option maxRecDepth 100000 in
set_option maxHeartbeats 400000 in
theorem mix_2 (x : BitVec 32) (w : World) :
    Calls Tryz.prog 202 #[.int .u32 (u x), .int .i64 2] w fun e w' => e = .returned (.tuple #[.int .u32 (u (mix2 x)), .int .i64 0]) ∧ w = w' := by
  go_enter Tryz.func202, Tryz.ntmps202
  go_wp2_with (go_at_call 203; refine (rotr_any _ _ _ (by omega) (by omega)).mono ?_; rintro e w' ⟨rfl, rfl⟩)
  go_ret2
  exact ⟨rfl, rfl⟩
set_option maxRecDepth 100000 in
set_option maxHeartbeats 400000 in
theorem mix_3 (x : BitVec 32) (w : World) :
    Calls Tryz.prog 202 #[.int .u32 (u x), .int .i64 3] w fun e w' => e = .returned (.tuple #[.int .u32 (u (mix3 x)), .int .i64 0]) ∧ w = w' := by
  go_enter Tryz.func202, Tryz.ntmps202
  go_wp2_with (go_at_call 203; refine (rotr_any _ _ _ (by omega) (by omega)).mono ?_; rintro e w' ⟨rfl, rfl⟩)
  go_ret2
  exact ⟨rfl, rfl⟩
set_option maxRecDepth 100000 in
set_option maxHeartbeats 400000 in
theorem mix_no (x : BitVec 32) (n : Int) (w : World) (h : n < 0 ∨ 3 < n) :
    Calls Tryz.prog 202 #[.int .u32 (u x), .int .i64 n] w fun e w' => e = .returned (.tuple #[.int .u32 0, .int .i64 2]) ∧ w = w' := by
  have e0 : (n == 0) = false := by simp; omega
  have e1 : (n == 1) = false := by simp; omega
  have e2 : (n == 2) = false := by simp; omega
  have e3 : (n == 3) = false := by simp; omega
  go_enter Tryz.func202, Tryz.ntmps202
  go_wp2
  go_ret2
  exact ⟨rfl, rfl⟩
end Go.Proofs.YtdbdigcpibmgjaaGreatDoor
/- Words of bytes, block by block. Nothing of the program. -/
namespace Go.Proofs.YtdbdigcpibmgjaaGreatDoor
open Go.RowKit
theorem words_nil {l : List UInt8} (h : l.length < 4) : words l = [] := List.eq_nil_of_length_eq_zero (by rw [words_length]; omega)
theorem words_drop : ∀ (k : Nat) (l : List UInt8), words (l.drop (4 * k)) = (words l).drop k
  | 0, l => by simp
  | k + 1, a :: b :: c :: d :: r => by
    rw [show 4 * (k + 1) = 4 * k + 4 from by omega]
    simp only [List.drop_succ_cons, words]
    exact words_drop k r
  | k + 1, [] => by simp [words]
  | k + 1, [a] => by rw [words_nil (by simp; omega), words_nil (by simp)]; simp
  | k + 1, [a, b] => by rw [words_nil (by simp; omega), words_nil (by simp)]; simp
  | k + 1, [a, b, c] => by rw [words_nil (by simp; omega), words_nil (by simp)]; simp
theorem words_takes : ∀ (k : Nat) (l : List UInt8), words (l.take (4 * k)) = (words l).take k
  | 0, l => by simp [words]
  | k + 1, a :: b :: c :: d :: r => by
    rw [show 4 * (k + 1) = 4 * k + 4 from by omega]
    simp only [List.take_succ_cons, words]
    rw [words_takes k r]
  | k + 1, [] => by simp [words]
  | k + 1, [a] => by rw [words_nil (by simp; omega), words_nil (by simp)]; simp
  | k + 1, [a, b] => by rw [words_nil (by simp; omega), words_nil (by simp)]; simp
  | k + 1, [a, b, c] => by rw [words_nil (by simp; omega), words_nil (by simp)]; simp
theorem words_block (l : List UInt8) (j : Nat) : words ((l.drop (64 * j)).take 64) = ((words l).drop (16 * j)).take 16 := by
  rw [show 64 = 4 * 16 from rfl, words_takes, show 4 * 16 * j = 4 * (16 * j) from by omega, words_drop]
/-- the state words behind j blocks of words -/
def stW (ws : List (BitVec 32)) : Nat → St → St
  | 0, s => s
  | j + 1, s => stp (stW ws j s) ((ws.drop (16 * j)).take 16)
theorem stW_zero (ws : List (BitVec 32)) (s : St) : stW ws 0 s = s := rfl
theorem stW_succ (ws : List (BitVec 32)) (j : Nat) (s : St) : stW ws (j + 1) s = stp (stW ws j s) ((ws.drop (16 * j)).take 16) := rfl
theorem stW_blocks (l : List UInt8) (s : St) : ∀ j, stW (words l) j s = blocks j l s
  | 0 => rfl
  | j + 1 => by rw [stW_succ, stW_blocks l s j, blocks_snoc, stpB, words_block]
theorem pad_words (l : List UInt8) : (words (pad l)).length = (pad l).length / 4 := words_length _
theorem pad_mod (l : List UInt8) : (pad l).length % 64 = 0 := by rw [pad_length]; exact zeros_spec _
theorem sumS_words (l : List UInt8) (j : Nat) (h : 16 * j = (words (pad l)).length) : stW (words (pad l)) j iniS = sumS l := by
  have h1 := pad_mod l
  rw [stW_blocks, sumS]
  congr 1
  rw [pad_words] at h
  omega
theorem Rd.dropK {α : Type} {f : α → Value} {w : World} {b off n c : Nat} {l : List α} (h : Rd w 1 (some ⟨b, off, none⟩) n c (l.map f)) (k : Nat) (hn : k ≤ n) : Rd w 1 (some ⟨b, off + k, none⟩) (n - k) (c - k) ((l.drop k).map f) := by
  obtain ⟨h1, h2, h3, h4⟩ := h
  rw [List.length_map] at h1
  refine ⟨by rw [List.length_map, List.length_drop]; omega, by omega, by omega, fun hp => ⟨b, off + k, rfl, fun j v hv => ?_⟩⟩
  rw [List.length_map, List.length_drop] at hp
  obtain ⟨b', off', e, hc⟩ := h4 (by rw [List.length_map]; omega)
  injection e with e
  injection e with e1 e2
  subst e1; subst e2
  rw [List.getElem?_map, List.getElem?_drop] at hv
  have := hc (k + j) v (by rw [List.getElem?_map]; exact hv)
  rwa [← Nat.add_assoc] at this
end Go.Proofs.YtdbdigcpibmgjaaGreatDoor
/- Padded bytes as a loop fills them. Nothing of the program. -/
namespace Go.Proofs.YtdbdigcpibmgjaaGreatDoor
open Go.RowKit
/-- the padded bytes with i bytes of the length -/
def padW (l : List UInt8) (i : Nat) : List UInt8 := (l ++ [128] ++ List.replicate (zeros l.length + (8 - i)) 0) ++ (len8 l.length).drop (8 - i)
theorem padW_end (l : List UInt8) : padW l 8 = pad l := rfl
theorem padW_length (l : List UInt8) (i : Nat) (h : i ≤ 8) : (padW l i).length = l.length + 9 + zeros l.length := by
  unfold padW; simp [len8_length]; omega
theorem len8_get (n k : Nat) (h : k < 8) : (len8 n)[k]? = some (UInt8.ofNat ((n * 8) >>> (56 - 8 * k))) := by
  unfold len8; rw [List.getElem?_map, List.getElem?_range h]; rfl
theorem padW_split (l : List UInt8) (i : Nat) (h : i < 8) : padW l i = (l ++ [128] ++ List.replicate (zeros l.length + (8 - (i + 1))) 0) ++ (0 :: (len8 l.length).drop (8 - i)) := by
  unfold padW
  rw [show zeros l.length + (8 - i) = (zeros l.length + (8 - (i + 1))) + 1 from by omega, List.replicate_succ', ← List.append_assoc, List.append_assoc (l ++ [128] ++ _) [0]]
  rfl
theorem padW_len1 (l : List UInt8) (i : Nat) : (l ++ [128] ++ List.replicate (zeros l.length + (8 - (i + 1))) (0 : UInt8)).length = l.length + 1 + zeros l.length + (8 - (i + 1)) := by
  simp; omega
theorem padW_step (l : List UInt8) (i : Nat) (h : i < 8) : ((padW l i).map bv8).set (l.length + 9 + zeros l.length - 1 - i) (.int .u8 (y8 (UInt8.ofNat ((l.length * 8) >>> (8 * i))))) = (padW l (i + 1)).map bv8 := by
  have e : (.int .u8 (y8 (UInt8.ofNat ((l.length * 8) >>> (8 * i)))) : Value) = bv8 (UInt8.ofNat ((l.length * 8) >>> (8 * i))) := rfl
  rw [e, ← List.map_set, padW_split l i h, List.set_append_right _ _ (by rw [padW_len1]; omega), padW_len1, show l.length + 9 + zeros l.length - 1 - i - (l.length + 1 + zeros l.length + (8 - (i + 1))) = 0 from by omega, List.set_cons_zero]
  congr 1
  have h8 : 8 - (i + 1) < (len8 l.length).length := by rw [len8_length]; omega
  have h9 := len8_get l.length (8 - (i + 1)) (by omega)
  rw [List.getElem?_eq_getElem h8] at h9
  unfold padW
  rw [List.drop_eq_getElem_cons h8, Option.some.inj h9, show 8 - (i + 1) + 1 = 8 - i from by omega, show 56 - 8 * (8 - (i + 1)) = 8 * i from by omega]
theorem padW_at (l : List UInt8) (i : Nat) (h : i < 8) : ((padW l i).map bv8)[l.length + 9 + zeros l.length - 1 - i]? = some (.int .u8 0) := by
  rw [padW_split l i h, List.getElem?_map, List.getElem?_append_right (by rw [padW_len1]; omega), padW_len1, show l.length + 9 + zeros l.length - 1 - i - (l.length + 1 + zeros l.length + (8 - (i + 1))) = 0 from by omega]
  rfl
/-- the bytes copied, then the byte 128 -/
theorem padW_zero (l : List UInt8) (L : Nat) (h : L = l.length + 9 + zeros l.length) : (l.map bv8 ++ (reps L (.int .u8 0)).drop l.length).set l.length (.int .u8 128) = (padW l 0).map bv8 := by
  subst h
  unfold reps padW
  rw [List.drop_replicate, List.set_append_right _ _ (by simp), List.length_map, Nat.sub_self, show l.length + 9 + zeros l.length - l.length = (zeros l.length + (8 - 0)) + 1 from by omega, List.replicate_succ, List.set_cons_zero]
  simp [List.map_append, List.map_replicate]
  refine ⟨rfl, ?_⟩
  have : List.drop 8 (List.map bv8 (len8 l.length)) = [] := List.drop_eq_nil_of_le (by rw [List.length_map, len8_length]; omega)
  rw [this, List.append_nil]; rfl
theorem padW_mid (l : List UInt8) (L : Nat) (h : L = l.length + 9 + zeros l.length) : (l.map bv8 ++ (reps L (.int .u8 0)).drop l.length)[l.length]? = some (.int .u8 0) := by
  subst h
  unfold reps
  rw [List.getElem?_append_right (by simp), List.length_map, Nat.sub_self, List.drop_replicate, List.getElem?_replicate, if_pos (by omega)]
theorem shr_y8 (n k : Nat) : (n : Int) * 8 / 2 ^ (8 * k) % 256 = y8 (UInt8.ofNat ((n * 8) >>> (8 * k))) := by
  unfold y8
  rw [UInt8.toNat_ofNat', Nat.shiftRight_eq_div_pow]
  simp
theorem pad_room (n : Nat) : (n + 9 + 64 - 1) / 64 * 64 = n + 9 + zeros n := by unfold zeros; omega
end Go.Proofs.YtdbdigcpibmgjaaGreatDoor
/- The program's mix, schedule and round: parts of SHA-256's step. -/
namespace Go.Proofs.YtdbdigcpibmgjaaGreatDoor
open Go.RowKit
theorem arr64_info : (Tryz.prog.info? 151).map (·.size) = some 64 := by kernel_rfl
theorem arr8_info : (Tryz.prog.info? 116).map (·.size) = some 8 := by kernel_rfl
theorem words_one (l : List (BitVec 32)) : ∀ y ∈ l.map wv, y.oneCell' = true := by
  intro y hy
  obtain ⟨x, _, rfl⟩ := List.mem_map.1 hy
  rfl
theorem words_all1 (l : List (BitVec 32)) : ((l.map wv).toArray).all (·.oneCell') = true := by
  rw [Array.all_eq_true_iff_forall_mem]
  intro y hy
  exact words_one l y (by simpa using hy)
/-- guards for the walk: the next operation loads, or stores, a variable of type ty -/
theorem at_load {P : Program} {w : World} {ops : Array Oper} {rest : List Oper} {dst : Option Tmp} {x : Operand} (ty : TypeId) {t2 : TypeId} {pos : String} {af : Array Edge} {gd : Option (Nat × Bool)} {a : Act} {Q : Exit → Act → World → Prop}
    (h : wpList P ops Q ({ dst := dst, op := .load ty x, type := t2, pos := pos, after := af, guard := gd } :: rest) a w) :
    wpList P ops Q ({ dst := dst, op := .load ty x, type := t2, pos := pos, after := af, guard := gd } :: rest) a w := h
theorem at_store {P : Program} {w : World} {ops : Array Oper} {rest : List Oper} {dst : Option Tmp} {x y : Operand} (ty : TypeId) {t2 : TypeId} {pos : String} {af : Array Edge} {gd : Option (Nat × Bool)} {a : Act} {Q : Exit → Act → World → Prop}
    (h : wpList P ops Q ({ dst := dst, op := .store ty x y, type := t2, pos := pos, after := af, guard := gd } :: rest) a w) :
    wpList P ops Q ({ dst := dst, op := .store ty x y, type := t2, pos := pos, after := af, guard := gd } :: rest) a w := h
theorem Blk.row {w : World} {g : Nat} {t : TypeId} {xs ys : List Value} (h : Blk w g t xs) : Blk (w.setRow g ys.toArray) g t ys := setRow_heap w g _ _ t _ h
theorem Blk.otherRow {w : World} {g k : Nat} {t : TypeId} {xs : List Value} {ys : Array Value} (h : Blk w k t xs) (hk : k ≠ g) : Blk (w.setRow g ys) k t xs := (setRow_other w g k ys hk).trans h
theorem nxt_s (l : List (BitVec 32)) (t : Nat) : l.getD (t - 16) 0 + mix2 (l.getD (t - 15) 0) + l.getD (t - 7) 0 + mix3 (l.getD (t - 2) 0) = nxt l t := by
  unfold nxt
  rw [BitVec.add_assoc (l.getD (t - 16) 0), BitVec.add_comm (mix2 _), ← BitVec.add_assoc]
set_option maxRecDepth 100000 in
set_option maxHeartbeats 400000 in
theorem smix_0 (x : BitVec 32) (w : World) :
    Calls Tryz.prog 199 #[.int .u32 (u x), .int .i64 0] w fun e w' => e = .returned (.int .u32 (u (mix0 x))) ∧ w' = w := by
  go_enter Tryz.func199, Tryz.ntmps199
  go_wp2_with ((with_reducible refine (mix_0 _ _).mono ?_); rintro e w' ⟨rfl, rfl⟩)
  go_ret
  exact ⟨rfl, rfl⟩
set_option maxRecDepth 100000 in
set_option maxHeartbeats 400000 in
theorem smix_1 (x : BitVec 32) (w : World) :
    Calls Tryz.prog 199 #[.int .u32 (u x), .int .i64 1] w fun e w' => e = .returned (.int .u32 (u (mix1 x))) ∧ w' = w := by
  go_enter Tryz.func199, Tryz.ntmps199
  go_wp2_with ((with_reducible refine (mix_1 _ _).mono ?_); rintro e w' ⟨rfl, rfl⟩)
  go_ret
  exact ⟨rfl, rfl⟩
set_option maxRecDepth 100000 in
set_option maxHeartbeats 400000 in
theorem smix_2 (x : BitVec 32) (w : World) :
    Calls Tryz.prog 199 #[.int .u32 (u x), .int .i64 2] w fun e w' => e = .returned (.int .u32 (u (mix2 x))) ∧ w' = w := by
  go_enter Tryz.func199, Tryz.ntmps199
  go_wp2_with ((with_reducible refine (mix_2 _ _).mono ?_); rintro e w' ⟨rfl, rfl⟩)
  go_ret
  exact ⟨rfl, rfl⟩
set_option maxRecDepth 100000 in
set_option maxHeartbeats 400000 in
theorem smix_3 (x : BitVec 32) (w : World) :
    Calls Tryz.prog 199 #[.int .u32 (u x), .int .i64 3] w fun e w' => e = .returned (.int .u32 (u (mix3 x))) ∧ w' = w := by
  go_enter Tryz.func199, Tryz.ntmps199
  go_wp2_with ((with_reducible refine (mix_3 _ _).mono ?_); rintro e w' ⟨rfl, rfl⟩)
  go_ret
  exact ⟨rfl, rfl⟩
end Go.Proofs.YtdbdigcpibmgjaaGreatDoor
/- The program's schedule of a block. -/
namespace Go.Proofs.YtdbdigcpibmgjaaGreatDoor
open Go.RowKit
attribute [local irreducible] sch nxt mix2 mix3
set_option maxRecDepth 100000 in
set_option maxHeartbeats 4000000 in
theorem schedule_any (bl : List (BitVec 32)) (A : Option Addr) (c : Nat) (w : World) (hb : Rd w 1 A 16 c (bl.map wv)) :
    Calls Tryz.prog 197 #[.slice A 16 c] w fun e w' => e = .returned (.agg ((sch bl 48).map wv).toArray) ∧ Below w.heap.size w w' := by
  have hbl : bl.length = 16 := hb.len.symm
  obtain ⟨i0, hi0, hz0, hz1, hz2⟩ := info_parts u32_info
  have HBL := Lib.hid hbl
  clear hbl
  have hb0 := (Below.refl w.heap.size w).alloc (Nat.le_refl _) (.cells (reps 64 (.int .u32 0)).toArray 151)
  have hb1 := hb0.alloc (by simp) (.cells (reps 64 (.int .u32 0)).toArray 151)
  have hr1 := hb.below hb1
  have hg0 := (Blk.new w 151 (reps 64 (.int .u32 0))).alloc (.cells (reps 64 (.int .u32 0)).toArray 151)
  have hg1 := Blk.new (w.alloc (.cells (reps 64 (.int .u32 0)).toArray 151)) 151 (reps 64 (.int .u32 0))
  have es : (w.alloc (.cells (reps 64 (.int .u32 0)).toArray 151)).heap.size = w.heap.size + 1 := by simp
  rw [es] at hg1
  go_enter Tryz.func197, Tryz.ntmps197
  go_wp2_with ((with_reducible refine at_copy ?_); refine wpList_copyR rfl (.tmp 5) (.tmp 6) _ _ rfl Tryz.underlying117 hi0 hz1 (w.heap.size + 1) 64 64 rfl rfl (reps 64 (.int .u32 0)) 151 hg1 hr1 (by omega) (by rw [reps_length]; omega) (words_one bl) (w.heap.size + 1) _ (Below.refl _ _) (Nat.le_refl _) ?_; intro w1 HG1 hk1; have hbel := hb1.trans (hk1.mono (Nat.le_succ _)); have hg0' := hg0.below hk1 (Nat.lt_succ_self _); clear hk1 hg0 hg1 hb0 hb1 hr1 es)
  go_loopw [4] (fun q wr => ∃ t : Nat, 16 ≤ t ∧ t ≤ 64 ∧ q = .int .i64 t ∧ Blk wr (w.heap.size + 1) 151 (fillS bl t) ∧ Blk wr w.heap.size 151 (reps 64 (.int .u32 0)) ∧ Below w.heap.size w wr) (fun q _ => 64 - (intOf q).toNat)
  case atStart => exact ⟨16, by omega, by omega, rfl, (by rw [fillS_start]; exact HG1.out), hg0', hbel⟩
  case round =>
    clear HG1 hg0' hbel
    obtain ⟨t, ht0, ht1, rfl, hg1, hg0, hbel⟩ := hrel
    by_cases hlt : t < 64
    · have v0 := (hg1.cell (t - 16)).trans (fillS_at bl HBL.out t (t - 16) ht0 (by omega))
      have v1 := (hg1.cell (t - 7)).trans (fillS_at bl HBL.out t (t - 7) ht0 (by omega))
      have v2 := (hg1.cell (t - 15)).trans (fillS_at bl HBL.out t (t - 15) ht0 (by omega))
      have v3 := (hg1.cell (t - 2)).trans (fillS_at bl HBL.out t (t - 2) ht0 (by omega))
      have v4 : wr.drew.cell? ⟨w.heap.size + 1, t, none⟩ = some (.int .u32 0) := (hg1.cell t).trans (fillS_free bl HBL.out t ht0 hlt)
      have f4 : wr.drew.frozen? ⟨w.heap.size + 1, t, none⟩ = false := hg1.frozen t
      have h5 := nxt_s (sch bl (t - 16)) t
      have h6 := fillS_step bl HBL.out t ht0 hlt
      rw [← h5] at h6
      generalize (sch bl (t - 16)).getD (t - 16) 0 = x0 at *
      generalize (sch bl (t - 16)).getD (t - 7) 0 = x1 at *
      generalize (sch bl (t - 16)).getD (t - 15) 0 = x2 at *
      generalize (sch bl (t - 16)).getD (t - 2) 0 = x3 at *
      clear h5
      have p0 := hg1.drew.put t (.int .u32 (u (x0 + mix2 x2 + x1 + mix3 x3)))
      rw [h6] at p0
      have P := Lib.hid p0
      clear h6 p0 hg1
      have hg0' := hg0.drew
      have hbd := hbel.drew
      have a0 : IntKind.i64.wrap ((t : Int) - 16) = (t : Int) - 16 := IntWalk.i64_in _ (by omega)
      have a1 : IntKind.i64.wrap ((t : Int) - 7) = (t : Int) - 7 := IntWalk.i64_in _ (by omega)
      have a2 : IntKind.i64.wrap ((t : Int) - 15) = (t : Int) - 15 := IntWalk.i64_in _ (by omega)
      have a3 : IntKind.i64.wrap ((t : Int) - 2) = (t : Int) - 2 := IntWalk.i64_in _ (by omega)
      have n0 : ((t : Int) - 16).toNat = t - 16 := by omega
      have n1 : ((t : Int) - 7).toNat = t - 7 := by omega
      have n2 : ((t : Int) - 15).toNat = t - 15 := by omega
      have n3 : ((t : Int) - 2).toNat = t - 2 := by omega
      have b0 : (0 : Int) ≤ (t : Int) - 16 ∧ (0 : Int) ≤ (t : Int) - 7 ∧ (0 : Int) ≤ (t : Int) - 15 ∧ (0 : Int) ≤ (t : Int) - 2 := by omega
      obtain ⟨b0, b1, b2, b3⟩ := b0
      have e0 : (16 : Int) ≤ t ∧ (7 : Int) ≤ t ∧ (15 : Int) ≤ t ∧ (2 : Int) ≤ t := by omega
      obtain ⟨e0, e1, e2, e3⟩ := e0
      have d0 : (t : Int) - 16 < 64 ∧ (t : Int) - 7 < 64 ∧ (t : Int) - 15 < 64 ∧ (t : Int) - 2 < 64 ∧ (t : Int) < 64 := by omega
      obtain ⟨d0, d1, d2, d3, d4⟩ := d0
      go_wp2
      refine wp_region_still_tail 23 (by kernel_rfl) (by kernel_rfl) ?_
      simp only [List.take_succ_cons, List.take_zero, List.drop_succ_cons, List.drop_zero]
      repeat still_step
      still_call (smix_2 _ _)
      repeat still_step
      still_call (smix_3 _ _)
      repeat still_step
      refine wpStill_nil ?_
      change wpList _ _ _ _ _ wr.drew
      clear a0 a1 a2 a3 n0 n1 n2 n3 v0 v1 v2 v3
      generalize wr.drew = w2 at *
      go_wp2
      go_roundw
      case rel => exact ⟨t + 1, by omega, by omega, by go_num, P.out, hg0'.far (p := ⟨w.heap.size + 1, t, none⟩) (by simp) _, hbd.setCell (p := ⟨w.heap.size + 1, t, none⟩) (by simp) _⟩
      case measure => simp [intOf]; omega
    · have hk : t = 64 := by omega
      rw [hk, fillS_end] at hg1
      have hdt : decide ((t : Int) < 64) = false := by simp; omega
      clear hk
      have hWl := sch_length bl HBL.out 48
      generalize hW : sch bl 48 = W at *
      have hWm : (W.map wv).toArray.size = 64 := by simp; omega
      go_wp2_with (first
        | ((with_reducible refine at_load 151 ?_); refine wpList_load_row rfl 151 (.tmp 3) rfl (w.heap.size + 1) rfl 151 (W.map wv).toArray (0, 0) _ hg1 Tryz.underlying151 rfl (by rw [hWm]; exact arr64_info) ?_)
        | ((with_reducible refine at_store 151 ?_); refine wpList_store_row rfl 151 (.tmp 2) (.tmp 35) rfl w.heap.size (W.map wv).toArray rfl rfl 151 (reps 64 (.int .u32 0)).toArray hg0 (by rw [hWm]; exact arr64_info) (by rw [hWm]; simp [reps]) (words_all1 W) ?_))
      refine bodyPost_ret (v := .agg (W.map wv).toArray) (results_cell_row rfl _ _ w.heap.size 151 (W.map wv).toArray (0, 0) _ rfl hg0.row Tryz.underlying151 rfl (by rw [hWm]; exact arr64_info)) rfl ⟨by rw [hW], below_setRow hbel (Nat.le_refl _) _⟩
end Go.Proofs.YtdbdigcpibmgjaaGreatDoor
/- The program's round. -/
namespace Go.Proofs.YtdbdigcpibmgjaaGreatDoor
open Go.RowKit
theorem t1_s (s : St) (k w : BitVec 32) : s.h + mix1 s.e + chs s.e s.f s.g + (k + w) = t1 s k w := by
  unfold t1; rw [BitVec.add_assoc _ k w]
theorem t2_s (s : St) : mix0 s.a + mst s.a s.b s.c = t2 s := rfl
theorem st_cells (s : St) : (s.list.map wv).toArray = #[.int .u32 (u s.a), .int .u32 (u s.b), .int .u32 (u s.c), .int .u32 (u s.d), .int .u32 (u s.e), .int .u32 (u s.f), .int .u32 (u s.g), .int .u32 (u s.h)] := rfl
theorem choose_st (x y z : BitVec 32) (w : World) : Calls Tryz.prog 200 #[.int .u32 (u x), .int .u32 (u y), .int .u32 (u z)] w fun e w' => e = .returned (.int .u32 (u (chs x y z))) ∧ w' = w := (choose_any x y z w).mono fun _ _ ⟨a, b⟩ => ⟨a, b.symm⟩
theorem most_st (x y z : BitVec 32) (w : World) : Calls Tryz.prog 201 #[.int .u32 (u x), .int .u32 (u y), .int .u32 (u z)] w fun e w' => e = .returned (.int .u32 (u (mst x y z))) ∧ w' = w := (most_any x y z w).mono fun _ _ ⟨a, b⟩ => ⟨a, b.symm⟩
attribute [local irreducible] mix0 mix1 chs mst t1 t2
set_option maxRecDepth 100000 in
set_option maxHeartbeats 4000000 in
theorem round_any (s : St) (k x : BitVec 32) (w : World) :
    Calls Tryz.prog 198 #[.agg (s.list.map wv).toArray, .int .u32 (u (k + x))] w fun e w' => e = .returned (.agg ((rnd s k x).list.map wv).toArray) ∧ Below w.heap.size w w' := by
  have g1 := Lib.hid (t1_s s k x)
  have g2 := Lib.hid (t2_s s)
  have hbel := ((Below.refl w.heap.size w).alloc (Nat.le_refl _) (.cells (s.list.map wv).toArray 116)).alloc (by simp) (.cells (reps 8 (.int .u32 0)).toArray 116)
  have hs0 := (Blk.new w 116 (s.list.map wv)).alloc (.cells (reps 8 (.int .u32 0)).toArray 116)
  have hr0 := Blk.new (w.alloc (.cells (s.list.map wv).toArray 116)) 116 (reps 8 (.int .u32 0))
  have es : (w.alloc (.cells (s.list.map wv).toArray 116)).heap.size = w.heap.size + 1 := by simp
  rw [es] at hr0
  go_enter Tryz.func198, Tryz.ntmps198
  go_wp2_with fail
  change Code.wp _ _ _ _ ((w.alloc (.cells (s.list.map wv).toArray 116)).alloc (.cells (reps 8 (.int .u32 0)).toArray 116))
  generalize (w.alloc (.cells (s.list.map wv).toArray 116)).alloc (.cells (reps 8 (.int .u32 0)).toArray 116) = w1 at *
  have y0 : w1.cell? ⟨w.heap.size, 0, none⟩ = some (.int .u32 (u s.a)) := hs0.cell 0
  have y1 : w1.cell? ⟨w.heap.size, 1, none⟩ = some (.int .u32 (u s.b)) := hs0.cell 1
  have y2 : w1.cell? ⟨w.heap.size, 2, none⟩ = some (.int .u32 (u s.c)) := hs0.cell 2
  have y3 : w1.cell? ⟨w.heap.size, 3, none⟩ = some (.int .u32 (u s.d)) := hs0.cell 3
  have y4 : w1.cell? ⟨w.heap.size, 4, none⟩ = some (.int .u32 (u s.e)) := hs0.cell 4
  have y5 : w1.cell? ⟨w.heap.size, 5, none⟩ = some (.int .u32 (u s.f)) := hs0.cell 5
  have y6 : w1.cell? ⟨w.heap.size, 6, none⟩ = some (.int .u32 (u s.g)) := hs0.cell 6
  have y7 : w1.cell? ⟨w.heap.size, 7, none⟩ = some (.int .u32 (u s.h)) := hs0.cell 7
  refine wp_region_still_lit (by kernel_rfl) (by kernel_rfl) ?_
  repeat still_step
  refine wpStill_nil ?_
  change Exit.then _ _ Exit.normal _ w1.drew
  replace hr0 := hr0.drew
  replace hbel := hbel.drew
  clear y0 y1 y2 y3 y4 y5 y6 y7 hs0 es
  generalize w1.drew = w2 at *
  go_wp2_with (first
    | ((with_reducible refine (smix_1 _ _).mono ?_); rintro e w' ⟨rfl, rfl⟩)
    | ((with_reducible refine (smix_0 _ _).mono ?_); rintro e w' ⟨rfl, rfl⟩)
    | ((with_reducible refine (choose_st _ _ _ _).mono ?_); rintro e w' ⟨rfl, rfl⟩)
    | ((with_reducible refine (most_st _ _ _ _).mono ?_); rintro e w' ⟨rfl, rfl⟩)
    | ((with_reducible refine at_store 116 ?_); refine wpList_store_row rfl 116 (.tmp 4) (.tmp 61) rfl (w.heap.size + 1) ((rnd s k x).list.map wv).toArray rfl (by simp only [g1.out, g2.out]; rfl) 116 (reps 8 (.int .u32 0)).toArray hr0 arr8_info rfl (words_all1 _) ?_))
  refine bodyPost_ret (v := .agg ((rnd s k x).list.map wv).toArray) (results_cell_row rfl _ _ (w.heap.size + 1) 116 ((rnd s k x).list.map wv).toArray (0, 0) _ rfl hr0.row Tryz.underlying116 rfl arr8_info) rfl ⟨rfl, below_setRow hbel (Nat.le_succ _) _⟩
end Go.Proofs.YtdbdigcpibmgjaaGreatDoor
/- The program's Step: one block of SHA-256. -/
namespace Go.Proofs.YtdbdigcpibmgjaaGreatDoor
open Go.RowKit
/-- the program's table of round constants, as it was laid -/
def Kon (w : World) : Prop := Rd w 1 (some ⟨1, 0, none⟩) 64 64 (kon.map wv)
theorem Kon.below {w w' : World} (h : Kon w) (hb : Below w.heap.size w w') : Kon w' := Rd.below h hb
theorem add_at (s v : St) (k : Nat) (hk : k < 8) : ∃ x y : BitVec 32, (s.list.map wv)[k]? = some (.int .u32 (u x)) ∧ (v.list.map wv)[k]? = some (.int .u32 (u y)) ∧ ((s.add v).list.map wv)[k]? = some (.int .u32 (u (x + y))) := by
  rcases (by omega : k = 0 ∨ k = 1 ∨ k = 2 ∨ k = 3 ∨ k = 4 ∨ k = 5 ∨ k = 6 ∨ k = 7) with rfl | rfl | rfl | rfl | rfl | rfl | rfl | rfl
  · exact ⟨s.a, v.a, rfl, rfl, rfl⟩
  · exact ⟨s.b, v.b, rfl, rfl, rfl⟩
  · exact ⟨s.c, v.c, rfl, rfl, rfl⟩
  · exact ⟨s.d, v.d, rfl, rfl, rfl⟩
  · exact ⟨s.e, v.e, rfl, rfl, rfl⟩
  · exact ⟨s.f, v.f, rfl, rfl, rfl⟩
  · exact ⟨s.g, v.g, rfl, rfl, rfl⟩
  · exact ⟨s.h, v.h, rfl, rfl, rfl⟩
theorem round_lit (s : St) (k x : BitVec 32) (w : World) :
    Calls Tryz.prog 198 #[.agg #[.int .u32 (u s.a), .int .u32 (u s.b), .int .u32 (u s.c), .int .u32 (u s.d), .int .u32 (u s.e), .int .u32 (u s.f), .int .u32 (u s.g), .int .u32 (u s.h)], .int .u32 (u (k + x))] w fun e w' => e = .returned (.agg ((rnd s k x).list.map wv).toArray) ∧ Below w.heap.size w w' := round_any s k x w
set_option maxRecDepth 100000 in
set_option maxHeartbeats 400000 in
theorem step_size (A B : Option Addr) (n m c d : Nat) (w : World) (h : n ≠ 8 ∨ m ≠ 16) :
    Calls Tryz.prog 193 #[.slice A n c, .slice B m d] w fun e w' => e = .returned (.tuple #[.slice none 0 0, .int .i64 1]) ∧ w = w' := by
  by_cases h8 : n = 8
  · subst h8
    have h1 : (((m : Nat) : Int) != 16) = true := by rw [bne_iff_ne]; omega
    go_enter Tryz.func193, Tryz.ntmps193
    go_wp2
    go_ret2
    exact ⟨rfl, rfl⟩
  · have h1 : (((n : Nat) : Int) != 8) = true := by rw [bne_iff_ne]; omega
    go_enter Tryz.func193, Tryz.ntmps193
    go_wp2
    go_ret2
    exact ⟨rfl, rfl⟩
attribute [local irreducible] sch rnds kon nxt t1 t2 rnd
set_option maxRecDepth 100000 in
set_option maxHeartbeats 4000000 in
theorem step_ok (s : St) (bl : List (BitVec 32)) (A B : Option Addr) (c d : Nat) (w : World) (hK : Kon w) (hh : Rd w 1 A 8 c (s.list.map wv)) (hb : Rd w 1 B 16 d (bl.map wv)) :
    Calls Tryz.prog 193 #[.slice A 8 c, .slice B 16 d] w fun e w' => ∃ g, e = .returned (.tuple #[.slice (some ⟨g, 0, none⟩) 8 8, .int .i64 0]) ∧ Blk w' g 115 ((stp s bl).list.map wv) ∧ Below w.heap.size w w' := by
  obtain ⟨i0, hi0, hz0, hz1, hz2⟩ := info_parts u32_info
  have hbl : bl.length = 16 := hb.len.symm
  have HBL := Lib.hid hbl
  clear hbl
  obtain ⟨hB, ho, rfl, hhl, hhc⟩ := hh.addr (by simp [St.list])
  have HHC := Lib.hid hhc
  clear hhc
  obtain ⟨kB, ko, hke, hkl, hkc⟩ := hK.addr (by rw [List.length_map, kon_length]; omega)
  injection hke with hke
  injection hke with hk1 hk2
  subst hk1 hk2
  have HKC := Lib.hid hkc
  clear hkc
  have hb0 := (Below.refl w.heap.size w).alloc (Nat.le_refl _) (.cells (reps 8 (.int .u32 0)).toArray 116)
  have hg0 := Blk.new w 116 (reps 8 (.int .u32 0))
  have hh0 := hh.below hb0
  have hmk := run_make1 (P := Tryz.prog) Tryz.underlying117 hi0 hz0 hz1 rfl hz2 8 8 rfl (by omega) (by omega)
  go_enter Tryz.func193, Tryz.ntmps193
  go_wp2_with ((with_reducible refine at_copy ?_); refine wpList_copyR rfl (.tmp 19) (.tmp 20) _ _ rfl Tryz.underlying117 hi0 hz1 w.heap.size 8 8 rfl rfl (reps 8 (.int .u32 0)) 116 hg0 hh0 (by omega) (by rw [reps_length]; omega) (words_one s.list) w.heap.size w hb0 (Nat.le_refl _) ?_; intro w1 HG1 hb1)
  have hg1 : Blk w1 w.heap.size 116 (s.list.map wv) := HG1.out
  clear HG1 hb0 hg0 hh0
  with_reducible refine (schedule_any bl _ _ _ (hb.below hb1)).mono ?_
  rintro e w2 ⟨rfl, hb2⟩
  have hg2 := hg1.below hb2 hg1.lt
  replace hb2 := below_step hb1 hb2
  clear hb1 hg1
  have hWl := sch_length bl HBL.out 48
  generalize hW : sch bl 48 = W at *
  have HW := Lib.hid hW
  clear hW
  have hWm : (W.map wv).toArray.size = 64 := by simp; omega
  have hn2 := Blk.new w2 151 (reps 64 (.int .u32 0))
  have hb3 := hb2.alloc hb2.size (.cells (reps 64 (.int .u32 0)).toArray 151)
  have hg3 := hg2.alloc (.cells (reps 64 (.int .u32 0)).toArray 151)
  have hlt2 := hg2.lt
  obtain ⟨gw, hgw⟩ : ∃ g, g = w2.heap.size := ⟨_, rfl⟩
  have hgn : w.heap.size < gw := by omega
  rw [← hgw] at hn2
  have Hgw := Lib.hid hgw
  clear hg2 hb2 hlt2
  go_wp2_with ((with_reducible refine at_store 151 ?_); refine wpList_store_row rfl 151 (.tmp 7) (.tmp 23) rfl gw (W.map wv).toArray (by rw [Hgw.out]; rfl) rfl 151 (reps 64 (.int .u32 0)).toArray hn2 (by rw [hWm]; exact arr64_info) (by rw [hWm]; simp [reps]) (words_all1 W) ?_)
  rw [← hgw]
  have hn4 : Blk (World.setRow _ gw _) gw 151 (W.map wv) := hn2.row
  have hg4 := hg3.otherRow (g := gw) (ys := (W.map wv).toArray) (by omega)
  have hb4 := below_setRow hb3 (Nat.le_of_lt hgn) (W.map wv).toArray
  clear hn2 hb3 hg3 hgw
  go_loopw [8, 24] (fun _ q wr => ∃ (k : Nat) (v : St), Hid (v = rnds s W k) ∧ k ≤ 64 ∧ q = .int .i64 k ∧ Blk wr w.heap.size 116 (v.list.map wv) ∧ Blk wr gw 151 (W.map wv) ∧ Below w.heap.size w wr) (fun _ q _ => 64 - (intOf q).toNat)
  case atStart => exact ⟨0, s, (rnds_zero s W).symm, by omega, rfl, hg4, hn4, hb4⟩
  case round =>
    clear hg4 hn4 hb4
    obtain ⟨k, v, Hv, hk, rfl, hg, hn, hbel⟩ := hrel
    by_cases hlt : k < 64
    · have hwk : wr.cell? ⟨gw, k, none⟩ = some (.int .u32 (u (W.getD k 0))) := (hn.cell k).trans (by rw [List.getElem?_map, List.getElem?_eq_getElem (by omega), getD_lt (by omega)]; rfl)
      have hkk : wr.cell? ⟨1, k, none⟩ = some (.int .u32 (u (kon.getD k 0))) := (hbel.cell (p := ⟨1, k, none⟩) hkl).trans (by have := HKC.out k _ (by rw [List.getElem?_map, List.getElem?_eq_getElem (by rw [kon_length]; omega)]; rfl); rw [Nat.zero_add] at this; rw [this, getD_lt (by rw [kon_length]; omega)]; rfl)
      have hrn := rnds_succ s W k
      rw [← Hv.out] at hrn
      have Hrn := Lib.hid hrn.symm
      clear hrn
      generalize W.getD k 0 = xw at *
      generalize kon.getD k 0 = xk at *
      have q3 : (k : Int) < 64 := by omega
      have y0 : wr.cell? ⟨w.heap.size, 0, none⟩ = some (.int .u32 (u v.a)) := hg.cell 0
      have y1 : wr.cell? ⟨w.heap.size, 1, none⟩ = some (.int .u32 (u v.b)) := hg.cell 1
      have y2 : wr.cell? ⟨w.heap.size, 2, none⟩ = some (.int .u32 (u v.c)) := hg.cell 2
      have y3 : wr.cell? ⟨w.heap.size, 3, none⟩ = some (.int .u32 (u v.d)) := hg.cell 3
      have y4 : wr.cell? ⟨w.heap.size, 4, none⟩ = some (.int .u32 (u v.e)) := hg.cell 4
      have y5 : wr.cell? ⟨w.heap.size, 5, none⟩ = some (.int .u32 (u v.f)) := hg.cell 5
      have y6 : wr.cell? ⟨w.heap.size, 6, none⟩ = some (.int .u32 (u v.g)) := hg.cell 6
      have y7 : wr.cell? ⟨w.heap.size, 7, none⟩ = some (.int .u32 (u v.h)) := hg.cell 7
      go_wp2
      go_still_tail 8, (by kernel_rfl)
      change wpList _ _ _ _ _ wr.drew
      clear y0 y1 y2 y3 y4 y5 y6 y7 hwk hkk
      replace hg := hg.drew
      replace hn := hn.drew
      replace hbel := hbel.drew
      generalize wr.drew = w5 at *
      go_wp2_with fail
      with_reducible refine (round_lit v xk xw _).mono ?_
      rintro e w6 ⟨rfl, hb6⟩
      have hg6 := hg.below hb6 hg.lt
      have hn6 := hn.below hb6 hn.lt
      replace hb6 := below_step hbel hb6
      clear hg hn hbel
      go_wp2_with ((with_reducible refine at_store 116 ?_); refine wpList_store_row rfl 116 (.tmp 6) (.tmp 35) rfl w.heap.size ((rnd v xk xw).list.map wv).toArray rfl rfl 116 (v.list.map wv).toArray hg6 arr8_info rfl (words_all1 _) ?_)
      go_roundw
      case rel => exact ⟨k + 1, rnd v xk xw, Hrn.out, by omega, by go_num, hg6.row, hn6.otherRow (by omega), below_setRow hb6 (Nat.le_refl _) _⟩
      case measure => simp [intOf]; omega
    · have hk' : k = 64 := by omega
      have hfin : stp s bl = s.add v := by rw [stp_eq, HW.out, Hv.out, hk']
      have Hfin := Lib.hid hfin
      have hdk : decide ((k : Int) < 64) = false := by simp; omega
      clear hk' hfin hn
      go_wp2
      have hbm := hbel.alloc hbel.size (.cells (reps 8 (.int .u32 0)).toArray 115)
      have hgm := hg.alloc (.cells (reps 8 (.int .u32 0)).toArray 115)
      have hnm := Blk.new wr 115 (reps 8 (.int .u32 0))
      have hgl := hg.lt
      obtain ⟨gn, hgn2⟩ : ∃ g, g = wr.heap.size := ⟨_, rfl⟩
      have hgn3 : w.heap.size < gn := by omega
      rw [← hgn2] at hnm ⊢
      generalize hwo : wr.alloc (.cells (reps 8 (.int .u32 0)).toArray 115) = wo at *
      clear hg hbel hgl hgn2 hwo
      go_loopw [10, 40] (fun _ q wr2 => ∃ j : Nat, j ≤ 8 ∧ q = .int .i64 j ∧ Blk wr2 gn 115 (((s.add v).list.map wv).take j ++ reps (8 - j) (.int .u32 0)) ∧ Blk wr2 w.heap.size 116 (v.list.map wv) ∧ Below w.heap.size w wr2) (fun _ q _ => 8 - (intOf q).toNat)
      case atStart => exact ⟨0, by omega, rfl, by simpa using hnm, hgm, hbm⟩
      case round =>
        clear hnm hgm hbm
        obtain ⟨j, hj, rfl, hn, hg, hbel⟩ := hrel
        by_cases hlt : j < 8
        · obtain ⟨x, y, e0, e1, e2⟩ := add_at s v j hlt
          have c0 : wr.cell? ⟨hB, ho + j, none⟩ = some (.int .u32 (u x)) := (hbel.cell (p := ⟨hB, ho + j, none⟩) hhl).trans (HHC.out j _ e0)
          have c1 : wr.cell? ⟨w.heap.size, j, none⟩ = some (.int .u32 (u y)) := (hg.cell j).trans e1
          have c2 : wr.drew.cell? ⟨gn, j, none⟩ = some (.int .u32 0) := (hn.cell j).trans (fill_at (by omega) (by simpa [St.list] using hlt))
          have f2 : wr.drew.frozen? ⟨gn, j, none⟩ = false := hn.frozen j
          have q3 : (j : Int) < 8 := by omega
          have p0 := hn.drew.put j (.int .u32 (u (x + y)))
          rw [fill_step hlt e2] at p0
          have P := Lib.hid p0
          have hg2 := hg.drew
          have hb2 := hbel.drew
          clear p0 e0 e1 e2 hn hg hbel
          go_wp2
          go_still_tail 11, (by kernel_rfl)
          change wpList _ _ _ _ _ wr.drew
          clear c0 c1
          generalize wr.drew = w9 at *
          go_wp2
          go_roundw
          case rel => exact ⟨j + 1, by omega, by go_num, P.out, hg2.far (p := ⟨gn, j, none⟩) (by simp; omega) _, hb2.setCell (p := ⟨gn, j, none⟩) (Nat.le_of_lt hgn3) _⟩
          case measure => simp [intOf]; omega
        · have hj8 : j = 8 := by omega
          have hdj : decide ((j : Int) < 8) = false := by simp; omega
          rw [hj8, fill_end (ys := (s.add v).list.map wv) (m := 8) rfl] at hn
          clear hj8
          go_wp2
          go_ret2
          exact ⟨gn, rfl, by rw [Hfin.out]; exact hn, hbel⟩
end Go.Proofs.YtdbdigcpibmgjaaGreatDoor
/- The program's table of round constants, as the row lists it: its cells; a world that holds it. -/
namespace Go.Proofs.YtdbdigcpibmgjaaGreatDoor
open Go.ChangeShapes Go.WideShapes Go.ChangeAt Go.RowKit
theorem gKon : Tryz.prog.globalNamed "appleloft/sha.roundConstants" = some 1 := by kernel_rfl
theorem gKonType : (Tryz.prog.globals[1]?).map (·.type) = some 151 := by kernel_rfl
theorem cellsKon : Tryz.prog.cellsOf 151 = 64 := by kernel_rfl
theorem cellsU32 : Tryz.prog.cellsOf 115 = 1 := by kernel_rfl
def konZ : List Int := kon.map u
theorem laid_kon : Rows.laid_appleloft_sha_roundConstants = (Lib.tabData .u32 konZ : DataW Unit) := by kernel_rfl
theorem kon_of_laid {W : World} {rest : List (String × DataW Unit)} (h : laidMet Tryz.prog (("appleloft/sha.roundConstants", Rows.laid_appleloft_sha_roundConstants) :: rest) W) : Kon W := by
  rw [laid_kon] at h
  have hT := Lib.tabIs_of_head (rest := rest) gKon gKonType Tryz.underlying151 Tryz.underlying115 cellsU32 cellsKon h
  refine ⟨by rw [List.length_map, kon_length], Nat.le_refl _, by simp [maxLen], fun _ => ⟨1, 0, rfl, fun j v hv => ?_⟩⟩
  rw [List.getElem?_map] at hv
  have hj : j < kon.length := by
    rcases Nat.lt_or_ge j kon.length with h1 | h1
    · exact h1
    · rw [List.getElem?_eq_none h1] at hv; cases hv
  have hc := hT.cell gKon j (by unfold konZ; rw [List.length_map]; exact hj)
  rw [Nat.zero_add, hc]
  rw [List.getElem?_eq_getElem hj] at hv
  injection hv with hv
  rw [← hv]
  unfold konZ
  rw [getD_lt (by rw [List.length_map]; exact hj), List.getElem_map]
  rfl
/-- a world for the witness: the settled one, the table holding what its initialiser lays -/
noncomputable def konWorld (os : Os) : World :=
  { World.holding Tryz.prog os ⟨#[], #[], []⟩ with heap := (World.holding Tryz.prog os ⟨#[], #[], []⟩).heap.modify 1 fun
      | .cells _ t frozen => .cells (kon.map wv).toArray t frozen
      | o => o }
end Go.Proofs.YtdbdigcpibmgjaaGreatDoor
/- The program's Start. -/
namespace Go.Proofs.YtdbdigcpibmgjaaGreatDoor
open Go.RowKit
set_option maxRecDepth 100000 in
set_option maxHeartbeats 400000 in
theorem start_any (w : World) :
    Calls Tryz.prog 192 #[] w fun e w' => ∃ g, e = .returned (.slice (some ⟨g, 0, none⟩) 8 8) ∧ Blk w' g 115 (ini.map wv) ∧ Below w.heap.size w w' := by
  go_enter Tryz.func192, Tryz.ntmps192
  go_wp2
  go_ret
  exact ⟨_, rfl, Blk.new w _ (ini.map wv), (Below.refl _ _).alloc (Nat.le_refl _) _⟩
end Go.Proofs.YtdbdigcpibmgjaaGreatDoor
/- The program's Pad. -/
namespace Go.Proofs.YtdbdigcpibmgjaaGreatDoor
open Go.RowKit
theorem bytes_oneC (l : List UInt8) : ∀ y ∈ l.map bv8, y.oneCell' = true := by
  intro y hy
  obtain ⟨x, _, rfl⟩ := List.mem_map.1 hy
  rfl
set_option maxRecDepth 100000 in
set_option maxHeartbeats 400000 in
theorem spad_big (A : Option Addr) (n c : Nat) (w : World) (h : 2000 < n) (hn : n ≤ 9223372036854775807) :
    Calls Tryz.prog 190 #[.slice A n c] w fun e w' => e = .returned (.tuple #[.slice none 0 0, .int .i64 1]) ∧ w = w' := by
  go_enter Tryz.func190, Tryz.ntmps190
  go_wp2
  go_ret2
  exact ⟨rfl, rfl⟩
set_option maxRecDepth 100000 in
set_option maxHeartbeats 1000000 in
theorem spad_ok (A : Option Addr) (n c : Nat) (l : List UInt8) (w : World) (hr : Rd w 1 A n c (l.map bv8)) (h : n ≤ 2000) :
    Calls Tryz.prog 190 #[.slice A n c] w fun e w' => ∃ g, e = .returned (.tuple #[.slice (some ⟨g, 0, none⟩) (pad l).length (pad l).length, .int .i64 0]) ∧ Blk w' g 5 ((pad l).map bv8) ∧ Below w.heap.size w w' := by
  obtain rfl := hr.len
  obtain ⟨i0, hi0, hz0, hz1, hz2⟩ := info_parts u8_info
  have hd : decide (2000 < (l.length : Int)) = false := by simp; omega
  obtain ⟨L, hL⟩ : ∃ L, L = l.length + 9 + zeros l.length := ⟨_, rfl⟩
  have hLr : (l.length + 9 + 64 - 1) / 64 * 64 = L := (pad_room _).trans hL.symm
  have hzl := zeros_lt l.length
  have hL2 : l.length + 9 ≤ L ∧ L ≤ 2072 := by omega
  obtain ⟨hL3, hL4⟩ := hL2
  have HL := Lib.hid hL
  clear hL hzl
  have hmk := run_make1 (P := Tryz.prog) Tryz.underlying43 hi0 hz0 hz1 rfl hz2 (((l.length : Int) + 9 + 64 - 1) / 64 * 64) L (by omega) (by omega) (by omega)
  have hb0 := (Below.refl w.heap.size w).alloc (Nat.le_refl _) (.cells (reps L (.int .u8 0)).toArray 5)
  have hr0 := hr.below hb0
  go_enter Tryz.func190, Tryz.ntmps190
  go_wp2_with ((with_reducible refine at_copy ?_); refine wpList_copyR rfl (.tmp 20) (.tmp 21) _ _ rfl Tryz.underlying43 hi0 hz1 w.heap.size L L rfl rfl (reps L (.int .u8 0)) 5 (Blk.new w _ _) hr0 (by omega) (by rw [reps_length]; omega) (bytes_oneC l) w.heap.size w hb0 (Nat.le_refl _) ?_; intro w1 HG1 hb1; have c0 := (HG1.out.cell l.length).trans (padW_mid l L HL.out); have f0 := HG1.out.frozen l.length; have s0 := HG1.out.put l.length (.int .u8 128); rw [padW_zero l L HL.out] at s0; have S0 := Lib.hid s0; clear s0)
  have hb2 := hb1.setCell (p := ⟨w.heap.size, l.length, none⟩) (Nat.le_refl _) (.int .u8 128)
  clear c0 f0 HG1 hb1 hr0 hb0
  go_loopw [7, 31] (fun _ q wr => ∃ k : Nat, k ≤ 8 ∧ q = .int .i64 k ∧ Blk wr w.heap.size 5 ((padW l k).map bv8) ∧ Below w.heap.size w wr) (fun _ q _ => 8 - (intOf q).toNat)
  case atStart => exact ⟨0, by omega, rfl, S0.out, hb2⟩
  case round =>
    clear S0 hb2
    obtain ⟨k, hk, rfl, hblk, hbel⟩ := hrel
    by_cases hlt : k < 8
    · have c0 : wr.cell? ⟨w.heap.size, L - 1 - k, none⟩ = some (.int .u8 0) := (hblk.cell (L - 1 - k)).trans (by rw [HL.out]; exact padW_at l k hlt)
      have f0 := hblk.frozen (L - 1 - k)
      have s0 := hblk.put (L - 1 - k) (.int .u8 (y8 (UInt8.ofNat ((l.length * 8) >>> (8 * k)))))
      have e0 : ((padW l k).map bv8).set (L - 1 - k) (.int .u8 (y8 (UInt8.ofNat ((l.length * 8) >>> (8 * k))))) = (padW l (k + 1)).map bv8 := by rw [HL.out]; exact padW_step l k hlt
      rw [e0] at s0
      have S0 := Lib.hid s0
      clear s0 e0 hblk
      have n0 : ((L : Int) - 1 - k).toNat = L - 1 - k := by omega
      have e1 := shr_y8 l.length k
      generalize UInt8.ofNat ((l.length * 8) >>> (8 * k)) = xk at *
      go_wp2
      go_roundw
      case rel => exact ⟨k + 1, by omega, by go_num, S0.out, hbel.setCell (p := ⟨w.heap.size, L - 1 - k, none⟩) (Nat.le_refl _) _⟩
      case measure => simp [intOf]; omega
    · have hk8 : k = 8 := by omega
      subst hk8
      rw [padW_end] at hblk
      have hpl : (pad l).length = L := by rw [pad_length]; exact HL.out.symm
      go_wp2
      go_ret2
      exact ⟨_, by rw [hpl]; rfl, hblk, hbel⟩
end Go.Proofs.YtdbdigcpibmgjaaGreatDoor
/- Words and bytes: what the program's functions return. -/
namespace Go.Proofs.YtdbdigcpibmgjaaGreatDoor
open Go.RowKit
set_option maxRecDepth 100000 in
set_option maxHeartbeats 400000 in
theorem words_big (A : Option Addr) (n c : Nat) (w : World) (h : 2072 < n) (hn : n ≤ 9223372036854775807) :
    Calls Tryz.prog 191 #[.slice A n c] w fun e w' => e = .returned (.tuple #[.slice none 0 0, .int .i64 1]) ∧ w = w' := by
  go_enter Tryz.func191, Tryz.ntmps191
  go_wp2
  go_ret2
  exact ⟨rfl, rfl⟩
set_option maxRecDepth 100000 in
set_option maxHeartbeats 400000 in
theorem words_odd (A : Option Addr) (n c : Nat) (w : World) (h : n ≤ 2072) (hn : n % 4 ≠ 0) :
    Calls Tryz.prog 191 #[.slice A n c] w fun e w' => e = .returned (.tuple #[.slice none 0 0, .int .i64 3]) ∧ w = w' := by
  have hne : ((n : Int) % 4 != 0) = true := by rw [bne_iff_ne]; omega
  go_enter Tryz.func191, Tryz.ntmps191
  go_wp2
  go_ret2
  exact ⟨rfl, rfl⟩
set_option maxRecDepth 100000 in
set_option maxHeartbeats 400000 in
theorem words_ok (A : Option Addr) (n c : Nat) (l : List UInt8) (w : World) (hr : Rd w 1 A n c (l.map bv8)) (h : n ≤ 2072) (h4 : n % 4 = 0) :
    Calls Tryz.prog 191 #[.slice A n c] w fun e w' => ∃ g, e = .returned (.tuple #[.slice (some ⟨g, 0, none⟩) (n / 4) (n / 4), .int .i64 0]) ∧ Blk w' g 115 ((words l).map wv) ∧ Below w.heap.size w w' := by
  obtain rfl := hr.len
  obtain ⟨m, hm⟩ : ∃ m, l.length = 4 * m := ⟨l.length / 4, by omega⟩
  obtain ⟨i0, hi0, hz0, hz1, hz2⟩ := info_parts u32_info
  have hne : ((l.length : Int) % 4 != 0) = false := by rw [bne_eq_false_iff_eq]; omega
  have hmk := run_make1 (P := Tryz.prog) Tryz.underlying117 hi0 hz0 hz1 rfl hz2 ((l.length : Int) / 4) (l.length / 4) (by omega) (by omega) (by omega)
  have Hm := Lib.hid hm
  clear hm
  have hd : decide (2072 < (l.length : Int)) = false := by simp; omega
  go_enter Tryz.func191, Tryz.ntmps191
  go_wp2
  go_loopw [5, 19] (fun _ i wr => ∃ k : Nat, k ≤ l.length / 4 ∧ i = .int .i64 k ∧ Blk wr w.heap.size 115 (((words l).map wv).take k ++ reps (l.length / 4 - k) (.int .u32 0)) ∧ Below w.heap.size w wr) (fun _ i _ => l.length / 4 - (intOf i).toNat)
  case atStart => exact ⟨0, by omega, rfl, by simpa using Blk.new w _ _, (Below.refl _ _).alloc (Nat.le_refl _) _⟩
  case round =>
    obtain ⟨k, hk, rfl, hblk, hbel⟩ := hrel
    by_cases hlt : k < l.length / 4
    · obtain ⟨b, off, rfl, hbl, hcell⟩ := hr.addr (by simp; omega)
      have hcw := fun (j : Nat) v hv => (hbel.cell (p := ⟨b, off + j, none⟩) hbl).trans (hcell j v hv)
      have h0 : wr.cell? ⟨b, off + 4 * k, none⟩ = some (.int .u8 (y8 (l[4 * k]'(by omega)))) := hcw _ _ (by rw [List.getElem?_map, List.getElem?_eq_getElem (by omega)]; rfl)
      have h1 : wr.cell? ⟨b, off + (4 * k + 1), none⟩ = some (.int .u8 (y8 (l[4 * k + 1]'(by omega)))) := hcw _ _ (by rw [List.getElem?_map, List.getElem?_eq_getElem (by omega)]; rfl)
      have h2 : wr.cell? ⟨b, off + (4 * k + 2), none⟩ = some (.int .u8 (y8 (l[4 * k + 2]'(by omega)))) := hcw _ _ (by rw [List.getElem?_map, List.getElem?_eq_getElem (by omega)]; rfl)
      have h3 : wr.cell? ⟨b, off + (4 * k + 3), none⟩ = some (.int .u8 (y8 (l[4 * k + 3]'(by omega)))) := hcw _ _ (by rw [List.getElem?_map, List.getElem?_eq_getElem (by omega)]; rfl)
      clear hcw hcell
      have i0 : (4 : Int) * k < l.length := by omega
      have i1 : (4 : Int) * k + 1 < l.length := by omega
      have i2 : (4 : Int) * k + 2 < l.length := by omega
      have i3 : (4 : Int) * k + 3 < l.length := by omega
      have j0 : (0 : Int) ≤ 4 * k := by omega
      have j1 : (0 : Int) ≤ 4 * k + 1 := by omega
      have j2 : (0 : Int) ≤ 4 * k + 2 := by omega
      have j3 : (0 : Int) ≤ 4 * k + 3 := by omega
      have n0 : ((4 : Int) * k).toNat = 4 * k := by omega
      have n1 : ((4 : Int) * k + 1).toNat = 4 * k + 1 := by omega
      have n2 : ((4 : Int) * k + 2).toNat = 4 * k + 2 := by omega
      have n3 : ((4 : Int) * k + 3).toNat = 4 * k + 3 := by omega
      have v0 : IntKind.i64.wrap ((4 : Int) * k) = 4 * k := IntWalk.i64_in _ (by omega)
      have v1 : IntKind.i64.wrap ((4 : Int) * k + 1) = 4 * k + 1 := IntWalk.i64_in _ (by omega)
      have v2 : IntKind.i64.wrap ((4 : Int) * k + 2) = 4 * k + 2 := IntWalk.i64_in _ (by omega)
      have v3 : IntKind.i64.wrap ((4 : Int) * k + 3) = 4 * k + 3 := IntWalk.i64_in _ (by omega)
      go_wp2
      go_still_tail 36, (by kernel_rfl)
      change wpList _ _ _ _ _ wr.drew
      have hwk : ((words l).map wv)[k]? = some (.int .u32 (u (word4 (l[4 * k]'(by omega)) (l[4 * k + 1]'(by omega)) (l[4 * k + 2]'(by omega)) (l[4 * k + 3]'(by omega))))) := by rw [List.getElem?_map, words_at l k (by omega)]; rfl
      have Hwk := Lib.hid hwk
      have hset := hblk.drew.put k (.int .u32 (u (word4 (l[4 * k]'(by omega)) (l[4 * k + 1]'(by omega)) (l[4 * k + 2]'(by omega)) (l[4 * k + 3]'(by omega)))))
      rw [fill_step hlt hwk] at hset
      have Hset := Lib.hid hset
      have hcl : wr.drew.cell? ⟨w.heap.size, k, none⟩ = some (.int .u32 0) := by rw [hblk.drew.cell, fill_at hlt (by rw [List.length_map, words_length]; exact hlt)]
      have hfr : wr.drew.frozen? ⟨w.heap.size, k, none⟩ = false := hblk.drew.frozen k
      have hbd := hbel.drew
      clear hwk hset v0 v1 v2 v3 n0 n1 n2 n3 hblk hbel h0 h1 h2 h3
      generalize wr.drew = wd at *
      go_wp2
      go_roundw
      case rel => exact ⟨k + 1, by omega, by go_num, Hset.out, hbd.setCell (p := ⟨w.heap.size, k, none⟩) (Nat.le_refl _) _⟩
      case measure => simp [intOf]; omega
    · obtain rfl : k = l.length / 4 := by omega
      have hb2 := hblk
      rw [fill_end (by rw [List.length_map, words_length])] at hb2
      go_wp2
      go_ret2
      exact ⟨w.heap.size, rfl, hb2, hbel⟩
end Go.Proofs.YtdbdigcpibmgjaaGreatDoor
/- Words to bytes: what the program's Bytes returns. -/
namespace Go.Proofs.YtdbdigcpibmgjaaGreatDoor
open Go.RowKit
set_option maxRecDepth 100000 in
set_option maxHeartbeats 400000 in
theorem bytes_big (A : Option Addr) (n c : Nat) (w : World) (h : 2000 < n) (hn : n ≤ 9223372036854775807) :
    Calls Tryz.prog 194 #[.slice A n c] w fun e w' => e = .returned (.tuple #[.slice none 0 0, .int .i64 1]) ∧ w = w' := by
  go_enter Tryz.func194, Tryz.ntmps194
  go_wp2
  go_ret2
  exact ⟨rfl, rfl⟩
set_option maxRecDepth 100000 in
set_option maxHeartbeats 1000000 in
theorem bytes_ok (A : Option Addr) (n c : Nat) (l : List (BitVec 32)) (w : World) (hr : Rd w 1 A n c (l.map wv)) (h : n ≤ 2000) :
    Calls Tryz.prog 194 #[.slice A n c] w fun e w' => ∃ g, e = .returned (.tuple #[.slice (some ⟨g, 0, none⟩) (4 * n) (4 * n), .int .i64 0]) ∧ Blk w' g 5 ((bytesW l).map bv8) ∧ Below w.heap.size w w' := by
  obtain rfl := hr.len
  obtain ⟨i0, hi0, hz0, hz1, hz2⟩ := info_parts u8_info
  have hmk := run_make1 (P := Tryz.prog) Tryz.underlying43 hi0 hz0 hz1 rfl hz2 (4 * (l.length : Int)) (4 * l.length) (by omega) (by omega) (by omega)
  have hd : decide (2000 < (l.length : Int)) = false := by simp; omega
  go_enter Tryz.func194, Tryz.ntmps194
  go_wp2
  go_loopw [5, 6, 16] (fun _ _ i wr => ∃ k : Nat, k ≤ l.length ∧ i = .int .i64 k ∧ Blk wr w.heap.size 5 (((bytesW l).map bv8).take (4 * k) ++ reps (4 * l.length - 4 * k) (.int .u8 0)) ∧ Below w.heap.size w wr) (fun _ _ i _ => l.length - (intOf i).toNat)
  case atStart => exact ⟨0, by omega, rfl, by simpa using Blk.new w _ _, (Below.refl _ _).alloc (Nat.le_refl _) _⟩
  case round =>
    obtain ⟨k, hk, rfl, hblk, hbel⟩ := hrel
    by_cases hlt : k < l.length
    · obtain ⟨b, off, rfl, hbl, hcell⟩ := hr.addr (by simp; omega)
      have h0 : wr.cell? ⟨b, off + k, none⟩ = some (.int .u32 (u (l[k]'(by omega)))) := (hbel.cell (p := ⟨b, off + k, none⟩) hbl).trans (hcell k _ (by rw [List.getElem?_map, List.getElem?_eq_getElem (by omega)]; rfl))
      have hL : ((bytesW l).map bv8).length = 4 * l.length := by rw [List.length_map, bytesW_length]
      have at0 : ((bytesW l).map bv8)[4 * k]? = some (.int .u8 (y8 (by8 (l[k] >>> 24)))) := by rw [List.getElem?_map]; have := bytesW_at l k hlt 0 (by omega); rw [Nat.add_zero] at this; rw [this]; rfl
      have at1 : ((bytesW l).map bv8)[4 * k + 1]? = some (.int .u8 (y8 (by8 (l[k] >>> 16)))) := by rw [List.getElem?_map, bytesW_at l k hlt 1 (by omega)]; rfl
      have at2 : ((bytesW l).map bv8)[4 * k + 2]? = some (.int .u8 (y8 (by8 (l[k] >>> 8)))) := by rw [List.getElem?_map, bytesW_at l k hlt 2 (by omega)]; rfl
      have at3 : ((bytesW l).map bv8)[4 * k + 3]? = some (.int .u8 (y8 (by8 l[k]))) := by rw [List.getElem?_map, bytesW_at l k hlt 3 (by omega)]; rfl
      have s0 := hblk.put (4 * k) (.int .u8 (y8 (by8 (l[k] >>> 24))))
      rw [fill_step (by omega) at0] at s0
      have s1 := s0.put (4 * k + 1) (.int .u8 (y8 (by8 (l[k] >>> 16))))
      rw [fill_step (by omega) at1] at s1
      have s2 := s1.put (4 * k + 1 + 1) (.int .u8 (y8 (by8 (l[k] >>> 8))))
      rw [fill_step (by omega) at2] at s2
      have s3 := s2.put (4 * k + 1 + 1 + 1) (.int .u8 (y8 (by8 l[k])))
      rw [fill_step (by omega) at3] at s3
      have c0 := (hblk.cell (4 * k)).trans (fill_at (by omega) (by omega))
      have c1 := (s0.cell (4 * k + 1)).trans (fill_at (by omega) (by omega))
      have c2 := (s1.cell (4 * k + 1 + 1)).trans (fill_at (by omega) (by omega))
      have c3 := (s2.cell (4 * k + 1 + 1 + 1)).trans (fill_at (by omega) (by omega))
      have f0 := hblk.frozen (4 * k)
      have f1 := s0.frozen (4 * k + 1)
      have f2 := s1.frozen (4 * k + 1 + 1)
      have f3 := s2.frozen (4 * k + 1 + 1 + 1)
      have H3 := Lib.hid s3
      clear s0 s1 s2 s3 at0 at1 at2 at3 hL hblk hcell
      have n0 : ((4 : Int) * k).toNat = 4 * k := by omega
      have n1 : ((4 : Int) * k + 1).toNat = 4 * k + 1 := by omega
      have n2 : ((4 : Int) * k + 2).toNat = 4 * k + 1 + 1 := by omega
      have n3 : ((4 : Int) * k + 3).toNat = 4 * k + 1 + 1 + 1 := by omega
      go_wp2
      go_roundw
      case rel => exact ⟨k + 1, by omega, by go_num, H3.out, (((hbel.setCell (p := ⟨w.heap.size, 4 * k, none⟩) (Nat.le_refl _) _).setCell (p := ⟨w.heap.size, 4 * k + 1, none⟩) (Nat.le_refl _) _).setCell (p := ⟨w.heap.size, 4 * k + 1 + 1, none⟩) (Nat.le_refl _) _).setCell (p := ⟨w.heap.size, 4 * k + 1 + 1 + 1, none⟩) (Nat.le_refl _) _⟩
      case measure => simp [intOf]; omega
    · obtain rfl : k = l.length := by omega
      have hb2 := hblk
      rw [fill_end (by rw [List.length_map, bytesW_length])] at hb2
      go_wp2
      go_ret2
      exact ⟨w.heap.size, rfl, hb2, hbel⟩
end Go.Proofs.YtdbdigcpibmgjaaGreatDoor
/- The program's Sum. -/
namespace Go.Proofs.YtdbdigcpibmgjaaGreatDoor
open Go.RowKit
/-- how many elements a slice value has -/
def slenS : Value → Nat
  | .slice _ n _ => n
  | _ => 0
set_option maxRecDepth 100000 in
set_option maxHeartbeats 400000 in
theorem sum_big (A : Option Addr) (n c : Nat) (w : World) (h : 2000 < n) (hn : n ≤ 9223372036854775807) :
    Calls Tryz.prog 174 #[.slice A n c] w fun e w' => e = .returned (.tuple #[.string (str []), .int .i64 1]) ∧ w = w' := by
  go_enter Tryz.func174, Tryz.ntmps174
  go_wp2_with ((with_reducible refine (spad_big _ _ _ _ h hn).mono ?_); rintro e w' ⟨rfl, rfl⟩)
  go_ret2
  exact ⟨rfl, rfl⟩
attribute [local irreducible] stW words pad
set_option maxRecDepth 100000 in
set_option maxHeartbeats 4000000 in
theorem sum_ok (A : Option Addr) (n c : Nat) (l : List UInt8) (w : World) (hK : Kon w) (hr : Rd w 1 A n c (l.map bv8)) (h : n ≤ 2000) :
    Calls Tryz.prog 174 #[.slice A n c] w fun e w' => e = .returned (.tuple #[.string (str (dig l)), .int .i64 0]) ∧ Below w.heap.size w w' := by
  obtain rfl := hr.len
  have hpm := pad_mod l
  have hpl : (pad l).length ≤ 2072 := by rw [pad_length]; have := zeros_lt l.length; omega
  have hpw := pad_words l
  have hsum := fun j h => sumS_words l j h
  go_enter Tryz.func174, Tryz.ntmps174
  go_wp2_with fail
  with_reducible refine (spad_ok _ _ _ l _ hr h).mono ?_
  rintro e w1 ⟨g1, rfl, hg1, hb1⟩
  have hr1 := blk_rd hg1 (n := (pad l).length) (by rw [List.length_map]) (by omega)
  generalize hP : pad l = pd at *
  go_wp2_with fail
  with_reducible refine (words_ok _ _ _ pd _ hr1 hpl (by omega)).mono ?_
  rintro e w2 ⟨g2, rfl, hg2, hb2⟩
  replace hb2 := below_step hb1 hb2
  clear hr1 hg1 hb1
  generalize hWs : words pd = ws at *
  obtain ⟨m, hm⟩ : ∃ m, pd.length / 4 = m := ⟨_, rfl⟩
  rw [hm] at hpw
  simp only [hm]
  have hm16 : m % 16 = 0 := by omega
  have hm518 : m ≤ 518 := by omega
  clear hm hpl hpm
  have hr2 := blk_rd hg2 (n := m) (by rw [List.length_map, hpw]) (by omega)
  have Hsum := Lib.hid hsum
  clear hsum hg2 hP hWs
  go_wp2_with fail
  with_reducible refine (start_any _).mono ?_
  rintro e w3 ⟨g3, rfl, hg3, hb3⟩
  replace hr2 := hr2.below hb3
  have hs3 := blk_rd hg3 (n := 8) rfl (by omega)
  replace hb3 := below_step hb2 hb3
  clear hb2 hg3
  go_wp2_with fail
  go_loopw [5, 6, 7] (fun _ v s wr => ∃ (j n' c' b' o' : Nat) (A7 : Option Addr) (c7 : Nat) (st : St), v = .slice (some ⟨b', o', none⟩) n' c' ∧ s = .slice A7 8 c7 ∧ n' + 16 * j = m ∧ Hid (st = stW ws j iniS) ∧ Rd wr 1 (some ⟨b', o', none⟩) n' c' ((ws.drop (16 * j)).map wv) ∧ Rd wr 1 A7 8 c7 (st.list.map wv) ∧ Below w.heap.size w wr) (fun _ v _ _ => slenS v)
  case atStart => exact ⟨0, _, _, _, _, _, _, iniS, rfl, rfl, by omega, (stW_zero ws iniS).symm, hr2, hs3, hb3⟩
  case round =>
    clear hr2 hs3 hb3
    obtain ⟨j, n', c', b', o', A7, c7, st, rfl, rfl, hj, Hst, hrw, hrs, hbel⟩ := hrel
    have hc1 := hrw.2.1
    have hc2 := hrw.2.2.1
    unfold maxLen at hc2
    by_cases hlt : 0 < n'
    · have hge : 16 ≤ n' := by omega
      have hlt' : (0 : Int) < (n' : Int) := by omega
      have hge' : (16 : Int) ≤ (n' : Int) := by omega
      have hgc' : (16 : Int) ≤ (c' : Int) := by omega
      have hr16 := hrw.take 16 hge
      rw [← List.map_take] at hr16
      have Hnx := Lib.hid (stW_succ ws j iniS)
      rw [← Hst.out] at Hnx
      go_wp2_with fail
      with_reducible refine (step_ok st _ _ _ _ _ _ (hK.below hbel) hrs hr16).mono ?_
      rintro e w6 ⟨g6, rfl, hg6, hb6⟩
      have hrw6 := hrw.below hb6
      have hs6 := blk_rd hg6 (n := 8) rfl (by omega)
      replace hb6 := below_step hbel hb6
      clear hbel hrw hrs hr16 hg6
      by_cases hc16 : c' = 16
      · subst hc16
        go_wp2
        go_roundw
        case rel => exact ⟨j + 1, _, _, _, _, _, _, _, rfl, rfl, by omega, Hnx.out.symm, (by rw [List.drop_of_length_le (by omega)]; exact Rd.empty _ _ (by simp [maxLen])), hs6, hb6⟩
        case measure => simp [slenS]; omega
      · have hrd := hrw6.dropK 16 hge
        rw [List.drop_drop, show 16 * j + 16 = 16 * (j + 1) from by omega] at hrd
        go_wp2
        go_roundw
        case rel => exact ⟨j + 1, _, _, _, _, _, _, _, rfl, rfl, by omega, Hnx.out.symm, hrd, hs6, hb6⟩
        case measure => simp [slenS]; omega
    · have hdn : decide ((0 : Int) < (n' : Int)) = false := by simp; omega
      have hst := Hsum.out j (by omega)
      rw [← Hst.out] at hst
      have Hdig : Hid (dig l = hexT (bytesW st.list)) := by show _ = _; unfold dig; rw [hst]
      clear hst hrw
      go_wp2_with fail
      with_reducible refine (bytes_ok _ _ _ _ _ hrs (by omega)).mono ?_
      rintro e w7 ⟨g7, rfl, hg7, hb7⟩
      have hs7 := blk_rd hg7 (n := 4 * 8) rfl (by omega)
      replace hb7 := below_step hbel hb7
      clear hbel hrs hg7
      go_wp2_with fail
      with_reducible refine (text_any _ _ _ _ _ hs7 (by omega)).mono ?_
      rintro e w8 ⟨rfl, hb8⟩
      go_wp2
      go_ret2
      exact ⟨by rw [Hdig.out]; rfl, below_step hb7 hb8⟩
end Go.Proofs.YtdbdigcpibmgjaaGreatDoor

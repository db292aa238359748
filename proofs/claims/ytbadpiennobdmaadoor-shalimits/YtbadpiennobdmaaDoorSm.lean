/- The program's mix, schedule and round: parts of SHA-256's step. -/
import Derived.Test.YtbadpiennobdmaaDoorWm
import Derived.Test.YtbadpiennobdmaaDoorCp
import Derived.Test.YtbadpiennobdmaaDoorI32
import Derived.Test.YtbadpiennobdmaaDoorShp
import Derived.StillTailTactics
import Derived.Laws.Tables
import Derived.Deep.QuietTactic
import Derived.BigQuiet
namespace Go.Proofs.YtbadpiennobdmaaDoor
open Go.RowKit
theorem arr64_info : (Tryd.prog.info? 44).map (·.size) = some 64 := by kernel_rfl
theorem arr8_info : (Tryd.prog.info? 43).map (·.size) = some 8 := by kernel_rfl
theorem words_one (l : List (BitVec 32)) : ∀ y ∈ l.map wv, y.oneCell' = true := by
  intro y hy
  obtain ⟨x, _, rfl⟩ := List.mem_map.1 hy
  rfl
theorem words_all1 (l : List (BitVec 32)) : ((l.map wv).toArray).all (·.oneCell') = true := by
  rw [Array.all_eq_true_iff_forall_mem]
  intro y hy
  exact words_one l y (by simpa using hy)
/-- guards for the walk: the next operation loads, or stores, a variable of type ty -/
theorem at_load {P : Program} {w : World} {ops : Array Oper} {rest : List Oper} {dst : Option Tmp} {x : Operand} (ty : TypeId) {t2 : TypeId} {pos : String} {af : Array Edge} {gd : Option (Nat × Bool)} {a : Act} {Q : Exit → Act → World → Prop}
    (h : wpList P ops Q ({ dst := dst, op := .load ty x, type := t2, pos := pos, after := af, guard := gd } :: rest) a w) :
    wpList P ops Q ({ dst := dst, op := .load ty x, type := t2, pos := pos, after := af, guard := gd } :: rest) a w := h
theorem at_store {P : Program} {w : World} {ops : Array Oper} {rest : List Oper} {dst : Option Tmp} {x y : Operand} (ty : TypeId) {t2 : TypeId} {pos : String} {af : Array Edge} {gd : Option (Nat × Bool)} {a : Act} {Q : Exit → Act → World → Prop}
    (h : wpList P ops Q ({ dst := dst, op := .store ty x y, type := t2, pos := pos, after := af, guard := gd } :: rest) a w) :
    wpList P ops Q ({ dst := dst, op := .store ty x y, type := t2, pos := pos, after := af, guard := gd } :: rest) a w := h
theorem Blk.row {w : World} {g : Nat} {t : TypeId} {xs ys : List Value} (h : Blk w g t xs) : Blk (w.setRow g ys.toArray) g t ys := setRow_heap w g _ _ t _ h
theorem Blk.otherRow {w : World} {g k : Nat} {t : TypeId} {xs : List Value} {ys : Array Value} (h : Blk w k t xs) (hk : k ≠ g) : Blk (w.setRow g ys) k t xs := (setRow_other w g k ys hk).trans h
theorem nxt_s (l : List (BitVec 32)) (t : Nat) : l.getD (t - 16) 0 + mix2 (l.getD (t - 15) 0) + l.getD (t - 7) 0 + mix3 (l.getD (t - 2) 0) = nxt l t := by
  unfold nxt
  rw [BitVec.add_assoc (l.getD (t - 16) 0), BitVec.add_comm (mix2 _), ← BitVec.add_assoc]
set_option maxHeartbeats 400000 in
theorem smix_0 (x : BitVec 32) (w : World) :
    Calls Tryd.prog 46 #[.int .u32 (u x), .int .i64 0] w fun e w' => e = .returned (.int .u32 (u (mix0 x))) ∧ w' = w := by
  go_enter Tryd.func46, Tryd.ntmps46
  go_wp2_with ((with_reducible refine (mix_0 _ _).mono ?_); rintro e w' ⟨rfl, rfl⟩)
  go_ret
  exact ⟨rfl, rfl⟩
set_option maxHeartbeats 400000 in
theorem smix_1 (x : BitVec 32) (w : World) :
    Calls Tryd.prog 46 #[.int .u32 (u x), .int .i64 1] w fun e w' => e = .returned (.int .u32 (u (mix1 x))) ∧ w' = w := by
  go_enter Tryd.func46, Tryd.ntmps46
  go_wp2_with ((with_reducible refine (mix_1 _ _).mono ?_); rintro e w' ⟨rfl, rfl⟩)
  go_ret
  exact ⟨rfl, rfl⟩
set_option maxHeartbeats 400000 in
theorem smix_2 (x : BitVec 32) (w : World) :
    Calls Tryd.prog 46 #[.int .u32 (u x), .int .i64 2] w fun e w' => e = .returned (.int .u32 (u (mix2 x))) ∧ w' = w := by
  go_enter Tryd.func46, Tryd.ntmps46
  go_wp2_with ((with_reducible refine (mix_2 _ _).mono ?_); rintro e w' ⟨rfl, rfl⟩)
  go_ret
  exact ⟨rfl, rfl⟩
set_option maxHeartbeats 400000 in
theorem smix_3 (x : BitVec 32) (w : World) :
    Calls Tryd.prog 46 #[.int .u32 (u x), .int .i64 3] w fun e w' => e = .returned (.int .u32 (u (mix3 x))) ∧ w' = w := by
  go_enter Tryd.func46, Tryd.ntmps46
  go_wp2_with ((with_reducible refine (mix_3 _ _).mono ?_); rintro e w' ⟨rfl, rfl⟩)
  go_ret
  exact ⟨rfl, rfl⟩
end Go.Proofs.YtbadpiennobdmaaDoor

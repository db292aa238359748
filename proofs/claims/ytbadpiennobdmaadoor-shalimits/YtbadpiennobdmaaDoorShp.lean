/- SHA-256: what the walks' loops hold. Nothing of the program. -/
import Derived.Test.YtbadpiennobdmaaDoorSh
import Derived.Test.YtbadpiennobdmaaDoorY8
namespace Go.Proofs.YtbadpiennobdmaaDoor
open Go.RowKit
/-- the 64 words behind k bytes -/
def fillW (l : List UInt8) (k : Nat) : List Value := (wst l k).map wv ++ reps (64 - (k + 3) / 4) (.int .u32 0)
theorem fillW_zero (l : List UInt8) : fillW l 0 = reps 64 (.int .u32 0) := rfl
theorem fillW_step (l : List UInt8) (k : Nat) (hk : k < 64) (hl : k < l.length) :
    ∃ z : BitVec 32, (fillW l k)[k / 4]? = some (.int .u32 (u z)) ∧ (fillW l k).set (k / 4) (.int .u32 (u (z <<< 8 ||| w8 l[k]))) = fillW l (k + 1) := by
  have hL := wst_length l k
  by_cases hm : k % 4 = 0
  · refine ⟨0#32, ?_, ?_⟩
    · unfold fillW
      rw [List.getElem?_append_right (by rw [List.length_map]; omega), List.length_map, hL, show k / 4 - (k + 3) / 4 = 0 from by omega]
      unfold reps
      rw [List.getElem?_replicate, if_pos (by omega)]; rfl
    · have h1 := wst_first (l := l) (k := k) hm rfl (by omega)
      rw [getD_lt hl, shl8_or] at h1
      unfold fillW
      rw [h1, List.set_append_right _ _ (by rw [List.length_map]; omega), List.length_map, hL, show k / 4 - (k + 3) / 4 = 0 from by omega]
      have h2 : reps (64 - (k + 3) / 4) (.int .u32 0) = .int .u32 0 :: reps (64 - (k + 1 + 3) / 4) (.int .u32 0) := by
        unfold reps
        rw [show 64 - (k + 3) / 4 = (64 - (k + 1 + 3) / 4) + 1 from by omega, List.replicate_succ]
      rw [h2, List.set_cons_zero, List.map_append, List.append_assoc]; rfl
  · have hlt : k / 4 < (wst l k).length := by omega
    refine ⟨(wst l k)[k / 4], ?_, ?_⟩
    · unfold fillW
      rw [List.getElem?_append_left (by rw [List.length_map]; omega), List.getElem?_map, List.getElem?_eq_getElem hlt]; rfl
    · unfold fillW
      rw [List.set_append_left _ _ (by rw [List.length_map]; omega), wst, if_neg hm, getD_lt hl, getD_lt hlt, shl8_or, show 64 - (k + 1 + 3) / 4 = 64 - (k + 3) / 4 from by omega]
      show _ = List.map wv ((wst l k).set (k / 4) _) ++ _
      rw [List.map_set]; rfl
theorem fillW_end (l : List UInt8) (h : 64 ≤ l.length) : fillW l 64 = (words (l.take 64)).map wv ++ reps 48 (.int .u32 0) := by
  unfold fillW
  rw [show wst l 64 = words (l.take 64) from wst_all l 16 (by omega)]
theorem words64_length (l : List UInt8) (h : 64 ≤ l.length) : (words (l.take 64)).length = 16 := by
  rw [words_length, List.length_take]; omega
/-- the 64 words of the schedule, t of them made -/
def fillS (b : List (BitVec 32)) (t : Nat) : List Value := (sch b (t - 16)).map wv ++ reps (64 - t) (.int .u32 0)
theorem fillS_at (b : List (BitVec 32)) (hb : b.length = 16) (t i : Nat) (h16 : 16 ≤ t) (hi : i < t) : (fillS b t)[i]? = some (.int .u32 (u ((sch b (t - 16)).getD i 0))) := by
  have hL := sch_length b hb (t - 16)
  unfold fillS
  rw [List.getElem?_append_left (by rw [List.length_map]; omega), List.getElem?_map, List.getElem?_eq_getElem (by omega), getD_lt (by omega)]; rfl
theorem fillS_free (b : List (BitVec 32)) (hb : b.length = 16) (t : Nat) (h16 : 16 ≤ t) (h : t < 64) : (fillS b t)[t]? = some (.int .u32 0) := by
  have hL := sch_length b hb (t - 16)
  unfold fillS
  rw [List.getElem?_append_right (by rw [List.length_map]; omega), List.length_map, hL, show t - (16 + (t - 16)) = 0 from by omega]
  unfold reps
  rw [List.getElem?_replicate, if_pos (by omega)]
theorem fillS_step (b : List (BitVec 32)) (hb : b.length = 16) (t : Nat) (h16 : 16 ≤ t) (h : t < 64) :
    (fillS b t).set t (.int .u32 (u (nxt (sch b (t - 16)) t))) = fillS b (t + 1) := by
  have hL := sch_length b hb (t - 16)
  unfold fillS
  rw [List.set_append_right _ _ (by rw [List.length_map]; omega), List.length_map, hL, show t - (16 + (t - 16)) = 0 from by omega, show t + 1 - 16 = (t - 16) + 1 from by omega, sch, show 16 + (t - 16) = t from by omega]
  have h2 : reps (64 - t) (.int .u32 0) = .int .u32 0 :: reps (64 - (t + 1)) (.int .u32 0) := by
    unfold reps
    rw [show 64 - t = (64 - (t + 1)) + 1 from by omega, List.replicate_succ]
  rw [h2, List.set_cons_zero, List.map_append, List.append_assoc]; rfl
theorem fillS_start (b : List (BitVec 32)) : fillS b 16 = b.map wv ++ reps 48 (.int .u32 0) := rfl
theorem fillS_end (b : List (BitVec 32)) : fillS b 64 = (sch b 48).map wv := by
  unfold fillS; simp [reps]
/-- the eight words, k of them added -/
def fillA (s v : St) (k : Nat) : List Value := ((s.add v).list.map wv).take k ++ (s.list.map wv).drop k
theorem fillA_step (s v : St) (k : Nat) (hk : k < 8) : ∃ x y : BitVec 32, (fillA s v k)[k]? = some (.int .u32 (u x)) ∧ (v.list.map wv)[k]? = some (.int .u32 (u y)) ∧ (fillA s v k).set k (.int .u32 (u (x + y))) = fillA s v (k + 1) := by
  rcases (by omega : k = 0 ∨ k = 1 ∨ k = 2 ∨ k = 3 ∨ k = 4 ∨ k = 5 ∨ k = 6 ∨ k = 7) with rfl | rfl | rfl | rfl | rfl | rfl | rfl | rfl
  · exact ⟨s.a, v.a, rfl, rfl, rfl⟩
  · exact ⟨s.b, v.b, rfl, rfl, rfl⟩
  · exact ⟨s.c, v.c, rfl, rfl, rfl⟩
  · exact ⟨s.d, v.d, rfl, rfl, rfl⟩
  · exact ⟨s.e, v.e, rfl, rfl, rfl⟩
  · exact ⟨s.f, v.f, rfl, rfl, rfl⟩
  · exact ⟨s.g, v.g, rfl, rfl, rfl⟩
  · exact ⟨s.h, v.h, rfl, rfl, rfl⟩
theorem fillA_zero (s v : St) : fillA s v 0 = s.list.map wv := rfl
theorem fillA_end (s v : St) : fillA s v 8 = (s.add v).list.map wv := rfl
/-- the walk's sums -/
theorem t1_walk (s : St) (k w : BitVec 32) : s.h + (rotl s.e 26 ^^^ rotl s.e 21 ^^^ rotl s.e 7) + ((s.e &&& s.f) ^^^ (~~~s.e &&& s.g)) + k + w = t1 s k w := by
  rw [mix1_rotl, chs_xor]; rfl
theorem t2_walk (s : St) : (rotl s.a 30 ^^^ rotl s.a 19 ^^^ rotl s.a 10) + ((s.a &&& s.b) ^^^ (s.a &&& s.c) ^^^ (s.b &&& s.c)) = t2 s := by
  rw [mix0_rotl, mst_xor]; rfl
theorem nxt_walk (l : List (BitVec 32)) (t : Nat) (x y : BitVec 32) (hx : l.getD (t - 15) 0 = x) (hy : l.getD (t - 2) 0 = y) :
    l.getD (t - 16) 0 + l.getD (t - 7) 0 + (rotl x 25 ^^^ rotl x 14 ^^^ x >>> 3) + (rotl y 15 ^^^ rotl y 13 ^^^ y >>> 10) = nxt l t := by
  rw [mix2_rotl, mix3_rotl]; subst hx; subst hy; rfl
theorem rnds_succ (s : St) (w : List (BitVec 32)) (n : Nat) : rnds s w (n + 1) = rnd (rnds s w n) (kon.getD n 0) (w.getD n 0) := rfl
theorem rnds_zero (s : St) (w : List (BitVec 32)) : rnds s w 0 = s := rfl
theorem stp_eq (s : St) (b : List (BitVec 32)) : stp s b = s.add (rnds s (sch b 48) 64) := by unfold stp; rfl
end Go.Proofs.YtbadpiennobdmaaDoor

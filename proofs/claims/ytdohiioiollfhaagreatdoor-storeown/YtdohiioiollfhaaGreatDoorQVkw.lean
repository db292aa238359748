/- A block that holds blobs, known whole. Nothing of the program. -/
import Derived.Test.YtdohiioiollfhaaGreatDoorQWb
import Derived.Test.YtdohiioiollfhaaGreatDoorGO
import Derived.Test.YtdohiioiollfhaaGreatDoorGN
import Derived.Test.YtdohiioiollfhaaGreatDoorGO
namespace Go.Proofs.YtdohiioiollfhaaGreatDoor
open Go.RowKit
/-- no blob -/
def zb : Bl × Hd := (⟨[], [], 0, false⟩, ⟨none, 0, 0⟩)
theorem zb_deep (w : World) : kBlW.deep w zb.1 zb.2 := ⟨⟨Rd.nil _ _, fun _ => rfl⟩, Unf.none _ _⟩
theorem zb_blocks : kBlW.blocks zb.2 = [] := rfl
theorem made_blobs (n : Nat) : madeCells #[.string ByteArray.empty, .slice none 0 0, .int .i64 0, .bool false] (n * 4) = (kBlW.all (List.replicate n zb)).toArray := by
  apply Array.ext
  · rw [size_madeCells, List.size_toArray, kBlW.all_length, List.length_replicate]; rfl
  · intro i h1 h2
    rw [size_madeCells] at h1
    obtain ⟨k, r, hr, rfl⟩ : ∃ k r, r < 4 ∧ i = k * 4 + r := ⟨i / 4, i % 4, by omega, by omega⟩
    have hk : k < (List.replicate n zb).length := by rw [List.length_replicate]; omega
    have ha := kBlW.all_at (List.replicate n zb) k hk r hr
    rw [List.getElem_replicate] at ha
    have hm : (k * 4 + r) % 4 = r := by omega
    have hl : (madeCells #[.string ByteArray.empty, .slice none 0 0, .int .i64 0, .bool false] (n * 4))[k * 4 + r]? = some (#[Value.string ByteArray.empty, .slice none 0 0, .int .i64 0, .bool false][r]!) := by
      unfold madeCells
      rw [Array.getElem?_map, Array.getElem?_range, if_pos h1]
      show some (#[Value.string ByteArray.empty, .slice none 0 0, .int .i64 0, .bool false][(k * 4 + r) % 4]!) = _
      rw [hm]
    have hx : ((kBlW.all (List.replicate n zb)).toArray)[k * 4 + r]? = some (#[Value.string ByteArray.empty, .slice none 0 0, .int .i64 0, .bool false][r]!) := by
      rw [List.getElem?_toArray]
      refine Eq.trans ha ?_
      match r, hr with
      | 0, _ => rfl
      | 1, _ => rfl
      | 2, _ => rfl
      | 3, _ => rfl
    rw [Array.getElem?_eq_getElem (by rw [size_madeCells]; exact h1)] at hl
    rw [Array.getElem?_eq_getElem h2] at hx
    injection hl with hl
    injection hx with hx
    rw [hl, hx]
theorem all_set4 : ∀ (l : List (Bl × Hd)) (k : Nat) (x : Bl × Hd), k < l.length → ((((kBlW.all l).set (k * 4) (.string (str x.1.dg))).set (k * 4 + 1) (.slice x.2.A x.2.n x.2.c)).set (k * 4 + 2) (.int .i64 x.1.pn)).set (k * 4 + 3) (.bool x.1.mr) = kBlW.all (l.set k x)
  | [], _, _, h => absurd h (by simp)
  | q :: r, 0, x, _ => rfl
  | q :: r, k + 1, x, h => by
    have := all_set4 r k x (by simpa using h)
    rw [List.set_cons_succ, Kin.all_cons, Kin.all_cons, ← this, show (k + 1) * 4 = k * 4 + 1 + 1 + 1 + 1 from by omega]
    show (((([_, _, _, _] ++ kBlW.all r).set _ _).set _ _).set _ _).set _ _ = [_, _, _, _] ++ _
    simp
theorem zb_mid (acc : List (Bl × Hd)) (x : Bl × Hd) (n : Nat) (hn : 0 < n) : (acc ++ List.replicate n zb).set acc.length x = (acc ++ [x]) ++ List.replicate (n - 1) zb := by
  obtain ⟨m, rfl⟩ : ∃ m, n = m + 1 := ⟨n - 1, by omega⟩
  rw [List.set_append_right _ _ (Nat.le_refl _), Nat.sub_self, List.replicate_succ, List.set_cons_zero, List.append_assoc]
  rfl
/-- block g holds the blobs hs, and nothing else; what they reach lies elsewhere, at the base or above -/
structure KB (w : World) (base g : Nat) (t : TypeId) (hs : List (Bl × Hd)) : Prop where
  blk : Blk w g t (kBlW.all hs)
  ge : base ≤ g
  deep : ∀ x ∈ hs, kBlW.deep w x.1 x.2 ∧ ∀ k ∈ kBlW.blocks x.2, base ≤ k ∧ k < w.heap.size ∧ k ≠ g
section
variable {w w' : World} {base g : Nat} {t : TypeId} {hs : List (Bl × Hd)}
theorem KB.below (h : KB w base g t hs) (hb : Below w.heap.size w w') : KB w' base g t hs :=
  ⟨h.blk.below hb h.blk.lt, h.ge, fun x hx => ⟨kBlW.keep (h.deep x hx).1 fun k _ hk => hb.block k hk, fun k hk => by
    obtain ⟨h1, h2, h3⟩ := (h.deep x hx).2 k hk
    exact ⟨h1, Nat.lt_of_lt_of_le h2 hb.size, h3⟩⟩⟩
theorem KB.len4 (hs : List (Bl × Hd)) : (kBlW.all hs).length = hs.length * 4 := kBlW.all_length hs
theorem KB.kh (h : KB w base g t hs) (hm : hs.length ≤ maxLen) : KH kBlW w base t (.slice (some ⟨g, 0, none⟩) hs.length hs.length) hs := by
  refine ⟨⟨kBlW.all_length hs, .inr ⟨g, hs.length, (kBlW.all hs).toArray, rfl, h.ge, h.blk, Nat.le_refl _, hm, by rw [List.size_toArray]; exact kBlW.all_length hs, ?_⟩⟩, fun x hx => ⟨(h.deep x hx).1, fun k hk => ?_⟩⟩
  · rw [List.take_of_length_le (by rw [List.toList_toArray, kBlW.all_length]; exact Nat.le_refl _)]
  · obtain ⟨h1, h2, h3⟩ := (h.deep x hx).2 k hk
    exact ⟨h1, h2, fun q => h3 (by injection q with q; exact q.symm)⟩
theorem KB.rd (h : KB w base g t hs) (hm : hs.length ≤ maxLen) : KRd kBl w (some ⟨g, 0, none⟩) hs.length hs.length (hs.map Prod.fst) := by
  refine ⟨hs, rfl, ?_, fun x hx => (h.deep x hx).1.1⟩
  have := h.blk.rd (size := 4) (n := hs.length) (c := hs.length) (Nat.le_refl _) hm (by rw [KB.len4]; exact Nat.le_refl _)
  rwa [List.take_of_length_le (by rw [KB.len4]; exact Nat.le_refl _)] at this
/-- the same block with other cells: what lies elsewhere is kept -/
theorem KB.row (h : KB w base g t hs) (ms : List (Bl × Hd)) (hms : ∀ x ∈ ms, kBlW.deep w x.1 x.2 ∧ ∀ k ∈ kBlW.blocks x.2, base ≤ k ∧ k < w.heap.size ∧ k ≠ g) : KB (w.setRow g (kBlW.all ms).toArray) base g t ms := by
  have hz : (w.setRow g (kBlW.all ms).toArray).heap.size = w.heap.size := by simp [World.setRow]
  refine ⟨setRow_heap w g _ _ t _ h.blk, h.ge, fun x hx => ⟨kBlW.keep (hms x hx).1 fun k hk _ => setRow_other w g k _ ((hms x hx).2 k hk).2.2, fun k hk => ?_⟩⟩
  rw [hz]
  exact (hms x hx).2 k hk
theorem KB.put (h : KB w base g t hs) (k : Nat) (x : Bl × Hd) (hk : k < hs.length) (hx : kBlW.deep w x.1 x.2 ∧ ∀ j ∈ kBlW.blocks x.2, base ≤ j ∧ j < w.heap.size ∧ j ≠ g) :
    KB ((((w.setCell ⟨g, k * 4, none⟩ (.string (str x.1.dg))).setCell ⟨g, k * 4 + 1, none⟩ (.slice x.2.A x.2.n x.2.c)).setCell ⟨g, k * 4 + 2, none⟩ (.int .i64 x.1.pn)).setCell ⟨g, k * 4 + 3, none⟩ (.bool x.1.mr)) base g t (hs.set k x) := by
  have hb := (((h.blk.put (k * 4) (.string (str x.1.dg))).put (k * 4 + 1) (.slice x.2.A x.2.n x.2.c)).put (k * 4 + 2) (.int .i64 x.1.pn)).put (k * 4 + 3) (.bool x.1.mr)
  rw [all_set4 hs k x hk] at hb
  refine ⟨hb, h.ge, fun y hy => ?_⟩
  have hy' : kBlW.deep w y.1 y.2 ∧ ∀ j ∈ kBlW.blocks y.2, base ≤ j ∧ j < w.heap.size ∧ j ≠ g := by
    rcases List.mem_or_eq_of_mem_set hy with q | q
    · exact h.deep y q
    · subst q; exact hx
  refine ⟨kBlW.keep hy'.1 fun j hj _ => ?_, fun j hj => ?_⟩
  · have hne : j ≠ g := (hy'.2 j hj).2.2
    rw [Below.heap_setCell _ ⟨g, k * 4 + 3, none⟩ _ j hne, Below.heap_setCell _ ⟨g, k * 4 + 2, none⟩ _ j hne, Below.heap_setCell _ ⟨g, k * 4 + 1, none⟩ _ j hne, Below.heap_setCell _ ⟨g, k * 4, none⟩ _ j hne]
  · simpa using hy'.2 j hj
end
end Go.Proofs.YtdohiioiollfhaaGreatDoor

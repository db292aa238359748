/- What slices.DeleteFunc leaves, round by round. Nothing of the program. -/
import Derived.Test.YtekbgopdeancpaaGreatDoorGVB
namespace Go.Proofs.YtekbgopdeancpaaGreatDoor
open Go.RowKit
theorem zero_manyE (k : Nat) : (Builtin.zeroCells (Value.agg #[.string ByteArray.empty, .slice none 0 0, .int .i64 0, .int .i64 0]).cells k).toList = kEn.all (List.replicate k ze) := by
  rw [show (Value.agg #[.string ByteArray.empty, .slice none 0 0, .int .i64 0, .int .i64 0]).cells = #[.string ByteArray.empty, .slice none 0 0, .int .i64 0, .int .i64 0] by simp [Value.cells]]
  exact congrArg Array.toList (made_entries k)
/-- what holds ahead of a round: j things have been looked at, i of them are kept -/
structure DelJ (hs zs : List (En × Hd)) (p : En → Bool) (i j : Nat) (cur : List (En × Hd)) : Prop where
  len : cur.length = (hs ++ zs).length
  lt : i < j
  le : j ≤ hs.length
  kept : (cur.take i).map Prod.fst = ((hs.take j).map Prod.fst).filter fun b => !p b
  rest : cur.drop j = (hs ++ zs).drop j
  mem : ∀ x ∈ cur, x ∈ hs ++ zs
theorem DelJ.start {hs zs : List (En × Hd)} {p : En → Bool} {i : Nat} (h : (hs.map Prod.fst).findIdx p = i) (hi : i < hs.length) : DelJ hs zs p i (i + 1) (hs ++ zs) := by
  refine ⟨rfl, Nat.lt_succ_self i, hi, ?_, rfl, fun _ hx => hx⟩
  have hlt : i < (hs.map Prod.fst).length := by rw [List.length_map]; exact hi
  have ht : p hs[i].1 = true := by
    have := List.findIdx_getElem (xs := hs.map Prod.fst) (p := p) (w := by rw [h]; exact hlt)
    simp only [h] at this
    rwa [List.getElem_map] at this
  rw [List.take_append_of_le_length (by omega), List.take_succ_eq_append_getElem hi, List.map_append, List.filter_append]
  have h2 : ([hs[i]].map Prod.fst).filter (fun b => !p b) = [] := by simp [ht]
  rw [h2, List.append_nil]
  refine (List.filter_eq_self.2 fun b hb => ?_).symm
  obtain ⟨z, hz, rfl⟩ := List.mem_map.1 hb
  obtain ⟨k, hk, rfl⟩ := List.mem_iff_getElem.1 hz
  have hk' : k < i := by rw [List.length_take] at hk; omega
  rw [List.getElem_take]
  have := List.not_of_lt_findIdx (xs := hs.map Prod.fst) (p := p) (i := k) (by rw [h]; exact hk')
  simpa using this
theorem DelJ.at {hs zs : List (En × Hd)} {p : En → Bool} {i j : Nat} {cur : List (En × Hd)} (h : DelJ hs zs p i j cur) (hj : j < hs.length) : ∃ hc : j < cur.length, cur[j] = hs[j] := by
  have hc : j < cur.length := by rw [h.len, List.length_append]; omega
  refine ⟨hc, ?_⟩
  have h1 : cur[j]? = (hs ++ zs)[j]? := by
    have := congrArg (fun l => l[0]?) h.rest
    simpa [List.getElem?_drop] using this
  rw [List.getElem?_eq_getElem hc, List.getElem?_append_left hj, List.getElem?_eq_getElem hj] at h1
  exact Option.some.inj h1
theorem DelJ.skip {hs zs : List (En × Hd)} {p : En → Bool} {i j : Nat} {cur : List (En × Hd)} (h : DelJ hs zs p i j cur) (hj : j < hs.length) (hp : p hs[j].1 = true) : DelJ hs zs p i (j + 1) cur := by
  refine ⟨h.len, Nat.lt_succ_of_lt h.lt, hj, ?_, ?_, h.mem⟩
  · rw [h.kept, List.take_succ_eq_append_getElem hj, List.map_append, List.filter_append]
    simp [hp]
  · have := congrArg (List.drop 1) h.rest
    rwa [List.drop_drop, List.drop_drop] at this
theorem DelJ.keep {hs zs : List (En × Hd)} {p : En → Bool} {i j : Nat} {cur : List (En × Hd)} (h : DelJ hs zs p i j cur) (hj : j < hs.length) (hp : p hs[j].1 = false) : DelJ hs zs p (i + 1) (j + 1) (cur.set i hs[j]) := by
  obtain ⟨hc, he⟩ := h.at hj
  have hlt := h.lt
  refine ⟨by rw [List.length_set]; exact h.len, by omega, hj, ?_, ?_, fun x hx => ?_⟩
  · rw [List.take_succ_eq_append_getElem (by rw [List.length_set]; omega), List.take_set_of_le (Nat.le_refl _), List.getElem_set_self, List.map_append, h.kept, List.take_succ_eq_append_getElem hj, List.map_append, List.filter_append]
    simp [hp]
  · rw [List.drop_set_of_lt (by omega)]
    have := congrArg (List.drop 1) h.rest
    rwa [List.drop_drop, List.drop_drop] at this
  · rcases List.mem_or_eq_of_mem_set hx with q | q
    · exact h.mem x q
    · rw [q]; exact List.mem_append_left _ (List.getElem_mem hj)
/-- at the end: what is kept, nothing where the others were, and what lay behind -/
theorem DelJ.done {hs zs : List (En × Hd)} {p : En → Bool} {i : Nat} {cur : List (En × Hd)} (h : DelJ hs zs p i hs.length cur) :
    (cur.take i).length = i ∧ (cur.take i).map Prod.fst = (hs.map Prod.fst).filter (fun b => !p b) ∧ (cur.take i ++ (List.replicate (hs.length - i) ze ++ zs)).length = (hs ++ zs).length ∧
    (∀ x ∈ cur.take i ++ (List.replicate (hs.length - i) ze ++ zs), x ∈ hs ++ zs ∨ x = ze) ∧
    lay (kEn.all cur) (i * 4) (kEn.all (List.replicate (hs.length - i) ze)) = kEn.all (cur.take i ++ (List.replicate (hs.length - i) ze ++ zs)) := by
  have hlt := h.lt
  have hcl : cur.length = hs.length + zs.length := by rw [h.len, List.length_append]
  refine ⟨by rw [List.length_take]; omega, by rw [h.kept, List.take_length], by simp; omega, fun x hx => ?_, ?_⟩
  · rcases List.mem_append.1 hx with q | q
    · exact .inl (h.mem x (List.mem_of_mem_take q))
    · rcases List.mem_append.1 q with q | q
      · exact .inr (List.mem_replicate.1 q).2
      · exact .inl (List.mem_append_right _ q)
  · unfold lay
    rw [Kin.all_append, Kin.all_append, ← List.append_assoc, KE.len4, List.length_replicate]
    congr 1
    · congr 1
      exact kEn.all_take cur i
    · rw [show i * 4 + (hs.length - i) * 4 = hs.length * 4 by omega]
      refine (kEn.all_drop cur hs.length).trans ?_
      rw [h.rest, List.drop_left' rfl]
end Go.Proofs.YtekbgopdeancpaaGreatDoor

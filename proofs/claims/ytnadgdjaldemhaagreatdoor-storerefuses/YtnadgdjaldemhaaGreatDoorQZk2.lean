/- One number turned in a row of blobs, or of entries, of the call's own. Nothing of the program. -/
import Derived.Test.YtnadgdjaldemhaaGreatDoorQZs
import Derived.Test.YtnadgdjaldemhaaGreatDoorGO
import Derived.Laws.Rows
namespace Go.Proofs.YtnadgdjaldemhaaGreatDoor
open Go.RowKit
section
variable {α η : Type} {K : Kin α η}
/-- cell j of thing i of a row, turned -/
theorem all_set (f : α → α) (u : Value) (j : Nat) (hj : j < K.size) (hf : ∀ x h, (K.cells x h).set j u = K.cells (f x) h) : ∀ (hs : List (α × η)) (i : Nat), i < hs.length → (K.all hs).set (i * K.size + j) u = K.all (hs.modify i fun x => (f x.1, x.2))
  | [], _, h => absurd h (by simp)
  | x :: r, 0, _ => by
    rw [K.all_cons, Nat.zero_mul, Nat.zero_add, List.set_append_left _ _ (by rw [K.len]; exact hj), hf]
    simp [K.all_cons]
  | x :: r, i + 1, h => by
    have ih := all_set f u j hj hf r i (by simpa using h)
    rw [K.all_cons, List.set_append_right _ _ (by rw [K.len, Nat.succ_mul]; omega), K.len, show (i + 1) * K.size + j - K.size = i * K.size + j by rw [Nat.succ_mul]; omega, ih]
    simp [K.all_cons]
theorem map_modify_fst (f : α → α) : ∀ (hs : List (α × η)) (i : Nat), (hs.modify i fun x => (f x.1, x.2)).map Prod.fst = (hs.map Prod.fst).modify i f
  | [], i => by simp
  | x :: r, 0 => by simp
  | x :: r, i + 1 => by simp [map_modify_fst f r i]
theorem mem_modify (f : α → α) : ∀ (hs : List (α × η)) (i : Nat) {x : α × η}, x ∈ hs.modify i (fun x => (f x.1, x.2)) → ∃ y ∈ hs, x.2 = y.2 ∧ (x.1 = y.1 ∨ x.1 = f y.1)
  | [], _, _, h => by simp at h
  | a :: r, 0, x, h => by
    simp only [List.modify_zero_cons, List.mem_cons] at h
    rcases h with rfl | h
    · exact ⟨a, List.mem_cons_self .., rfl, .inr rfl⟩
    · exact ⟨x, List.mem_cons_of_mem _ h, rfl, .inl rfl⟩
  | a :: r, i + 1, x, h => by
    simp only [List.modify_succ_cons, List.mem_cons] at h
    rcases h with rfl | h
    · exact ⟨x, List.mem_cons_self .., rfl, .inl rfl⟩
    · obtain ⟨y, hy, h1, h2⟩ := mem_modify f r i h
      exact ⟨y, List.mem_cons_of_mem _ hy, h1, h2⟩
/-- one cell of one thing of a row of the call's own: what it holds, that it may be written, and what the row holds behind that -/
theorem KOwn.mod {w : World} {base : Nat} {e : TypeId} {v : Value} {l : List α} (h : KOwn K w base e v l) {i : Nat} (hi : i < l.length) (f : α → α) (u : Value) (j : Nat) (hj : j < K.size) (hf : ∀ x h, (K.cells x h).set j u = K.cells (f x) h)
    (hd : ∀ w x h, K.deep w x h → K.deep w (f x) h) (old : α → Value) (ho : ∀ x h, (K.cells x h)[j]? = some (old x)) :
    ∃ g c, v = .slice (some ⟨g, 0, none⟩) l.length c ∧ base ≤ g ∧ g < w.heap.size ∧ w.cell? ⟨g, i * K.size + j, none⟩ = some (old l[i]) ∧ w.frozen? ⟨g, i * K.size + j, none⟩ = false ∧
      KOwn K (w.setCell ⟨g, i * K.size + j, none⟩ u) base e v (l.modify i f) := by
  obtain ⟨hs, rfl, hrow, hdeep⟩ := h
  rw [List.length_map] at hi hrow ⊢
  obtain ⟨hl, hcase⟩ := hrow
  rcases hcase with ⟨_, h0⟩ | ⟨g, cap, cur, rfl, hB, hb, r1, r2, r3, r4⟩
  · omega
  have hlen : (K.all hs).length = hs.length * K.size := hl
  have hidx : i * K.size + j < hs.length * K.size := by
    have : (i + 1) * K.size ≤ hs.length * K.size := Nat.mul_le_mul_right _ hi
    rw [Nat.succ_mul] at this; omega
  have hcs : i * K.size + j < cur.size := by
    have : hs.length * K.size ≤ cap * K.size := Nat.mul_le_mul_right _ r1
    omega
  have hg : g < w.heap.size := (Array.getElem?_eq_some_iff.1 hb).1
  have hcell : cur.toList[i * K.size + j]? = some (old hs[i].1) := by
    have h1 : (cur.toList.take (hs.length * K.size))[i * K.size + j]? = cur.toList[i * K.size + j]? := by rw [List.getElem?_take, if_pos hidx]
    rw [← h1, r4, K.all_at hs i hi j hj]
    exact ho _ _
  have hblk := heap_setCell_same w g (i * K.size + j) cur e u hb
  refine ⟨g, cap, rfl, hB, hg, ?_, by simp [World.frozen?, hb], ?_⟩
  · rw [cell_of_row w g _ cur e (0, 0) hb]
    simpa using hcell
  · refine ⟨hs.modify i fun x => (f x.1, x.2), ?_, ⟨by rw [K.all_length]; simp, .inr ⟨g, cap, _, by simp, hB, hblk, by simpa using r1, r2, by simpa using r3, ?_⟩⟩, ?_⟩
    · exact map_modify_fst f hs i
    · rw [List.length_modify]
      rw [← all_set f u j hj hf hs i hi, ← r4, ← List.take_set]
      simp
    · intro x hx
      have hx' : ∃ y ∈ hs, x.2 = y.2 ∧ (x.1 = y.1 ∨ x.1 = f y.1) := mem_modify f hs i hx
      obtain ⟨y, hy, e1, e2⟩ := hx'
      obtain ⟨d1, d2⟩ := hdeep y hy
      rw [e1]
      have hk : ∀ k ∈ K.blocks y.2, k < w.heap.size → (w.setCell ⟨g, i * K.size + j, none⟩ u).heap[k]? = w.heap[k]? := fun k hk _ => by
        refine Below.heap_setCell w ⟨g, i * K.size + j, none⟩ u k fun q => ?_
        have := (d2 k hk).2.2
        exact this (by rw [q]; rfl)
      refine ⟨K.keep ?_ hk, fun k hk => ?_⟩
      · rcases e2 with e2 | e2
        · rw [e2]; exact d1
        · rw [e2]; exact hd _ _ _ d1
      · obtain ⟨q1, q2, q3⟩ := d2 k hk
        exact ⟨q1, by simpa using q2, fun q => q3 (by rw [← q])⟩
end
end Go.Proofs.YtnadgdjaldemhaaGreatDoor

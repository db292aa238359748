/- Writing over what is one's own: a cell of a kind stays a cell of its kind. Nothing of the program. -/
import Derived.Test.YtdohiioiollfhaaGreatDoorQWb
namespace Go.Proofs.YtdohiioiollfhaaGreatDoor
open Go.RowKit
/-- a cell of the same kind -/
def alk1 (x x' : Value) : Prop := x' = x ∨ (∃ y y', x = bv8 y ∧ x' = bv8 y') ∨ ∃ s s' : ByteArray, x = .string s ∧ x' = .string s'
theorem alk1.trans {x y z : Value} (h : alk1 x y) (k : alk1 y z) : alk1 x z := by
  rcases h with rfl | ⟨a, a', rfl, rfl⟩ | ⟨a, a', rfl, rfl⟩
  · exact k
  · rcases k with rfl | ⟨b, b', h1, rfl⟩ | ⟨b, b', h1, rfl⟩
    · exact .inr (.inl ⟨_, _, rfl, rfl⟩)
    · exact .inr (.inl ⟨_, _, rfl, rfl⟩)
    · cases h1
  · rcases k with rfl | ⟨b, b', h1, rfl⟩ | ⟨b, b', h1, rfl⟩
    · exact .inr (.inr ⟨_, _, rfl, rfl⟩)
    · cases h1
    · exact .inr (.inr ⟨_, _, rfl, rfl⟩)
/-- only blocks from lo on and ahead of hi are written, each cell by one of its kind -/
structure Alk (lo hi : Nat) (w w' : World) : Prop where
  low : Below lo w w'
  froz : ∀ p : Addr, p.block < w.heap.size → w'.frozen? p = w.frozen? p
  cell : ∀ b i x, w.cell? ⟨b, i, none⟩ = some x → ∃ x', w'.cell? ⟨b, i, none⟩ = some x' ∧ alk1 x x'
  high : ∀ k, k < w.heap.size → hi ≤ k → w'.heap[k]? = w.heap[k]?
theorem cell_blk {w w' : World} {b : Nat} (h : w'.heap[b]? = w.heap[b]?) (i : Nat) : w'.cell? ⟨b, i, none⟩ = w.cell? ⟨b, i, none⟩ := by
  unfold World.cell?
  simp only
  rw [h]
theorem Alk.refl (lo hi : Nat) (w : World) : Alk lo hi w w := ⟨Below.refl _ _, fun _ _ => rfl, fun _ _ x h => ⟨x, h, .inl rfl⟩, fun _ _ _ => rfl⟩
theorem Alk.trans {lo hi : Nat} {a b c : World} (h : Alk lo hi a b) (k : Alk lo hi b c) : Alk lo hi a c :=
  ⟨h.low.trans k.low, fun p hp => (k.froz p (Nat.lt_of_lt_of_le hp h.low.size)).trans (h.froz p hp), fun b i x hx => by
    obtain ⟨y, hy, e1⟩ := h.cell b i x hx
    obtain ⟨z, hz, e2⟩ := k.cell b i y hy
    exact ⟨z, hz, e1.trans e2⟩, fun j hj hh => (k.high j (Nat.lt_of_lt_of_le hj h.low.size) hh).trans (h.high j hj hh)⟩
theorem Alk.of_below {lo hi : Nat} {w w' : World} (h : Below w.heap.size w w') (hl : lo ≤ w.heap.size) : Alk lo hi w w' :=
  ⟨h.mono hl, fun _ hp => frozen_block (h.block _ hp), fun b i x hx => ⟨x, (h.cell (p := ⟨b, i, none⟩) (cell_lt hx)).trans hx, .inl rfl⟩, fun k hk _ => h.block k hk⟩
theorem Alk.set {lo hi : Nat} {w : World} {b i : Nat} {x u : Value} (h : w.cell? ⟨b, i, none⟩ = some x) (ha : alk1 x u) (h1 : lo ≤ b) (h2 : b < hi) : Alk lo hi w (w.setCell ⟨b, i, none⟩ u) :=
  ⟨(Below.refl lo w).setCell (p := ⟨b, i, none⟩) h1 u, fun p _ => World.frozen?_setCell w _ p u, fun b' i' y hy => by
    by_cases e : (⟨b, i, none⟩ : Addr) = ⟨b', i', none⟩
    · injection e with e1 e2
      subst e1; subst e2
      rw [h] at hy
      injection hy with hy
      subst hy
      exact ⟨u, World.cell?_setCell_same w _ u h, ha⟩
    · exact ⟨y, (World.cell?_setCell_other w _ _ u e).trans hy, .inl rfl⟩, fun k _ hk => Below.heap_setCell w ⟨b, i, none⟩ u k (by show k ≠ b; omega)⟩
theorem Alk.slice {lo hi : Nat} {w w' : World} (h : Alk lo hi w w') {b i : Nat} {D : Option Addr} {n c : Nat} (hc : w.cell? ⟨b, i, none⟩ = some (.slice D n c)) : w'.cell? ⟨b, i, none⟩ = some (.slice D n c) := by
  obtain ⟨x, hx, rfl | ⟨y, y', e, _⟩ | ⟨y, y', e, _⟩⟩ := h.cell b i _ hc
  · exact hx
  · cases e
  · cases e
theorem Alk.byte {lo hi : Nat} {w w' : World} (h : Alk lo hi w w') {b i : Nat} {y : UInt8} (hc : w.cell? ⟨b, i, none⟩ = some (bv8 y)) : ∃ y', w'.cell? ⟨b, i, none⟩ = some (bv8 y') := by
  obtain ⟨x, hx, rfl | ⟨z, z', e, rfl⟩ | ⟨z, z', e, _⟩⟩ := h.cell b i _ hc
  · exact ⟨y, hx⟩
  · exact ⟨z', hx⟩
  · cases e
theorem Alk.text {lo hi : Nat} {w w' : World} (h : Alk lo hi w w') {b i : Nat} {s : ByteArray} (hc : w.cell? ⟨b, i, none⟩ = some (.string s)) : ∃ s', w'.cell? ⟨b, i, none⟩ = some (.string s') := by
  obtain ⟨x, hx, rfl | ⟨z, z', e, _⟩ | ⟨z, z', e, rfl⟩⟩ := h.cell b i _ hc
  · exact ⟨s, hx⟩
  · cases e
  · exact ⟨z', hx⟩
theorem Alk.blk {lo hi : Nat} {w w' : World} (h : Alk lo hi w w') {g : Nat} {t : TypeId} {xs : List Value} (hb : Blk w g t xs) (hg : hi ≤ g) : Blk w' g t xs := (h.high g hb.lt hg).trans hb
/-- bytes that may be written -/
def SpD (w : World) (lo hi : Nat) (D : Option Addr) (n : Nat) : Prop :=
  ∀ j, j < n → ∃ b off y, D = some ⟨b, off, none⟩ ∧ lo ≤ b ∧ b < hi ∧ w.cell? ⟨b, off + j, none⟩ = some (bv8 y) ∧ w.frozen? ⟨b, off + j, none⟩ = false
/-- parts whose names may be written -/
def SpP (w : World) (lo hi : Nat) (D : Option Addr) (n : Nat) : Prop :=
  ∀ j, j < n → ∃ b off s, D = some ⟨b, off, none⟩ ∧ lo ≤ b ∧ b < hi ∧ w.cell? ⟨b, off + j * 3, none⟩ = some (.string s) ∧ w.frozen? ⟨b, off + j * 3, none⟩ = false
/-- things whose first cell, a text, may be written, and whose second is a slice of what F tells -/
def Spr (F : World → Nat → Nat → Option Addr → Nat → Prop) (w : World) (lo hi : Nat) (A : Option Addr) (n : Nat) : Prop :=
  ∀ i, i < n → ∃ b off s D dn dc, A = some ⟨b, off, none⟩ ∧ lo ≤ b ∧ b < hi ∧ w.cell? ⟨b, off + i * 4, none⟩ = some (.string s) ∧ w.frozen? ⟨b, off + i * 4, none⟩ = false ∧ w.cell? ⟨b, off + i * 4 + 1, none⟩ = some (.slice D dn dc) ∧ dn ≤ maxLen ∧ F w lo hi D dn
theorem SpD.keep {w w' : World} {lo hi : Nat} {D : Option Addr} {n : Nat} (h : SpD w lo hi D n) (hk : ∀ k, lo ≤ k → k < hi → w'.heap[k]? = w.heap[k]?) : SpD w' lo hi D n := fun j hj => by
  obtain ⟨b, off, y, e, h1, h2, h3, h4⟩ := h j hj
  exact ⟨b, off, y, e, h1, h2, (cell_blk (hk b h1 h2) _).trans h3, (frozen_block (a := ⟨b, off + j, none⟩) (hk b h1 h2)).trans h4⟩
theorem SpP.keep {w w' : World} {lo hi : Nat} {D : Option Addr} {n : Nat} (h : SpP w lo hi D n) (hk : ∀ k, lo ≤ k → k < hi → w'.heap[k]? = w.heap[k]?) : SpP w' lo hi D n := fun j hj => by
  obtain ⟨b, off, y, e, h1, h2, h3, h4⟩ := h j hj
  exact ⟨b, off, y, e, h1, h2, (cell_blk (hk b h1 h2) _).trans h3, (frozen_block (a := ⟨b, off + j * 3, none⟩) (hk b h1 h2)).trans h4⟩
theorem Spr.keep {F : World → Nat → Nat → Option Addr → Nat → Prop} (hF : ∀ {w w' : World} {lo hi : Nat} {D : Option Addr} {n : Nat}, F w lo hi D n → (∀ k, lo ≤ k → k < hi → w'.heap[k]? = w.heap[k]?) → F w' lo hi D n)
    {w w' : World} {lo hi : Nat} {A : Option Addr} {n : Nat} (h : Spr F w lo hi A n) (hk : ∀ k, lo ≤ k → k < hi → w'.heap[k]? = w.heap[k]?) : Spr F w' lo hi A n := fun i hi' => by
  obtain ⟨b, off, s, D, dn, dc, e, h1, h2, h3, h4, h5, hx, h6⟩ := h i hi'
  exact ⟨b, off, s, D, dn, dc, e, h1, h2, (cell_blk (hk b h1 h2) _).trans h3, (frozen_block (a := ⟨b, off + i * 4, none⟩) (hk b h1 h2)).trans h4, (cell_blk (hk b h1 h2) _).trans h5, hx, hF h6 hk⟩
theorem SpP.alk {w w' : World} {lo hi lo' hi' : Nat} {D : Option Addr} {n : Nat} (h : SpP w lo hi D n) (ha : Alk lo' hi' w w') : SpP w' lo hi D n := fun j hj => by
  obtain ⟨b, off, s, e, h1, h2, h3, h4⟩ := h j hj
  obtain ⟨s', hs⟩ := ha.text h3
  exact ⟨b, off, s', e, h1, h2, hs, (ha.froz _ (cell_lt h3)).trans h4⟩
theorem nw_cells {α η : Type} {K : Kin α η} {w : World} {base n c : Nat} {A : Option Addr} {l : List α} (h : Nw K w base A n c l) {i : Nat} (hi : i < n) :
    ∃ b off x, A = some ⟨b, off, none⟩ ∧ base ≤ b ∧ b < w.heap.size ∧ (∀ j, j < K.size → w.frozen? ⟨b, off + (i * K.size + j), none⟩ = false) ∧ (∀ j v, j < K.size → (K.cells (x : α × η).1 x.2)[j]? = some v → w.cell? ⟨b, off + (i * K.size + j), none⟩ = some v) ∧ K.deep w x.1 x.2 ∧ ∀ k ∈ K.blocks x.2, base ≤ k ∧ k < w.heap.size := by
  obtain ⟨⟨hs, hm, hr, -, hF, hd⟩, hU⟩ := h
  have h1 := hr.1
  rw [K.all_length] at h1
  have hlen : hs.length = n := Nat.eq_of_mul_eq_mul_right K.pos h1
  have hp : 0 < (K.all hs).length := by rw [hr.1]; exact Nat.mul_pos (by omega) K.pos
  obtain ⟨b, off, rfl, hc⟩ := hr.2.2.2 hp
  have hil : i < hs.length := by omega
  have hmul : (i + 1) * K.size ≤ n * K.size := Nat.mul_le_mul_right _ hi
  rw [Nat.succ_mul] at hmul
  exact ⟨b, off, hs[i], rfl, (hF _ rfl).1, (hF _ rfl).2, fun j hj => hU _ rfl (i * K.size + j) (by omega), fun j v hj hv => hc _ v (by rw [K.all_at hs i hil j hj]; exact hv), (hd _ (List.getElem_mem hil)).1, (hd _ (List.getElem_mem hil)).2⟩
theorem spb_of {w : World} {base n c : Nat} {A : Option Addr} {L : List Bl} (h : Nw kBlW w base A n c L) : Spr SpD w base w.heap.size A n := fun i hi => by
  obtain ⟨b, off, ⟨x, g⟩, rfl, h1, h2, h3, h4, ⟨⟨hr, -⟩, hu⟩, h6⟩ := nw_cells h hi
  have f0 := h3 0 (by decide)
  have c0 := h4 0 _ (by decide) (show _ = some (Value.string (str x.dg)) from rfl)
  have c1 := h4 1 _ (by decide) (show _ = some (Value.slice g.A g.n g.c) from rfl)
  refine ⟨b, off, _, g.A, g.n, g.c, rfl, h1, h2, c0, f0, by rw [Nat.add_assoc]; exact c1, Nat.le_trans hr.2.1 hr.2.2.1, fun j hj => ?_⟩
  have hl : g.n = x.dt.length := hr.len
  obtain ⟨db, doff, e, hc⟩ := hr.2.2.2 (by rw [List.length_map]; show 0 < x.dt.length; omega)
  have hb := h6 db (mem_blk1.2 ⟨_, e, rfl⟩)
  have hj' : j < x.dt.length := by omega
  exact ⟨db, doff, x.dt[j], e, hb.1, hb.2, hc j _ (by rw [List.getElem?_map]; show Option.map bv8 x.dt[j]? = _; rw [List.getElem?_eq_getElem hj']; rfl), hu _ e j hj⟩
theorem spp_of {w : World} {lo hi n c : Nat} {A : Option Addr} {ps : List Prt} (hr : Rd w 3 A n c (pcs ps)) (hu : Unf w A (n * 3)) (hF : ∀ a : Addr, A = some a → lo ≤ a.block ∧ a.block < hi) : SpP w lo hi A n := fun j hj => by
  have hl := hr.plen
  obtain ⟨b, off, rfl, c0, -, -⟩ := hr.part (k := j) (by omega)
  have hb := hF _ rfl
  exact ⟨b, off, _, rfl, hb.1, hb.2, c0, hu _ rfl (j * 3) (by omega)⟩
theorem spe_of {w : World} {base n c : Nat} {A : Option Addr} {L : List En} (h : Nw kEnW w base A n c L) : Spr SpP w base w.heap.size A n := fun i hi => by
  obtain ⟨b, off, ⟨x, g⟩, rfl, h1, h2, h3, h4, ⟨⟨hr, -⟩, hu⟩, h6⟩ := nw_cells h hi
  have f0 := h3 0 (by decide)
  have c0 := h4 0 _ (by decide) (show _ = some (Value.string (str x.ky)) from rfl)
  have c1 := h4 1 _ (by decide) (show _ = some (Value.slice g.A g.n g.c) from rfl)
  exact ⟨b, off, _, g.A, g.n, g.c, rfl, h1, h2, c0, f0, by rw [Nat.add_assoc]; exact c1, Nat.le_trans hr.2.1 hr.2.2.1, spp_of hr hu fun a e => h6 a.block (mem_blk1.2 ⟨a, e, rfl⟩)⟩
end Go.Proofs.YtdohiioiollfhaaGreatDoor

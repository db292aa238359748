/- Texts that belong together: what the functions of the program and of the statements return. -/
import Derived.Test.YtdbdigcpibmgjaaGreatDoorGA
import Derived.Deep.Slices
import Derived.SizedLaws
import Derived.Test.YtdbdigcpibmgjaaGreatDoorGX
/- Slices of structs that hold slices themselves, as lists: one theory for all kinds. Nothing of the program. -/
namespace Go.Proofs.YtdbdigcpibmgjaaGreatDoor
open Go.RowKit
/-- a slice is kept where its own block, if it is there, is kept -/
theorem Rd.keepLt {w w' : World} {size n c : Nat} {A : Option Addr} {xs : List Value} (h : Rd w size A n c xs) (hk : ∀ a : Addr, A = some a → a.block < w.heap.size → w'.heap[a.block]? = w.heap[a.block]?) : Rd w' size A n c xs := by
  obtain ⟨h1, h2, h3, h4⟩ := h
  refine ⟨h1, h2, h3, fun hp => ?_⟩
  obtain ⟨b, off, rfl, hc⟩ := h4 hp
  refine ⟨b, off, rfl, fun j v hv => ?_⟩
  have hcj := hc j v hv
  have hlt : b < w.heap.size := cell_lt hcj
  have hb := hk ⟨b, off, none⟩ rfl hlt
  unfold World.cell? at hcj ⊢
  simp only at hcj hb ⊢
  rw [hb]; exact hcj
/-- the block of a slice, if any -/
def blk1 (A : Option Addr) : List Nat := match A with | some a => [a.block] | none => []
theorem mem_blk1 {A : Option Addr} {k : Nat} : k ∈ blk1 A ↔ ∃ a, A = some a ∧ k = a.block := by
  cases A <;> simp [blk1]
/-- a kind of thing in memory: α what it is, η where its own slices lie -/
structure Kin (α η : Type) where
  size : Nat
  cells : α → η → List Value
  deep : World → α → η → Prop
  blocks : η → List Nat
  pos : 0 < size
  len : ∀ a h, (cells a h).length = size
  one : ∀ a h, ∀ v ∈ cells a h, v.oneCell' = true
  keep : ∀ {w w' : World} {a : α} {h : η}, deep w a h → (∀ k ∈ blocks h, k < w.heap.size → w'.heap[k]? = w.heap[k]?) → deep w' a h
section
variable {α η : Type} (K : Kin α η)
def Kin.all (l : List (α × η)) : List Value := l.flatMap fun x => K.cells x.1 x.2
theorem Kin.all_cons (x : α × η) (l : List (α × η)) : K.all (x :: l) = K.cells x.1 x.2 ++ K.all l := rfl
theorem Kin.all_append (l m : List (α × η)) : K.all (l ++ m) = K.all l ++ K.all m := by simp [Kin.all]
theorem Kin.all_one (x : α × η) : K.all [x] = K.cells x.1 x.2 := by simp [Kin.all]
theorem Kin.all_length : ∀ l : List (α × η), (K.all l).length = l.length * K.size
  | [] => by simp [Kin.all]
  | x :: r => by rw [K.all_cons, List.length_append, K.len, Kin.all_length r, List.length_cons, Nat.succ_mul, Nat.add_comm]
theorem Kin.all_at : ∀ (l : List (α × η)) (k : Nat) (h : k < l.length) (j : Nat), j < K.size → (K.all l)[k * K.size + j]? = (K.cells l[k].1 l[k].2)[j]?
  | [], _, h, _, _ => absurd h (by simp)
  | x :: r, 0, _, j, hj => by
    rw [K.all_cons, Nat.zero_mul, Nat.zero_add, List.getElem?_append_left (by rw [K.len]; exact hj)]; rfl
  | x :: r, k + 1, h, j, hj => by
    have := Kin.all_at r k (by simpa using h) j hj
    rw [K.all_cons, List.getElem?_append_right (by rw [K.len, Nat.succ_mul]; omega), K.len, show (k + 1) * K.size + j - K.size = k * K.size + j by rw [Nat.succ_mul]; omega]
    simpa using this
theorem Kin.all_take (l : List (α × η)) (k : Nat) : (K.all l).take (k * K.size) = K.all (l.take k) := by
  rcases Nat.le_total k l.length with h | h
  · have e : K.all l = K.all (l.take k) ++ K.all (l.drop k) := by rw [← K.all_append, List.take_append_drop]
    rw [e, List.take_left' (by rw [K.all_length, List.length_take, Nat.min_eq_left h])]
  · rw [List.take_of_length_le (by rw [K.all_length]; exact Nat.mul_le_mul_right _ h), List.take_of_length_le h]
theorem Kin.all_drop (l : List (α × η)) (k : Nat) : (K.all l).drop (k * K.size) = K.all (l.drop k) := by
  rcases Nat.le_total k l.length with h | h
  · have e : K.all l = K.all (l.take k) ++ K.all (l.drop k) := by rw [← K.all_append, List.take_append_drop]
    rw [e, List.drop_left' (by rw [K.all_length, List.length_take, Nat.min_eq_left h])]
  · rw [List.drop_of_length_le (by rw [K.all_length]; exact Nat.mul_le_mul_right _ h), List.drop_of_length_le h]; rfl
theorem Kin.all_one' (l : List (α × η)) : ∀ v ∈ K.all l, v.oneCell' = true := by
  intro v hv
  obtain ⟨x, _, hx⟩ := List.mem_flatMap.1 hv
  exact K.one _ _ v hx
/-- the slice value '.slice A n c' holds the things l; each block that it reaches is one of B -/
def KRd (w : World) (A : Option Addr) (n c : Nat) (l : List α) : Prop :=
  ∃ hs : List (α × η), hs.map Prod.fst = l ∧ Rd w K.size A n c (K.all hs) ∧ ∀ x ∈ hs, K.deep w x.1 x.2
variable {K}
variable {w w' : World} {A : Option Addr} {n c : Nat} {l : List α}
theorem KRd.len (h : KRd K w A n c l) : n = l.length := by
  obtain ⟨hs, rfl, hr, _⟩ := h
  have h1 := hr.1
  rw [K.all_length] at h1
  rw [List.length_map]
  exact (Nat.eq_of_mul_eq_mul_right K.pos h1).symm
theorem KRd.cap (h : KRd K w A n c l) : n ≤ c ∧ c ≤ maxLen := by
  obtain ⟨_, _, hr, _⟩ := h
  exact ⟨hr.2.1, hr.2.2.1⟩
theorem KRd.below (h : KRd K w A n c l) (hb : Below w.heap.size w w') : KRd K w' A n c l := by
  obtain ⟨hs, e, hr, hd⟩ := h
  exact ⟨hs, e, hr.below hb, fun x hx => K.keep (hd x hx) fun k _ hk => hb.block k hk⟩
theorem KRd.alloc (h : KRd K w A n c l) (o : Obj) : KRd K (w.alloc o) A n c l := h.below ((Below.refl _ _).alloc (Nat.le_refl _) o)
theorem KRd.drew (h : KRd K w A n c l) : KRd K w.drew A n c l := h.below (Below.refl w.heap.size w).drew
theorem KRd.nil (w : World) : KRd K w none 0 0 ([] : List α) := ⟨[], rfl, Rd.nil _ _, fun _ h => by cases h⟩
theorem KRd.none0 (w : World) (A : Option Addr) (c : Nat) (hc : c ≤ maxLen) : KRd K w A 0 c ([] : List α) :=
  ⟨[], rfl, ⟨by simp [Kin.all], by omega, hc, fun h => absurd h (by simp [Kin.all])⟩, fun _ h => by cases h⟩
/-- thing k: its cells, and what it reaches -/
theorem KRd.at (h : KRd K w A n c l) {k : Nat} (hk : k < l.length) :
    ∃ b off g, A = some ⟨b, off, none⟩ ∧ (∀ j v, (K.cells l[k] g)[j]? = some v → w.cell? ⟨b, off + k * K.size + j, none⟩ = some v) ∧ K.deep w l[k] g := by
  obtain ⟨hs, rfl, hr, hd⟩ := h
  have hk' : k < hs.length := by simpa using hk
  obtain ⟨b, off, rfl, hc⟩ := hr.2.2.2 (by rw [K.all_length]; exact Nat.mul_pos (by omega) K.pos)
  refine ⟨b, off, hs[k].2, rfl, fun j v hv => ?_, ?_⟩
  · have hj : j < K.size := by have := (List.getElem?_eq_some_iff.1 hv).1; rwa [K.len] at this
    rw [Nat.add_assoc]
    refine hc _ _ ?_
    rw [K.all_at hs k hk' j hj]
    simpa using hv
  · have := hd hs[k] (List.getElem_mem hk')
    simpa using this
theorem KRd.take (h : KRd K w A n c l) (k : Nat) (hk : k ≤ n) : KRd K w A k c (l.take k) := by
  have hl := h.len
  obtain ⟨hs, rfl, ⟨h1, h2, h3, h4⟩, hd⟩ := h
  refine ⟨hs.take k, List.map_take, ⟨by rw [K.all_length, List.length_take, Nat.min_eq_left (by simp at hl; omega)], by omega, h3, fun hp => ?_⟩, fun x hx => hd x (List.mem_of_mem_take hx)⟩
  rw [← K.all_take] at hp ⊢
  obtain ⟨b, off, e, hc⟩ := h4 (by rw [List.length_take] at hp; omega)
  refine ⟨b, off, e, fun j v hv => hc j v ?_⟩
  rw [List.getElem?_take] at hv
  split at hv
  · exact hv
  · cases hv
theorem KRd.drop {b off : Nat} (h : KRd K w (some ⟨b, off, none⟩) n c l) (k : Nat) (hk : k ≤ n) : KRd K w (some ⟨b, off + k * K.size, none⟩) (n - k) (c - k) (l.drop k) := by
  have hl := h.len
  obtain ⟨hs, rfl, ⟨h1, h2, h3, h4⟩, hd⟩ := h
  refine ⟨hs.drop k, List.map_drop, ⟨by rw [K.all_length, List.length_drop]; simp at hl; rw [hl], by omega, by omega, fun hp => ⟨b, off + k * K.size, rfl, fun j v hv => ?_⟩⟩, fun x hx => hd x (List.mem_of_mem_drop hx)⟩
  rw [← K.all_drop] at hp hv
  obtain ⟨b', off', e, hc⟩ := h4 (by rw [List.length_drop] at hp; omega)
  injection e with e
  injection e with e1 e2
  subst e1; subst e2
  rw [List.getElem?_drop] at hv
  have := hc _ _ hv
  rwa [← Nat.add_assoc] at this
/-- a row of the call's own that holds the things l; what they reach lies elsewhere, and is the call's own too -/
def KOwn (K : Kin α η) (w : World) (base : Nat) (e : TypeId) (v : Value) (l : List α) : Prop :=
  ∃ hs : List (α × η), hs.map Prod.fst = l ∧ w.ownsRow base e K.size v l.length (K.all hs) ∧ ∀ x ∈ hs, K.deep w x.1 x.2 ∧ ∀ k ∈ K.blocks x.2, base ≤ k ∧ k < w.heap.size ∧ v.ownBlock ≠ some k
variable {base : Nat} {e : TypeId} {v v' : Value}
theorem KOwn.nil (w : World) (base : Nat) (e : TypeId) : KOwn K w base e (.slice none 0 0) ([] : List α) := ⟨[], rfl, World.ownsRow_nil _ _ _ _, fun _ h => by cases h⟩
theorem KOwn.below (h : KOwn K w base e v l) (hb : Below w.heap.size w w') : KOwn K w' base e v l := by
  obtain ⟨hs, q, ho, hd⟩ := h
  refine ⟨hs, q, own_below ho hb, fun x hx => ⟨K.keep (hd x hx).1 fun k _ hk => hb.block k hk, fun k hk => ?_⟩⟩
  obtain ⟨h1, h2, h3⟩ := (hd x hx).2 k hk
  exact ⟨h1, Nat.lt_of_lt_of_le h2 hb.size, h3⟩
theorem KOwn.rebase (h : KOwn K w base e v l) {base' : Nat} (hb : base' ≤ base) : KOwn K w base' e v l := by
  obtain ⟨hs, q, ⟨h1, h2⟩, hd⟩ := h
  refine ⟨hs, q, ⟨h1, h2.imp id fun ⟨g, cap, cur, hv, hB, r⟩ => ⟨g, cap, cur, hv, Nat.le_trans hb hB, r⟩⟩, fun x hx => ⟨(hd x hx).1, fun k hk => ?_⟩⟩
  obtain ⟨h1, h2, h3⟩ := (hd x hx).2 k hk
  exact ⟨Nat.le_trans hb h1, h2, h3⟩
/-- what stands behind an append of things m that are the call's own -/
theorem KOwn.app {hs m : List (α × η)} (hmap : hs.map Prod.fst = l) (hd : ∀ x ∈ hs, K.deep w x.1 x.2 ∧ ∀ k ∈ K.blocks x.2, base ≤ k ∧ k < w.heap.size ∧ v.ownBlock ≠ some k)
    (hm : ∀ x ∈ m, K.deep w x.1 x.2 ∧ ∀ k ∈ K.blocks x.2, base ≤ k ∧ k < w.heap.size ∧ v.ownBlock ≠ some k)
    (ho : w'.ownsRow base e K.size v' (l.length + m.length) (K.all hs ++ K.all m)) (hz : w.heap.size ≤ w'.heap.size)
    (hf : ∀ k, k < w.heap.size → v.ownBlock ≠ some k → v'.ownBlock ≠ some k ∧ w'.heap[k]? = w.heap[k]?) : KOwn K w' base e v' (l ++ m.map Prod.fst) := by
  subst hmap
  refine ⟨hs ++ m, by simp, ?_, fun x hx => ?_⟩
  · rw [K.all_append, List.length_append, show (m.map Prod.fst).length = m.length from List.length_map _]
    exact ho
  · have hx' : K.deep w x.1 x.2 ∧ ∀ k ∈ K.blocks x.2, base ≤ k ∧ k < w.heap.size ∧ v.ownBlock ≠ some k := by
      rcases List.mem_append.1 hx with q | q
      · exact hd x q
      · exact hm x q
    refine ⟨K.keep hx'.1 fun k hk hlt => (hf k hlt (hx'.2 k hk).2.2).2, fun k hk => ?_⟩
    obtain ⟨q1, q2, q3⟩ := hx'.2 k hk
    exact ⟨q1, Nat.lt_of_lt_of_le q2 hz, (hf k q2 q3).1⟩
/-- such a row, read -/
def KNew (K : Kin α η) (w : World) (base : Nat) (A : Option Addr) (n c : Nat) (l : List α) : Prop :=
  ∃ hs : List (α × η), hs.map Prod.fst = l ∧ Rd w K.size A n c (K.all hs) ∧ (A = none → c = 0) ∧ (∀ a : Addr, A = some a → base ≤ a.block ∧ a.block < w.heap.size) ∧ ∀ x ∈ hs, K.deep w x.1 x.2 ∧ ∀ k ∈ K.blocks x.2, base ≤ k ∧ k < w.heap.size
theorem KNew.rd (h : KNew K w base A n c l) : KRd K w A n c l := by
  obtain ⟨hs, q, hr, _, _, hd⟩ := h
  exact ⟨hs, q, hr, fun x hx => (hd x hx).1⟩
theorem KNew.nilCap (h : KNew K w base A n c l) : A = none → c = 0 := by obtain ⟨_, _, _, hA, _⟩ := h; exact hA
theorem KNew.nil (w : World) (base : Nat) : KNew K w base none 0 0 ([] : List α) := ⟨[], rfl, Rd.nil _ _, fun _ => rfl, fun _ h => (by cases h), fun _ h => by cases h⟩
/-- what is new is kept where all that was there at its base's time, and nothing else, is written -/
theorem KNew.keep (h : KNew K w base A n c l) (hz : w.heap.size ≤ w'.heap.size) (hk : ∀ k, base ≤ k → k < w.heap.size → w'.heap[k]? = w.heap[k]?) : KNew K w' base A n c l := by
  obtain ⟨hs, q, hr, hA, hB, hd⟩ := h
  refine ⟨hs, q, hr.keepLt fun a e hlt => hk _ (hB a e).1 hlt, hA, fun a e => ⟨(hB a e).1, Nat.lt_of_lt_of_le (hB a e).2 hz⟩, fun x hx => ⟨K.keep (hd x hx).1 fun k hb hlt => hk k ((hd x hx).2 k hb).1 hlt, fun k hb => ?_⟩⟩
  obtain ⟨q1, q2⟩ := (hd x hx).2 k hb
  exact ⟨q1, Nat.lt_of_lt_of_le q2 hz⟩
theorem KNew.below (h : KNew K w base A n c l) (hb : Below w.heap.size w w') : KNew K w' base A n c l := h.keep hb.size fun k _ hk => hb.block k hk
theorem KNew.set (h : KNew K w base A n c l) {g i : Nat} (hg : g < base) (u : Value) : KNew K (w.setCell ⟨g, i, none⟩ u) base A n c l :=
  h.keep (by simp) fun k hk _ => Below.heap_setCell w ⟨g, i, none⟩ u k (by show k ≠ g; omega)
theorem KNew.rebase (h : KNew K w base A n c l) {base' : Nat} (hb : base' ≤ base) : KNew K w base' A n c l := by
  obtain ⟨hs, q, hr, hA, hB, hd⟩ := h
  exact ⟨hs, q, hr, hA, fun a e => ⟨Nat.le_trans hb (hB a e).1, (hB a e).2⟩, fun x hx => ⟨(hd x hx).1, fun k hk => ⟨Nat.le_trans hb ((hd x hx).2 k hk).1, ((hd x hx).2 k hk).2⟩⟩⟩
theorem KOwn.new (h : KOwn K w base e v l) : ∃ A c, v = .slice A l.length c ∧ KNew K w base A l.length c l := by
  obtain ⟨hs, rfl, ho, hd⟩ := h
  rcases ho.2 with ⟨q1, q2⟩ | ⟨g, cap, cur, q1, q2, q3, q4, q5, q6⟩
  · have : hs = [] := by
      have := q2
      rw [List.length_map] at this
      exact List.eq_nil_of_length_eq_zero this
    subst this
    exact ⟨none, 0, q1, KNew.nil _ _⟩
  · have hlt := ho.lt g (by rw [q1]; rfl)
    subst q1
    exact ⟨_, cap, rfl, hs, rfl, Rd.of_own ho q5 q4, fun q => (by cases q), fun a q => (by cases q; exact hlt), fun x hx => ⟨(hd x hx).1, fun k hk => ⟨((hd x hx).2 k hk).1, ((hd x hx).2 k hk).2.1⟩⟩⟩
end
theorem weightsAll_mem {H : Type} {P : Program} {e : TypeId} : ∀ {ds : List (DataW H)} {d : DataW H}, d ∈ ds → ∀ n ∈ d.weights P e, n ∈ DataW.weightsAll P e ds
  | d0 :: r, d, h, n, hn => by
    rw [DataW.weightsAll, List.mem_append]
    rcases List.mem_cons.1 h with rfl | h
    · exact .inl hn
    · exact .inr (weightsAll_mem h n hn)
section
variable {H : Type} {enc : TypeId × Value → H} {P : Program} {w : World} {base : Nat} {spare : Nat → Bool} {held : Bool} {α η : Type}
/-- a slice of things that came in; Q: what is asked of each -/
theorem open_kin (K : Kin α η) [Inhabited α] [Inhabited η] {t e : TypeId} {fuel : Nat} {cs : List Value} {x : DataW H × List MemPlace} (ht : P.underlying t = some (.slice e)) (ce : P.cellsOf e = K.size) (Q : α → Prop)
    (each : ∀ (fuel : Nat) (cs : List Value) (y : DataW H × List MemPlace), cs.length = K.size → (∀ n ∈ y.1.weights P e, n ≤ reachBytes) → DataW.trod enc P w base spare held fuel e cs = some y → ∃ a g, cs = K.cells a g ∧ K.deep w a g ∧ Q a)
    (h : DataW.trod enc P w base spare held fuel t cs = some x) (hsz : ∀ n ∈ x.1.weights P t, n ≤ reachBytes) :
    ∃ (A : Option Addr) (n c : Nat) (l : List α), cs = [.slice A n c] ∧ KRd K w A n c l ∧ (∀ p ∈ l, Q p) ∧ (A = none → c = 0) ∧ n * P.bytesOf e ≤ reachBytes := by
  rcases Deep.open_slice ht h with ⟨rfl, rfl⟩ | ⟨a, len, cap, m, n, D, Pl, rfl, hb, hl, hm, hmm, rfl, hx⟩
  · exact ⟨none, 0, 0, [], rfl, KRd.nil _, fun _ h => (by cases h), fun _ => rfl, by omega⟩
  have hlm : len ≤ m := by rw [hmm]; split <;> omega
  have each' : ∀ i, i < len → ∃ p : α × η, K.deep w p.1 p.2 ∧ Q p.1 ∧ ∀ j v, (K.cells p.1 p.2)[j]? = some v → w.cell? (a.add (i * K.size + j)) = some v := by
    intro i hi
    obtain ⟨cs', h1, h2⟩ := hx i (by omega)
    rw [ce] at h1
    obtain ⟨_, hlen, hcell⟩ := World.cells?_some h1
    obtain ⟨p, g, rfl, hd, hq⟩ := each _ _ _ hlen (fun n hn => hsz n (by
      simp only [DataW.weights, ht, List.mem_cons, List.mem_append]
      exact .inr (.inl (weightsAll_mem (List.mem_map.2 ⟨i, by simpa using hi, rfl⟩) _ hn)))) h2
    refine ⟨(p, g), hd, hq, fun j v hv => ?_⟩
    have hj : j < (K.cells p g).length := (List.getElem?_eq_some_iff.1 hv).1
    have := hcell j (by rw [K.len] at hj; exact hj)
    rw [Deep.add_add] at this
    rw [this]
    simpa using hv
  obtain ⟨q, hq⟩ := Deep.choose_lt each'
  refine ⟨some a, len, cap, ((List.range len).map q).map Prod.fst, rfl, ⟨(List.range len).map q, rfl, ?_, ?_⟩, ?_, fun h => (by cases h), ?_⟩
  · refine ⟨by rw [K.all_length]; simp, hl, hm, fun hp => ?_⟩
    rw [K.all_length] at hp
    have hlen : 0 < len := by
      rcases Nat.eq_zero_or_pos len with e | e
      · subst e; simp at hp
      · exact e
    obtain ⟨b, off, spot⟩ := a
    have h00 : ∃ v, (K.cells (q 0).1 (q 0).2)[0]? = some v := ⟨_, List.getElem?_eq_getElem (by rw [K.len]; exact K.pos)⟩
    obtain ⟨v0, hv0⟩ := h00
    have h0 := (hq 0 hlen).2.2 0 v0 hv0
    have hspot : spot = none := by simpa [Addr.add] using World.cell?_spot h0
    subst hspot
    have spotE : ∀ j, (⟨b, off, none⟩ : Addr).add j = ⟨b, off + j, none⟩ := fun j => by unfold Addr.add; split <;> simp_all
    refine ⟨b, off, rfl, fun j v hv => ?_⟩
    have hj : j < (K.all ((List.range len).map q)).length := (List.getElem?_eq_some_iff.1 hv).1
    rw [K.all_length] at hj
    simp only [List.length_map, List.length_range] at hj
    have hp := K.pos
    have e := Nat.div_add_mod j K.size
    have hr : j % K.size < K.size := Nat.mod_lt _ hp
    have hk : j / K.size < len := Nat.div_lt_of_lt_mul (by rwa [Nat.mul_comm])
    rw [show j = j / K.size * K.size + j % K.size by rw [Nat.mul_comm]; exact e.symm] at hv ⊢
    rw [K.all_at _ _ (by simpa using hk) _ hr] at hv
    simp only [List.getElem_map, List.getElem_range] at hv
    have := (hq _ hk).2.2 _ _ hv
    rwa [spotE] at this
  · intro p hp
    obtain ⟨i, hi, rfl⟩ := List.mem_map.1 hp
    exact (hq i (by simpa using hi)).1
  · intro p hp
    obtain ⟨y, hy, rfl⟩ := List.mem_map.1 hp
    obtain ⟨i, hi, rfl⟩ := List.mem_map.1 hy
    exact (hq i (by simpa using hi)).2.1
  · have := hsz ((len + (m - len)) * P.bytesOf e) (by simp [DataW.weights, ht])
    refine Nat.le_trans (Nat.mul_le_mul_right _ ?_) this
    omega
end
end Go.Proofs.YtdbdigcpibmgjaaGreatDoor
/- Blobs and entries as lists, and slices of them. Nothing of the program. -/
namespace Go.Proofs.YtdbdigcpibmgjaaGreatDoor
open Go.RowKit
/-- where a slice lies -/
structure Hd where
  A : Option Addr
  n : Nat
  c : Nat
instance : Inhabited Hd := ⟨⟨none, 0, 0⟩⟩
/-- a blob: its digest's text, its bytes, how many hold it, its mark -/
structure Bl where
  dg : List UInt8
  dt : List UInt8
  pn : Int
  mr : Bool
instance : Inhabited Bl := ⟨⟨[], [], 0, false⟩⟩
/-- an entry: its key, its parts, how many hold it, its stamp -/
structure En where
  ky : List UInt8
  ps : List Prt
  pn : Int
  st : Int
instance : Inhabited En := ⟨⟨[], [], 0, 0⟩⟩
theorem rd_keep1 {w w' : World} {size n c : Nat} {A : Option Addr} {xs : List Value} (h : Rd w size A n c xs) (hk : ∀ k ∈ blk1 A, k < w.heap.size → w'.heap[k]? = w.heap[k]?) : Rd w' size A n c xs :=
  h.keepLt fun a e hlt => hk _ (mem_blk1.2 ⟨a, e, rfl⟩) hlt
def kBl : Kin Bl Hd where
  size := 4
  cells b h := [.string (str b.dg), .slice h.A h.n h.c, .int .i64 b.pn, .bool b.mr]
  deep w b h := Rd w 1 h.A h.n h.c (b.dt.map bv8) ∧ (h.A = none → h.c = 0)
  blocks h := blk1 h.A
  pos := by omega
  len _ _ := rfl
  one := fun _ _ v hv => by
    simp only [List.mem_cons, List.not_mem_nil, or_false] at hv
    rcases hv with rfl | rfl | rfl | rfl <;> rfl
  keep h hk := ⟨rd_keep1 h.1 hk, h.2⟩
def kEn : Kin En Hd where
  size := 4
  cells b h := [.string (str b.ky), .slice h.A h.n h.c, .int .i64 b.pn, .int .i64 b.st]
  deep w b h := Rd w 3 h.A h.n h.c (pcs b.ps) ∧ (h.A = none → h.c = 0)
  blocks h := blk1 h.A
  pos := by omega
  len _ _ := rfl
  one := fun _ _ v hv => by
    simp only [List.mem_cons, List.not_mem_nil, or_false] at hv
    rcases hv with rfl | rfl | rfl | rfl <;> rfl
  keep h hk := ⟨rd_keep1 h.1 hk, h.2⟩
/-- what is asked of a blob that came in -/
def Bl.good (b : Bl) : Prop := b.dg.length ≤ maxLen ∧ (Lit.int .i64 b.pn).wf = true ∧ b.dt.length ≤ 140737488351232
def En.good (b : En) : Prop := b.ky.length ≤ maxLen ∧ (∀ p ∈ b.ps, p.good) ∧ (Lit.int .i64 b.pn).wf = true ∧ (Lit.int .i64 b.st).wf = true ∧ b.ps.length * 40 ≤ 140737488351232
/-- the four cells of blob k, and its bytes -/
theorem KRd.blob {w : World} {A : Option Addr} {n c : Nat} {l : List Bl} (h : KRd kBl w A n c l) {k : Nat} (hk : k < l.length) :
    ∃ b off D m d, A = some ⟨b, off, none⟩ ∧ w.cell? ⟨b, off + k * 4, none⟩ = some (.string (str l[k].dg)) ∧ w.cell? ⟨b, off + k * 4 + 1, none⟩ = some (.slice D m d) ∧ w.cell? ⟨b, off + k * 4 + 2, none⟩ = some (.int .i64 l[k].pn) ∧ w.cell? ⟨b, off + k * 4 + 3, none⟩ = some (.bool l[k].mr) ∧
      Rd w 1 D m d (l[k].dt.map bv8) ∧ (D = none → d = 0) := by
  obtain ⟨b, off, g, rfl, hc, hd⟩ := h.at hk
  exact ⟨b, off, g.A, g.n, g.c, rfl, hc 0 _ rfl, hc 1 _ rfl, hc 2 _ rfl, hc 3 _ rfl, hd⟩
theorem KRd.entry {w : World} {A : Option Addr} {n c : Nat} {l : List En} (h : KRd kEn w A n c l) {k : Nat} (hk : k < l.length) :
    ∃ b off D m d, A = some ⟨b, off, none⟩ ∧ w.cell? ⟨b, off + k * 4, none⟩ = some (.string (str l[k].ky)) ∧ w.cell? ⟨b, off + k * 4 + 1, none⟩ = some (.slice D m d) ∧ w.cell? ⟨b, off + k * 4 + 2, none⟩ = some (.int .i64 l[k].pn) ∧ w.cell? ⟨b, off + k * 4 + 3, none⟩ = some (.int .i64 l[k].st) ∧
      Rd w 3 D m d (pcs l[k].ps) ∧ (D = none → d = 0) := by
  obtain ⟨b, off, g, rfl, hc, hd⟩ := h.at hk
  exact ⟨b, off, g.A, g.n, g.c, rfl, hc 0 _ rfl, hc 1 _ rfl, hc 2 _ rfl, hc 3 _ rfl, hd⟩
end Go.Proofs.YtdbdigcpibmgjaaGreatDoor

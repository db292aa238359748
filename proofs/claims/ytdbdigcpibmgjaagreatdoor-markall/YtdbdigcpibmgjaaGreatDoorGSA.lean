/- Texts that belong together: what the functions of the program and of the statements return. -/
import Derived.Test.YtdbdigcpibmgjaaGreatDoorGO
import Derived.Test.YtdbdigcpibmgjaaGreatDoorGO
import Derived.Test.YtdbdigcpibmgjaaGreatDoorGY
import Derived.Test.YtdbdigcpibmgjaaGreatDoorGW
import Derived.Laws.Rows
/- The store: plain functions, and what holds of them. Nothing of the program. -/
namespace Go.Proofs.YtdbdigcpibmgjaaGreatDoor
open Go.RowKit
/-- a store: its blobs, its entries, its room, its clock -/
structure Sto where
  bs : List Bl
  es : List En
  rm : Int
  ck : Int
def sNil : Sto := ⟨[], [], 0, 0⟩
/-- are parts there, of their sizes: the error -/
def pThere (bs : List Bl) : List Prt → Int
  | [] => 0
  | p :: r => if h : bAt bs p.dg < bs.length then (if (bs[bAt bs p.dg].dt.length : Int) ≠ p.sz then 4 else pThere bs r) else 5
/-- is an entry out of its store: younger than the clock, or of parts that are not there -/
def eBad (s : Sto) (x : En) : Bool := decide (s.ck < x.st) || !(pThere s.bs x.ps == 0)
/-- the error of a store -/
def sErr (s : Sto) : Int :=
  if bsErr s.bs ≠ 0 then bsErr s.bs else if xsErr s.es ≠ 0 then xsErr s.es else if s.rm < 0 ∨ 4000 < s.rm then 4 else if s.rm < wrap64 (uS s.bs) then 7
  else if s.ck < 0 ∨ 1099511627776 < s.ck then 4 else if s.es.any (eBad s) then 12 else 0
/-- a store that may be -/
structure Sto.ok (s : Sto) : Prop where
  be : bsErr s.bs = 0
  xe : xsErr s.es = 0
  r0 : 0 ≤ s.rm
  r1 : s.rm ≤ 4000
  us : uS s.bs ≤ s.rm
  c0 : 0 ≤ s.ck
  c1 : s.ck ≤ 1099511627776
  st : ∀ x ∈ s.es, x.st ≤ s.ck
  pt : ∀ x ∈ s.es, pThere s.bs x.ps = 0
theorem bs_us {l : List Bl} (h : bsErr l = 0) : 0 ≤ uS l ∧ uS l ≤ 7200 := by
  obtain ⟨h1, h2, _⟩ := bsErr_zero.1 h
  have := uS_le l 300 fun b hb => (h2 b hb).2.1
  omega
theorem sErr_zero {s : Sto} : sErr s = 0 ↔ s.ok := by
  unfold sErr
  constructor
  · intro h
    split at h
    · rename_i q; exact absurd h q
    rename_i q1
    split at h
    · rename_i q; exact absurd h q
    rename_i q2
    split at h
    · omega
    rename_i q3
    split at h
    · omega
    rename_i q4
    split at h
    · omega
    rename_i q5
    split at h
    · omega
    rename_i q6
    have hb : bsErr s.bs = 0 := Classical.byContradiction q1
    have hu := bs_us hb
    rw [uS_small hu.1 (by omega)] at q4
    have q7 : ∀ x ∈ s.es, x.st ≤ s.ck ∧ pThere s.bs x.ps = 0 := fun x hx => by
      have : eBad s x = false := by
        rw [Bool.eq_false_iff]
        intro q
        exact q6 (List.any_eq_true.2 ⟨x, hx, q⟩)
      unfold eBad at this
      simp only [Bool.or_eq_false_iff, decide_eq_false_iff_not, Bool.not_eq_false', beq_iff_eq] at this
      exact ⟨by omega, this.2⟩
    exact ⟨hb, Classical.byContradiction q2, by omega, by omega, by omega, by omega, by omega, fun x hx => (q7 x hx).1, fun x hx => (q7 x hx).2⟩
  · intro h
    have hu := bs_us h.be
    have h1 := h.us
    have h2 := h.r0
    have h3 := h.r1
    have h4 := h.c0
    have h5 := h.c1
    have q6 : s.es.any (eBad s) = false := by
      rw [List.any_eq_false]
      intro x hx q
      unfold eBad at q
      have e1 := h.st x hx
      have e2 := h.pt x hx
      rw [e2] at q
      simp at q
      omega
    rw [if_neg (by simpa using h.be), if_neg (by simpa using h.xe), if_neg (by omega), if_neg (by rw [uS_small hu.1 (by omega)]; omega), if_neg (by omega), if_neg (by rw [q6]; simp)]
/-- putting bytes: the error, the store, the digest -/
def sPutBlob (s : Sto) (D : List UInt8) : Int × Sto × List UInt8 :=
  if sErr s ≠ 0 then (sErr s, sNil, []) else if (bPut s.bs D).1 ≠ 0 then ((bPut s.bs D).1, sNil, []) else if s.rm < wrap64 (uS (bPut s.bs D).2.1) then (7, sNil, [])
  else (0, { s with bs := (bPut s.bs D).2.1 }, (bPut s.bs D).2.2)
/-- the bytes of a digest: the error, the bytes -/
def sGetBlob (s : Sto) (d : List UInt8) : Int × List UInt8 :=
  if sErr s ≠ 0 then (sErr s, []) else if h : bAt s.bs d < s.bs.length then (0, s.bs[bAt s.bs d].dt) else (5, [])
/-- the fault of putting parts under a key -/
def sPutErr (s : Sto) (k : List UInt8) (ps : List Prt) : Int :=
  if sErr s ≠ 0 then sErr s else if cErr k ≠ 0 then cErr k else if psErr ps ≠ 0 then psErr ps else if pThere s.bs ps ≠ 0 then pThere s.bs ps else if s.ck = 1099511627776 then 4
  else (xPut s.es ⟨k, ps, 0, s.ck + 1⟩).1
def sPut (s : Sto) (k : List UInt8) (ps : List Prt) : Int × Sto :=
  if sPutErr s k ps ≠ 0 then (sPutErr s k ps, sNil) else (0, { s with es := (xPut s.es ⟨k, ps, 0, s.ck + 1⟩).2, ck := s.ck + 1 })
/-- entries with one's stamp, or holders, another -/
def xStamp (l : List En) (i : Nat) (t : Int) : List En := l.modify i fun x => { x with st := t }
def xHold (l : List En) (i : Nat) (n : Int) : List En := l.modify i fun x => { x with pn := n }
def bHold (l : List Bl) (i : Nat) (n : Int) : List Bl := l.modify i fun x => { x with pn := n }
def sGet (s : Sto) (k : List UInt8) : Int × Sto × List Prt :=
  if sErr s ≠ 0 then (sErr s, sNil, []) else if h : xAt s.es k < s.es.length then (if s.ck = 1099511627776 then (4, sNil, []) else (0, { s with es := xStamp s.es (xAt s.es k) (s.ck + 1), ck := s.ck + 1 }, s.es[xAt s.es k].ps)) else (5, sNil, [])
/-- what a move of a count answers: the error, the count -/
def mvE (n : Int) (up : Bool) : Int := if n < 0 ∨ 5 < n then 4 else if up then (if n = 5 then 7 else 0) else if n = 0 then 11 else 0
def mvN (n : Int) (up : Bool) : Int := if mvE n up ≠ 0 then 0 else if up then n + 1 else n - 1
theorem mv_range {n : Int} {up : Bool} (h : mvE n up = 0) : 0 ≤ mvN n up ∧ mvN n up ≤ 5 := by
  unfold mvN
  rw [if_neg (by omega)]
  unfold mvE at h
  split at h
  · omega
  · cases up
    · simp only [Bool.false_eq_true, if_false] at h ⊢
      split at h <;> omega
    · simp only [if_true] at h ⊢
      split at h <;> omega
/-- holding a blob, an entry, or letting go: the error, the store -/
def sHoldBlob (s : Sto) (d : List UInt8) (up : Bool) : Int × Sto :=
  if sErr s ≠ 0 then (sErr s, sNil) else if h : bAt s.bs d < s.bs.length then (if mvE s.bs[bAt s.bs d].pn up ≠ 0 then (mvE s.bs[bAt s.bs d].pn up, sNil) else (0, { s with bs := bHold s.bs (bAt s.bs d) (mvN s.bs[bAt s.bs d].pn up) })) else (5, sNil)
def sHold (s : Sto) (k : List UInt8) (up : Bool) : Int × Sto :=
  if sErr s ≠ 0 then (sErr s, sNil) else if h : xAt s.es k < s.es.length then (if mvE s.es[xAt s.es k].pn up ≠ 0 then (mvE s.es[xAt s.es k].pn up, sNil) else (0, { s with es := xHold s.es (xAt s.es k) (mvN s.es[xAt s.es k].pn up) })) else (5, sNil)
theorem pThere_zero {bs : List Bl} (hs : Srt bs) : ∀ {ps : List Prt}, pThere bs ps = 0 ↔ ∀ p ∈ ps, ∃ b ∈ bs, b.dg = p.dg ∧ (b.dt.length : Int) = p.sz
  | [] => by simp [pThere]
  | p :: r => by
    rw [pThere]
    constructor
    · intro h
      split at h
      · rename_i hk
        split at h
        · omega
        · rename_i q
          intro y hy
          rcases List.mem_cons.1 hy with rfl | hy
          · exact ⟨_, List.getElem_mem hk, bAt_there hk, Classical.byContradiction q⟩
          · exact (pThere_zero hs).1 h y hy
      · omega
    · intro h
      obtain ⟨b, hb, e1, e2⟩ := h p (List.mem_cons_self ..)
      have hk : bAt bs p.dg < bs.length := bAt_lt.2 ⟨b, hb, e1⟩
      have e : bs[bAt bs p.dg] = b := by
        obtain ⟨i, hi, rfl⟩ := List.mem_iff_getElem.1 hb
        have := hs.inj hk hi ((bAt_there hk).trans e1.symm)
        congr 1
      rw [dif_pos hk, if_neg (by rw [e]; simpa using e2)]
      exact (pThere_zero hs).2 fun y hy => h y (List.mem_cons_of_mem _ hy)
/-- parts that are there stay there among more blobs -/
theorem pThere_more {bs cs : List Bl} {ps : List Prt} (hs : Srt bs) (ht : Srt cs) (h : pThere bs ps = 0) (hm : ∀ b ∈ bs, ∃ c ∈ cs, c.dg = b.dg ∧ c.dt = b.dt) : pThere cs ps = 0 :=
  (pThere_zero ht).2 fun p hp => by
    obtain ⟨b, hb, e1, e2⟩ := (pThere_zero hs).1 h p hp
    obtain ⟨c, hc, q1, q2⟩ := hm b hb
    exact ⟨c, hc, q1.trans e1, by rw [q2]; exact e2⟩
/-- what a put of bytes leaves -/
structure BPut (l : List Bl) (D : List UInt8) (m : List Bl) : Prop where
  err : bsErr m = 0
  all : ∀ b ∈ l, b ∈ m
  new : ∀ b ∈ m, b ∈ l ∨ b = ⟨dig D, D, 0, false⟩
  own : ∃ b ∈ m, b.dg = dig D
theorem bPut_ok {l : List Bl} {D : List UInt8} (h : (bPut l D).1 = 0) : (bPut l D).2.2 = dig D ∧ BPut l D (bPut l D).2.1 ∧ D.length ≤ 300 ∧ bsErr l = 0 := by
  have h0 : bsErr l = 0 := by
    unfold bPut at h
    split at h
    · rename_i q; exact absurd h q
    · rename_i q; exact Classical.byContradiction q
  have h1 : ¬ 300 < D.length := by
    intro q
    unfold bPut at h
    rw [if_neg (by omega), if_pos q] at h
    exact absurd h (by show ¬ (1 : Int) = 0; omega)
  obtain ⟨f1, f2, f3⟩ := bsErr_zero.1 h0
  unfold bPut at h ⊢
  rw [if_neg (by omega), if_neg h1] at h ⊢
  by_cases ha : bAt l (dig D) < l.length
  · rw [if_pos ha]
    exact ⟨rfl, ⟨h0, fun _ h => h, fun _ h => .inl h, bAt_lt.1 ha⟩, by omega, h0⟩
  · rw [if_neg ha] at h ⊢
    by_cases hl : 23 < l.length
    · rw [if_pos hl] at h
      exact absurd h (by show ¬ (7 : Int) = 0; omega)
    · rw [if_neg hl]
      have hne : ∀ x ∈ l, x.dg ≠ dig D := fun x hx q => ha (bAt_lt.2 ⟨x, hx, q⟩)
      have hs := Srt.put f3 ⟨dig D, D, 0, false⟩ hne
      have hmem : ∀ b, b ∈ l.take (bTo l (dig D)) ++ ⟨dig D, D, 0, false⟩ :: l.drop (bTo l (dig D)) ↔ b = ⟨dig D, D, 0, false⟩ ∨ b ∈ l := fun b => by
        conv => rhs; rhs; rw [← List.take_append_drop (bTo l (dig D)) l]
        simp only [List.mem_append, List.mem_cons]
        constructor
        · rintro (h | h | h)
          · exact .inr (.inl h)
          · exact .inl h
          · exact .inr (.inr h)
        · rintro (h | h | h)
          · exact .inr (.inl h)
          · exact .inl h
          · exact .inr (.inr h)
      refine ⟨rfl, ⟨bsErr_zero.2 ⟨?_, fun b hb => ?_, hs⟩, fun b hb => (hmem b).2 (.inr hb), fun b hb => ((hmem b).1 hb).symm, ⟨_, (hmem _).2 (.inl rfl), rfl⟩⟩, by omega, h0⟩
      · have := bTo_le l (dig D)
        simp; omega
      · rcases (hmem b).1 hb with q | q
        · subst q
          exact ⟨cErr_dig D, by show D.length ≤ 300; omega, rfl, by show (0 : Int) ≤ 0; omega, by show (0 : Int) ≤ 5; omega⟩
        · exact f2 b q
theorem sPutBlob_ok {s : Sto} {D : List UInt8} (h : (sPutBlob s D).1 = 0) : s.ok ∧ (sPutBlob s D).2.1.ok ∧ (bPut s.bs D).1 = 0 ∧ (sPutBlob s D).2 = ({ s with bs := (bPut s.bs D).2.1 }, dig D) := by
  unfold sPutBlob at h ⊢
  split at h
  · rename_i q; exact absurd h q
  rename_i q0
  split at h
  · rename_i q; exact absurd h q
  rename_i q1
  split at h
  · exact absurd h (by show ¬ (7 : Int) = 0; omega)
  rename_i q2
  have hs : s.ok := sErr_zero.1 (Classical.byContradiction q0)
  have hp0 : (bPut s.bs D).1 = 0 := Classical.byContradiction q1
  obtain ⟨e1, hp, _, _⟩ := bPut_ok hp0
  rw [if_neg q0, if_neg q1, if_neg q2]
  have hu := bs_us hp.err
  rw [uS_small hu.1 (by omega)] at q2
  refine ⟨hs, ⟨hp.err, hs.xe, hs.r0, hs.r1, by show uS (bPut s.bs D).2.1 ≤ s.rm; omega, hs.c0, hs.c1, hs.st, fun x hx => ?_⟩, hp0, by rw [e1]⟩
  exact pThere_more (bsErr_zero.1 hs.be).2.2 (bsErr_zero.1 hp.err).2.2 (hs.pt x hx) fun b hb => ⟨b, hp.all b hb, rfl, rfl⟩
end Go.Proofs.YtdbdigcpibmgjaaGreatDoor
/- One number turned in a row of blobs, or of entries, of the call's own. Nothing of the program. -/
namespace Go.Proofs.YtdbdigcpibmgjaaGreatDoor
open Go.RowKit
section
variable {α η : Type} {K : Kin α η}
/-- cell j of thing i of a row, turned -/
theorem all_set (f : α → α) (u : Value) (j : Nat) (hj : j < K.size) (hf : ∀ x h, (K.cells x h).set j u = K.cells (f x) h) : ∀ (hs : List (α × η)) (i : Nat), i < hs.length → (K.all hs).set (i * K.size + j) u = K.all (hs.modify i fun x => (f x.1, x.2))
  | [], _, h => absurd h (by simp)
  | x :: r, 0, _ => by
    rw [K.all_cons, Nat.zero_mul, Nat.zero_add, List.set_append_left _ _ (by rw [K.len]; exact hj), hf]
    simp [K.all_cons]
  | x :: r, i + 1, h => by
    have ih := all_set f u j hj hf r i (by simpa using h)
    rw [K.all_cons, List.set_append_right _ _ (by rw [K.len, Nat.succ_mul]; omega), K.len, show (i + 1) * K.size + j - K.size = i * K.size + j by rw [Nat.succ_mul]; omega, ih]
    simp [K.all_cons]
theorem map_modify_fst (f : α → α) : ∀ (hs : List (α × η)) (i : Nat), (hs.modify i fun x => (f x.1, x.2)).map Prod.fst = (hs.map Prod.fst).modify i f
  | [], i => by simp
  | x :: r, 0 => by simp
  | x :: r, i + 1 => by simp [map_modify_fst f r i]
theorem mem_modify (f : α → α) : ∀ (hs : List (α × η)) (i : Nat) {x : α × η}, x ∈ hs.modify i (fun x => (f x.1, x.2)) → ∃ y ∈ hs, x.2 = y.2 ∧ (x.1 = y.1 ∨ x.1 = f y.1)
  | [], _, _, h => by simp at h
  | a :: r, 0, x, h => by
    simp only [List.modify_zero_cons, List.mem_cons] at h
    rcases h with rfl | h
    · exact ⟨a, List.mem_cons_self .., rfl, .inr rfl⟩
    · exact ⟨x, List.mem_cons_of_mem _ h, rfl, .inl rfl⟩
  | a :: r, i + 1, x, h => by
    simp only [List.modify_succ_cons, List.mem_cons] at h
    rcases h with rfl | h
    · exact ⟨x, List.mem_cons_self .., rfl, .inl rfl⟩
    · obtain ⟨y, hy, h1, h2⟩ := mem_modify f r i h
      exact ⟨y, List.mem_cons_of_mem _ hy, h1, h2⟩
/-- one cell of one thing of a row of the call's own: what it holds, that it may be written, and what the row holds behind that -/
theorem KOwn.mod {w : World} {base : Nat} {e : TypeId} {v : Value} {l : List α} (h : KOwn K w base e v l) {i : Nat} (hi : i < l.length) (f : α → α) (u : Value) (j : Nat) (hj : j < K.size) (hf : ∀ x h, (K.cells x h).set j u = K.cells (f x) h)
    (hd : ∀ w x h, K.deep w x h → K.deep w (f x) h) (old : α → Value) (ho : ∀ x h, (K.cells x h)[j]? = some (old x)) :
    ∃ g c, v = .slice (some ⟨g, 0, none⟩) l.length c ∧ base ≤ g ∧ g < w.heap.size ∧ w.cell? ⟨g, i * K.size + j, none⟩ = some (old l[i]) ∧ w.frozen? ⟨g, i * K.size + j, none⟩ = false ∧
      KOwn K (w.setCell ⟨g, i * K.size + j, none⟩ u) base e v (l.modify i f) := by
  obtain ⟨hs, rfl, hrow, hdeep⟩ := h
  rw [List.length_map] at hi hrow ⊢
  obtain ⟨hl, hcase⟩ := hrow
  rcases hcase with ⟨_, h0⟩ | ⟨g, cap, cur, rfl, hB, hb, r1, r2, r3, r4⟩
  · omega
  have hlen : (K.all hs).length = hs.length * K.size := hl
  have hidx : i * K.size + j < hs.length * K.size := by
    have : (i + 1) * K.size ≤ hs.length * K.size := Nat.mul_le_mul_right _ hi
    rw [Nat.succ_mul] at this; omega
  have hcs : i * K.size + j < cur.size := by
    have : hs.length * K.size ≤ cap * K.size := Nat.mul_le_mul_right _ r1
    omega
  have hg : g < w.heap.size := (Array.getElem?_eq_some_iff.1 hb).1
  have hcell : cur.toList[i * K.size + j]? = some (old hs[i].1) := by
    have h1 : (cur.toList.take (hs.length * K.size))[i * K.size + j]? = cur.toList[i * K.size + j]? := by rw [List.getElem?_take, if_pos hidx]
    rw [← h1, r4, K.all_at hs i hi j hj]
    exact ho _ _
  have hblk := heap_setCell_same w g (i * K.size + j) cur e u hb
  refine ⟨g, cap, rfl, hB, hg, ?_, by simp [World.frozen?, hb], ?_⟩
  · rw [cell_of_row w g _ cur e (0, 0) hb]
    simpa using hcell
  · refine ⟨hs.modify i fun x => (f x.1, x.2), ?_, ⟨by rw [K.all_length]; simp, .inr ⟨g, cap, _, by simp, hB, hblk, by simpa using r1, r2, by simpa using r3, ?_⟩⟩, ?_⟩
    · exact map_modify_fst f hs i
    · rw [List.length_modify]
      rw [← all_set f u j hj hf hs i hi, ← r4, ← List.take_set]
      simp
    · intro x hx
      have hx' : ∃ y ∈ hs, x.2 = y.2 ∧ (x.1 = y.1 ∨ x.1 = f y.1) := mem_modify f hs i hx
      obtain ⟨y, hy, e1, e2⟩ := hx'
      obtain ⟨d1, d2⟩ := hdeep y hy
      rw [e1]
      have hk : ∀ k ∈ K.blocks y.2, k < w.heap.size → (w.setCell ⟨g, i * K.size + j, none⟩ u).heap[k]? = w.heap[k]? := fun k hk _ => by
        refine Below.heap_setCell w ⟨g, i * K.size + j, none⟩ u k fun q => ?_
        have := (d2 k hk).2.2
        exact this (by rw [q]; rfl)
      refine ⟨K.keep ?_ hk, fun k hk => ?_⟩
      · rcases e2 with e2 | e2
        · rw [e2]; exact d1
        · rw [e2]; exact hd _ _ _ d1
      · obtain ⟨q1, q2, q3⟩ := d2 k hk
        exact ⟨q1, by simpa using q2, fun q => q3 (by rw [← q])⟩
end
end Go.Proofs.YtdbdigcpibmgjaaGreatDoor

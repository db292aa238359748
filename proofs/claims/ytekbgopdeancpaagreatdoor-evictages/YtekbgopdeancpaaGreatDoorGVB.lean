/- Texts that belong together: what the functions of the program and of the statements return. -/
import Derived.Test.YtekbgopdeancpaaGreatDoorGO
import Derived.Test.YtekbgopdeancpaaGreatDoorGEE
import Derived.Test.YtekbgopdeancpaaGreatDoorGVA
import Derived.Test.YtekbgopdeancpaaGreatDoorGRB
/- All that was there but one block is as it was; rows known whole are kept then. Nothing of the program. -/
namespace Go.Proofs.YtekbgopdeancpaaGreatDoor
open Go.RowKit
/-- all that was there but block g is as it was -/
structure Far (g : Nat) (w w' : World) : Prop where
  b : Below g w w'
  block : ∀ k, k < w.heap.size → k ≠ g → w'.heap[k]? = w.heap[k]?
section
variable {g : Nat} {w w' w2 : World}
theorem Far.refl (g : Nat) (w : World) : Far g w w := ⟨Below.refl _ _, fun _ _ _ => rfl⟩
theorem Far.of (h : Below w.heap.size w w') (hg : g < w.heap.size) : Far g w w' := ⟨h.mono (Nat.le_of_lt hg), fun k hk _ => h.block k hk⟩
theorem Far.trans (h : Far g w w') (k : Far g w' w2) : Far g w w2 := ⟨h.b.trans k.b, fun i hi hne => (k.block i (Nat.lt_of_lt_of_le hi h.b.size) hne).trans (h.block i hi hne)⟩
theorem Far.cell (h : Far g w w') (i : Nat) (u : Value) : Far g w (w'.setCell ⟨g, i, none⟩ u) :=
  h.trans ⟨(Below.refl g w').setCell (p := ⟨g, i, none⟩) (Nat.le_refl _) u, fun k _ hne => Below.heap_setCell w' ⟨g, i, none⟩ u k hne⟩
theorem Far.row (h : Far g w w') (xs : Array Value) : Far g w (w'.setRow g xs) :=
  h.trans ⟨below_setRow (Below.refl g w') (Nat.le_refl _) xs, fun k _ hne => setRow_other w' g k xs hne⟩
theorem Far.drew (h : Far g w w') : Far g w w'.drew := h.trans ⟨(Below.refl g w').drew, fun _ _ _ => rfl⟩
theorem Far.below (h : Far g w w') {base : Nat} (hb : base ≤ g) : Below base w w' := h.b.mono hb
theorem Far.blk (h : Far g w w') {q : Nat} {t : TypeId} {xs : List Value} (hk : Blk w q t xs) (hne : q ≠ g) : Blk w' q t xs := (h.block q hk.lt hne).trans hk
theorem Far.rd (h : Far g w w') {size n c : Nat} {A : Option Addr} {xs : List Value} (hr : Rd w size A n c xs) (hne : ∀ a : Addr, A = some a → a.block ≠ g) : Rd w' size A n c xs :=
  hr.keepLt fun a e hlt => h.block a.block hlt (hne a e)
theorem KB.far {base q : Nat} {t : TypeId} {hs : List (Bl × Hd)} (h : KB w base q t hs) (hf : Far g w w') (hne : q ≠ g) (hd : ∀ x ∈ hs, ∀ k ∈ kBl.blocks x.2, k ≠ g) : KB w' base q t hs :=
  ⟨hf.blk h.blk hne, h.ge, fun x hx => ⟨kBl.keep (h.deep x hx).1 fun k hk hlt => hf.block k hlt (hd x hx k hk), fun k hk => by
    obtain ⟨h1, h2, h3⟩ := (h.deep x hx).2 k hk
    exact ⟨h1, Nat.lt_of_lt_of_le h2 hf.b.size, h3⟩⟩⟩
theorem KE.far {base q : Nat} {t : TypeId} {hs : List (En × Hd)} (h : KE w base q t hs) (hf : Far g w w') (hne : q ≠ g) (hd : ∀ x ∈ hs, ∀ k ∈ kEn.blocks x.2, k ≠ g) : KE w' base q t hs :=
  ⟨hf.blk h.blk hne, h.ge, fun x hx => ⟨kEn.keep (h.deep x hx).1 fun k hk hlt => hf.block k hlt (hd x hx k hk), fun k hk => by
    obtain ⟨h1, h2, h3⟩ := (h.deep x hx).2 k hk
    exact ⟨h1, Nat.lt_of_lt_of_le h2 hf.b.size, h3⟩⟩⟩
theorem Far.new (h : Far g w w') {q : Nat} (hg : g < w.heap.size) (hq : w.heap.size ≤ q) (i : Nat) (u : Value) : Far g w (w'.setCell ⟨q, i, none⟩ u) :=
  ⟨h.b.setCell (p := ⟨q, i, none⟩) (by show g ≤ q; omega) u, fun k hk hne => (Below.heap_setCell w' ⟨q, i, none⟩ u k (by show k ≠ q; omega)).trans (h.block k hk hne)⟩
theorem KB.keepAt {base q : Nat} {t : TypeId} {hs : List (Bl × Hd)} (h : KB w base q t hs) (hz : w.heap.size ≤ w'.heap.size) (hk : ∀ k, base ≤ k → k < w.heap.size → w'.heap[k]? = w.heap[k]?) : KB w' base q t hs :=
  ⟨(hk q h.ge h.blk.lt).trans h.blk, h.ge, fun x hx => ⟨kBl.keep (h.deep x hx).1 fun k hb _ => hk k ((h.deep x hx).2 k hb).1 ((h.deep x hx).2 k hb).2.1, fun k hb => by
    obtain ⟨h1, h2, h3⟩ := (h.deep x hx).2 k hb
    exact ⟨h1, Nat.lt_of_lt_of_le h2 hz, h3⟩⟩⟩
theorem KE.keepAt {base q : Nat} {t : TypeId} {hs : List (En × Hd)} (h : KE w base q t hs) (hz : w.heap.size ≤ w'.heap.size) (hk : ∀ k, base ≤ k → k < w.heap.size → w'.heap[k]? = w.heap[k]?) : KE w' base q t hs :=
  ⟨(hk q h.ge h.blk.lt).trans h.blk, h.ge, fun x hx => ⟨kEn.keep (h.deep x hx).1 fun k hb _ => hk k ((h.deep x hx).2 k hb).1 ((h.deep x hx).2 k hb).2.1, fun k hb => by
    obtain ⟨h1, h2, h3⟩ := (h.deep x hx).2 k hb
    exact ⟨h1, Nat.lt_of_lt_of_le h2 hz, h3⟩⟩⟩
theorem KB.low {base base' q : Nat} {t : TypeId} {hs : List (Bl × Hd)} (h : KB w base q t hs) (hb : base' ≤ base) : KB w base' q t hs :=
  ⟨h.blk, Nat.le_trans hb h.ge, fun x hx => ⟨(h.deep x hx).1, fun k hk => ⟨Nat.le_trans hb ((h.deep x hx).2 k hk).1, ((h.deep x hx).2 k hk).2⟩⟩⟩
theorem KE.low {base base' q : Nat} {t : TypeId} {hs : List (En × Hd)} (h : KE w base q t hs) (hb : base' ≤ base) : KE w base' q t hs :=
  ⟨h.blk, Nat.le_trans hb h.ge, fun x hx => ⟨(h.deep x hx).1, fun k hk => ⟨Nat.le_trans hb ((h.deep x hx).2 k hk).1, ((h.deep x hx).2 k hk).2⟩⟩⟩
end
/-- the first things of a block that is known whole, read -/
theorem KB.rdPart {w : World} {base g n c : Nat} {t : TypeId} {hs zs : List (Bl × Hd)} (h : KB w base g t (hs ++ zs)) (hn : hs.length = n) (hc : (hs ++ zs).length = c) (hm : c ≤ maxLen) : KRd kBl w (some ⟨g, 0, none⟩) n c (hs.map Prod.fst) := by
  subst hn; subst hc
  refine ⟨hs, rfl, ?_, fun x hx => (h.deep x (List.mem_append_left _ hx)).1⟩
  have := h.blk.rd (size := 4) (n := hs.length) (c := (hs ++ zs).length) (by simp) hm (by rw [KB.len4, List.length_append]; omega)
  rwa [Kin.all_append, List.take_left' (KB.len4 hs)] at this
theorem KE.rdPart {w : World} {base g n c : Nat} {t : TypeId} {hs zs : List (En × Hd)} (h : KE w base g t (hs ++ zs)) (hn : hs.length = n) (hc : (hs ++ zs).length = c) (hm : c ≤ maxLen) : KRd kEn w (some ⟨g, 0, none⟩) n c (hs.map Prod.fst) := by
  subst hn; subst hc
  refine ⟨hs, rfl, ?_, fun x hx => (h.deep x (List.mem_append_left _ hx)).1⟩
  have := h.blk.rd (size := 4) (n := hs.length) (c := (hs ++ zs).length) (by simp) hm (by rw [KE.len4, List.length_append]; omega)
  rwa [Kin.all_append, List.take_left' (KE.len4 hs)] at this
/-- .. handed back as a new row -/
theorem KB.newPart {w : World} {base g n c : Nat} {t : TypeId} {hs zs : List (Bl × Hd)} (h : KB w base g t (hs ++ zs)) (hn : hs.length = n) (hc : (hs ++ zs).length = c) (hm : c ≤ maxLen) : KNew kBl w base (some ⟨g, 0, none⟩) n c (hs.map Prod.fst) := by
  obtain ⟨hs2, e, hr, hd⟩ := h.rdPart hn hc hm
  refine ⟨hs, rfl, ?_, fun q => (by cases q), fun a q => (by cases q; exact ⟨h.ge, h.blk.lt⟩), fun x hx => ⟨(h.deep x (List.mem_append_left _ hx)).1, fun k hk => ⟨((h.deep x (List.mem_append_left _ hx)).2 k hk).1, ((h.deep x (List.mem_append_left _ hx)).2 k hk).2.1⟩⟩⟩
  subst hn; subst hc
  have := h.blk.rd (size := 4) (n := hs.length) (c := (hs ++ zs).length) (by simp) hm (by rw [KB.len4, List.length_append]; omega)
  rwa [Kin.all_append, List.take_left' (KB.len4 hs)] at this
theorem KE.newPart {w : World} {base g n c : Nat} {t : TypeId} {hs zs : List (En × Hd)} (h : KE w base g t (hs ++ zs)) (hn : hs.length = n) (hc : (hs ++ zs).length = c) (hm : c ≤ maxLen) : KNew kEn w base (some ⟨g, 0, none⟩) n c (hs.map Prod.fst) := by
  refine ⟨hs, rfl, ?_, fun q => (by cases q), fun a q => (by cases q; exact ⟨h.ge, h.blk.lt⟩), fun x hx => ⟨(h.deep x (List.mem_append_left _ hx)).1, fun k hk => ⟨((h.deep x (List.mem_append_left _ hx)).2 k hk).1, ((h.deep x (List.mem_append_left _ hx)).2 k hk).2.1⟩⟩⟩
  subst hn; subst hc
  have := h.blk.rd (size := 4) (n := hs.length) (c := (hs ++ zs).length) (by simp) hm (by rw [KE.len4, List.length_append]; omega)
  rwa [Kin.all_append, List.take_left' (KE.len4 hs)] at this
/-- a store in memory of the call's own: blobs in the blocks from B to M, entries in those from M to N; rows known whole -/
structure OSt (w : World) (B M N g1 g2 C1 C2 : Nat) (t1 t2 : TypeId) (hs1 zs1 : List (Bl × Hd)) (hs2 zs2 : List (En × Hd)) : Prop where
  k1 : KB w B g1 t1 (hs1 ++ zs1)
  c1 : (hs1 ++ zs1).length = C1
  l1 : C1 ≤ 24
  m1 : g1 < M ∧ ∀ x ∈ hs1 ++ zs1, ∀ k ∈ kBl.blocks x.2, k < M
  k2 : KE w M g2 t2 (hs2 ++ zs2)
  c2 : (hs2 ++ zs2).length = C2
  l2 : C2 ≤ 10
  m2 : g2 < N ∧ ∀ x ∈ hs2 ++ zs2, ∀ k ∈ kEn.blocks x.2, k < N
section
variable {w w' : World} {B M N g1 g2 C1 C2 : Nat} {t1 t2 : TypeId} {hs1 zs1 : List (Bl × Hd)} {hs2 zs2 : List (En × Hd)}
theorem OSt.keep (h : OSt w B M N g1 g2 C1 C2 t1 t2 hs1 zs1 hs2 zs2) (hz : w.heap.size ≤ w'.heap.size) (hMN : M ≤ N) (hk : ∀ k, B ≤ k → k < N → w'.heap[k]? = w.heap[k]?) : OSt w' B M N g1 g2 C1 C2 t1 t2 hs1 zs1 hs2 zs2 := by
  have hB : B ≤ M := Nat.le_of_lt (Nat.lt_of_le_of_lt h.k1.ge h.m1.1)
  refine ⟨⟨(hk g1 h.k1.ge (Nat.lt_of_lt_of_le h.m1.1 hMN)).trans h.k1.blk, h.k1.ge, fun x hx => ⟨kBl.keep (h.k1.deep x hx).1 fun k hb _ => hk k ((h.k1.deep x hx).2 k hb).1 (Nat.lt_of_lt_of_le (h.m1.2 x hx k hb) hMN), fun k hb => ?_⟩⟩, h.c1, h.l1, h.m1,
    ⟨(hk g2 (Nat.le_trans hB h.k2.ge) h.m2.1).trans h.k2.blk, h.k2.ge, fun x hx => ⟨kEn.keep (h.k2.deep x hx).1 fun k hb _ => hk k (Nat.le_trans hB ((h.k2.deep x hx).2 k hb).1) (h.m2.2 x hx k hb), fun k hb => ?_⟩⟩, h.c2, h.l2, h.m2⟩
  · obtain ⟨q1, q2, q3⟩ := (h.k1.deep x hx).2 k hb
    exact ⟨q1, Nat.lt_of_lt_of_le q2 hz, q3⟩
  · obtain ⟨q1, q2, q3⟩ := (h.k2.deep x hx).2 k hb
    exact ⟨q1, Nat.lt_of_lt_of_le q2 hz, q3⟩
theorem OSt.below (h : OSt w B M N g1 g2 C1 C2 t1 t2 hs1 zs1 hs2 zs2) (hb : Below w.heap.size w w') : OSt w' B M N g1 g2 C1 C2 t1 t2 hs1 zs1 hs2 zs2 :=
  ⟨h.k1.below hb, h.c1, h.l1, h.m1, h.k2.below hb, h.c2, h.l2, h.m2⟩
/-- the blobs' row written in place -/
theorem OSt.blobs (h : OSt w B M N g1 g2 C1 C2 t1 t2 hs1 zs1 hs2 zs2) (hf : Far g1 w w') {hs1' zs1' : List (Bl × Hd)} (hk : KB w' B g1 t1 (hs1' ++ zs1')) (hc : (hs1' ++ zs1').length = C1) (hx : ∀ x ∈ hs1' ++ zs1', x ∈ hs1 ++ zs1 ∨ x = zb) : OSt w' B M N g1 g2 C1 C2 t1 t2 hs1' zs1' hs2 zs2 :=
  ⟨hk, hc, h.l1, ⟨h.m1.1, fun x hx' k hb => by
    rcases hx x hx' with q | q
    · exact h.m1.2 x q k hb
    · subst q; rw [zb_blocks] at hb; cases hb⟩, h.k2.far hf (by have := h.m1.1; have := h.k2.ge; omega) (fun x hx' k hb => by have := h.m1.1; have := ((h.k2.deep x hx').2 k hb).1; omega), h.c2, h.l2, h.m2⟩
/-- the entries' row written in place -/
theorem OSt.entries (h : OSt w B M N g1 g2 C1 C2 t1 t2 hs1 zs1 hs2 zs2) (hf : Far g2 w w') {hs2' zs2' : List (En × Hd)} (hk : KE w' M g2 t2 (hs2' ++ zs2')) (hc : (hs2' ++ zs2').length = C2) (hx : ∀ x ∈ hs2' ++ zs2', x ∈ hs2 ++ zs2 ∨ x = ze) : OSt w' B M N g1 g2 C1 C2 t1 t2 hs1 zs1 hs2' zs2' :=
  ⟨h.k1.far hf (by have := h.m1.1; have := h.k2.ge; omega) (fun x hx' k hb => by have := h.m1.2 x hx' k hb; have := h.k2.ge; omega), h.c1, h.l1, h.m1, hk, hc, h.l2, ⟨h.m2.1, fun x hx' k hb => by
    rcases hx x hx' with q | q
    · exact h.m2.2 x q k hb
    · subst q; rw [ze_blocks] at hb; cases hb⟩⟩
theorem OSt.rd1 (h : OSt w B M N g1 g2 C1 C2 t1 t2 hs1 zs1 hs2 zs2) : KRd kBl w (some ⟨g1, 0, none⟩) hs1.length C1 (hs1.map Prod.fst) := h.k1.rdPart rfl h.c1 (by have := h.l1; unfold maxLen; omega)
theorem OSt.rd2 (h : OSt w B M N g1 g2 C1 C2 t1 t2 hs1 zs1 hs2 zs2) : KRd kEn w (some ⟨g2, 0, none⟩) hs2.length C2 (hs2.map Prod.fst) := h.k2.rdPart rfl h.c2 (by have := h.l2; unfold maxLen; omega)
theorem OSt.new1 (h : OSt w B M N g1 g2 C1 C2 t1 t2 hs1 zs1 hs2 zs2) : KNew kBl w B (some ⟨g1, 0, none⟩) hs1.length C1 (hs1.map Prod.fst) := h.k1.newPart rfl h.c1 (by have := h.l1; unfold maxLen; omega)
theorem OSt.new2 (h : OSt w B M N g1 g2 C1 C2 t1 t2 hs1 zs1 hs2 zs2) : KNew kEn w M (some ⟨g2, 0, none⟩) hs2.length C2 (hs2.map Prod.fst) := h.k2.newPart rfl h.c2 (by have := h.l2; unfold maxLen; omega)
end
end Go.Proofs.YtekbgopdeancpaaGreatDoor
/- What slices.DeleteFunc leaves, round by round. Nothing of the program. -/
namespace Go.Proofs.YtekbgopdeancpaaGreatDoor
open Go.RowKit
theorem zero_many (k : Nat) : (Builtin.zeroCells (Value.agg #[.string ByteArray.empty, .slice none 0 0, .int .i64 0, .bool false]).cells k).toList = kBl.all (List.replicate k zb) := by
  rw [show (Value.agg #[.string ByteArray.empty, .slice none 0 0, .int .i64 0, .bool false]).cells = #[.string ByteArray.empty, .slice none 0 0, .int .i64 0, .bool false] by simp [Value.cells]]
  exact congrArg Array.toList (made_blobs k)
/-- what holds ahead of a round: j things have been looked at, i of them are kept -/
structure DelI (hs zs : List (Bl × Hd)) (p : Bl → Bool) (i j : Nat) (cur : List (Bl × Hd)) : Prop where
  len : cur.length = (hs ++ zs).length
  lt : i < j
  le : j ≤ hs.length
  kept : (cur.take i).map Prod.fst = ((hs.take j).map Prod.fst).filter fun b => !p b
  rest : cur.drop j = (hs ++ zs).drop j
  mem : ∀ x ∈ cur, x ∈ hs ++ zs
theorem DelI.start {hs zs : List (Bl × Hd)} {p : Bl → Bool} {i : Nat} (h : (hs.map Prod.fst).findIdx p = i) (hi : i < hs.length) : DelI hs zs p i (i + 1) (hs ++ zs) := by
  refine ⟨rfl, Nat.lt_succ_self i, hi, ?_, rfl, fun _ hx => hx⟩
  have hlt : i < (hs.map Prod.fst).length := by rw [List.length_map]; exact hi
  have ht : p hs[i].1 = true := by
    have := List.findIdx_getElem (xs := hs.map Prod.fst) (p := p) (w := by rw [h]; exact hlt)
    simp only [h] at this
    rwa [List.getElem_map] at this
  rw [List.take_append_of_le_length (by omega), List.take_succ_eq_append_getElem hi, List.map_append, List.filter_append]
  have h2 : ([hs[i]].map Prod.fst).filter (fun b => !p b) = [] := by simp [ht]
  rw [h2, List.append_nil]
  refine (List.filter_eq_self.2 fun b hb => ?_).symm
  obtain ⟨z, hz, rfl⟩ := List.mem_map.1 hb
  obtain ⟨k, hk, rfl⟩ := List.mem_iff_getElem.1 hz
  have hk' : k < i := by rw [List.length_take] at hk; omega
  rw [List.getElem_take]
  have := List.not_of_lt_findIdx (xs := hs.map Prod.fst) (p := p) (i := k) (by rw [h]; exact hk')
  simpa using this
theorem DelI.at {hs zs : List (Bl × Hd)} {p : Bl → Bool} {i j : Nat} {cur : List (Bl × Hd)} (h : DelI hs zs p i j cur) (hj : j < hs.length) : ∃ hc : j < cur.length, cur[j] = hs[j] := by
  have hc : j < cur.length := by rw [h.len, List.length_append]; omega
  refine ⟨hc, ?_⟩
  have h1 : cur[j]? = (hs ++ zs)[j]? := by
    have := congrArg (fun l => l[0]?) h.rest
    simpa [List.getElem?_drop] using this
  rw [List.getElem?_eq_getElem hc, List.getElem?_append_left hj, List.getElem?_eq_getElem hj] at h1
  exact Option.some.inj h1
theorem DelI.skip {hs zs : List (Bl × Hd)} {p : Bl → Bool} {i j : Nat} {cur : List (Bl × Hd)} (h : DelI hs zs p i j cur) (hj : j < hs.length) (hp : p hs[j].1 = true) : DelI hs zs p i (j + 1) cur := by
  refine ⟨h.len, Nat.lt_succ_of_lt h.lt, hj, ?_, ?_, h.mem⟩
  · rw [h.kept, List.take_succ_eq_append_getElem hj, List.map_append, List.filter_append]
    simp [hp]
  · have := congrArg (List.drop 1) h.rest
    rwa [List.drop_drop, List.drop_drop] at this
theorem DelI.keep {hs zs : List (Bl × Hd)} {p : Bl → Bool} {i j : Nat} {cur : List (Bl × Hd)} (h : DelI hs zs p i j cur) (hj : j < hs.length) (hp : p hs[j].1 = false) : DelI hs zs p (i + 1) (j + 1) (cur.set i hs[j]) := by
  obtain ⟨hc, he⟩ := h.at hj
  have hlt := h.lt
  refine ⟨by rw [List.length_set]; exact h.len, by omega, hj, ?_, ?_, fun x hx => ?_⟩
  · rw [List.take_succ_eq_append_getElem (by rw [List.length_set]; omega), List.take_set_of_le (Nat.le_refl _), List.getElem_set_self, List.map_append, h.kept, List.take_succ_eq_append_getElem hj, List.map_append, List.filter_append]
    simp [hp]
  · rw [List.drop_set_of_lt (by omega)]
    have := congrArg (List.drop 1) h.rest
    rwa [List.drop_drop, List.drop_drop] at this
  · rcases List.mem_or_eq_of_mem_set hx with q | q
    · exact h.mem x q
    · rw [q]; exact List.mem_append_left _ (List.getElem_mem hj)
/-- at the end: what is kept, nothing where the others were, and what lay behind -/
theorem DelI.done {hs zs : List (Bl × Hd)} {p : Bl → Bool} {i : Nat} {cur : List (Bl × Hd)} (h : DelI hs zs p i hs.length cur) :
    (cur.take i).length = i ∧ (cur.take i).map Prod.fst = (hs.map Prod.fst).filter (fun b => !p b) ∧ (cur.take i ++ (List.replicate (hs.length - i) zb ++ zs)).length = (hs ++ zs).length ∧
    (∀ x ∈ cur.take i ++ (List.replicate (hs.length - i) zb ++ zs), x ∈ hs ++ zs ∨ x = zb) ∧
    lay (kBl.all cur) (i * 4) (kBl.all (List.replicate (hs.length - i) zb)) = kBl.all (cur.take i ++ (List.replicate (hs.length - i) zb ++ zs)) := by
  have hlt := h.lt
  have hcl : cur.length = hs.length + zs.length := by rw [h.len, List.length_append]
  refine ⟨by rw [List.length_take]; omega, by rw [h.kept, List.take_length], by simp; omega, fun x hx => ?_, ?_⟩
  · rcases List.mem_append.1 hx with q | q
    · exact .inl (h.mem x (List.mem_of_mem_take q))
    · rcases List.mem_append.1 q with q | q
      · exact .inr (List.mem_replicate.1 q).2
      · exact .inl (List.mem_append_right _ q)
  · unfold lay
    rw [Kin.all_append, Kin.all_append, ← List.append_assoc, KB.len4, List.length_replicate]
    congr 1
    · congr 1
      exact kBl.all_take cur i
    · rw [show i * 4 + (hs.length - i) * 4 = hs.length * 4 by omega]
      refine (kBl.all_drop cur hs.length).trans ?_
      rw [h.rest, List.drop_left' rfl]
end Go.Proofs.YtekbgopdeancpaaGreatDoor
/- Parts for eviction's loop. Nothing of the program. -/
namespace Go.Proofs.YtekbgopdeancpaaGreatDoor
open Go.RowKit
def lenS : Value → Nat
  | .slice _ n _ => n
  | _ => 0
theorem rL_range {l : List Bl} {a b : Int} (h : (rL l a b).2 = 0) : 0 ≤ b ∧ b ≤ 4000 := by
  unfold rL at h
  split at h
  · cases h
  · omega
theorem own_setC {w : World} {base : Nat} {e : TypeId} {size n : Nat} {v : Value} {xs : List Value} (h : w.ownsRow base e size v n xs) {g i : Nat} (hg : g < base) (u : Value) : (w.setCell ⟨g, i, none⟩ u).ownsRow base e size v n xs := by
  refine ⟨h.1, ?_⟩
  rcases h.2 with q | ⟨g', cap, cur, hv, hB, hg', r⟩
  · exact .inl q
  · exact .inr ⟨g', cap, cur, hv, hB, (Below.heap_setCell w ⟨g, i, none⟩ u g' (by show g' ≠ g; omega)).trans hg', r⟩
theorem own_set4 {w : World} {base : Nat} {e : TypeId} {size n : Nat} {v : Value} {xs : List Value} (h : w.ownsRow base e size v n xs) {g : Nat} (hg : g < base) (x y z u : Value) : ((((w.setCell ⟨g, 0, none⟩ x).setCell ⟨g, 1, none⟩ y).setCell ⟨g, 2, none⟩ z).setCell ⟨g, 3, none⟩ u).ownsRow base e size v n xs :=
  own_setC (own_setC (own_setC (own_setC h hg x) hg y) hg z) hg u
theorem own_far {w w' : World} {g base : Nat} {e : TypeId} {size n : Nat} {v : Value} {xs : List Value} (h : w.ownsRow base e size v n xs) (hf : Far g w w') (hg : g < base) : w'.ownsRow base e size v n xs := by
  refine ⟨h.1, ?_⟩
  rcases h.2 with q | ⟨g', cap, cur, hv, hB, hg', r⟩
  · exact .inl q
  · exact .inr ⟨g', cap, cur, hv, hB, (hf.block g' (Array.getElem?_eq_some_iff.1 hg').1 (by omega)).trans hg', r⟩
theorem own_farV {w w' : World} {g base : Nat} {e : TypeId} {size n : Nat} {v : Value} {xs : List Value} (h : w.ownsRow base e size v n xs) (hf : Far g w w') (hg : v.ownBlock ≠ some g) : w'.ownsRow base e size v n xs := by
  refine ⟨h.1, ?_⟩
  rcases h.2 with q | ⟨g', cap, cur, hv, hB, hg', r⟩
  · exact .inl q
  · exact .inr ⟨g', cap, cur, hv, hB, (hf.block g' (Array.getElem?_eq_some_iff.1 hg').1 (fun q => hg (by rw [hv, ← q]; rfl))).trans hg', r⟩
/-- one round of the loop -/
theorem go_round {more : Int} {f : Nat} {y : Sto} {gone : List (List UInt8)} {R : Int × Sto × List (List UInt8)} (h : sGo more f y gone = R) (hf : y.es.length < f) :
    (¬ y.rm < wrap64 (uS y.bs + more) → R = (0, y, gone)) ∧ (y.rm < wrap64 (uS y.bs + more) →
      (xOld y.es = (0, 5) ∧ R = (10, sNil, [])) ∨ ∃ i, ∃ hi : i < y.es.length, xOld y.es = ((i : Int), 0) ∧ sGo more (f - 1) (sClean (sLess y i)) (gone ++ [y.es[i].ky]) = R) := by
  obtain ⟨f', rfl⟩ : ∃ f', f = f' + 1 := ⟨f - 1, by omega⟩
  rw [sGo] at h
  refine ⟨fun q => by rw [if_neg q] at h; exact h.symm, fun q => ?_⟩
  rw [if_pos q] at h
  rcases xOld_ways y.es with ⟨i, hi, he, -, -⟩ | ⟨he, -⟩
  · rw [he, if_neg (by simp)] at h
    refine .inr ⟨i, hi, he, ?_⟩
    have hk : (y.es.getD ((i : Int), (0 : Int)).1.toNat default) = y.es[i] := by
      show y.es.getD i default = _
      rw [List.getD_eq_getElem?_getD, List.getElem?_eq_getElem hi, Option.getD_some]
    rw [hk] at h
    exact h
  · rw [he, if_pos (by simp)] at h
    exact .inl ⟨he, h.symm⟩
theorem less_len {y : Sto} {i : Nat} (hi : i < y.es.length) : (sClean (sLess y i)).es.length + 1 = y.es.length := by
  show (y.es.eraseIdx i).length + 1 = _
  rw [List.length_eraseIdx_of_lt hi]; omega
end Go.Proofs.YtekbgopdeancpaaGreatDoor

/- Texts that belong together: what the functions of the program and of the statements return. -/
import Derived.Test.YtkjgpljkmhjclaaGreatGF
import Derived.Test.YtkjgpljkmhjclaaGreatGB
import Derived.Test.YtkjgpljkmhjclaaGreatRows
import Derived.Test.YtkjgpljkmhjclaaGreatGX
import Derived.Test.YtkjgpljkmhjclaaGreatGA
import Derived.Test.YtkjgpljkmhjclaaGreatGA
import Derived.Lib.Bytes
import Derived.Test.YtkjgpljkmhjclaaGreatGN
/- A digest is 64 digits. -/
namespace Go.Proofs.YtkjgpljkmhjclaaGreat
open Go.RowKit
theorem dig_hex (l : List UInt8) : (dig l).length = 64 ∧ (dig l).all isD = true := by
  exact ⟨dig_length l, hexT_isD _⟩
theorem cErr_dig (l : List UInt8) : cErr (dig l) = 0 := by
  obtain ⟨e1, e2⟩ := dig_hex l
  unfold cErr
  rw [if_neg (by omega), if_pos e2]
end Go.Proofs.YtkjgpljkmhjclaaGreat
/- The bytes of the text AM1 as a row. -/
namespace Go.Proofs.YtkjgpljkmhjclaaGreat
open Go.RowKit
theorem head_rd (w : World) : Rd (w.alloc (.cells #[.int .u8 65, .int .u8 77, .int .u8 49] 5 (3, 4))) 1 (some ⟨w.heap.size, 0, none⟩) 3 3 (([65, 77, 49] : List UInt8).map bv8) :=
  new_rd w 5 [65, 77, 49] (3, 4) (by unfold maxLen; simp)
theorem head_run (w : World) (C : Array Value) (n c : Nat) : (convert 34 34 (.slice (some ⟨w.heap.size, 0, none⟩) n c)).run Tryz.prog (w.alloc (.cells C 5)) = .ok (.slice (some ⟨w.heap.size, 0, none⟩) n c) (w.alloc (.cells C 5 (C.size, C.size + 1))) :=
  Lib.run_convert_bytes_const (P := Tryz.prog) w 34 5 C n c Tryz.underlying34 Tryz.underlying5
end Go.Proofs.YtkjgpljkmhjclaaGreat
/- Lists of blobs: plain functions, and what holds of them. -/
namespace Go.Proofs.YtkjgpljkmhjclaaGreat
open Go.RowKit
/-- the error of a blob, of blobs behind the digest 'last', of a list of blobs -/
def bErr (b : Bl) : Int :=
  if cErr b.dg ≠ 0 then cErr b.dg else if 300 < b.dt.length then 1 else if dig b.dt ≠ b.dg then 9 else if b.pn < 0 ∨ 5 < b.pn then 4 else 0
def bTail (last : List UInt8) : List Bl → Int
  | [] => 0
  | b :: r => if bErr b ≠ 0 then bErr b else if nle b.dg last = true then 6 else bTail b.dg r
def bsErr (l : List Bl) : Int := if 24 < l.length then 1 else bTail [] l
/-- the place of a digest, or the length; the place where a digest belongs -/
def bAt (l : List Bl) (d : List UInt8) : Nat := l.findIdx fun b => b.dg == d
def bTo (l : List Bl) (d : List UInt8) : Nat := l.findIdx fun b => !Op.bytesLess b.dg d
/-- putting bytes: the error, the blobs, the digest -/
def bPut (l : List Bl) (b : List UInt8) : Int × List Bl × List UInt8 :=
  if bsErr l ≠ 0 then (bsErr l, [], []) else if 300 < b.length then (1, [], []) else if bAt l (dig b) < l.length then (0, l, dig b)
  else if 23 < l.length then (7, [], []) else (0, l.take (bTo l (dig b)) ++ ⟨dig b, b, 0, false⟩ :: l.drop (bTo l (dig b)), dig b)
/-- dropping: the error, the blobs -/
def bDrop (l : List Bl) (d : List UInt8) : Int × List Bl :=
  if bsErr l ≠ 0 then (bsErr l, []) else if h : bAt l d < l.length then (if 0 < l[bAt l d].pn then (10, []) else (0, l.eraseIdx (bAt l d))) else (5, [])
/-- a blob that may be; blobs in their order -/
def Bl.fine (b : Bl) : Prop := cErr b.dg = 0 ∧ b.dt.length ≤ 300 ∧ dig b.dt = b.dg ∧ 0 ≤ b.pn ∧ b.pn ≤ 5
def Srt (l : List Bl) : Prop := l.Pairwise fun a b => Op.bytesLess a.dg b.dg = true
theorem bErr_zero {b : Bl} : bErr b = 0 ↔ b.fine := by
  unfold bErr Bl.fine
  constructor
  · intro h
    split at h
    · rename_i q; exact absurd h q
    · rename_i q1
      split at h
      · omega
      · rename_i q2
        split at h
        · omega
        · rename_i q3
          split at h
          · omega
          · rename_i q4
            exact ⟨Classical.byContradiction q1, by omega, Classical.byContradiction q3, by omega, by omega⟩
  · rintro ⟨h1, h2, h3, h4, h5⟩
    rw [if_neg (by omega), if_neg (by omega), if_neg (by simpa using h3), if_neg (by omega)]
theorem bl_nil {a : List UInt8} (h : cErr a = 0) : Op.bytesLess [] a = true := by
  unfold cErr at h
  split at h
  · omega
  · rename_i q
    match a, q with
    | [], q => exact absurd (by simp) q
    | _ :: _, _ => rfl
theorem bTail_zero : ∀ (l : List Bl) (last : List UInt8), bTail last l = 0 ↔ (∀ b ∈ l, b.fine) ∧ Srt l ∧ ∀ b ∈ l, Op.bytesLess last b.dg = true
  | [], last => by simp [bTail, Srt]
  | b :: r, last => by
    rw [bTail]
    have ih := bTail_zero r b.dg
    constructor
    · intro h
      split at h
      · rename_i q; exact absurd h q
      · rename_i q1
        split at h
        · omega
        · rename_i q2
          obtain ⟨h1, h2, h3⟩ := ih.1 h
          have hb : b.fine := bErr_zero.1 (Classical.byContradiction q1)
          have hl : Op.bytesLess last b.dg = true := nle_false.1 (by simpa using q2)
          refine ⟨fun x hx => ?_, List.pairwise_cons.2 ⟨h3, h2⟩, fun x hx => ?_⟩
          · rcases List.mem_cons.1 hx with rfl | hx
            · exact hb
            · exact h1 x hx
          · rcases List.mem_cons.1 hx with rfl | hx
            · exact hl
            · exact bl_trans hl (h3 x hx)
    · rintro ⟨h1, h2, h3⟩
      obtain ⟨h4, h5⟩ := List.pairwise_cons.1 h2
      have hb := bErr_zero.2 (h1 b (List.mem_cons_self ..))
      rw [hb, if_neg (by omega), if_neg (by rw [nle_false.2 (h3 b (List.mem_cons_self ..))]; simp)]
      exact ih.2 ⟨fun x hx => h1 x (List.mem_cons_of_mem _ hx), h5, h4⟩
theorem bsErr_zero {l : List Bl} : bsErr l = 0 ↔ l.length ≤ 24 ∧ (∀ b ∈ l, b.fine) ∧ Srt l := by
  unfold bsErr
  constructor
  · intro h
    split at h
    · omega
    · rename_i q
      obtain ⟨h1, h2, _⟩ := (bTail_zero l []).1 h
      exact ⟨by omega, h1, h2⟩
  · rintro ⟨h1, h2, h3⟩
    rw [if_neg (by omega)]
    exact (bTail_zero l []).2 ⟨h2, h3, fun b hb => bl_nil (h2 b hb).1⟩
theorem bAt_le (l : List Bl) (d : List UInt8) : bAt l d ≤ l.length := List.findIdx_le_length
theorem bTo_le (l : List Bl) (d : List UInt8) : bTo l d ≤ l.length := List.findIdx_le_length
theorem bAt_there {l : List Bl} {d : List UInt8} (h : bAt l d < l.length) : l[bAt l d].dg = d := by
  have := List.findIdx_getElem (xs := l) (p := fun b : Bl => b.dg == d) (w := h)
  exact eq_of_beq this
theorem bAt_lt {l : List Bl} {d : List UInt8} : bAt l d < l.length ↔ ∃ b ∈ l, b.dg = d := by
  unfold bAt
  rw [List.findIdx_lt_length]
  simp
theorem Srt.inj {l : List Bl} (h : Srt l) {i j : Nat} (hi : i < l.length) (hj : j < l.length) (e : l[i].dg = l[j].dg) : i = j := by
  rcases Nat.lt_trichotomy i j with q | q | q
  · have := List.pairwise_iff_getElem.1 h i j hi hj q
    rw [e, bl_irrefl] at this
    cases this
  · exact q
  · have := List.pairwise_iff_getElem.1 h j i hj hi q
    rw [e, bl_irrefl] at this
    cases this
theorem bAt_of {l : List Bl} (h : Srt l) {i : Nat} (hi : i < l.length) : bAt l l[i].dg = i :=
  have hlt : bAt l l[i].dg < l.length := bAt_lt.2 ⟨l[i], List.getElem_mem hi, rfl⟩
  h.inj hlt hi (bAt_there hlt)
theorem bTo_front {l : List Bl} {d : List UInt8} {j : Nat} (hj : j < bTo l d) : Op.bytesLess (l[j]'(Nat.lt_of_lt_of_le hj (bTo_le l d))).dg d = true := by
  have := List.not_of_lt_findIdx (xs := l) (p := fun b : Bl => !Op.bytesLess b.dg d) hj
  simpa using this
theorem bTo_back {l : List Bl} (h : Srt l) {d : List UInt8} {j : Nat} (hj : j < l.length) (hk : bTo l d ≤ j) (hne : l[j].dg ≠ d) : Op.bytesLess d l[j].dg = true := by
  have hk2 : bTo l d < l.length := Nat.lt_of_le_of_lt hk hj
  have h0 : (!Op.bytesLess l[bTo l d].dg d) = true := List.findIdx_getElem (xs := l) (p := fun b : Bl => !Op.bytesLess b.dg d) (w := hk2)
  have h1 : Op.bytesLess l[bTo l d].dg d = false := by simpa using h0
  have h2 : Op.bytesLess l[j].dg d = false := by
    rcases Nat.lt_or_eq_of_le hk with q | q
    · rw [Bool.eq_false_iff]
      intro hh
      have := bl_trans (List.pairwise_iff_getElem.1 h _ _ hk2 hj q) hh
      rw [h1] at this
      cases this
    · have e : l[bTo l d] = l[j] := by congr 1
      rw [← e]; exact h1
  rcases bl_cases d l[j].dg with q | q | q
  · exact q
  · exact absurd q.symm hne
  · rw [h2] at q; cases q
/-- a list with a new thing at its place is in its order -/
theorem Srt.put {l : List Bl} (h : Srt l) (b : Bl) (hne : ∀ x ∈ l, x.dg ≠ b.dg) : Srt (l.take (bTo l b.dg) ++ b :: l.drop (bTo l b.dg)) := by
  unfold Srt
  rw [List.pairwise_append]
  refine ⟨List.Pairwise.sublist (List.take_sublist _ _) h, List.pairwise_cons.2 ⟨fun x hx => ?_, List.Pairwise.sublist (List.drop_sublist _ _) h⟩, fun a ha x hx => ?_⟩
  · obtain ⟨i, hi, rfl⟩ := List.mem_iff_getElem.1 hx
    rw [List.getElem_drop]
    rw [List.length_drop] at hi
    exact bTo_back h _ (by omega) (hne _ (List.getElem_mem _))
  · obtain ⟨i, hi, rfl⟩ := List.mem_iff_getElem.1 ha
    rw [List.length_take] at hi
    rw [List.getElem_take]
    have hf : Op.bytesLess (l[i]'(by omega)).dg b.dg = true := bTo_front (by omega)
    rcases List.mem_cons.1 hx with rfl | hx
    · exact hf
    · obtain ⟨j, hj, rfl⟩ := List.mem_iff_getElem.1 hx
      rw [List.getElem_drop]
      rw [List.length_drop] at hj
      exact bl_trans hf (bTo_back h _ (by omega) (hne _ (List.getElem_mem _)))
end Go.Proofs.YtkjgpljkmhjclaaGreat
/- Rows of the program's table: blobs and entries. -/
namespace Go.Proofs.YtkjgpljkmhjclaaGreat
open Go.RowKit
theorem blob_info : (Tryz.prog.info? 36).map (fun i => (i.zero, i.size, i.bytes)) = some (some (.agg #[.string ByteArray.empty, .slice none 0 0, .int .i64 0, .bool false]), 4, 56) := by kernel_rfl
theorem entry_info : (Tryz.prog.info? 48).map (fun i => (i.zero, i.size, i.bytes)) = some (some (.agg #[.string ByteArray.empty, .slice none 0 0, .int .i64 0, .int .i64 0]), 4, 56) := by kernel_rfl
theorem prt_info : (Tryz.prog.info? 50).map (fun i => (i.zero, i.size, i.bytes)) = some (some (.agg #[.string ByteArray.empty, .string ByteArray.empty, .int .i64 0]), 3, 40) := by kernel_rfl
end Go.Proofs.YtkjgpljkmhjclaaGreat
/- Two rows of the call's own side by side. Nothing of the program. -/
namespace Go.Proofs.YtkjgpljkmhjclaaGreat
open Go.RowKit
theorem own_slice {w : World} {base : Nat} {e : TypeId} {size n : Nat} {v : Value} {xs : List Value} (h : w.ownsRow base e size v n xs) : ∃ A c, v = .slice A n c := by
  rcases h.2 with ⟨q, rfl⟩ | ⟨g, cap, cur, q, _⟩
  · exact ⟨none, 0, q⟩
  · exact ⟨_, cap, q⟩
theorem own_rdK {w : World} {base : Nat} {e : TypeId} {size n : Nat} {v : Value} {xs : List Value} (h : w.ownsRow base e size v n xs) : ∃ A c, v = .slice A n c ∧ Rd w size A n c xs ∧ (A = none → c = 0) ∧ ∀ a : Addr, A = some a → base ≤ a.block ∧ a.block < w.heap.size := by
  rcases h.2 with ⟨q, rfl⟩ | ⟨g, cap, cur, q, q2, q3, q4, q5, q6⟩
  · subst q
    have hx : xs = [] := List.eq_nil_of_length_eq_zero (by have := h.1; simpa using this)
    subst hx
    exact ⟨none, 0, rfl, Rd.nil _ _, fun _ => rfl, fun a h => by cases h⟩
  · subst q
    refine ⟨_, cap, rfl, Rd.of_own h q5 q4, fun q => (by cases q), fun a q => ?_⟩
    cases q
    exact h.lt g rfl
section
variable {α η : Type} {K : Kin α η} {w w' : World} {base : Nat} {e : TypeId} {v v' : Value} {hs : List (α × η)}
/-- a row of the call's own, with where each thing's own slices lie -/
structure KH (K : Kin α η) (w : World) (base : Nat) (e : TypeId) (v : Value) (hs : List (α × η)) : Prop where
  row : w.ownsRow base e K.size v hs.length (K.all hs)
  deep : ∀ x ∈ hs, K.deep w x.1 x.2 ∧ ∀ k ∈ K.blocks x.2, base ≤ k ∧ k < w.heap.size ∧ v.ownBlock ≠ some k
/-- the blocks that it reaches -/
def reach (K : Kin α η) (v : Value) (hs : List (α × η)) (k : Nat) : Prop := v.ownBlock = some k ∨ ∃ x ∈ hs, k ∈ K.blocks x.2
theorem KH.own (h : KH K w base e v hs) : KOwn K w base e v (hs.map Prod.fst) := ⟨hs, rfl, by rw [List.length_map]; exact h.row, h.deep⟩
theorem KOwn.kh {l : List α} (h : KOwn K w base e v l) : ∃ hs : List (α × η), hs.map Prod.fst = l ∧ KH K w base e v hs := by
  obtain ⟨hs, rfl, h1, h2⟩ := h
  rw [List.length_map] at h1
  exact ⟨hs, rfl, h1, h2⟩
theorem KH.nil (K : Kin α η) (w : World) (base : Nat) (e : TypeId) : KH K w base e (.slice none 0 0) [] := ⟨World.ownsRow_nil _ _ _ _, fun _ h => by cases h⟩
theorem KH.ge (h : KH K w base e v hs) {k : Nat} (hk : reach K v hs k) : base ≤ k ∧ k < w.heap.size := by
  rcases hk with hk | ⟨x, hx, hk⟩
  · exact h.row.lt k hk
  · obtain ⟨h1, h2, _⟩ := (h.deep x hx).2 k hk
    exact ⟨h1, h2⟩
theorem KH.keep (h : KH K w base e v hs) (hz : w.heap.size ≤ w'.heap.size) (hk : ∀ k, reach K v hs k → w'.heap[k]? = w.heap[k]?) : KH K w' base e v hs := by
  have hrow : w'.ownsRow base e K.size v hs.length (K.all hs) := by
    refine ⟨h.row.1, ?_⟩
    rcases h.row.2 with q | ⟨g, cap, cur, hv, hB, hg, r⟩
    · exact .inl q
    · exact .inr ⟨g, cap, cur, hv, hB, by rw [hk g (.inl (by rw [hv]; rfl))]; exact hg, r⟩
  refine ⟨hrow, fun x hx => ⟨K.keep (h.deep x hx).1 fun k hb _ => hk k (.inr ⟨x, hx, hb⟩), fun k hb => ?_⟩⟩
  obtain ⟨h1, h2, h3⟩ := (h.deep x hx).2 k hb
  exact ⟨h1, Nat.lt_of_lt_of_le h2 hz, h3⟩
theorem KH.below (h : KH K w base e v hs) (hb : Below w.heap.size w w') : KH K w' base e v hs := h.keep hb.size fun k hk => hb.block k (h.ge hk).2
theorem KH.set (h : KH K w base e v hs) {g i : Nat} (hg : g < base) (u : Value) : KH K (w.setCell ⟨g, i, none⟩ u) base e v hs :=
  h.keep (by simp) fun k hk => Below.heap_setCell w ⟨g, i, none⟩ u k (by show k ≠ g; have := (h.ge hk).1; omega)
theorem KH.app (h : KH K w base e v hs) {m : List (α × η)} (hm : ∀ x ∈ m, K.deep w x.1 x.2 ∧ ∀ k ∈ K.blocks x.2, base ≤ k ∧ k < w.heap.size ∧ v.ownBlock ≠ some k)
    (ho : w'.ownsRow base e K.size v' (hs.length + m.length) (K.all hs ++ K.all m)) (hz : w.heap.size ≤ w'.heap.size)
    (hf : ∀ k, k < w.heap.size → v.ownBlock ≠ some k → v'.ownBlock ≠ some k ∧ w'.heap[k]? = w.heap[k]?) : KH K w' base e v' (hs ++ m) := by
  refine ⟨by rw [K.all_append, List.length_append]; exact ho, fun x hx => ?_⟩
  have hx' : K.deep w x.1 x.2 ∧ ∀ k ∈ K.blocks x.2, base ≤ k ∧ k < w.heap.size ∧ v.ownBlock ≠ some k := by
    rcases List.mem_append.1 hx with q | q
    · exact h.deep x q
    · exact hm x q
  refine ⟨K.keep hx'.1 fun k hk hlt => (hf k hlt (hx'.2 k hk).2.2).2, fun k hk => ?_⟩
  obtain ⟨q1, q2, q3⟩ := hx'.2 k hk
  exact ⟨q1, Nat.lt_of_lt_of_le q2 hz, (hf k q2 q3).1⟩
end
section
variable {α η α' η' : Type} {K : Kin α η} {K' : Kin α' η'} {w w' : World} {base : Nat} {e e' : TypeId} {v v' u : Value} {hs : List (α × η)} {hs' : List (α' × η')}
/-- two rows that do not meet -/
structure Two (K : Kin α η) (K' : Kin α' η') (w : World) (base : Nat) (e e' : TypeId) (v : Value) (hs : List (α × η)) (v' : Value) (hs' : List (α' × η')) : Prop where
  a : KH K w base e v hs
  b : KH K' w base e' v' hs'
  ab : ∀ k, reach K' v' hs' k → v.ownBlock ≠ some k
  ba : ∀ k, reach K v hs k → v'.ownBlock ≠ some k
theorem Two.swap (h : Two K K' w base e e' v hs v' hs') : Two K' K w base e' e v' hs' v hs := ⟨h.b, h.a, h.ba, h.ab⟩
theorem Two.nil (K : Kin α η) (K' : Kin α' η') (w : World) (base : Nat) (e e' : TypeId) : Two K K' w base e e' (.slice none 0 0) [] (.slice none 0 0) [] :=
  ⟨KH.nil _ _ _ _, KH.nil _ _ _ _, fun _ _ h => (by cases h), fun _ _ h => (by cases h)⟩
theorem Two.below (h : Two K K' w base e e' v hs v' hs') (hb : Below w.heap.size w w') : Two K K' w' base e e' v hs v' hs' := ⟨h.a.below hb, h.b.below hb, h.ab, h.ba⟩
theorem Two.set (h : Two K K' w base e e' v hs v' hs') {g i : Nat} (hg : g < base) (x : Value) : Two K K' (w.setCell ⟨g, i, none⟩ x) base e e' v hs v' hs' := ⟨h.a.set hg x, h.b.set hg x, h.ab, h.ba⟩
/-- behind an append to the first -/
theorem Two.app (h : Two K K' w base e e' v hs v' hs') {m : List (α × η)} (hm : ∀ x ∈ m, K.deep w x.1 x.2 ∧ ∀ k ∈ K.blocks x.2, base ≤ k ∧ k < w.heap.size ∧ v.ownBlock ≠ some k ∧ v'.ownBlock ≠ some k)
    (ho : w'.ownsRow base e K.size u (hs.length + m.length) (K.all hs ++ K.all m)) (hz : w.heap.size ≤ w'.heap.size)
    (hf : ∀ k, k < w.heap.size → v.ownBlock ≠ some k → u.ownBlock ≠ some k ∧ w'.heap[k]? = w.heap[k]?) : Two K K' w' base e e' u (hs ++ m) v' hs' := by
  refine ⟨h.a.app (fun x hx => ⟨(hm x hx).1, fun k hk => ⟨((hm x hx).2 k hk).1, ((hm x hx).2 k hk).2.1, ((hm x hx).2 k hk).2.2.1⟩⟩) ho hz hf, h.b.keep hz fun k hk => (hf k (h.b.ge hk).2 (h.ab k hk)).2, fun k hk => (hf k (h.b.ge hk).2 (h.ab k hk)).1, fun k hk q => ?_⟩
  rcases hk with hk | ⟨x, hx, hk⟩
  · have hr : reach K' v' hs' k := .inl q
    exact (hf k (h.b.ge hr).2 (h.ab k hr)).1 hk
  · rcases List.mem_append.1 hx with p | p
    · exact h.ba k (.inr ⟨x, p, hk⟩) q
    · exact ((hm x p).2 k hk).2.2.2 q
/-- behind a sort of the first -/
theorem Two.sort (h : Two K K' w base e e' v hs v' hs') {ms : List (α × η)} (hp : ms.Perm hs) (hk : KH K w' base e v ms) (hz : w.heap.size ≤ w'.heap.size) (hf : ∀ k, k < w.heap.size → v.ownBlock ≠ some k → w'.heap[k]? = w.heap[k]?) :
    Two K K' w' base e e' v ms v' hs' :=
  ⟨hk, h.b.keep hz fun k q => hf k (h.b.ge q).2 (h.ab k q), h.ab, fun k q => h.ba k (q.imp id fun ⟨x, hx, r⟩ => ⟨x, hp.mem_iff.1 hx, r⟩)⟩
end
end Go.Proofs.YtkjgpljkmhjclaaGreat

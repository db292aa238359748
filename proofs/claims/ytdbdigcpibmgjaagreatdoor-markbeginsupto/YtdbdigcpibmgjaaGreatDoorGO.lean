/- Texts that belong together: what the functions of the program and of the statements return. -/
import Derived.Test.YtdbdigcpibmgjaaGreatDoorGF
import Derived.Test.YtdbdigcpibmgjaaGreatDoorGB
import Derived.Test.YtdbdigcpibmgjaaGreatDoorRows
import Derived.Test.YtdbdigcpibmgjaaGreatDoorGX
import Derived.Test.YtdbdigcpibmgjaaGreatDoorGA
import Derived.Test.YtdbdigcpibmgjaaGreatDoorGA
import Derived.Lib.Bytes
import Derived.Test.YtdbdigcpibmgjaaGreatDoorGN
import Derived.Laws.CopyRow
import Derived.Laws.CopyOwn
import Derived.Deep.AppendSrc
/- A digest is 64 digits. -/
namespace Go.Proofs.YtdbdigcpibmgjaaGreatDoor
open Go.RowKit
theorem dig_hex (l : List UInt8) : (dig l).length = 64 ∧ (dig l).all isD = true := by
  exact ⟨dig_length l, hexT_isD _⟩
theorem cErr_dig (l : List UInt8) : cErr (dig l) = 0 := by
  obtain ⟨e1, e2⟩ := dig_hex l
  unfold cErr
  rw [if_neg (by omega), if_pos e2]
end Go.Proofs.YtdbdigcpibmgjaaGreatDoor
/- The bytes of the text AM1 as a row. -/
namespace Go.Proofs.YtdbdigcpibmgjaaGreatDoor
open Go.RowKit
theorem head_rd (w : World) : Rd (w.alloc (.cells #[.int .u8 65, .int .u8 77, .int .u8 49] 5 (3, 4))) 1 (some ⟨w.heap.size, 0, none⟩) 3 3 (([65, 77, 49] : List UInt8).map bv8) :=
  new_rd w 5 [65, 77, 49] (3, 4) (by unfold maxLen; simp)
theorem head_run (w : World) (C : Array Value) (n c : Nat) : (convert 43 43 (.slice (some ⟨w.heap.size, 0, none⟩) n c)).run Tryz.prog (w.alloc (.cells C 5)) = .ok (.slice (some ⟨w.heap.size, 0, none⟩) n c) (w.alloc (.cells C 5 (C.size, C.size + 1))) :=
  Lib.run_convert_bytes_const (P := Tryz.prog) w 43 5 C n c Tryz.underlying43 Tryz.underlying5
end Go.Proofs.YtdbdigcpibmgjaaGreatDoor
/- Lists of blobs: plain functions, and what holds of them. -/
namespace Go.Proofs.YtdbdigcpibmgjaaGreatDoor
open Go.RowKit
/-- the error of a blob, of blobs behind the digest 'last', of a list of blobs -/
def bErr (b : Bl) : Int :=
  if cErr b.dg ≠ 0 then cErr b.dg else if 300 < b.dt.length then 1 else if dig b.dt ≠ b.dg then 9 else if b.pn < 0 ∨ 5 < b.pn then 4 else 0
def bTail (last : List UInt8) : List Bl → Int
  | [] => 0
  | b :: r => if bErr b ≠ 0 then bErr b else if nle b.dg last = true then 6 else bTail b.dg r
def bsErr (l : List Bl) : Int := if 24 < l.length then 1 else bTail [] l
/-- the place of a digest, or the length; the place where a digest belongs -/
def bAt (l : List Bl) (d : List UInt8) : Nat := l.findIdx fun b => b.dg == d
def bTo (l : List Bl) (d : List UInt8) : Nat := l.findIdx fun b => !Op.bytesLess b.dg d
/-- putting bytes: the error, the blobs, the digest -/
def bPut (l : List Bl) (b : List UInt8) : Int × List Bl × List UInt8 :=
  if bsErr l ≠ 0 then (bsErr l, [], []) else if 300 < b.length then (1, [], []) else if bAt l (dig b) < l.length then (0, l, dig b)
  else if 23 < l.length then (7, [], []) else (0, l.take (bTo l (dig b)) ++ ⟨dig b, b, 0, false⟩ :: l.drop (bTo l (dig b)), dig b)
/-- dropping: the error, the blobs -/
def bDrop (l : List Bl) (d : List UInt8) : Int × List Bl :=
  if bsErr l ≠ 0 then (bsErr l, []) else if h : bAt l d < l.length then (if 0 < l[bAt l d].pn then (10, []) else (0, l.eraseIdx (bAt l d))) else (5, [])
/-- a blob that may be; blobs in their order -/
def Bl.fine (b : Bl) : Prop := cErr b.dg = 0 ∧ b.dt.length ≤ 300 ∧ dig b.dt = b.dg ∧ 0 ≤ b.pn ∧ b.pn ≤ 5
def Srt (l : List Bl) : Prop := l.Pairwise fun a b => Op.bytesLess a.dg b.dg = true
theorem bErr_zero {b : Bl} : bErr b = 0 ↔ b.fine := by
  unfold bErr Bl.fine
  constructor
  · intro h
    split at h
    · rename_i q; exact absurd h q
    · rename_i q1
      split at h
      · omega
      · rename_i q2
        split at h
        · omega
        · rename_i q3
          split at h
          · omega
          · rename_i q4
            exact ⟨Classical.byContradiction q1, by omega, Classical.byContradiction q3, by omega, by omega⟩
  · rintro ⟨h1, h2, h3, h4, h5⟩
    rw [if_neg (by omega), if_neg (by omega), if_neg (by simpa using h3), if_neg (by omega)]
theorem bl_nil {a : List UInt8} (h : cErr a = 0) : Op.bytesLess [] a = true := by
  unfold cErr at h
  split at h
  · omega
  · rename_i q
    match a, q with
    | [], q => exact absurd (by simp) q
    | _ :: _, _ => rfl
theorem bTail_zero : ∀ (l : List Bl) (last : List UInt8), bTail last l = 0 ↔ (∀ b ∈ l, b.fine) ∧ Srt l ∧ ∀ b ∈ l, Op.bytesLess last b.dg = true
  | [], last => by simp [bTail, Srt]
  | b :: r, last => by
    rw [bTail]
    have ih := bTail_zero r b.dg
    constructor
    · intro h
      split at h
      · rename_i q; exact absurd h q
      · rename_i q1
        split at h
        · omega
        · rename_i q2
          obtain ⟨h1, h2, h3⟩ := ih.1 h
          have hb : b.fine := bErr_zero.1 (Classical.byContradiction q1)
          have hl : Op.bytesLess last b.dg = true := nle_false.1 (by simpa using q2)
          refine ⟨fun x hx => ?_, List.pairwise_cons.2 ⟨h3, h2⟩, fun x hx => ?_⟩
          · rcases List.mem_cons.1 hx with rfl | hx
            · exact hb
            · exact h1 x hx
          · rcases List.mem_cons.1 hx with rfl | hx
            · exact hl
            · exact bl_trans hl (h3 x hx)
    · rintro ⟨h1, h2, h3⟩
      obtain ⟨h4, h5⟩ := List.pairwise_cons.1 h2
      have hb := bErr_zero.2 (h1 b (List.mem_cons_self ..))
      rw [hb, if_neg (by omega), if_neg (by rw [nle_false.2 (h3 b (List.mem_cons_self ..))]; simp)]
      exact ih.2 ⟨fun x hx => h1 x (List.mem_cons_of_mem _ hx), h5, h4⟩
theorem bsErr_zero {l : List Bl} : bsErr l = 0 ↔ l.length ≤ 24 ∧ (∀ b ∈ l, b.fine) ∧ Srt l := by
  unfold bsErr
  constructor
  · intro h
    split at h
    · omega
    · rename_i q
      obtain ⟨h1, h2, _⟩ := (bTail_zero l []).1 h
      exact ⟨by omega, h1, h2⟩
  · rintro ⟨h1, h2, h3⟩
    rw [if_neg (by omega)]
    exact (bTail_zero l []).2 ⟨h2, h3, fun b hb => bl_nil (h2 b hb).1⟩
theorem bAt_le (l : List Bl) (d : List UInt8) : bAt l d ≤ l.length := List.findIdx_le_length
theorem bTo_le (l : List Bl) (d : List UInt8) : bTo l d ≤ l.length := List.findIdx_le_length
theorem bAt_there {l : List Bl} {d : List UInt8} (h : bAt l d < l.length) : l[bAt l d].dg = d := by
  have := List.findIdx_getElem (xs := l) (p := fun b : Bl => b.dg == d) (w := h)
  exact eq_of_beq this
theorem bAt_lt {l : List Bl} {d : List UInt8} : bAt l d < l.length ↔ ∃ b ∈ l, b.dg = d := by
  unfold bAt
  rw [List.findIdx_lt_length]
  simp
theorem Srt.inj {l : List Bl} (h : Srt l) {i j : Nat} (hi : i < l.length) (hj : j < l.length) (e : l[i].dg = l[j].dg) : i = j := by
  rcases Nat.lt_trichotomy i j with q | q | q
  · have := List.pairwise_iff_getElem.1 h i j hi hj q
    rw [e, bl_irrefl] at this
    cases this
  · exact q
  · have := List.pairwise_iff_getElem.1 h j i hj hi q
    rw [e, bl_irrefl] at this
    cases this
theorem bAt_of {l : List Bl} (h : Srt l) {i : Nat} (hi : i < l.length) : bAt l l[i].dg = i :=
  have hlt : bAt l l[i].dg < l.length := bAt_lt.2 ⟨l[i], List.getElem_mem hi, rfl⟩
  h.inj hlt hi (bAt_there hlt)
theorem bTo_front {l : List Bl} {d : List UInt8} {j : Nat} (hj : j < bTo l d) : Op.bytesLess (l[j]'(Nat.lt_of_lt_of_le hj (bTo_le l d))).dg d = true := by
  have := List.not_of_lt_findIdx (xs := l) (p := fun b : Bl => !Op.bytesLess b.dg d) hj
  simpa using this
theorem bTo_back {l : List Bl} (h : Srt l) {d : List UInt8} {j : Nat} (hj : j < l.length) (hk : bTo l d ≤ j) (hne : l[j].dg ≠ d) : Op.bytesLess d l[j].dg = true := by
  have hk2 : bTo l d < l.length := Nat.lt_of_le_of_lt hk hj
  have h0 : (!Op.bytesLess l[bTo l d].dg d) = true := List.findIdx_getElem (xs := l) (p := fun b : Bl => !Op.bytesLess b.dg d) (w := hk2)
  have h1 : Op.bytesLess l[bTo l d].dg d = false := by simpa using h0
  have h2 : Op.bytesLess l[j].dg d = false := by
    rcases Nat.lt_or_eq_of_le hk with q | q
    · rw [Bool.eq_false_iff]
      intro hh
      have := bl_trans (List.pairwise_iff_getElem.1 h _ _ hk2 hj q) hh
      rw [h1] at this
      cases this
    · have e : l[bTo l d] = l[j] := by congr 1
      rw [← e]; exact h1
  rcases bl_cases d l[j].dg with q | q | q
  · exact q
  · exact absurd q.symm hne
  · rw [h2] at q; cases q
/-- a list with a new thing at its place is in its order -/
theorem Srt.put {l : List Bl} (h : Srt l) (b : Bl) (hne : ∀ x ∈ l, x.dg ≠ b.dg) : Srt (l.take (bTo l b.dg) ++ b :: l.drop (bTo l b.dg)) := by
  unfold Srt
  rw [List.pairwise_append]
  refine ⟨List.Pairwise.sublist (List.take_sublist _ _) h, List.pairwise_cons.2 ⟨fun x hx => ?_, List.Pairwise.sublist (List.drop_sublist _ _) h⟩, fun a ha x hx => ?_⟩
  · obtain ⟨i, hi, rfl⟩ := List.mem_iff_getElem.1 hx
    rw [List.getElem_drop]
    rw [List.length_drop] at hi
    exact bTo_back h _ (by omega) (hne _ (List.getElem_mem _))
  · obtain ⟨i, hi, rfl⟩ := List.mem_iff_getElem.1 ha
    rw [List.length_take] at hi
    rw [List.getElem_take]
    have hf : Op.bytesLess (l[i]'(by omega)).dg b.dg = true := bTo_front (by omega)
    rcases List.mem_cons.1 hx with rfl | hx
    · exact hf
    · obtain ⟨j, hj, rfl⟩ := List.mem_iff_getElem.1 hx
      rw [List.getElem_drop]
      rw [List.length_drop] at hj
      exact bl_trans hf (bTo_back h _ (by omega) (hne _ (List.getElem_mem _)))
end Go.Proofs.YtdbdigcpibmgjaaGreatDoor
/- Rows of the program's table: blobs and entries. -/
namespace Go.Proofs.YtdbdigcpibmgjaaGreatDoor
open Go.RowKit
theorem blob_info : (Tryz.prog.info? 45).map (fun i => (i.zero, i.size, i.bytes)) = some (some (.agg #[.string ByteArray.empty, .slice none 0 0, .int .i64 0, .bool false]), 4, 56) := by kernel_rfl
theorem prt_info : (Tryz.prog.info? 97).map (fun i => (i.zero, i.size, i.bytes)) = some (some (.agg #[.string ByteArray.empty, .string ByteArray.empty, .int .i64 0]), 3, 40) := by kernel_rfl
end Go.Proofs.YtdbdigcpibmgjaaGreatDoor
/- Rows of the program's table: entries. -/
namespace Go.Proofs.YtdbdigcpibmgjaaGreatDoor
open Go.RowKit
theorem entry_info : (Tryz.prog.info? 74).map (fun i => (i.zero, i.size, i.bytes)) = some (some (.agg #[.string ByteArray.empty, .slice none 0 0, .int .i64 0, .int .i64 0]), 4, 56) := by kernel_rfl
end Go.Proofs.YtdbdigcpibmgjaaGreatDoor
/- Two rows of the call's own side by side. Nothing of the program. -/
namespace Go.Proofs.YtdbdigcpibmgjaaGreatDoor
open Go.RowKit
theorem own_slice {w : World} {base : Nat} {e : TypeId} {size n : Nat} {v : Value} {xs : List Value} (h : w.ownsRow base e size v n xs) : ∃ A c, v = .slice A n c := by
  rcases h.2 with ⟨q, rfl⟩ | ⟨g, cap, cur, q, _⟩
  · exact ⟨none, 0, q⟩
  · exact ⟨_, cap, q⟩
theorem own_rdK {w : World} {base : Nat} {e : TypeId} {size n : Nat} {v : Value} {xs : List Value} (h : w.ownsRow base e size v n xs) : ∃ A c, v = .slice A n c ∧ Rd w size A n c xs ∧ (A = none → c = 0) ∧ ∀ a : Addr, A = some a → base ≤ a.block ∧ a.block < w.heap.size := by
  rcases h.2 with ⟨q, rfl⟩ | ⟨g, cap, cur, q, q2, q3, q4, q5, q6⟩
  · subst q
    have hx : xs = [] := List.eq_nil_of_length_eq_zero (by have := h.1; simpa using this)
    subst hx
    exact ⟨none, 0, rfl, Rd.nil _ _, fun _ => rfl, fun a h => by cases h⟩
  · subst q
    refine ⟨_, cap, rfl, Rd.of_own h q5 q4, fun q => (by cases q), fun a q => ?_⟩
    cases q
    exact h.lt g rfl
section
variable {α η : Type} {K : Kin α η} {w w' : World} {base : Nat} {e : TypeId} {v v' : Value} {hs : List (α × η)}
/-- a row of the call's own, with where each thing's own slices lie -/
structure KH (K : Kin α η) (w : World) (base : Nat) (e : TypeId) (v : Value) (hs : List (α × η)) : Prop where
  row : w.ownsRow base e K.size v hs.length (K.all hs)
  deep : ∀ x ∈ hs, K.deep w x.1 x.2 ∧ ∀ k ∈ K.blocks x.2, base ≤ k ∧ k < w.heap.size ∧ v.ownBlock ≠ some k
/-- the blocks that it reaches -/
def reach (K : Kin α η) (v : Value) (hs : List (α × η)) (k : Nat) : Prop := v.ownBlock = some k ∨ ∃ x ∈ hs, k ∈ K.blocks x.2
theorem KH.own (h : KH K w base e v hs) : KOwn K w base e v (hs.map Prod.fst) := ⟨hs, rfl, by rw [List.length_map]; exact h.row, h.deep⟩
theorem KOwn.kh {l : List α} (h : KOwn K w base e v l) : ∃ hs : List (α × η), hs.map Prod.fst = l ∧ KH K w base e v hs := by
  obtain ⟨hs, rfl, h1, h2⟩ := h
  rw [List.length_map] at h1
  exact ⟨hs, rfl, h1, h2⟩
theorem KH.nil (K : Kin α η) (w : World) (base : Nat) (e : TypeId) : KH K w base e (.slice none 0 0) [] := ⟨World.ownsRow_nil _ _ _ _, fun _ h => by cases h⟩
theorem KH.ge (h : KH K w base e v hs) {k : Nat} (hk : reach K v hs k) : base ≤ k ∧ k < w.heap.size := by
  rcases hk with hk | ⟨x, hx, hk⟩
  · exact h.row.lt k hk
  · obtain ⟨h1, h2, _⟩ := (h.deep x hx).2 k hk
    exact ⟨h1, h2⟩
theorem KH.keep (h : KH K w base e v hs) (hz : w.heap.size ≤ w'.heap.size) (hk : ∀ k, reach K v hs k → w'.heap[k]? = w.heap[k]?) : KH K w' base e v hs := by
  have hrow : w'.ownsRow base e K.size v hs.length (K.all hs) := by
    refine ⟨h.row.1, ?_⟩
    rcases h.row.2 with q | ⟨g, cap, cur, hv, hB, hg, r⟩
    · exact .inl q
    · exact .inr ⟨g, cap, cur, hv, hB, by rw [hk g (.inl (by rw [hv]; rfl))]; exact hg, r⟩
  refine ⟨hrow, fun x hx => ⟨K.keep (h.deep x hx).1 fun k hb _ => hk k (.inr ⟨x, hx, hb⟩), fun k hb => ?_⟩⟩
  obtain ⟨h1, h2, h3⟩ := (h.deep x hx).2 k hb
  exact ⟨h1, Nat.lt_of_lt_of_le h2 hz, h3⟩
theorem KH.below (h : KH K w base e v hs) (hb : Below w.heap.size w w') : KH K w' base e v hs := h.keep hb.size fun k hk => hb.block k (h.ge hk).2
theorem KH.set (h : KH K w base e v hs) {g i : Nat} (hg : g < base) (u : Value) : KH K (w.setCell ⟨g, i, none⟩ u) base e v hs :=
  h.keep (by simp) fun k hk => Below.heap_setCell w ⟨g, i, none⟩ u k (by show k ≠ g; have := (h.ge hk).1; omega)
theorem KH.app (h : KH K w base e v hs) {m : List (α × η)} (hm : ∀ x ∈ m, K.deep w x.1 x.2 ∧ ∀ k ∈ K.blocks x.2, base ≤ k ∧ k < w.heap.size ∧ v.ownBlock ≠ some k)
    (ho : w'.ownsRow base e K.size v' (hs.length + m.length) (K.all hs ++ K.all m)) (hz : w.heap.size ≤ w'.heap.size)
    (hf : ∀ k, k < w.heap.size → v.ownBlock ≠ some k → v'.ownBlock ≠ some k ∧ w'.heap[k]? = w.heap[k]?) : KH K w' base e v' (hs ++ m) := by
  refine ⟨by rw [K.all_append, List.length_append]; exact ho, fun x hx => ?_⟩
  have hx' : K.deep w x.1 x.2 ∧ ∀ k ∈ K.blocks x.2, base ≤ k ∧ k < w.heap.size ∧ v.ownBlock ≠ some k := by
    rcases List.mem_append.1 hx with q | q
    · exact h.deep x q
    · exact hm x q
  refine ⟨K.keep hx'.1 fun k hk hlt => (hf k hlt (hx'.2 k hk).2.2).2, fun k hk => ?_⟩
  obtain ⟨q1, q2, q3⟩ := hx'.2 k hk
  exact ⟨q1, Nat.lt_of_lt_of_le q2 hz, (hf k q2 q3).1⟩
end
section
variable {α η α' η' : Type} {K : Kin α η} {K' : Kin α' η'} {w w' : World} {base : Nat} {e e' : TypeId} {v v' u : Value} {hs : List (α × η)} {hs' : List (α' × η')}
/-- two rows that do not meet -/
structure Two (K : Kin α η) (K' : Kin α' η') (w : World) (base : Nat) (e e' : TypeId) (v : Value) (hs : List (α × η)) (v' : Value) (hs' : List (α' × η')) : Prop where
  a : KH K w base e v hs
  b : KH K' w base e' v' hs'
  ab : ∀ k, reach K' v' hs' k → v.ownBlock ≠ some k
  ba : ∀ k, reach K v hs k → v'.ownBlock ≠ some k
theorem Two.swap (h : Two K K' w base e e' v hs v' hs') : Two K' K w base e' e v' hs' v hs := ⟨h.b, h.a, h.ba, h.ab⟩
theorem Two.nil (K : Kin α η) (K' : Kin α' η') (w : World) (base : Nat) (e e' : TypeId) : Two K K' w base e e' (.slice none 0 0) [] (.slice none 0 0) [] :=
  ⟨KH.nil _ _ _ _, KH.nil _ _ _ _, fun _ _ h => (by cases h), fun _ _ h => (by cases h)⟩
theorem Two.below (h : Two K K' w base e e' v hs v' hs') (hb : Below w.heap.size w w') : Two K K' w' base e e' v hs v' hs' := ⟨h.a.below hb, h.b.below hb, h.ab, h.ba⟩
theorem Two.set (h : Two K K' w base e e' v hs v' hs') {g i : Nat} (hg : g < base) (x : Value) : Two K K' (w.setCell ⟨g, i, none⟩ x) base e e' v hs v' hs' := ⟨h.a.set hg x, h.b.set hg x, h.ab, h.ba⟩
/-- behind an append to the first -/
theorem Two.app (h : Two K K' w base e e' v hs v' hs') {m : List (α × η)} (hm : ∀ x ∈ m, K.deep w x.1 x.2 ∧ ∀ k ∈ K.blocks x.2, base ≤ k ∧ k < w.heap.size ∧ v.ownBlock ≠ some k ∧ v'.ownBlock ≠ some k)
    (ho : w'.ownsRow base e K.size u (hs.length + m.length) (K.all hs ++ K.all m)) (hz : w.heap.size ≤ w'.heap.size)
    (hf : ∀ k, k < w.heap.size → v.ownBlock ≠ some k → u.ownBlock ≠ some k ∧ w'.heap[k]? = w.heap[k]?) : Two K K' w' base e e' u (hs ++ m) v' hs' := by
  refine ⟨h.a.app (fun x hx => ⟨(hm x hx).1, fun k hk => ⟨((hm x hx).2 k hk).1, ((hm x hx).2 k hk).2.1, ((hm x hx).2 k hk).2.2.1⟩⟩) ho hz hf, h.b.keep hz fun k hk => (hf k (h.b.ge hk).2 (h.ab k hk)).2, fun k hk => (hf k (h.b.ge hk).2 (h.ab k hk)).1, fun k hk q => ?_⟩
  rcases hk with hk | ⟨x, hx, hk⟩
  · have hr : reach K' v' hs' k := .inl q
    exact (hf k (h.b.ge hr).2 (h.ab k hr)).1 hk
  · rcases List.mem_append.1 hx with p | p
    · exact h.ba k (.inr ⟨x, p, hk⟩) q
    · exact ((hm x p).2 k hk).2.2.2 q
/-- behind a sort of the first -/
theorem Two.sort (h : Two K K' w base e e' v hs v' hs') {ms : List (α × η)} (hp : ms.Perm hs) (hk : KH K w' base e v ms) (hz : w.heap.size ≤ w'.heap.size) (hf : ∀ k, k < w.heap.size → v.ownBlock ≠ some k → w'.heap[k]? = w.heap[k]?) :
    Two K K' w' base e e' v ms v' hs' :=
  ⟨hk, h.b.keep hz fun k q => hf k (h.b.ge q).2 (h.ab k q), h.ab, fun k q => h.ba k (q.imp id fun ⟨x, hx, r⟩ => ⟨x, hp.mem_iff.1 hx, r⟩)⟩
end
end Go.Proofs.YtdbdigcpibmgjaaGreatDoor
/- copy, append in place and clear in a block that is known whole, for things of several cells. Nothing of the program. -/
namespace Go.Proofs.YtdbdigcpibmgjaaGreatDoor
open Go.RowKit
theorem addr_addK (b off j : Nat) : (⟨b, off, none⟩ : Addr).add j = ⟨b, off + j, none⟩ := by unfold Addr.add; split <;> simp_all
/-- the cells of a row with ys laid at o -/
def lay (cur : List Value) (o : Nat) (ys : List Value) : List Value := cur.take o ++ ys ++ cur.drop (o + ys.length)
theorem lay_length (cur : List Value) (o : Nat) (ys : List Value) (h : o + ys.length ≤ cur.length) : (lay cur o ys).length = cur.length := by
  unfold lay; simp; omega
/-- in three pieces, the middle one exchanged -/
theorem lay_mid (a b c ys : List Value) (h : ys.length = b.length) : lay (a ++ b ++ c) a.length ys = a ++ ys ++ c := by
  unfold lay
  rw [List.append_assoc a b c, List.take_left' rfl, h, ← List.append_assoc a b c, List.drop_left' (by simp)]
theorem rd_src {P : Program} {w : World} {size m c : Nat} {A : Option Addr} {ys : List Value} {tx e : TypeId} (hk : P.underlying tx = some (.slice e)) (hr : Rd w size A m c ys) (hA : A = none → c = 0) (hy : ∀ y ∈ ys, y.oneCell' = true) : Src P size tx (.slice A m c) m ys w := by
  rcases A with _ | ad
  · have hd := hA rfl
    have hm : m = 0 := by have := hr.2.1; omega
    have hy0 : ys = [] := List.eq_nil_of_length_eq_zero (by rw [hr.1, hm, Nat.zero_mul])
    subst hy0; subst hm
    exact Src.ofNil w hk c
  · refine Src.ofSlice w hk ad m c ys hr.1 (fun j u hj => ?_) hy
    obtain ⟨b, off, h1, hc⟩ := hr.at hj
    injection h1 with h1
    subst h1
    rw [addr_addK]; exact hc
section
variable {P : Program}
theorem run_copyK {w : World} {dT sT ty elem : TypeId} {i : TypeInfo} (hu : P.underlying dT = some (.slice elem)) (hi : P.info? elem = some i) {size : Nat} (hsz : i.size = size) {g o dLen dCap m c : Nat} {A : Option Addr} {cur ys : List Value} {t : TypeId}
    (hg : Blk w g t cur) (hr : Rd w size A m c ys) (hm : 0 < ys.length) (hn : m ≤ dLen) (hfit : o + ys.length ≤ cur.length) (h1 : ∀ v ∈ ys, v.oneCell' = true) :
    (Builtin.copy_ #[dT, sT] ty #[.slice (some ⟨g, o, none⟩) dLen dCap, .slice A m c]).run P w = .ok (goInt m) (w.setRow g (lay cur o ys).toArray) := by
  obtain ⟨b, off, rfl, hc⟩ := hr.2.2.2 hm
  have hsrc : ∀ j v, ys[j]? = some v → w.cell? ((⟨b, off, none⟩ : Addr).add j) = some v := fun j v hv => by rw [addr_addK]; exact hc j v hv
  have hl := run_loadCells_list (P := P) w ⟨b, off, none⟩ ys hsrc
  have hst := run_storeCells_at P g o t ys 0 cur.toArray w hg (by simpa using hfit) h1
  have hmin : Nat.min m dLen = m := Nat.min_eq_left hn
  have hlen := hr.1
  subst hsz
  simp [Builtin.copy_, run_underlying hu, Builtin.lenOf, Builtin.firstCells, sizeOf, typeInfo, hi, hmin, ← hlen, hl, hst, lay]
theorem run_appendI {w : World} {t ty e : TypeId} {i : TypeInfo} (ht : P.underlying t = some (.slice e)) (hi : P.info? e = some i) {size : Nat} (hsz : i.size = size) {g n cap m c : Nat} {A : Option Addr} {cur ys : List Value} {te : TypeId}
    (hg : Blk w g te cur) (hr : Rd w size A m c ys) (hA : A = none → c = 0) (h1 : ∀ v ∈ ys, v.oneCell' = true) (hroom : n + m ≤ cap) (hfit : n * size + ys.length ≤ cur.length) :
    (Builtin.append_ #[t, t] ty #[.slice (some ⟨g, 0, none⟩) n cap, .slice A m c]).run P w = .ok (.slice (some ⟨g, 0, none⟩) (n + m) cap) (w.setRow g (lay cur (n * size) ys).toArray) := by
  have hs := rd_src (P := P) ht hr hA h1
  have hst := run_storeCells_at P g (n * size) te ys 0 cur.toArray w hg (by simpa using hfit) h1
  subst hsz
  simp [Builtin.append_, run_underlying ht, sizeOf, typeInfo, hi, hs.len, hroom, hs.cells, Addr.add_lit, hst, lay]
theorem run_clearK {w : World} {t ty e : TypeId} {i : TypeInfo} {z : Value} (ht : P.underlying t = some (.slice e)) (hi : P.info? e = some i) (hz : i.zero = some z) {g o n c : Nat} {cur : List Value} {te : TypeId}
    (hg : Blk w g te cur) (hn : 0 < n) (h1 : ∀ v ∈ (Builtin.zeroCells z.cells n).toList, v.oneCell' = true) (hfit : o + (Builtin.zeroCells z.cells n).toList.length ≤ cur.length) :
    (Builtin.clear_ #[t] ty #[.slice (some ⟨g, o, none⟩) n c]).run P w = .ok (.tuple #[]) (w.setRow g (lay cur o (Builtin.zeroCells z.cells n).toList).toArray) := by
  have hst := run_storeCells_at P g o te (Builtin.zeroCells z.cells n).toList 0 cur.toArray w hg (by simpa using hfit) h1
  obtain ⟨k, rfl⟩ : ∃ k, n = k + 1 := ⟨n - 1, by omega⟩
  simp [Builtin.clear_, run_underlying ht, zeroValue, typeInfo, hi, hz, hst, lay]
theorem wpList_copyK {ops : Array Oper} {rest : List Oper} {o : Oper} {a : Act} {Q : Exit → Act → World → Prop} (hgd : o.guard = none) (d s : Operand) (dT sT : TypeId)
    (ho : o.op = .call { callee := .builtin .copy, args := #[d, s], argTypes := #[dT, sT] }) {w : World} {elem : TypeId} {i : TypeInfo} (hu : P.underlying dT = some (.slice elem)) (hi : P.info? elem = some i) {size : Nat} (hsz : i.size = size) {g q dLen dCap m c : Nat} {A : Option Addr} {cur ys : List Value} {t : TypeId}
    (hd : a.eval d = .slice (some ⟨g, q, none⟩) dLen dCap) (hs : a.eval s = .slice A m c) (hg : Blk w g t cur) (hr : Rd w size A m c ys) (hm : 0 < ys.length) (hn : m ≤ dLen) (hfit : q + ys.length ≤ cur.length) (h1 : ∀ v ∈ ys, v.oneCell' = true)
    (h : ∀ w', w' = w.setRow g (lay cur q ys).toArray → wpList P ops Q rest (a.put o.dst (goInt m)) w') : wpList P ops Q (o :: rest) a w := by
  have hrun := run_copyK (P := P) (sT := sT) (ty := o.type) (dCap := dCap) hu hi hsz hg hr hm hn hfit h1
  refine wpList_plain hgd fun _ hK => ?_
  unfold Oper.wp execOp
  simp only [ho, resolve, invoke, builtin, Sem.run_bind, Sem.run_pure, Result.andThen_ok, List.map_toArray, List.map_cons, List.map_nil, hd, hs, hrun]
  exact hK _ _ (h _ rfl)
theorem step_copyK {ops : Array Oper} {o : Oper} {a : Act} {K : Act → World → Prop} {Q : Exit → Act → World → Prop} {E : Prop} (hgd : o.guard = none) (d s : Operand) (dT sT : TypeId)
    (ho : o.op = .call { callee := .builtin .copy, args := #[d, s], argTypes := #[dT, sT] }) {w : World} {elem : TypeId} {i : TypeInfo} (hu : P.underlying dT = some (.slice elem)) (hi : P.info? elem = some i) {size : Nat} (hsz : i.size = size) {g q dLen dCap m c : Nat} {A : Option Addr} {cur ys : List Value} {t : TypeId}
    (hd : a.eval d = .slice (some ⟨g, q, none⟩) dLen dCap) (hs : a.eval s = .slice A m c) (hg : Blk w g t cur) (hr : Rd w size A m c ys) (hm : 0 < ys.length) (hn : m ≤ dLen) (hfit : q + ys.length ≤ cur.length) (h1 : ∀ v ∈ ys, v.oneCell' = true)
    (h : ∀ w', w' = w.setRow g (lay cur q ys).toArray → K (a.put o.dst (goInt m)) w') : if Region.wanted o (yielded ops a.tmps) = true then o.wp P a w K Q else E := by
  have hw : Region.wanted o (yielded ops a.tmps) = true := by simp [Region.wanted, hgd]
  rw [if_pos hw]
  have hrun := run_copyK (P := P) (sT := sT) (ty := o.type) (dCap := dCap) hu hi hsz hg hr hm hn hfit h1
  unfold Oper.wp execOp
  simp only [ho, resolve, invoke, builtin, Sem.run_bind, Sem.run_pure, Result.andThen_ok, List.map_toArray, List.map_cons, List.map_nil, hd, hs, hrun]
  exact h _ rfl
theorem step_appendI {ops : Array Oper} {o : Oper} {a : Act} {K : Act → World → Prop} {Q : Exit → Act → World → Prop} {E : Prop} (hgd : o.guard = none) (s x : Operand) (t : TypeId)
    (ho : o.op = .call { callee := .builtin .append, args := #[s, x], argTypes := #[t, t] }) {w : World} {e : TypeId} {i : TypeInfo} (ht : P.underlying t = some (.slice e)) (hi : P.info? e = some i) {size : Nat} (hsz : i.size = size) {g n cap m c : Nat} {A : Option Addr} {cur ys : List Value} {te : TypeId}
    (hs : a.eval s = .slice (some ⟨g, 0, none⟩) n cap) (hx : a.eval x = .slice A m c) (hg : Blk w g te cur) (hr : Rd w size A m c ys) (hA : A = none → c = 0) (h1 : ∀ v ∈ ys, v.oneCell' = true) (hroom : n + m ≤ cap) (hfit : n * size + ys.length ≤ cur.length)
    (h : ∀ w', w' = w.setRow g (lay cur (n * size) ys).toArray → K (a.put o.dst (.slice (some ⟨g, 0, none⟩) (n + m) cap)) w') : if Region.wanted o (yielded ops a.tmps) = true then o.wp P a w K Q else E := by
  have hw : Region.wanted o (yielded ops a.tmps) = true := by simp [Region.wanted, hgd]
  rw [if_pos hw]
  have hrun := run_appendI (P := P) (ty := o.type) ht hi hsz hg hr hA h1 hroom hfit
  unfold Oper.wp execOp
  simp only [ho, resolve, invoke, builtin, Sem.run_bind, Sem.run_pure, Result.andThen_ok, List.map_toArray, List.map_cons, List.map_nil, hs, hx, hrun]
  exact h _ rfl
/-- append of zero things (a make that is appended) to a slice that leaves no room: a new row -/
theorem run_appendZ {t ti ty e : TypeId} {i : TypeInfo} {z : Value} (ht : P.underlying t = some (.slice e)) (hti : P.underlying ti = some (.int .i64)) (hi : P.info? e = some i) (hz : i.zero = some z) {size bytes : Nat} (hsz : i.size = size) (hby : i.bytes = bytes) (hzs : z.cells.size = size) (hpos : 0 < size)
    (w : World) {A : Option Addr} {n cap k : Nat} {xs : List Value} (hr : Rd w size A n cap xs) (hA : A = none → cap = 0) (hk : 1 ≤ k) (hfull : cap < n + k) (hsm : n + k ≤ 4096) (hsb : bytes ≤ 4096) :
    ∃ v' w', (Builtin.append_ #[t, ti] ty #[.slice A n cap, .int .i64 (k : Int)]).run P w = .ok v' w' ∧ w'.ownsRow w.heap.size e size v' (n + k) (xs ++ (Builtin.zeroCells z.cells k).toList) ∧ Below w.heap.size w w' := by
  have hn : ¬ (n + k ≤ cap) := by omega
  have hw : IntKind.i64.wrap (k : Int) = (k : Int) := by rw [IntKind.wrap_i64]; omega
  have h0 : ¬ ((k : Int) < 0) := by omega
  have hkb : k * bytes ≤ 4096 * 4096 := Nat.mul_le_mul (by omega) hsb
  have h48a : ¬ (281474976710656 < (k : Int) * (bytes : Int)) := by
    have : ((k * bytes : Nat) : Int) = (k : Int) * (bytes : Int) := Int.natCast_mul ..
    omega
  have h63 : ¬ (9223372036854775807 < ((n : Int) + (k : Int))) := by omega
  have hold : (Builtin.firstCells i.size n (.slice A n cap)).run P w.drew = .ok xs.toArray w.drew := by
    rcases A with _ | ad
    · have h0 := hA rfl
      have hn0 : n = 0 := by have := hr.2.1; omega
      have hx0 : xs = [] := List.eq_nil_of_length_eq_zero (by rw [hr.1, hn0, Nat.zero_mul])
      subst hx0; subst hn0
      simp [Builtin.firstCells]
    · rw [hsz]
      refine run_firstCells_some w.drew size n ad n cap xs hr.1 (fun j u hj => ?_)
      obtain ⟨b', off', e1, hc'⟩ := hr.at hj
      injection e1 with e1
      subst e1
      rw [addr_addK]; exact hc'
  have hfit : Builtin.nextslicecap (n + k) cap * i.bytes ≤ 281474976710656 := by
    rw [hby]
    have h1 := nextslicecap_le (need := n + k) (old := cap) (by omega)
    have h2 : Builtin.nextslicecap (n + k) cap * bytes ≤ 16777216 * 4096 := Nat.mul_le_mul (by omega) hsb
    omega
  have h48' : ¬ (281474976710656 < Builtin.nextslicecap (n + k) cap * i.bytes) := by omega
  have hks : ¬ (k * i.size = 0) := by have := Nat.mul_pos hk hpos; rw [hsz]; omega
  have hai : ∀ w : World, (asIntOf (.int .i64 (k : Int))).run P w = .ok (.i64, (k : Int)) w := fun _ => rfl
  have hge := grownCap_ge w (n + k) cap e
  have hle := grownCap_le_maxLen w (n + k) cap e (by unfold maxLen; omega)
  have hlen0 : (Builtin.zeroCells z.cells k).size = k * size := by simp [Builtin.zeroCells, hzs]
  have hlen : (xs ++ (Builtin.zeroCells z.cells k).toList).length = (n + k) * size := by rw [List.length_append, hr.1, Array.length_toList, hlen0, Nat.add_mul]
  refine ⟨.slice (some ⟨w.heap.size, 0, none⟩) (n + k) (grownCap w (n + k) cap e), w.drew.alloc (.cells (xs.toArray ++ Builtin.zeroCells z.cells k ++ Builtin.zeroCells z.cells (grownCap w (n + k) cap e - (n + k))) e), ?_, ⟨hlen, .inr ⟨w.heap.size, _, _, rfl, Nat.le_refl _, heap_alloc_new w.drew _, hge, hle, ?_, ?_⟩⟩, (Below.refl _ _).drew.alloc (Nat.le_refl _) _⟩
  · subst hby
    simp [Builtin.append_, run_underlying ht, run_underlying hti, sizeOf, typeInfo, zeroValue, hi, hz, asInt, hai, hw, h0, h48a, hn, h63, h48', Question.forced, hold, newRow, grownCap, hks]
  · have h2 : (Builtin.zeroCells z.cells (grownCap w (n + k) cap e - (n + k))).size = (grownCap w (n + k) cap e - (n + k)) * size := by simp [Builtin.zeroCells, hzs]
    rw [Array.size_append, Array.size_append, List.size_toArray, hlen0, h2, hr.1, ← Nat.add_mul, ← Nat.add_mul]
    congr 1
    omega
  · rw [← hlen, Array.toList_append, Array.toList_append, List.take_left' (by simp)]
theorem wpList_appendZ {ops : Array Oper} {rest : List Oper} {o : Oper} {a : Act} {Q : Exit → Act → World → Prop} (hgd : o.guard = none) (s x : Operand) (t ti : TypeId)
    (ho : o.op = .call { callee := .builtin .append, args := #[s, x], argTypes := #[t, ti] }) {e : TypeId} {i : TypeInfo} {z : Value} (ht : P.underlying t = some (.slice e)) (hti : P.underlying ti = some (.int .i64)) (hi : P.info? e = some i) (hz : i.zero = some z) {size bytes : Nat} (hsz : i.size = size) (hby : i.bytes = bytes) (hzs : z.cells.size = size) (hpos : 0 < size)
    {w : World} {A : Option Addr} {n cap k : Nat} {xs : List Value} (hs : a.eval s = .slice A n cap) (hx : a.eval x = .int .i64 (k : Int)) (hr : Rd w size A n cap xs) (hA : A = none → cap = 0) (hk : 1 ≤ k) (hfull : cap < n + k) (hsm : n + k ≤ 4096) (hsb : bytes ≤ 4096)
    (h : ∀ v' w', w'.ownsRow w.heap.size e size v' (n + k) (xs ++ (Builtin.zeroCells z.cells k).toList) ∧ Below w.heap.size w w' → wpList P ops Q rest (a.put o.dst v') w') : wpList P ops Q (o :: rest) a w := by
  obtain ⟨v', w', hrun, h2⟩ := run_appendZ (P := P) (ty := o.type) ht hti hi hz hsz hby hzs hpos w hr hA hk hfull hsm hsb
  refine wpList_plain hgd fun _ hK => ?_
  unfold Oper.wp execOp
  simp only [ho, resolve, invoke, builtin, Sem.run_bind, Sem.run_pure, Result.andThen_ok, List.map_toArray, List.map_cons, List.map_nil, hs, hx, hrun]
  exact hK _ _ (h v' w' h2)
theorem wpList_clearK {ops : Array Oper} {rest : List Oper} {o : Oper} {a : Act} {Q : Exit → Act → World → Prop} (hgd : o.guard = none) (s : Operand) (t : TypeId)
    (ho : o.op = .call { callee := .builtin .clear, args := #[s], argTypes := #[t] }) {w : World} {e : TypeId} {i : TypeInfo} {z : Value} (ht : P.underlying t = some (.slice e)) (hi : P.info? e = some i) (hz : i.zero = some z) {g q n c : Nat} {cur : List Value} {te : TypeId}
    (hs : a.eval s = .slice (some ⟨g, q, none⟩) n c) (hg : Blk w g te cur) (hn : 0 < n) (h1 : ∀ v ∈ (Builtin.zeroCells z.cells n).toList, v.oneCell' = true) (hfit : q + (Builtin.zeroCells z.cells n).toList.length ≤ cur.length)
    (h : ∀ w', w' = w.setRow g (lay cur q (Builtin.zeroCells z.cells n).toList).toArray → wpList P ops Q rest (a.put o.dst (.tuple #[])) w') : wpList P ops Q (o :: rest) a w := by
  have hrun := run_clearK (P := P) (ty := o.type) (c := c) ht hi hz hg hn h1 hfit
  refine wpList_plain hgd fun _ hK => ?_
  unfold Oper.wp execOp
  simp only [ho, resolve, invoke, builtin, Sem.run_bind, Sem.run_pure, Result.andThen_ok, List.map_toArray, List.map_cons, List.map_nil, hs, hrun]
  exact hK _ _ (h _ rfl)
end
theorem ins_lay (xa zs rest y xb : List Value) (i : Nat) (h1 : xa.length = i * 4) (hy : y.length = 4) (hz : zs.length = xb.length + 4) : lay (lay (xa ++ zs ++ rest) (i * 4) y) ((i + 1) * 4) xb = xa ++ y ++ xb ++ rest := by
  have e1 : lay (xa ++ zs ++ rest) (i * 4) y = (xa ++ y) ++ zs.drop 4 ++ rest := by
    have := lay_mid xa (zs.take 4) (zs.drop 4 ++ rest) y (by rw [List.length_take]; omega)
    rw [h1] at this
    rw [show xa ++ zs ++ rest = xa ++ zs.take 4 ++ (zs.drop 4 ++ rest) by rw [List.append_assoc xa (zs.take 4), ← List.append_assoc (zs.take 4), List.take_append_drop, List.append_assoc], this]
    simp
  rw [e1]
  have := lay_mid (xa ++ y) (zs.drop 4) rest xb (by rw [List.length_drop]; omega)
  rwa [List.length_append, h1, hy, show i * 4 + 4 = (i + 1) * 4 by omega] at this
theorem ins_prep {w3 : World} {B i K L M : Nat} {T : TypeId} {v : Value} {xa zs y xb : List Value} (ho : w3.ownsRow B T 4 v (i + K) (xa ++ zs)) (hz : zs.length = K * 4) (hM : i + K = M) (hLM : M = L + 1) (hi : i < L) (h1 : xa.length = i * 4) (hy : y.length = 4) (hb : xb.length = (L - i) * 4) :
    ∃ (g3 cap3 : Nat) (CUR : List Value), v = .slice (some ⟨g3, 0, none⟩) M cap3 ∧ B ≤ g3 ∧ Blk w3 g3 T CUR ∧ CUR.length = cap3 * 4 ∧ M ≤ cap3 ∧ cap3 ≤ 9223372036854775807 ∧ Hid (lay (lay CUR (i * 4) y) ((i + 1) * 4) xb = xa ++ y ++ xb ++ CUR.drop (M * 4)) := by
  subst hM
  rcases ho.2 with ⟨_, q⟩ | ⟨g3, cap3, cur3, rfl, hge3, hhp3, hle3, hmx3, hsz3, htk3⟩
  · omega
  have hcur : cur3.toList = xa ++ zs ++ cur3.toList.drop ((i + K) * 4) := by rw [← htk3, List.take_append_drop]
  refine ⟨g3, cap3, cur3.toList, rfl, hge3, by unfold Blk; simpa using hhp3, by rw [Array.length_toList]; exact hsz3, hle3, hmx3, ?_⟩
  show _ = _
  conv => lhs; rw [hcur]
  exact ins_lay xa zs _ _ xb i h1 hy (by rw [hz, hb]; omega)
/-- a guard for the walk: the next operation is a clear -/
theorem at_clear {P : Program} {w : World} {ops : Array Oper} {rest : List Oper} {dst : Option Tmp} {cl : Array Operand} {ty : TypeId} {ts : Array TypeId} {pos : String} {af : Array Edge} {gd : Option (Nat × Bool)} {a : Act} {Q : Exit → Act → World → Prop}
    (h : wpList P ops Q ({ dst := dst, op := .call { callee := .builtin .clear, args := cl, argTypes := ts }, type := ty, pos := pos, after := af, guard := gd } :: rest) a w) :
    wpList P ops Q ({ dst := dst, op := .call { callee := .builtin .clear, args := cl, argTypes := ts }, type := ty, pos := pos, after := af, guard := gd } :: rest) a w := h
end Go.Proofs.YtdbdigcpibmgjaaGreatDoor
/- A block that holds blobs, known whole. Nothing of the program. -/
namespace Go.Proofs.YtdbdigcpibmgjaaGreatDoor
open Go.RowKit
/-- no blob -/
def zb : Bl × Hd := (⟨[], [], 0, false⟩, ⟨none, 0, 0⟩)
theorem zb_deep (w : World) : kBl.deep w zb.1 zb.2 := ⟨Rd.nil _ _, fun _ => rfl⟩
theorem zb_blocks : kBl.blocks zb.2 = [] := rfl
theorem made_blobs (n : Nat) : madeCells #[.string ByteArray.empty, .slice none 0 0, .int .i64 0, .bool false] (n * 4) = (kBl.all (List.replicate n zb)).toArray := by
  apply Array.ext
  · rw [size_madeCells, List.size_toArray, kBl.all_length, List.length_replicate]; rfl
  · intro i h1 h2
    rw [size_madeCells] at h1
    obtain ⟨k, r, hr, rfl⟩ : ∃ k r, r < 4 ∧ i = k * 4 + r := ⟨i / 4, i % 4, by omega, by omega⟩
    have hk : k < (List.replicate n zb).length := by rw [List.length_replicate]; omega
    have ha := kBl.all_at (List.replicate n zb) k hk r hr
    rw [List.getElem_replicate] at ha
    have hm : (k * 4 + r) % 4 = r := by omega
    have hl : (madeCells #[.string ByteArray.empty, .slice none 0 0, .int .i64 0, .bool false] (n * 4))[k * 4 + r]? = some (#[Value.string ByteArray.empty, .slice none 0 0, .int .i64 0, .bool false][r]!) := by
      unfold madeCells
      rw [Array.getElem?_map, Array.getElem?_range, if_pos h1]
      show some (#[Value.string ByteArray.empty, .slice none 0 0, .int .i64 0, .bool false][(k * 4 + r) % 4]!) = _
      rw [hm]
    have hx : ((kBl.all (List.replicate n zb)).toArray)[k * 4 + r]? = some (#[Value.string ByteArray.empty, .slice none 0 0, .int .i64 0, .bool false][r]!) := by
      rw [List.getElem?_toArray]
      refine Eq.trans ha ?_
      match r, hr with
      | 0, _ => rfl
      | 1, _ => rfl
      | 2, _ => rfl
      | 3, _ => rfl
    rw [Array.getElem?_eq_getElem (by rw [size_madeCells]; exact h1)] at hl
    rw [Array.getElem?_eq_getElem h2] at hx
    injection hl with hl
    injection hx with hx
    rw [hl, hx]
theorem all_set4 : ∀ (l : List (Bl × Hd)) (k : Nat) (x : Bl × Hd), k < l.length → ((((kBl.all l).set (k * 4) (.string (str x.1.dg))).set (k * 4 + 1) (.slice x.2.A x.2.n x.2.c)).set (k * 4 + 2) (.int .i64 x.1.pn)).set (k * 4 + 3) (.bool x.1.mr) = kBl.all (l.set k x)
  | [], _, _, h => absurd h (by simp)
  | q :: r, 0, x, _ => rfl
  | q :: r, k + 1, x, h => by
    have := all_set4 r k x (by simpa using h)
    rw [List.set_cons_succ, Kin.all_cons, Kin.all_cons, ← this, show (k + 1) * 4 = k * 4 + 1 + 1 + 1 + 1 from by omega]
    show (((([_, _, _, _] ++ kBl.all r).set _ _).set _ _).set _ _).set _ _ = [_, _, _, _] ++ _
    simp
theorem zb_mid (acc : List (Bl × Hd)) (x : Bl × Hd) (n : Nat) (hn : 0 < n) : (acc ++ List.replicate n zb).set acc.length x = (acc ++ [x]) ++ List.replicate (n - 1) zb := by
  obtain ⟨m, rfl⟩ : ∃ m, n = m + 1 := ⟨n - 1, by omega⟩
  rw [List.set_append_right _ _ (Nat.le_refl _), Nat.sub_self, List.replicate_succ, List.set_cons_zero, List.append_assoc]
  rfl
/-- block g holds the blobs hs, and nothing else; what they reach lies elsewhere, at the base or above -/
structure KB (w : World) (base g : Nat) (t : TypeId) (hs : List (Bl × Hd)) : Prop where
  blk : Blk w g t (kBl.all hs)
  ge : base ≤ g
  deep : ∀ x ∈ hs, kBl.deep w x.1 x.2 ∧ ∀ k ∈ kBl.blocks x.2, base ≤ k ∧ k < w.heap.size ∧ k ≠ g
section
variable {w w' : World} {base g : Nat} {t : TypeId} {hs : List (Bl × Hd)}
theorem KB.below (h : KB w base g t hs) (hb : Below w.heap.size w w') : KB w' base g t hs :=
  ⟨h.blk.below hb h.blk.lt, h.ge, fun x hx => ⟨kBl.keep (h.deep x hx).1 fun k _ hk => hb.block k hk, fun k hk => by
    obtain ⟨h1, h2, h3⟩ := (h.deep x hx).2 k hk
    exact ⟨h1, Nat.lt_of_lt_of_le h2 hb.size, h3⟩⟩⟩
theorem KB.len4 (hs : List (Bl × Hd)) : (kBl.all hs).length = hs.length * 4 := kBl.all_length hs
theorem KB.kh (h : KB w base g t hs) (hm : hs.length ≤ maxLen) : KH kBl w base t (.slice (some ⟨g, 0, none⟩) hs.length hs.length) hs := by
  refine ⟨⟨kBl.all_length hs, .inr ⟨g, hs.length, (kBl.all hs).toArray, rfl, h.ge, h.blk, Nat.le_refl _, hm, by rw [List.size_toArray]; exact kBl.all_length hs, ?_⟩⟩, fun x hx => ⟨(h.deep x hx).1, fun k hk => ?_⟩⟩
  · rw [List.take_of_length_le (by rw [List.toList_toArray, kBl.all_length]; exact Nat.le_refl _)]
  · obtain ⟨h1, h2, h3⟩ := (h.deep x hx).2 k hk
    exact ⟨h1, h2, fun q => h3 (by injection q with q; exact q.symm)⟩
theorem KB.rd (h : KB w base g t hs) (hm : hs.length ≤ maxLen) : KRd kBl w (some ⟨g, 0, none⟩) hs.length hs.length (hs.map Prod.fst) := by
  refine ⟨hs, rfl, ?_, fun x hx => (h.deep x hx).1⟩
  have := h.blk.rd (size := 4) (n := hs.length) (c := hs.length) (Nat.le_refl _) hm (by rw [KB.len4]; exact Nat.le_refl _)
  rwa [List.take_of_length_le (by rw [KB.len4]; exact Nat.le_refl _)] at this
/-- the same block with other cells: what lies elsewhere is kept -/
theorem KB.row (h : KB w base g t hs) (ms : List (Bl × Hd)) (hms : ∀ x ∈ ms, kBl.deep w x.1 x.2 ∧ ∀ k ∈ kBl.blocks x.2, base ≤ k ∧ k < w.heap.size ∧ k ≠ g) : KB (w.setRow g (kBl.all ms).toArray) base g t ms := by
  have hz : (w.setRow g (kBl.all ms).toArray).heap.size = w.heap.size := by simp [World.setRow]
  refine ⟨setRow_heap w g _ _ t _ h.blk, h.ge, fun x hx => ⟨kBl.keep (hms x hx).1 fun k hk _ => setRow_other w g k _ ((hms x hx).2 k hk).2.2, fun k hk => ?_⟩⟩
  rw [hz]
  exact (hms x hx).2 k hk
theorem KB.put (h : KB w base g t hs) (k : Nat) (x : Bl × Hd) (hk : k < hs.length) (hx : kBl.deep w x.1 x.2 ∧ ∀ j ∈ kBl.blocks x.2, base ≤ j ∧ j < w.heap.size ∧ j ≠ g) :
    KB ((((w.setCell ⟨g, k * 4, none⟩ (.string (str x.1.dg))).setCell ⟨g, k * 4 + 1, none⟩ (.slice x.2.A x.2.n x.2.c)).setCell ⟨g, k * 4 + 2, none⟩ (.int .i64 x.1.pn)).setCell ⟨g, k * 4 + 3, none⟩ (.bool x.1.mr)) base g t (hs.set k x) := by
  have hb := (((h.blk.put (k * 4) (.string (str x.1.dg))).put (k * 4 + 1) (.slice x.2.A x.2.n x.2.c)).put (k * 4 + 2) (.int .i64 x.1.pn)).put (k * 4 + 3) (.bool x.1.mr)
  rw [all_set4 hs k x hk] at hb
  refine ⟨hb, h.ge, fun y hy => ?_⟩
  have hy' : kBl.deep w y.1 y.2 ∧ ∀ j ∈ kBl.blocks y.2, base ≤ j ∧ j < w.heap.size ∧ j ≠ g := by
    rcases List.mem_or_eq_of_mem_set hy with q | q
    · exact h.deep y q
    · subst q; exact hx
  refine ⟨kBl.keep hy'.1 fun j hj _ => ?_, fun j hj => ?_⟩
  · have hne : j ≠ g := (hy'.2 j hj).2.2
    rw [Below.heap_setCell _ ⟨g, k * 4 + 3, none⟩ _ j hne, Below.heap_setCell _ ⟨g, k * 4 + 2, none⟩ _ j hne, Below.heap_setCell _ ⟨g, k * 4 + 1, none⟩ _ j hne, Below.heap_setCell _ ⟨g, k * 4, none⟩ _ j hne]
  · simpa using hy'.2 j hj
end
end Go.Proofs.YtdbdigcpibmgjaaGreatDoor

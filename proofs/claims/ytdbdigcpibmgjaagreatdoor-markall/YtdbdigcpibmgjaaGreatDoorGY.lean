/- Texts that belong together: what the functions of the program and of the statements return. -/
import Derived.Test.YtdbdigcpibmgjaaGreatDoorGN
import Derived.Test.YtdbdigcpibmgjaaGreatDoorGX
import Derived.Test.YtdbdigcpibmgjaaGreatDoorGC
import Derived.Test.YtdbdigcpibmgjaaGreatDoorGB
import Derived.Test.YtdbdigcpibmgjaaGreatDoorGA
import Derived.Test.YtdbdigcpibmgjaaGreatDoorGO
import Derived.Test.YtdbdigcpibmgjaaGreatDoorGO
import Derived.Deep.RegionHeldLaw
import Derived.IntWalk
/- Lists of entries: plain functions, and what holds of them. Nothing of the program. -/
namespace Go.Proofs.YtdbdigcpibmgjaaGreatDoor
open Go.RowKit
/-- the error of an entry behind the key 'last', of entries, of a list of entries -/
def xOne (last : List UInt8) (x : En) : Int :=
  if cErr x.ky ≠ 0 then cErr x.ky else if nle x.ky last = true then 6 else if psErr x.ps ≠ 0 then psErr x.ps else if x.pn < 0 ∨ 5 < x.pn ∨ x.st < 0 ∨ 1099511627776 < x.st then 4 else 0
def xTail (last : List UInt8) : List En → Int
  | [] => 0
  | x :: r => if xOne last x ≠ 0 then xOne last x else xTail x.ky r
def xsErr (l : List En) : Int := if 10 < l.length then 1 else xTail [] l
theorem xTail_err {last : List UInt8} {x : En} {r : List En} {e : Int} (h : xOne last x = e) (hne : e ≠ 0) : xTail last (x :: r) = e := by rw [xTail, h, if_pos hne]
theorem xTail_go {last : List UInt8} {x : En} {r : List En} (h : xOne last x = 0) : xTail last (x :: r) = xTail x.ky r := by rw [xTail, h, if_neg (by omega)]
/-- the place of a key, or the length -/
def xAt (l : List En) (d : List UInt8) : Nat := l.findIdx fun b => b.ky == d
/-- dropping: the error, the entries -/
def xDrop (l : List En) (d : List UInt8) : Int × List En :=
  if xsErr l ≠ 0 then (xsErr l, []) else if h : xAt l d < l.length then (if 0 < l[xAt l d].pn then (10, []) else (0, l.eraseIdx (xAt l d))) else (5, [])
/-- an entry that may be; entries in their order -/
def En.fine (x : En) : Prop := cErr x.ky = 0 ∧ psErr x.ps = 0 ∧ 0 ≤ x.pn ∧ x.pn ≤ 5 ∧ 0 ≤ x.st ∧ x.st ≤ 1099511627776
def SrE (l : List En) : Prop := l.Pairwise fun a b => Op.bytesLess a.ky b.ky = true
theorem xOne_zero {last : List UInt8} {x : En} : xOne last x = 0 ↔ x.fine ∧ Op.bytesLess last x.ky = true := by
  unfold xOne En.fine
  constructor
  · intro h
    split at h
    · rename_i q; exact absurd h q
    · rename_i q1
      split at h
      · omega
      · rename_i q2
        split at h
        · rename_i q; exact absurd h q
        · rename_i q3
          split at h
          · omega
          · rename_i q4
            exact ⟨⟨Classical.byContradiction q1, Classical.byContradiction q3, by omega, by omega, by omega, by omega⟩, nle_false.1 (by simpa using q2)⟩
  · rintro ⟨⟨h1, h2, h3, h4, h5, h6⟩, h7⟩
    rw [if_neg (by omega), if_neg (by rw [nle_false.2 h7]; simp), if_neg (by omega), if_neg (by omega)]
theorem xTail_zero : ∀ (l : List En) (last : List UInt8), xTail last l = 0 ↔ (∀ b ∈ l, b.fine) ∧ SrE l ∧ ∀ b ∈ l, Op.bytesLess last b.ky = true
  | [], last => by simp [xTail, SrE]
  | b :: r, last => by
    rw [xTail]
    have ih := xTail_zero r b.ky
    constructor
    · intro h
      split at h
      · rename_i q; exact absurd h q
      · rename_i q1
        obtain ⟨hb, hl⟩ := xOne_zero.1 (Classical.byContradiction q1)
        obtain ⟨h1, h2, h3⟩ := ih.1 h
        refine ⟨fun x hx => ?_, List.pairwise_cons.2 ⟨h3, h2⟩, fun x hx => ?_⟩
        · rcases List.mem_cons.1 hx with rfl | hx
          · exact hb
          · exact h1 x hx
        · rcases List.mem_cons.1 hx with rfl | hx
          · exact hl
          · exact bl_trans hl (h3 x hx)
    · rintro ⟨h1, h2, h3⟩
      obtain ⟨h4, h5⟩ := List.pairwise_cons.1 h2
      have hb := xOne_zero.2 ⟨h1 b (List.mem_cons_self ..), h3 b (List.mem_cons_self ..)⟩
      rw [hb, if_neg (by omega)]
      exact ih.2 ⟨fun x hx => h1 x (List.mem_cons_of_mem _ hx), h5, h4⟩
theorem key_nil {a : List UInt8} (h : cErr a = 0) : Op.bytesLess [] a = true := by
  unfold cErr at h
  split at h
  · omega
  · rename_i q
    match a, q with
    | [], q => exact absurd (by simp) q
    | _ :: _, _ => rfl
theorem xsErr_zero {l : List En} : xsErr l = 0 ↔ l.length ≤ 10 ∧ (∀ b ∈ l, b.fine) ∧ SrE l := by
  unfold xsErr
  constructor
  · intro h
    split at h
    · omega
    · rename_i q
      obtain ⟨h1, h2, _⟩ := (xTail_zero l []).1 h
      exact ⟨by omega, h1, h2⟩
  · rintro ⟨h1, h2, h3⟩
    rw [if_neg (by omega)]
    exact (xTail_zero l []).2 ⟨h2, h3, fun b hb => key_nil (h2 b hb).1⟩
theorem xAt_le (l : List En) (d : List UInt8) : xAt l d ≤ l.length := List.findIdx_le_length
theorem xAt_there {l : List En} {d : List UInt8} (h : xAt l d < l.length) : l[xAt l d].ky = d := by
  have := List.findIdx_getElem (xs := l) (p := fun b : En => b.ky == d) (w := h)
  exact eq_of_beq this
end Go.Proofs.YtdbdigcpibmgjaaGreatDoor
/- Putting an entry among entries: plain functions, and what holds of them. Nothing of the program. -/
namespace Go.Proofs.YtdbdigcpibmgjaaGreatDoor
open Go.RowKit
/-- an entry with the holders of another -/
def En.held (x y : En) : En := { x with pn := y.pn }
/-- the rest of the row that a put makes of the entries l, the new one x not yet, or already, laid -/
def xIns : Bool → En → List En → List En
  | false, x, [] => [x]
  | true, _, [] => []
  | false, x, y :: r => if nle x.ky y.ky = true then (if y.ky = x.ky then x.held y :: xIns true (x.held y) r else x :: y :: xIns true x r) else y :: xIns false x r
  | true, x, y :: r => if y.ky = x.ky then xIns true x r else y :: xIns true x r
/-- putting: the error, the entries -/
def xPut (l : List En) (x : En) : Int × List En :=
  if xsErr l ≠ 0 then (xsErr l, []) else if xsErr (xIns false x l) ≠ 0 then (xsErr (xIns false x l), []) else (0, xIns false x l)
theorem xIns_true_nil {x : En} {l : List En} (h : ∀ y ∈ l, y.ky ≠ x.ky) : xIns true x l = l := by
  induction l with
  | nil => rfl
  | cons y r ih =>
    rw [xIns, if_neg (h y (List.mem_cons_self ..)), ih fun z hz => h z (List.mem_cons_of_mem _ hz)]
/-- the place where a key belongs -/
def xTo (l : List En) (d : List UInt8) : Nat := l.findIdx fun b => !Op.bytesLess b.ky d
theorem xTo_le (l : List En) (d : List UInt8) : xTo l d ≤ l.length := List.findIdx_le_length
theorem xTo_cons (y : En) (r : List En) (d : List UInt8) : xTo (y :: r) d = if Op.bytesLess y.ky d = true then xTo r d + 1 else 0 := by
  unfold xTo
  rw [List.findIdx_cons]
  cases Op.bytesLess y.ky d <;> rfl
/-- in order, and the key not there: the new one at its place -/
theorem xIns_new {x : En} : ∀ {l : List En}, SrE l → (∀ y ∈ l, y.ky ≠ x.ky) → xIns false x l = l.take (xTo l x.ky) ++ x :: l.drop (xTo l x.ky)
  | [], _, _ => by simp [xIns, xTo]
  | y :: r, hs, hn => by
    have hy := hn y (List.mem_cons_self ..)
    have hr : ∀ z ∈ r, z.ky ≠ x.ky := fun z hz => hn z (List.mem_cons_of_mem _ hz)
    obtain ⟨h1, h2⟩ := List.pairwise_cons.1 hs
    rw [xTo_cons]
    by_cases hb : Op.bytesLess y.ky x.ky = true
    · have hnle : ¬ nle x.ky y.ky = true := fun q => by
        rcases Bool.or_eq_true _ _ |>.mp q with q | q
        · have := bl_trans hb q; rw [bl_irrefl] at this; cases this
        · exact hy (eq_of_beq q).symm
      rw [if_pos hb, xIns, if_neg hnle, xIns_new h2 hr]
      rfl
    · have hle : nle x.ky y.ky = true := by
        rcases bl_cases x.ky y.ky with q | q | q
        · unfold nle; rw [q]; rfl
        · exact absurd q.symm hy
        · exact absurd q hb
      rw [if_neg hb, xIns, if_pos hle, if_neg hy, xIns_true_nil hr]
      rfl
/-- in order, and the key there: the new one in its place, held as the old one was -/
theorem xIns_there {x : En} : ∀ {l : List En} {k : Nat} (_ : SrE l) (hk : k < l.length), l[k].ky = x.ky → xIns false x l = l.set k (x.held l[k])
  | [], _, _, hk, _ => absurd hk (by simp)
  | y :: r, 0, hs, _, he => by
    obtain ⟨h1, h2⟩ := List.pairwise_cons.1 hs
    have he' : y.ky = x.ky := he
    have hle : nle x.ky y.ky = true := by unfold nle; rw [he']; simp
    have hr : ∀ z ∈ r, z.ky ≠ (x.held y).ky := fun z hz q => by
      have := h1 z hz
      rw [he', show z.ky = x.ky from q, bl_irrefl] at this
      cases this
    rw [xIns, if_pos hle, if_pos he', xIns_true_nil hr]
    rfl
  | y :: r, k + 1, hs, hk, he => by
    obtain ⟨h1, h2⟩ := List.pairwise_cons.1 hs
    have hk' : k < r.length := by simpa using hk
    have he' : r[k].ky = x.ky := by simpa using he
    have hlt : Op.bytesLess y.ky x.ky = true := by rw [← he']; exact h1 _ (List.getElem_mem hk')
    have hnle : ¬ nle x.ky y.ky = true := fun q => by
      rcases Bool.or_eq_true _ _ |>.mp q with q | q
      · have := bl_trans hlt q; rw [bl_irrefl] at this; cases this
      · rw [eq_of_beq q, bl_irrefl] at hlt; cases hlt
    rw [xIns, if_neg hnle, xIns_there h2 hk' he']
    simp
/-- entries that are new and an error -/
def GivesEs (l : List En) (err : Int) (w : World) (e : Ending) (w' : World) : Prop :=
  ∃ A n c, e = .returned (.tuple #[.slice A n c, .int .i64 err]) ∧ KNew kEn w' w.heap.size A n c l ∧ Below w.heap.size w w'
theorem givesEs_nil {w w' : World} {err : Int} {e : Ending} (h : e = .returned (.tuple #[.slice none 0 0, .int .i64 err])) (hb : Below w.heap.size w w') : GivesEs [] err w e w' :=
  ⟨none, 0, 0, h, KNew.nil _ _, hb⟩
end Go.Proofs.YtdbdigcpibmgjaaGreatDoor
/- Entries in their order: putting one, finding, dropping: plain facts. Nothing of the program. -/
namespace Go.Proofs.YtdbdigcpibmgjaaGreatDoor
open Go.RowKit
theorem SrE.inj {l : List En} (h : SrE l) {i j : Nat} (hi : i < l.length) (hj : j < l.length) (e : l[i].ky = l[j].ky) : i = j := by
  rcases Nat.lt_trichotomy i j with q | q | q
  · have := List.pairwise_iff_getElem.1 h i j hi hj q
    rw [e, bl_irrefl] at this
    cases this
  · exact q
  · have := List.pairwise_iff_getElem.1 h j i hj hi q
    rw [e, bl_irrefl] at this
    cases this
theorem xAt_lt {l : List En} {d : List UInt8} : xAt l d < l.length ↔ ∃ b ∈ l, b.ky = d := by
  unfold xAt
  rw [List.findIdx_lt_length]
  simp
theorem xAt_of {l : List En} (h : SrE l) {i : Nat} (hi : i < l.length) : xAt l l[i].ky = i :=
  have hlt : xAt l l[i].ky < l.length := xAt_lt.2 ⟨l[i], List.getElem_mem hi, rfl⟩
  h.inj hlt hi (xAt_there hlt)
/-- a thing that is there is found by its key -/
theorem xAt_mem {l : List En} (h : SrE l) {x : En} (hx : x ∈ l) : ∃ hk : xAt l x.ky < l.length, l[xAt l x.ky] = x := by
  obtain ⟨i, hi, rfl⟩ := List.mem_iff_getElem.1 hx
  have e := xAt_of h hi
  refine ⟨by rw [e]; exact hi, ?_⟩
  congr 1
theorem xTo_front {l : List En} {d : List UInt8} {j : Nat} (hj : j < xTo l d) : Op.bytesLess (l[j]'(Nat.lt_of_lt_of_le hj (xTo_le l d))).ky d = true := by
  have := List.not_of_lt_findIdx (xs := l) (p := fun b : En => !Op.bytesLess b.ky d) hj
  simpa using this
theorem xTo_back {l : List En} (h : SrE l) {d : List UInt8} {j : Nat} (hj : j < l.length) (hk : xTo l d ≤ j) (hne : l[j].ky ≠ d) : Op.bytesLess d l[j].ky = true := by
  have hk2 : xTo l d < l.length := Nat.lt_of_le_of_lt hk hj
  have h0 : (!Op.bytesLess l[xTo l d].ky d) = true := List.findIdx_getElem (xs := l) (p := fun b : En => !Op.bytesLess b.ky d) (w := hk2)
  have h1 : Op.bytesLess l[xTo l d].ky d = false := by simpa using h0
  have h2 : Op.bytesLess l[j].ky d = false := by
    rcases Nat.lt_or_eq_of_le hk with q | q
    · rw [Bool.eq_false_iff]
      intro hh
      have := bl_trans (List.pairwise_iff_getElem.1 h _ _ hk2 hj q) hh
      rw [h1] at this
      cases this
    · have e : l[xTo l d] = l[j] := by congr 1
      rw [← e]; exact h1
  rcases bl_cases d l[j].ky with q | q | q
  · exact q
  · exact absurd q.symm hne
  · rw [h2] at q; cases q
/-- finding a key: the error, the place -/
def xFErr (l : List En) (d : List UInt8) : Int := if xAt l d < l.length then 0 else 5
def xFAt (l : List En) (d : List UInt8) : Nat := if xAt l d < l.length then xAt l d else 0
/-- entries with a new one at its place -/
def xNew (l : List En) (x : En) : List En := l.take (xTo l x.ky) ++ x :: l.drop (xTo l x.ky)
theorem SrE.put {l : List En} (h : SrE l) (b : En) (hne : ∀ x ∈ l, x.ky ≠ b.ky) : SrE (xNew l b) := by
  unfold SrE xNew
  rw [List.pairwise_append]
  refine ⟨List.Pairwise.sublist (List.take_sublist _ _) h, List.pairwise_cons.2 ⟨fun x hx => ?_, List.Pairwise.sublist (List.drop_sublist _ _) h⟩, fun a ha x hx => ?_⟩
  · obtain ⟨i, hi, rfl⟩ := List.mem_iff_getElem.1 hx
    rw [List.getElem_drop]
    rw [List.length_drop] at hi
    exact xTo_back h _ (by omega) (hne _ (List.getElem_mem _))
  · obtain ⟨i, hi, rfl⟩ := List.mem_iff_getElem.1 ha
    rw [List.length_take] at hi
    rw [List.getElem_take]
    have hf : Op.bytesLess (l[i]'(by omega)).ky b.ky = true := xTo_front (by omega)
    rcases List.mem_cons.1 hx with rfl | hx
    · exact hf
    · obtain ⟨j, hj, rfl⟩ := List.mem_iff_getElem.1 hx
      rw [List.getElem_drop]
      rw [List.length_drop] at hj
      exact bl_trans hf (xTo_back h _ (by omega) (hne _ (List.getElem_mem _)))
theorem xNew_mem {l : List En} {x y : En} : y ∈ xNew l x ↔ y = x ∨ y ∈ l := by
  unfold xNew
  rw [List.mem_append, List.mem_cons]
  constructor
  · rintro (h | rfl | h)
    · exact .inr (List.mem_of_mem_take h)
    · exact .inl rfl
    · exact .inr (List.mem_of_mem_drop h)
  · rintro (rfl | h)
    · exact .inr (.inl rfl)
    · rw [← List.take_append_drop (xTo l x.ky) l] at h
      rcases List.mem_append.1 h with h | h
      · exact .inl h
      · exact .inr (.inr h)
theorem xNew_length (l : List En) (x : En) : (xNew l x).length = l.length + 1 := by
  have := xTo_le l x.ky
  unfold xNew; simp; omega
theorem xNew_erase (l : List En) (x : En) : (xNew l x).eraseIdx (xTo l x.ky) = l := by
  have hl := xTo_le l x.ky
  have e : (l.take (xTo l x.ky)).length = xTo l x.ky := by rw [List.length_take]; omega
  unfold xNew
  rw [List.eraseIdx_append_of_length_le (by omega), e, Nat.sub_self, List.eraseIdx_cons_zero, List.take_append_drop]
theorem xNew_at (l : List En) (x : En) (h : xTo l x.ky < (xNew l x).length) : (xNew l x)[xTo l x.ky] = x := by
  have hl := xTo_le l x.ky
  have e : (l.take (xTo l x.ky)).length = xTo l x.ky := by rw [List.length_take]; omega
  have h1 : (xNew l x)[xTo l x.ky]? = some x := by
    unfold xNew
    rw [List.getElem?_append_right (by omega), e, Nat.sub_self]
    rfl
  rw [List.getElem?_eq_getElem h] at h1
  injection h1
/-- entries with one put in the place of another of its key -/
theorem SrE.set {l : List En} (h : SrE l) {k : Nat} (hk : k < l.length) {x : En} (hx : x.ky = l[k].ky) : SrE (l.set k x) := by
  unfold SrE
  rw [List.pairwise_iff_getElem]
  intro i j hi hj hij
  rw [List.length_set] at hi hj
  have := List.pairwise_iff_getElem.1 h i j hi hj hij
  rw [List.getElem_set, List.getElem_set]
  split
  · rename_i q; subst q
    rw [if_neg (by omega), hx]; exact this
  · split
    · rename_i q; subst q
      rw [hx]; exact this
    · exact this
/-- what is there behind a put of an entry that may be: entries that may be, the new one found, the others as they were -/
structure XPut (l : List En) (x : En) (m : List En) : Prop where
  put : xPut l x = (0, m)
  err : xsErr m = 0
  srt : SrE m
  fine : ∀ e ∈ m, e.fine
  own : ∃ k, ∃ h : k < m.length, xAt m x.ky = k ∧ m[k].st = x.st ∧ m[k].ps = x.ps
  all : ∀ y ∈ l, ∃ k, ∃ h : k < m.length, xAt m y.ky = k ∧ m[k].pn = y.pn ∧ (y.ky ≠ x.ky → m[k] = y)
  key : ∀ e ∈ m, e.ky = x.ky ∨ e ∈ l
theorem xPut_ok {l : List En} {x : En} (h0 : xsErr l = 0) (hl : l.length ≤ 9) (hx : x.fine) : ∃ m, XPut l x m := by
  obtain ⟨-, hf, hs⟩ := xsErr_zero.1 h0
  by_cases ht : xAt l x.ky < l.length
  · obtain ⟨k, hk⟩ : ∃ k, xAt l x.ky = k := ⟨_, rfl⟩
    rw [hk] at ht
    have hky : l[k].ky = x.ky := by
      have := xAt_there (l := l) (d := x.ky) (by rw [hk]; exact ht)
      have e : l[xAt l x.ky]'(by rw [hk]; exact ht) = l[k] := by congr 1
      rw [e] at this; exact this
    have hi := xIns_there (x := x) hs ht hky
    have hold := hf l[k] (List.getElem_mem ht)
    have hxf : (x.held l[k]).fine := ⟨hx.1, hx.2.1, hold.2.2.1, hold.2.2.2.1, hx.2.2.2.2.1, hx.2.2.2.2.2⟩
    have hms : SrE (l.set k (x.held l[k])) := hs.set ht hky.symm
    have hmf : ∀ e ∈ l.set k (x.held l[k]), e.fine := fun e he => by
      rcases List.mem_or_eq_of_mem_set he with q | rfl
      · exact hf e q
      · exact hxf
    have hme : xsErr (l.set k (x.held l[k])) = 0 := xsErr_zero.2 ⟨by rw [List.length_set]; omega, hmf, hms⟩
    have hkm : k < (l.set k (x.held l[k])).length := by rw [List.length_set]; exact ht
    have hat : xAt (l.set k (x.held l[k])) x.ky = k := by
      have := xAt_of hms hkm
      rw [List.getElem_set_self] at this
      exact this
    refine ⟨_, ?_, hme, hms, hmf, ⟨k, hkm, hat, by rw [List.getElem_set_self]; rfl, by rw [List.getElem_set_self]; rfl⟩, fun y hy => ?_, fun e he => ?_⟩
    · unfold xPut
      rw [if_neg (by omega), hi, if_neg (by omega)]
    · obtain ⟨j, hj, rfl⟩ := List.mem_iff_getElem.1 hy
      by_cases hjk : k = j
      · subst hjk
        rw [hky]
        exact ⟨k, hkm, hat, by rw [List.getElem_set_self]; rfl, fun q => absurd rfl q⟩
      · have hjm : j < (l.set k (x.held l[k])).length := by rw [List.length_set]; exact hj
        have e : (l.set k (x.held l[k]))[j] = l[j] := List.getElem_set_ne hjk hjm
        have := xAt_of hms hjm
        rw [e] at this
        exact ⟨j, hjm, this, by rw [e], fun _ => e⟩
    · rcases List.mem_or_eq_of_mem_set he with q | rfl
      · exact .inr q
      · exact .inl rfl
  · have hne : ∀ y ∈ l, y.ky ≠ x.ky := fun y hy q => ht (xAt_lt.2 ⟨y, hy, q⟩)
    have hi : xIns false x l = xNew l x := xIns_new hs hne
    have hms : SrE (xNew l x) := hs.put x hne
    have hmf : ∀ e ∈ xNew l x, e.fine := fun e he => by
      rcases xNew_mem.1 he with rfl | q
      · exact hx
      · exact hf e q
    have hme : xsErr (xNew l x) = 0 := xsErr_zero.2 ⟨by rw [xNew_length]; omega, hmf, hms⟩
    obtain ⟨h1, h2⟩ := xAt_mem hms (xNew_mem.2 (.inl rfl) : x ∈ xNew l x)
    refine ⟨_, ?_, hme, hms, hmf, ⟨_, h1, rfl, by rw [h2], by rw [h2]⟩, fun y hy => ?_, fun e he => ?_⟩
    · unfold xPut
      rw [if_neg (by omega), hi, if_neg (by omega)]
    · obtain ⟨h3, h4⟩ := xAt_mem hms (xNew_mem.2 (.inr hy))
      exact ⟨_, h3, rfl, by rw [h4], fun _ => h4⟩
    · rcases xNew_mem.1 he with rfl | q
      · exact .inl rfl
      · exact .inr q
/-- putting a new one, and dropping it again -/
theorem xPut_new {l : List En} {x : En} (h0 : xsErr l = 0) (hl : l.length ≤ 9) (hx : x.fine) (hne : ∀ y ∈ l, y.ky ≠ x.ky) : xPut l x = (0, xNew l x) := by
  obtain ⟨m, hm⟩ := xPut_ok h0 hl hx
  have hi : xIns false x l = xNew l x := xIns_new (xsErr_zero.1 h0).2.2 hne
  have := hm.put
  unfold xPut at this ⊢
  rw [if_neg (by omega), hi] at this ⊢
  split at this
  · rename_i q; injection this with t1 t2; omega
  · rename_i q; rw [if_neg q]
theorem xDrop_new {l : List En} {x : En} (h0 : xsErr l = 0) (hl : l.length ≤ 9) (hx : x.fine) (hp : x.pn = 0) (hne : ∀ y ∈ l, y.ky ≠ x.ky) : xDrop (xNew l x) x.ky = (0, l) := by
  obtain ⟨m, hm⟩ := xPut_ok h0 hl hx
  have e := hm.put
  rw [xPut_new h0 hl hx hne] at e
  injection e with _ e
  subst e
  have hT : xTo l x.ky < (xNew l x).length := by rw [xNew_length]; have := xTo_le l x.ky; omega
  have he := xNew_at l x hT
  have hat : xAt (xNew l x) x.ky = xTo l x.ky := by
    have := xAt_of hm.srt hT
    rwa [he] at this
  have hlt : xAt (xNew l x) x.ky < (xNew l x).length := by rw [hat]; exact hT
  have e : (xNew l x)[xAt (xNew l x) x.ky] = x := by
    refine Eq.trans ?_ he
    congr 1
  have herr := hm.err
  unfold xDrop
  rw [if_neg (by omega), dif_pos hlt, if_neg (by rw [e]; omega), hat, xNew_erase]
/-- dropping one that nobody holds -/
theorem xDrop_at {l : List En} (h0 : xsErr l = 0) {k : Nat} (hk : k < l.length) (hp : l[k].pn = 0) : xDrop l l[k].ky = (0, l.eraseIdx k) := by
  obtain ⟨-, -, hs⟩ := xsErr_zero.1 h0
  have hat := xAt_of hs hk
  have hlt : xAt l l[k].ky < l.length := by rw [hat]; exact hk
  have e : l[xAt l l[k].ky] = l[k] := by congr 1
  unfold xDrop
  rw [if_neg (by omega), dif_pos hlt, if_neg (by rw [e]; omega), hat]
theorem xsErr_erase {l : List En} (h0 : xsErr l = 0) (k : Nat) : xsErr (l.eraseIdx k) = 0 := by
  obtain ⟨h1, h2, h3⟩ := xsErr_zero.1 h0
  refine xsErr_zero.2 ⟨?_, fun e he => h2 e (List.mem_of_mem_eraseIdx he), List.Pairwise.sublist (List.eraseIdx_sublist _ _) h3⟩
  have := List.length_eraseIdx_le l k
  omega
end Go.Proofs.YtdbdigcpibmgjaaGreatDoor
/- The oldest entry that nobody holds: plain functions, and what holds of them. Nothing of the program. -/
namespace Go.Proofs.YtdbdigcpibmgjaaGreatDoor
open Go.RowKit
/-- is entry y, at place k, ahead of entry x, at place i -/
def ahd (i : Nat) (x : En) (k : Nat) (y : En) : Bool := (y.pn == 0) && (decide (y.st < x.st) || ((y.st == x.st) && (Op.bytesLess y.ky x.ky || ((y.ky == x.ky) && decide ((k : Int) < (i : Int))))))
/-- is one of the first k ahead of it, or is it held -/
def ahK (l : List En) (i : Nat) (x : En) (k : Nat) : Bool := (x.pn != 0) || (List.range k).any fun j => ahd i x j (l.getD j default)
theorem ahK_step (l : List En) (i : Nat) (x : En) {k : Nat} (h : k < l.length) : ahK l i x (k + 1) = (ahK l i x k || ahd i x k l[k]) := by
  unfold ahK
  rw [List.range_succ, List.any_append, List.any_cons, List.any_nil, Bool.or_false, getD_lt h, Bool.or_assoc]
/-- is entry i one that has nobody ahead -/
def free (l : List En) (i : Nat) : Bool := !ahK l i (l.getD i default) l.length
/-- the oldest that nobody holds: the place, the error -/
def xOld (l : List En) : Int × Int := if (List.range l.length).findIdx (free l) < l.length then (((List.range l.length).findIdx (free l) : Nat), 0) else (0, 5)
theorem xOld_hit {l : List En} {i : Nat} (hi : i < l.length) (h : free l i = true) (hn : ∀ j, j < i → free l j = false) : xOld l = ((i : Int), 0) := by
  have e : (List.range l.length).findIdx (free l) = i := by
    rw [List.findIdx_eq (by simpa using hi)]
    exact ⟨by simpa using h, fun j hj => by simpa using hn j hj⟩
  unfold xOld; rw [e, if_pos hi]
theorem xOld_miss {l : List En} (hn : ∀ j, j < l.length → free l j = false) : xOld l = (0, 5) := by
  have e : ¬ (List.range l.length).findIdx (free l) < l.length := fun q => by
    have h1 : (List.range l.length).findIdx (free l) < (List.range l.length).length := by simpa using q
    have := List.findIdx_getElem (xs := List.range l.length) (p := free l) (w := h1)
    rw [hn _ (by simpa using q)] at this
    cases this
  unfold xOld; rw [if_neg e]
/-- nobody who is not held is older -/
theorem ahd_none {i : Nat} {x y : En} {k : Nat} (h : ahd i x k y = false) (hp : y.pn = 0) : x.st ≤ y.st := by
  unfold ahd at h
  simp only [hp, beq_self_eq_true, Bool.true_and, Bool.or_eq_false_iff, decide_eq_false_iff_not] at h
  omega
theorem ahd_iff {i : Nat} {x : En} {k : Nat} {y : En} : ahd i x k y = true ↔ y.pn = 0 ∧ (y.st < x.st ∨ y.st = x.st ∧ (Op.bytesLess y.ky x.ky = true ∨ y.ky = x.ky ∧ k < i)) := by
  unfold ahd
  simp
theorem ahd_irrefl (i : Nat) (x : En) : ahd i x i x = false := by
  rw [Bool.eq_false_iff]
  intro h
  obtain ⟨_, h⟩ := ahd_iff.1 h
  rcases h with h | ⟨_, h | ⟨_, h⟩⟩
  · omega
  · rw [bl_irrefl] at h; cases h
  · omega
theorem ahd_trans {i j k : Nat} {x y z : En} (h1 : ahd i x j y = true) (h2 : ahd j y k z = true) : ahd i x k z = true := by
  obtain ⟨p1, h1⟩ := ahd_iff.1 h1
  obtain ⟨p2, h2⟩ := ahd_iff.1 h2
  refine ahd_iff.2 ⟨p2, ?_⟩
  rcases h1 with h1 | ⟨e1, h1⟩
  · rcases h2 with h2 | ⟨e2, h2⟩
    · exact .inl (by omega)
    · exact .inl (by omega)
  · rcases h2 with h2 | ⟨e2, h2⟩
    · exact .inl (by omega)
    · refine .inr ⟨by omega, ?_⟩
      rcases h1 with h1 | ⟨q1, h1⟩
      · rcases h2 with h2 | ⟨q2, h2⟩
        · exact .inl (bl_trans h2 h1)
        · exact .inl (by rw [q2]; exact h1)
      · rcases h2 with h2 | ⟨q2, h2⟩
        · exact .inl (by rw [← q1]; exact h2)
        · exact .inr ⟨q2.trans q1, by omega⟩
/-- among the first k one that nobody holds has nobody of them ahead, if there is one that nobody holds -/
theorem ahd_least (l : List En) : ∀ k, k ≤ l.length → (∀ j (h : j < l.length), j < k → l[j].pn ≠ 0) ∨ ∃ m, ∃ h : m < l.length, m < k ∧ l[m].pn = 0 ∧ ∀ j (hj : j < l.length), j < k → ahd m l[m] j l[j] = false
  | 0, _ => .inl fun _ _ h => absurd h (by omega)
  | k + 1, hk => by
    have hkl : k < l.length := by omega
    rcases ahd_least l k (by omega) with h | ⟨m, hm, hmk, hp, hn⟩
    · by_cases hp : l[k].pn = 0
      · refine .inr ⟨k, hkl, by omega, hp, fun j hj hjk => ?_⟩
        rcases Nat.lt_or_eq_of_le (Nat.le_of_lt_succ hjk) with q | q
        · rw [Bool.eq_false_iff]
          intro h2
          exact h j hj q (ahd_iff.1 h2).1
        · subst q; exact ahd_irrefl _ _
      · refine .inl fun j hj hjk => ?_
        rcases Nat.lt_or_eq_of_le (Nat.le_of_lt_succ hjk) with q | q
        · exact h j hj q
        · subst q; exact hp
    · by_cases ha : ahd m l[m] k l[k] = true
      · refine .inr ⟨k, hkl, by omega, (ahd_iff.1 ha).1, fun j hj hjk => ?_⟩
        rcases Nat.lt_or_eq_of_le (Nat.le_of_lt_succ hjk) with q | q
        · rw [Bool.eq_false_iff]
          intro h2
          have := ahd_trans ha h2
          rw [hn j hj q] at this
          cases this
        · subst q; exact ahd_irrefl _ _
      · refine .inr ⟨m, hm, by omega, hp, fun j hj hjk => ?_⟩
        rcases Nat.lt_or_eq_of_le (Nat.le_of_lt_succ hjk) with q | q
        · exact hn j hj q
        · subst q; exact Bool.eq_false_iff.2 ha
/-- what the oldest is: a place whose entry nobody holds, and that no other such is older than; or all are held -/
theorem xOld_ways (l : List En) : (∃ i, ∃ h : i < l.length, xOld l = ((i : Int), 0) ∧ l[i].pn = 0 ∧ ∀ y ∈ l, y.pn = 0 → l[i].st ≤ y.st) ∨ (xOld l = (0, 5) ∧ ∀ y ∈ l, y.pn ≠ 0) := by
  by_cases hq : (List.range l.length).findIdx (free l) < l.length
  · refine .inl ⟨_, hq, by unfold xOld; rw [if_pos hq], ?_⟩
    have hf := List.findIdx_getElem (xs := List.range l.length) (p := free l) (w := by simpa using hq)
    rw [List.getElem_range] at hf
    generalize (List.range l.length).findIdx (free l) = i at *
    unfold free ahK at hf
    rw [getD_lt hq] at hf
    simp only [Bool.not_eq_true', Bool.or_eq_false_iff, bne_eq_false_iff_eq, List.any_eq_false, List.mem_range] at hf
    refine ⟨hf.1, fun y hy hp => ?_⟩
    obtain ⟨j, hj, rfl⟩ := List.mem_iff_getElem.1 hy
    have := hf.2 j hj
    rw [getD_lt hj] at this
    exact ahd_none (Bool.eq_false_iff.2 this) hp
  · refine .inr ⟨by unfold xOld; rw [if_neg hq], fun y hy hp => ?_⟩
    have hall : ∀ i, i < l.length → free l i = false := fun i hi => by
      have h1 : ¬ i < 0 := by omega
      have := List.not_of_lt_findIdx (xs := List.range l.length) (p := free l) (i := i) (by have := List.findIdx_le_length (xs := List.range l.length) (p := free l); simp at this; omega)
      rw [List.getElem_range] at this
      simpa using this
    obtain ⟨j, hj, rfl⟩ := List.mem_iff_getElem.1 hy
    rcases ahd_least l l.length (Nat.le_refl _) with h | ⟨m, hm, _, hpm, hn⟩
    · exact h j hj hj hp
    · have h1 := hall m hm
      unfold free ahK at h1
      rw [getD_lt hm] at h1
      have h2 : (l[m].pn != 0) = false := by rw [hpm]; rfl
      rw [h2, Bool.false_or, Bool.not_eq_false', List.any_eq_true] at h1
      obtain ⟨x, hx, h3⟩ := h1
      have hxl : x < l.length := by simpa using hx
      rw [getD_lt hxl, hn x hxl hxl] at h3
      cases h3
end Go.Proofs.YtdbdigcpibmgjaaGreatDoor
/- The reference's EntriesFault. -/
namespace Go.Proofs.YtdbdigcpibmgjaaGreatDoor
open Go.RowKit
set_option maxRecDepth 100000 in
set_option maxHeartbeats 400000 in
theorem entriesFault_big (A : Option Addr) (n c : Nat) (w : World) (h : 10 < n) (hn : n ≤ 9223372036854775807) :
    Calls Tryz.prog 72 #[.slice A n c] w fun e w' => e = .returned (.int .i64 1) ∧ w = w' := by
  go_enter Tryz.func72, Tryz.ntmps72
  go_wp2
  go_ret
  exact ⟨rfl, rfl⟩
set_option maxRecDepth 100000 in
set_option maxHeartbeats 2000000 in
theorem entriesFault_in (A : Option Addr) (n c : Nat) (l : List En) (w : World) (hr : KRd kEn w A n c l) (hg : ∀ p ∈ l, p.good) (h10 : n ≤ 10) :
    Calls Tryz.prog 72 #[.slice A n c] w fun e w' => e = .returned (.int .i64 (xTail [] l)) ∧ Below w.heap.size w w' := by
  obtain rfl := hr.len
  have hd : decide (10 < (l.length : Int)) = false := by simp; omega
  have HG := Lib.hid hg
  obtain ⟨er, her⟩ : ∃ er, Hid (xTail [] l = er) := ⟨_, rfl⟩
  rw [her.out]
  clear hg
  go_enter Tryz.func72, Tryz.ntmps72
  go_wp2
  go_loopw [3, 5, 6, 7, 13] (fun s _ _ _ i wr => ∃ (k : Nat) (m : List UInt8), k ≤ l.length ∧ i = .int .i64 k ∧ s = .string (str m) ∧ Hid (er = xTail m (l.drop k)) ∧ Below w.heap.size w wr) (fun _ _ _ _ i _ => l.length - (intOf i).toNat)
  case atStart => exact ⟨0, [], Nat.zero_le _, rfl, rfl, her.out.symm, Below.refl _ _⟩
  case round =>
    obtain ⟨k, m, hk, rfl, rfl, HE, hbel⟩ := hrel
    by_cases hlt : k < l.length
    · obtain ⟨b, off, D, dn, dc, rfl, hc0, hc1, hc2, hc3, hrD, hDn⟩ := (hr.below hbel).entry hlt
      have hgk := HG.out l[k] (List.getElem_mem hlt)
      have hdk : l.drop k = l[k] :: l.drop (k + 1) := List.drop_eq_getElem_cons hlt
      have HP : Hid (er = xTail m (l[k] :: l.drop (k + 1))) := by show _ = _; rw [← hdk]; exact HE.out
      have hki : (k : Int) < (l.length : Int) := by omega
      clear hdk HE
      generalize l[k] = p at *
      obtain ⟨gk, gp, -, -, -⟩ := hgk
      have hal := (Below.refl wr.heap.size wr).alloc (Nat.le_refl _) (.cells #[.string (str p.ky), .slice D dn dc, .int .i64 p.pn, .int .i64 p.st] 74)
      have hbk := Blk.new wr 74 [.string (str p.ky), .slice D dn dc, .int .i64 p.pn, .int .i64 p.st]
      go_wp2_with fail
      with_reducible refine (hexFault_all p.ky _ gk).mono ?_
      rintro e w1 ⟨rfl, hb1⟩
      have hbk1 := hbk.below hb1 hbk.lt
      have hbA := below_step hbel (hal.trans (hb1.mono (by simp)))
      have hr1 := hrD.below (below_step hal hb1)
      have e0 := hbk1.cell 0
      have e1 := hbk1.cell 1
      have e2 := hbk1.cell 2
      have e3 := hbk1.cell 3
      simp only [List.getElem?_cons_succ, List.getElem?_cons_zero] at e0 e1 e2 e3
      clear hbk hal hc0 hc1 hc2 hc3 hrD
      by_cases hn : cErr p.ky = 0
      · have n1 : (cErr p.ky != 0) = false := by rw [bne_eq_false_iff_eq]; exact hn
        by_cases hle : nle p.ky m = true
        · have HF : Hid (er = 6) := by show _ = _; rw [HP.out]; exact xTail_err (by unfold xOne; rw [if_neg (fun q => q hn), if_pos hle]) (by omega)
          rcases (by unfold nle at hle; rw [Bool.or_eq_true] at hle; exact hle : Op.bytesLess p.ky m = true ∨ (p.ky == m) = true) with q | q
          · clear hn hle
            go_wp2
            go_ret
            exact ⟨ret_int HF.out.symm, hbA⟩
          · cases q2 : Op.bytesLess p.ky m
            · clear hn hle
              go_wp2
              go_ret
              exact ⟨ret_int HF.out.symm, hbA⟩
            · clear hn hle
              go_wp2
              go_ret
              exact ⟨ret_int HF.out.symm, hbA⟩
        · have hle' : Op.bytesLess p.ky m = false ∧ (p.ky == m) = false := by
            unfold nle at hle
            rw [Bool.not_eq_true, Bool.or_eq_false_iff] at hle
            exact hle
          obtain ⟨l1, l2⟩ := hle'
          have HO : Hid (xOne m p = if psErr p.ps ≠ 0 then psErr p.ps else if p.pn < 0 ∨ 5 < p.pn ∨ p.st < 0 ∨ 1099511627776 < p.st then 4 else 0) := by show _ = _; unfold xOne; rw [if_neg (fun q => q hn), if_neg hle]
          clear hn hle
          go_wp2_with fail
          with_reducible refine (partsFault_any _ _ _ _ _ hr1 gp).mono ?_
          rintro e w2 ⟨rfl, hb2⟩
          have hbk2 := hbk1.below hb2 hbk1.lt
          have hbB := below_step hbA hb2
          clear e0 e1 e2 e3
          have e0 := hbk2.cell 0
          have e2 := hbk2.cell 2
          have e3 := hbk2.cell 3
          simp only [List.getElem?_cons_succ, List.getElem?_cons_zero] at e0 e2 e3
          by_cases hps : psErr p.ps = 0
          · have m1 : (psErr p.ps != 0) = false := by rw [bne_eq_false_iff_eq]; exact hps
            have HR : Hid (xOne m p = if p.pn < 0 ∨ 5 < p.pn ∨ p.st < 0 ∨ 1099511627776 < p.st then 4 else 0) := by show _ = _; rw [HO.out, if_neg (fun q => q hps)]
            clear hps HO hbk1 hr1
            by_cases p1 : p.pn < 0
            · have d1 : decide (p.pn < 0) = true := by simpa using p1
              have HF : Hid (er = 4) := by show _ = _; rw [HP.out]; exact xTail_err (by rw [HR.out, if_pos (by omega)]) (by omega)
              go_wp2
              go_ret
              exact ⟨ret_int HF.out.symm, hbB⟩
            · have d1 : decide (p.pn < 0) = false := by simpa using p1
              by_cases p2 : 5 < p.pn
              · have d2 : decide (5 < p.pn) = true := by simpa using p2
                have HF : Hid (er = 4) := by show _ = _; rw [HP.out]; exact xTail_err (by rw [HR.out, if_pos (by omega)]) (by omega)
                go_wp2
                go_ret
                exact ⟨ret_int HF.out.symm, hbB⟩
              · have d2 : decide (5 < p.pn) = false := by simpa using p2
                by_cases p3 : p.st < 0
                · have d3 : decide (p.st < 0) = true := by simpa using p3
                  have HF : Hid (er = 4) := by show _ = _; rw [HP.out]; exact xTail_err (by rw [HR.out, if_pos (by omega)]) (by omega)
                  go_wp2
                  go_ret
                  exact ⟨ret_int HF.out.symm, hbB⟩
                · have d3 : decide (p.st < 0) = false := by simpa using p3
                  by_cases p4 : 1099511627776 < p.st
                  · have d4 : decide (1099511627776 < p.st) = true := by simpa using p4
                    have HF : Hid (er = 4) := by show _ = _; rw [HP.out]; exact xTail_err (by rw [HR.out, if_pos (by omega)]) (by omega)
                    go_wp2
                    go_ret
                    exact ⟨ret_int HF.out.symm, hbB⟩
                  · have d4 : decide (1099511627776 < p.st) = false := by simpa using p4
                    have HF : Hid (er = xTail p.ky (l.drop (k + 1))) := by show _ = _; rw [HP.out]; exact xTail_go (by rw [HR.out, if_neg (by omega)])
                    go_wp2
                    go_roundw
                    case rel => exact ⟨k + 1, p.ky, by omega, by go_num, rfl, HF.out, hbB⟩
                    case measure => simp [intOf] <;> omega
          · have m1 : (psErr p.ps != 0) = true := by rw [bne_iff_ne]; exact hps
            have HF : Hid (er = psErr p.ps) := by show _ = _; rw [HP.out]; exact xTail_err (by rw [HO.out, if_pos hps]) hps
            clear hps
            go_wp2
            go_ret
            exact ⟨ret_int HF.out.symm, hbB⟩
      · have n1 : (cErr p.ky != 0) = true := by rw [bne_iff_ne]; exact hn
        have HF : Hid (er = cErr p.ky) := by show _ = _; rw [HP.out]; exact xTail_err (by unfold xOne; rw [if_pos hn]) hn
        clear hn
        go_wp2
        go_ret
        exact ⟨ret_int HF.out.symm, hbA⟩
    · have hd2 : decide ((k : Int) < (l.length : Int)) = false := by simp; omega
      have HF : Hid (er = 0) := by show _ = _; rw [HE.out, List.drop_of_length_le (by omega)]; rfl
      go_wp2
      go_ret
      exact ⟨ret_int HF.out.symm, hbel⟩
theorem entriesFault_any (A : Option Addr) (n c : Nat) (l : List En) (w : World) (hr : KRd kEn w A n c l) (hg : ∀ p ∈ l, p.good) :
    Calls Tryz.prog 72 #[.slice A n c] w fun e w' => e = .returned (.int .i64 (xsErr l)) ∧ Below w.heap.size w w' := by
  have hn := hr.len
  have hc := hr.cap
  unfold maxLen at hc
  by_cases h : 10 < n
  · rw [show xsErr l = 1 from if_pos (by omega)]
    refine (entriesFault_big A n c w h (by omega)).mono ?_
    rintro e w' ⟨rfl, rfl⟩
    exact ⟨rfl, Below.refl _ _⟩
  · rw [show xsErr l = xTail [] l from if_neg (by omega)]
    exact entriesFault_in A n c l w hr hg (by omega)
end Go.Proofs.YtdbdigcpibmgjaaGreatDoor
/- The reference's EntriesCopy. -/
namespace Go.Proofs.YtdbdigcpibmgjaaGreatDoor
open Go.RowKit
/-- a row of the call's own, whatever the slice value -/
theorem KOwn.rowE {α η : Type} {K : Kin α η} {w : World} {base : Nat} {e : TypeId} {v : Value} {l : List α} (h : KOwn K w base e v l) : ∃ hs : List (α × η), hs.map Prod.fst = l ∧ w.ownsRow base e K.size v l.length (K.all hs) ∧ ∀ x ∈ hs, K.deep w x.1 x.2 ∧ ∀ k ∈ K.blocks x.2, base ≤ k ∧ k < w.heap.size ∧ v.ownBlock ≠ some k := h
set_option maxRecDepth 100000 in
set_option maxHeartbeats 4000000 in
theorem entriesCopy_any (A : Option Addr) (n c : Nat) (l : List En) (w : World) (hr : KRd kEn w A n c l) (hg : ∀ p ∈ l, p.good) (hz : n * 56 ≤ 140737488351232) :
    Calls Tryz.prog 76 #[.slice A n c] w fun e w' => ∃ v, e = .returned v ∧ KOwn kEn w' w.heap.size 74 v l ∧ Below w.heap.size w w' := by
  obtain rfl := hr.len
  obtain ⟨i0, hi0, hz0, hz1, hz2⟩ := info_parts prt_info
  obtain ⟨j0, hj0, hw0, hw1, hw2⟩ := info_parts entry_info
  have HG := Lib.hid hg
  clear hg
  go_enter Tryz.func76, Tryz.ntmps76
  go_wp2
  go_loopw [3, 5, 8] (fun v _ i wr => ∃ (k : Nat), k ≤ l.length ∧ i = .int .i64 k ∧ KOwn kEn wr w.heap.size 74 v (l.take k) ∧ Below w.heap.size w wr) (fun _ _ i _ => l.length - (intOf i).toNat)
  case atStart => exact ⟨0, Nat.zero_le _, rfl, KOwn.nil _ _ _, Below.refl _ _⟩
  case round =>
    obtain ⟨k, hk, rfl, hown, hbel⟩ := hrel
    by_cases hlt : k < l.length
    · obtain ⟨b, off, D, dn, dc, rfl, hc0, hc1, hc2, hc3, hrD, hDn⟩ := (hr.below hbel).entry hlt
      have hgk := HG.out l[k] (List.getElem_mem hlt)
      have HT : Hid (l.take (k + 1) = l.take k ++ [l[k]]) := List.take_succ_eq_append_getElem hlt
      have hki : (k : Int) < (l.length : Int) := by omega
      have htk : (l.take k).length = k := by rw [List.length_take]; omega
      generalize l[k] = p at *
      obtain ⟨dgs, dts, pn, mr⟩ := p
      obtain ⟨-, -, -, -, g2⟩ := hgk
      simp only at g2 hc0 hc1 hc2 hc3 hrD
      have hdl : dn * 40 ≤ 140737488351232 := by rw [hrD.plen]; exact g2
      have hal := (Below.refl wr.heap.size wr).alloc (Nat.le_refl _) (.cells #[.string (str dgs), .slice D dn dc, .int .i64 pn, .int .i64 mr] 74)
      have hbk := Blk.new wr 74 [.string (str dgs), .slice D dn dc, .int .i64 pn, .int .i64 mr]
      have hown' := hown.below hal
      have hob : u3.ownBlock ≠ some wr.heap.size := fun q => by
        obtain ⟨_, _, hrw, _⟩ := hown.rowE
        have := (hrw.lt _ q).2
        omega
      have hrD' := hrD.below hal
      have hbel' := hbel.trans (hal.mono hbel.size)
      clear hown hrD hbel
      go_wp2
      generalize wr.alloc (.cells [Value.string (str dgs), .slice D dn dc, .int .i64 pn, .int .i64 mr].toArray 74) = u at *
      obtain ⟨hs, hmap, hrow, hdeep⟩ := hown'.rowE
      rw [htk] at hrow
      have hrow4 : u.ownsRow w.heap.size 74 4 u3 k (kEn.all hs) := hrow
      have hglt := hbk.lt
      have c0 := hbk.cell 0
      have c1 := hbk.cell 1
      have c2 := hbk.cell 2
      have c3 := hbk.cell 3
      simp only [List.getElem?_cons_succ, List.getElem?_cons_zero] at c0 c1 c2 c3
      have hsz0 := hbel'.size
      have HU : u.drew.heap.size = u.heap.size := rfl
      have hobs : ∀ k, u3.ownBlock = some k → k < u.heap.size := fun k q => (hrow.lt k q).2
      have HOB := Lib.hid hobs
      clear hobs
      clear hc0 hc1 hc2 hc3 hal hbk hrow
      go_region_held_law (fun W => W.cell? ⟨wr.heap.size, 0, none⟩ = some (.string (str dgs)) ∧ W.cell? ⟨wr.heap.size, 1, none⟩ = some (.slice D dn dc) ∧ W.cell? ⟨wr.heap.size, 2, none⟩ = some (.int .i64 pn) ∧ W.cell? ⟨wr.heap.size, 3, none⟩ = some (.int .i64 mr))
        (first | exact ⟨c0, c1, c2, c3⟩ | exact ⟨k0, k1, k2, k3⟩ | exact ⟨m0, m1, m2, m3⟩ | go_keep)
        (first
          | (refine step_appendM (by rfl) (.const (.slice none 0 0)) (.tmp 16) _ (by rfl) Tryz.underlying67 hi0 hz0 hz1 hz2 rfl (by omega) (.slice none 0 0) 0 [] (by rfl) (w0 := u.drew) (World.ownsRow_nil _ u.drew.heap.size _ _) hrD'.drew hDn (pcs_one _) (by first | rfl | simp [Act.eval]) (by omega) (by unfold maxLen; omega) (Nat.le_refl _) ?_; rintro v5 w5 ⟨hown5, hb5, hs5, -⟩; rw [HU] at hs5 hb5 hown5; rw [Nat.zero_add, List.nil_append] at hown5; have hl5 := Lib.hid hown5.lt; obtain ⟨A5, c5, rfl, hr5, hA5, hF5⟩ := own_rdK hown5; have k0 := (hb5.cell (p := ⟨wr.heap.size, 0, none⟩) hglt).trans c0; have k1 := (hb5.cell (p := ⟨wr.heap.size, 1, none⟩) hglt).trans c1; have k2 := (hb5.cell (p := ⟨wr.heap.size, 2, none⟩) hglt).trans c2; have k3 := (hb5.cell (p := ⟨wr.heap.size, 3, none⟩) hglt).trans c3; have ow5 := own_below (own_drewN hrow4 1) hb5; have hg5 := Nat.lt_of_lt_of_le hglt hs5)
          | (refine step_append1 (by rfl) (.tmp 12) (.tmp 23) _ (by rfl) Tryz.underlying23 hj0 hw0 hw1 hw2 rfl (by omega) u3 _ _ (by rfl) ow5 [.string (str dgs), .slice A5 dn c5, .int .i64 pn, .int .i64 mr] rfl (by simp [Value.oneCell']) (by first | rfl | simp [Act.eval]) (by omega) (by unfold maxLen; omega) (by omega) ?_; rintro v6 w6 ⟨hown6, hb6, hsz6, hfar6⟩; have h6 := (hfar6 wr.heap.size hg5 hob).2; have m0 := (cell_heap h6 0).trans k0; have m1 := (cell_heap h6 1).trans k1; have m2 := (cell_heap h6 2).trans k2; have m3 := (cell_heap h6 3).trans k3))
      have HKN : Hid (KOwn kEn w6 w.heap.size 74 v6 (l.take (k + 1))) := by
        show KOwn ..
        rw [HT.out]
        refine KOwn.app (w := w5) (v := u3) (m := [(⟨dgs, dts, pn, mr⟩, ⟨A5, dn, c5⟩)]) hmap (fun x hx => ?_) (fun x hx => ?_) ?_ hsz6 hfar6
        · refine ⟨kEn.keep (hdeep x hx).1 fun j _ hj => hb5.block j hj, fun j hj => ?_⟩
          obtain ⟨q1, q2, q3⟩ := (hdeep x hx).2 j hj
          exact ⟨q1, by omega, q3⟩
        · rw [List.mem_singleton] at hx
          subst hx
          refine ⟨⟨hr5, hA5⟩, fun j hj => ?_⟩
          obtain ⟨a, rfl, rfl⟩ := mem_blk1.1 hj
          have q1 := (hF5 a rfl).1
          have q2 := (hl5.out a.block rfl).2
          exact ⟨by omega, q2, fun q => by have := HOB.out _ q; omega⟩
        · rw [htk, Kin.all_one]
          exact hown6
      have hbZ := (below_step hbel'.drew hb5).trans hb6
      clear hmap hdeep hown6 hfar6 hr5 hb5 hb6
      go_wp2
      go_roundw
      case rel => exact ⟨k + 1, by omega, by go_num, HKN.out, hbZ⟩
      case measure => simp [intOf] <;> omega
    · have hd2 : decide ((k : Int) < (l.length : Int)) = false := by simp; omega
      have HX : l.take k = l := List.take_of_length_le (by omega)
      rw [HX] at hown
      go_wp2
      go_ret
      exact ⟨_, rfl, hown, hbel⟩
end Go.Proofs.YtdbdigcpibmgjaaGreatDoor

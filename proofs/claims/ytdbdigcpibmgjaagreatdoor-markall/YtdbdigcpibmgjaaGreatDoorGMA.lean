/- Texts that belong together: what the functions of the program and of the statements return. -/
import Derived.Test.YtdbdigcpibmgjaaGreatDoorGVA
import Derived.Test.YtdbdigcpibmgjaaGreatDoorGC
import Derived.Test.YtdbdigcpibmgjaaGreatDoorGSA
/- Marking: marks alone make no difference to a store; what Begin, Add, Step and All answer. Nothing of the program. -/
namespace Go.Proofs.YtdbdigcpibmgjaaGreatDoor
open Go.RowKit
/-- what the collector is at -/
structure Col where
  ph : Int
  gr : List (List UInt8)
  at_ : List UInt8
def cNil : Col := ⟨0, [], []⟩
/-- a blob with another mark -/
def mkB (v : Bool) (b : Bl) : Bl := { b with mr := v }
/-- a function that changes nothing but a blob's mark -/
def Mks (f : Bl → Bl) : Prop := ∀ b, (f b).dg = b.dg ∧ (f b).dt = b.dt ∧ (f b).pn = b.pn
theorem mks_mk (v : Bool) : Mks (mkB v) := fun _ => ⟨rfl, rfl, rfl⟩
theorem mks_if (p : Bl → Bool) (v : Bool) : Mks fun b => if p b then mkB v b else b := fun b => by
  show (if p b then mkB v b else b).dg = _ ∧ (if p b then mkB v b else b).dt = _ ∧ (if p b then mkB v b else b).pn = _
  split <;> exact ⟨rfl, rfl, rfl⟩
section
variable {f : Bl → Bl} (hf : Mks f)
include hf
theorem map_bAt (l : List Bl) (d : List UInt8) : bAt (l.map f) d = bAt l d := by
  unfold bAt
  rw [List.findIdx_map]
  congr 1
  funext b
  show ((f b).dg == d) = _
  rw [(hf b).1]
theorem map_bs (l : List Bl) : bsErr (l.map f) = 0 ↔ bsErr l = 0 := by
  rw [bsErr_zero, bsErr_zero, List.length_map]
  have h1 : (∀ b ∈ l.map f, b.fine) ↔ ∀ b ∈ l, b.fine := by
    constructor
    · intro h b hb
      have := h (f b) (List.mem_map.2 ⟨b, hb, rfl⟩)
      unfold Bl.fine at this ⊢
      rwa [(hf b).1, (hf b).2.1, (hf b).2.2] at this
    · intro h b hb
      obtain ⟨a, ha, rfl⟩ := List.mem_map.1 hb
      have := h a ha
      unfold Bl.fine at this ⊢
      rwa [(hf a).1, (hf a).2.1, (hf a).2.2]
  have h2 : Srt (l.map f) ↔ Srt l := by
    unfold Srt
    rw [List.pairwise_map]
    have e : (fun a b : Bl => Op.bytesLess (f a).dg (f b).dg = true) = fun a b => Op.bytesLess a.dg b.dg = true := by
      funext a b
      rw [(hf a).1, (hf b).1]
    rw [e]
  rw [h1, h2]
theorem map_uS (l : List Bl) : uS (l.map f) = uS l := by
  unfold uS
  rw [List.map_map]
  have e : ((fun b : Bl => b.dt.length) ∘ f) = fun b => b.dt.length := by
    funext b
    show (f b).dt.length = _
    rw [(hf b).2.1]
  rw [e]
theorem map_there {l : List Bl} (hs : Srt l) (ps : List Prt) : pThere (l.map f) ps = 0 ↔ pThere l ps = 0 := by
  have h2 : Srt (l.map f) := by
    unfold Srt
    rw [List.pairwise_map]
    have e : (fun a b : Bl => Op.bytesLess (f a).dg (f b).dg = true) = fun a b => Op.bytesLess a.dg b.dg = true := by
      funext a b
      rw [(hf a).1, (hf b).1]
    rw [e]; exact hs
  rw [pThere_zero h2, pThere_zero hs]
  constructor
  · intro h p hp
    obtain ⟨b, hb, q1, q2⟩ := h p hp
    obtain ⟨a, ha, rfl⟩ := List.mem_map.1 hb
    exact ⟨a, ha, by rw [← (hf a).1]; exact q1, by rw [← (hf a).2.1]; exact q2⟩
  · intro h p hp
    obtain ⟨b, hb, q1, q2⟩ := h p hp
    exact ⟨f b, List.mem_map.2 ⟨b, hb, rfl⟩, by rw [(hf b).1]; exact q1, by rw [(hf b).2.1]; exact q2⟩
/-- marks alone make no difference to whether a store may be -/
theorem map_ok (s : Sto) : ({ s with bs := s.bs.map f } : Sto).ok ↔ s.ok := by
  constructor
  · intro h
    have hb := (map_bs hf s.bs).1 h.be
    have hs := (bsErr_zero.1 hb).2.2
    exact ⟨hb, h.xe, h.r0, h.r1, by rw [← map_uS hf]; exact h.us, h.c0, h.c1, h.st, fun x hx => (map_there hf hs x.ps).1 (h.pt x hx)⟩
  · intro h
    have hs := (bsErr_zero.1 h.be).2.2
    exact ⟨(map_bs hf s.bs).2 h.be, h.xe, h.r0, h.r1, by show uS (s.bs.map f) ≤ _; rw [map_uS hf]; exact h.us, h.c0, h.c1, h.st, fun x hx => (map_there hf hs x.ps).2 (h.pt x hx)⟩
theorem map_par (l : List Bl) (d : List UInt8) : rPar (l.map f) pOf d = rPar l pOf d := by
  unfold rPar
  rw [map_bAt hf]
  by_cases h : bAt l d < l.length
  · rw [List.getD_eq_getElem?_getD, List.getD_eq_getElem?_getD, List.getElem?_map, List.getElem?_eq_getElem h]
    show pOf (f l[bAt l d]) = pOf l[bAt l d]
    unfold pOf
    rw [(hf _).2.1]
  · have e1 : (l.map f)[bAt l d]? = none := List.getElem?_eq_none (by rw [List.length_map]; omega)
    have e2 : l[bAt l d]? = none := List.getElem?_eq_none (by omega)
    rw [List.getD_eq_getElem?_getD, List.getD_eq_getElem?_getD, e1, e2]
theorem map_rch {l : List Bl} {ds : List (List UInt8)} {d : List UInt8} : Rch (l.map f) pOf ds d ↔ Rch l pOf ds d := by
  constructor
  · intro h
    induction h with
    | here h1 h2 => exact .here h1 (by rwa [map_bAt hf, List.length_map] at h2)
    | next _ h1 h2 ih => exact .next ih (by rwa [map_par hf] at h1) (by rwa [map_bAt hf, List.length_map] at h2)
  · intro h
    induction h with
    | here h1 h2 => exact .here h1 (by rwa [map_bAt hf, List.length_map])
    | next _ h1 h2 ih => exact .next ih (by rwa [map_par hf]) (by rwa [map_bAt hf, List.length_map])
theorem map_live (s : Sto) : live { s with bs := s.bs.map f } = live s := by
  refine SrT.ext (l := live { s with bs := s.bs.map f }) (m := live s) (ris_srt _) (ris_srt _) fun d => ?_
  rw [mem_live, mem_live]
  show Rch (s.bs.map f) pOf (roots (s.bs.map f) s.es) d ↔ _
  rw [map_rch hf]
  have e : ∀ x, x ∈ roots (s.bs.map f) s.es ↔ x ∈ roots s.bs s.es := fun x => by
    rw [mem_roots, mem_roots]
    constructor
    · rintro (⟨b, hb, q1, q2⟩ | h)
      · obtain ⟨a, ha, rfl⟩ := List.mem_map.1 hb
        exact .inl ⟨a, ha, by rw [← (hf a).2.2]; exact q1, by rw [← (hf a).1]; exact q2⟩
      · exact .inr h
    · rintro (⟨b, hb, q1, q2⟩ | h)
      · exact .inl ⟨f b, List.mem_map.2 ⟨b, hb, rfl⟩, by rw [(hf b).2.2]; exact q1, by rw [(hf b).1]; exact q2⟩
      · exact .inr h
  exact ⟨rch_congr fun x hx => (e x).1 hx, rch_congr fun x hx => (e x).2 hx⟩
end
end Go.Proofs.YtdbdigcpibmgjaaGreatDoor
/- Marking, step by step: what holds at every step, and at the end. Nothing of the program. -/
namespace Go.Proofs.YtdbdigcpibmgjaaGreatDoor
open Go.RowKit
/-- one step: the blobs, what is still to be looked at -/
def mSt (l : List Bl) : List (List UInt8) → List Bl × List (List UInt8)
  | [] => (l, [])
  | d :: r => if h : bAt l d < l.length then (if l[bAt l d].mr = true then (l, r) else (l.set (bAt l d) (mkB true l[bAt l d]), ris (r ++ pOf l[bAt l d]))) else (l, r)
theorem at_dg {l : List Bl} {d : List UInt8} (h : bAt l d < l.length) : l[bAt l d].dg = d := by
  have w : l.findIdx (fun b => b.dg == d) < l.length := h
  have := List.findIdx_getElem (xs := l) (p := fun b => b.dg == d) (w := w)
  have e : (l[l.findIdx (fun b => b.dg == d)]).dg = d := by simpa using this
  exact e
theorem mSt_cons (l : List Bl) (d : List UInt8) (r : List (List UInt8)) : mSt l (d :: r) = if h : bAt l d < l.length then (if l[bAt l d].mr = true then (l, r) else (l.set (bAt l d) (mkB true l[bAt l d]), ris (r ++ pOf l[bAt l d]))) else (l, r) := rfl
/-- l is l0 but for marks; the marked ones are come to; what is come to at once from the roots or the marked ones is marked or still to be looked at -/
structure MInv (l0 : List Bl) (R : List (List UInt8)) (l : List Bl) (gr : List (List UInt8)) : Prop where
  same : l.map (mkB false) = l0.map (mkB false)
  a : ∀ b ∈ l, b.mr = true → Rch l0 pOf R b.dg
  g : ∀ d ∈ gr, bAt l0 d < l0.length → Rch l0 pOf R d
  r : ∀ d ∈ R, bAt l0 d < l0.length → d ∈ gr ∨ ∃ b ∈ l, b.dg = d ∧ b.mr = true
  p : ∀ b ∈ l, b.mr = true → ∀ e ∈ pOf b, bAt l0 e < l0.length → e ∈ gr ∨ ∃ c ∈ l, c.dg = e ∧ c.mr = true
theorem same_bAt {l l0 : List Bl} (h : l.map (mkB false) = l0.map (mkB false)) (d : List UInt8) : bAt l d = bAt l0 d := by
  rw [← map_bAt (mks_mk false) l d, h, map_bAt (mks_mk false) l0 d]
theorem same_len {l l0 : List Bl} (h : l.map (mkB false) = l0.map (mkB false)) : l.length = l0.length := by
  have := congrArg List.length h
  simpa using this
theorem same_par {l l0 : List Bl} (h : l.map (mkB false) = l0.map (mkB false)) (d : List UInt8) : rPar l pOf d = rPar l0 pOf d := by
  rw [← map_par (mks_mk false) l d, h, map_par (mks_mk false) l0 d]
theorem par_at {l : List Bl} {d : List UInt8} (h : bAt l d < l.length) : rPar l pOf d = pOf l[bAt l d] := by
  unfold rPar
  rw [List.getD_eq_getElem?_getD, List.getElem?_eq_getElem h, Option.getD_some]
theorem set_marked {l : List Bl} {i : Nat} (hi : i < l.length) {d : List UInt8} (h : ∃ b ∈ l, b.dg = d ∧ b.mr = true) : ∃ b ∈ l.set i (mkB true l[i]), b.dg = d ∧ b.mr = true := by
  obtain ⟨b, hb, h1, h2⟩ := h
  obtain ⟨j, hj, rfl⟩ := List.mem_iff_getElem.1 hb
  by_cases e : i = j
  · subst e
    exact ⟨mkB true l[i], List.mem_iff_getElem.2 ⟨i, by rw [List.length_set]; exact hi, List.getElem_set_self _⟩, h1, rfl⟩
  · exact ⟨l[j], List.mem_iff_getElem.2 ⟨j, by rw [List.length_set]; exact hj, List.getElem_set_ne e _⟩, h1, h2⟩
theorem MInv.step {l0 l : List Bl} {R gr : List (List UInt8)} (h : MInv l0 R l gr) : MInv l0 R (mSt l gr).1 (mSt l gr).2 := by
  cases gr with
  | nil => exact h
  | cons d r =>
    have hA := same_bAt h.same d
    have hL := same_len h.same
    rw [mSt_cons]
    by_cases hlt : bAt l d < l.length
    · rw [dif_pos hlt]
      have hdg := at_dg hlt
      by_cases hm : l[bAt l d].mr = true
      · rw [if_pos hm]
        have hin : ∃ b ∈ l, b.dg = d ∧ b.mr = true := ⟨_, List.getElem_mem hlt, hdg, hm⟩
        refine ⟨h.same, h.a, fun x hx => h.g x (List.mem_cons_of_mem _ hx), fun x hx hl => ?_, fun b hb hbm e he hl => ?_⟩
        · rcases h.r x hx hl with q | q
          · rcases List.mem_cons.1 q with rfl | q
            · exact .inr hin
            · exact .inl q
          · exact .inr q
        · rcases h.p b hb hbm e he hl with q | q
          · rcases List.mem_cons.1 q with rfl | q
            · exact .inr hin
            · exact .inl q
          · exact .inr q
      · rw [if_neg hm]
        have hr : Rch l0 pOf R d := h.g d (List.mem_cons_self ..) (by rw [← hA, ← hL]; exact hlt)
        have hd : ∃ b ∈ l.set (bAt l d) (mkB true l[bAt l d]), b.dg = d ∧ b.mr = true :=
          ⟨mkB true l[bAt l d], List.mem_iff_getElem.2 ⟨bAt l d, by rw [List.length_set]; exact hlt, List.getElem_set_self _⟩, hdg, rfl⟩
        have hpar : pOf l[bAt l d] = rPar l0 pOf d := by rw [← par_at hlt, same_par h.same]
        refine ⟨?_, fun b hb hbm => ?_, fun x hx hl => ?_, fun x hx hl => ?_, fun b hb hbm e he hl => ?_⟩
        · rw [List.map_set, show mkB false (mkB true l[bAt l d]) = mkB false l[bAt l d] from rfl]
          rw [← h.same]
          refine List.ext_getElem (by simp) fun j h1 h2 => ?_
          by_cases e : bAt l d = j
          · subst e; rw [List.getElem_set_self, List.getElem_map]
          · rw [List.getElem_set_ne e]
        · rcases List.mem_or_eq_of_mem_set hb with q | q
          · exact h.a b q hbm
          · rw [q]; show Rch l0 pOf R l[bAt l d].dg; rw [hdg]; exact hr
        · rcases List.mem_append.1 (ris_mem.1 hx) with q | q
          · exact h.g x (List.mem_cons_of_mem _ q) hl
          · rw [hpar] at q; exact .next hr q hl
        · rcases h.r x hx hl with q | q
          · rcases List.mem_cons.1 q with rfl | q
            · exact .inr hd
            · exact .inl (ris_mem.2 (List.mem_append_left _ q))
          · exact .inr (set_marked hlt q)
        · rcases List.mem_or_eq_of_mem_set hb with q | q
          · rcases h.p b q hbm e he hl with q2 | q2
            · rcases List.mem_cons.1 q2 with rfl | q2
              · exact .inr hd
              · exact .inl (ris_mem.2 (List.mem_append_left _ q2))
            · exact .inr (set_marked hlt q2)
          · rw [q] at he
            exact .inl (ris_mem.2 (List.mem_append_right _ he))
    · rw [dif_neg hlt]
      have hno : ¬ bAt l0 d < l0.length := by rw [← hA, ← hL]; exact hlt
      refine ⟨h.same, h.a, fun x hx => h.g x (List.mem_cons_of_mem _ hx), fun x hx hl => ?_, fun b hb hbm e he hl => ?_⟩
      · rcases h.r x hx hl with q | q
        · rcases List.mem_cons.1 q with rfl | q
          · exact absurd hl hno
          · exact .inl q
        · exact .inr q
      · rcases h.p b hb hbm e he hl with q | q
        · rcases List.mem_cons.1 q with rfl | q
          · exact absurd hl hno
          · exact .inl q
        · exact .inr q
/-- at the end the marked ones are just those that are come to -/
theorem MInv.done {l0 l : List Bl} {R : List (List UInt8)} (h : MInv l0 R l []) (hs : Srt l) (d : List UInt8) : (∃ b ∈ l, b.dg = d ∧ b.mr = true) ↔ Rch l0 pOf R d := by
  constructor
  · rintro ⟨b, hb, rfl, hm⟩
    exact h.a b hb hm
  · intro q
    induction q with
    | here h1 h2 => exact (h.r _ h1 h2).resolve_left (fun q => by cases q)
    | next _ h1 h2 ih =>
      obtain ⟨b, hb, hbd, hbm⟩ := ih
      rw [← same_par h.same, ← hbd, rPar_of hs pOf hb] at h1
      exact (h.p b hb hbm _ h1 h2).resolve_left (fun q => by cases q)
end Go.Proofs.YtdbdigcpibmgjaaGreatDoor
/- Marking ends: the measure of a step. Nothing of the program. -/
namespace Go.Proofs.YtdbdigcpibmgjaaGreatDoor
open Go.RowKit
/-- how many blobs are not marked -/
def unmk : List Bl → Nat
  | [] => 0
  | b :: r => (if b.mr = true then 0 else 1) + unmk r
theorem unmk_set : ∀ (l : List Bl) (i : Nat) (hi : i < l.length), l[i].mr ≠ true → unmk (l.set i (mkB true l[i])) + 1 = unmk l
  | [], i, hi, _ => absurd hi (by simp)
  | b :: r, 0, _, h => by
    have h' : b.mr ≠ true := h
    show (if (mkB true b).mr = true then 0 else 1) + unmk r + 1 = (if b.mr = true then 0 else 1) + unmk r
    rw [if_pos (show (mkB true b).mr = true from rfl), if_neg h']; omega
  | b :: r, i + 1, hi, h => by
    have hi' : i < r.length := by simpa using hi
    have := unmk_set r i hi' (by simpa using h)
    show (if b.mr = true then 0 else 1) + unmk (r.set i (mkB true r[i])) + 1 = (if b.mr = true then 0 else 1) + unmk r
    omega
theorem unmk_le : ∀ l : List Bl, unmk l ≤ l.length
  | [] => Nat.le_refl _
  | b :: r => by
    have := unmk_le r
    show (if b.mr = true then 0 else 1) + unmk r ≤ r.length + 1
    split <;> omega
/-- what is left: a step makes it less -/
theorem mSt_less {l : List Bl} {gr : List (List UInt8)} {k : Nat} (h : gr ≠ []) (hk : ∀ b ∈ l, (pOf b).length ≤ k) : (mSt l gr).2.length + k * unmk (mSt l gr).1 + 1 ≤ gr.length + k * unmk l := by
  cases gr with
  | nil => exact absurd rfl h
  | cons d r =>
    rw [mSt_cons]
    by_cases hlt : bAt l d < l.length
    · rw [dif_pos hlt]
      by_cases hm : l[bAt l d].mr = true
      · rw [if_pos hm]
        show r.length + k * unmk l + 1 ≤ r.length + 1 + k * unmk l
        omega
      · rw [if_neg hm]
        have h1 := unmk_set l (bAt l d) hlt hm
        have h2 := ris_length (r ++ pOf l[bAt l d])
        have h3 := hk l[bAt l d] (List.getElem_mem hlt)
        rw [List.length_append] at h2
        show (ris (r ++ pOf l[bAt l d])).length + k * unmk (l.set (bAt l d) (mkB true l[bAt l d])) + 1 ≤ r.length + 1 + k * unmk l
        have h4 : k * unmk l = k * unmk (l.set (bAt l d) (mkB true l[bAt l d])) + k := by rw [← h1, Nat.mul_succ]
        omega
    · rw [dif_neg hlt]
      show r.length + k * unmk l + 1 ≤ r.length + 1 + k * unmk l
      omega
/-- the data stay: so does the bound on the parts -/
theorem mSt_parts {l : List Bl} {gr : List (List UInt8)} {k : Nat} (hk : ∀ b ∈ l, (pOf b).length ≤ k) : ∀ b ∈ (mSt l gr).1, (pOf b).length ≤ k := by
  cases gr with
  | nil => exact hk
  | cons d r =>
    rw [mSt_cons]
    by_cases hlt : bAt l d < l.length
    · rw [dif_pos hlt]
      by_cases hm : l[bAt l d].mr = true
      · rw [if_pos hm]; exact hk
      · rw [if_neg hm]
        intro b hb
        rcases List.mem_or_eq_of_mem_set hb with q | q
        · exact hk b q
        · rw [q]; exact hk l[bAt l d] (List.getElem_mem hlt)
    · rw [dif_neg hlt]; exact hk
/-- some steps -/
def mSts : Nat → List Bl × List (List UInt8) → List Bl × List (List UInt8)
  | 0, x => x
  | n + 1, x => mSts n (mSt x.1 x.2)
theorem mSts_nil : ∀ (n : Nat) (l : List Bl), (mSts n (l, [])).2 = []
  | 0, _ => rfl
  | n + 1, l => mSts_nil n l
theorem mSts_ends {k : Nat} : ∀ (n : Nat) (l : List Bl) (gr : List (List UInt8)), (∀ b ∈ l, (pOf b).length ≤ k) → gr.length + k * unmk l ≤ n → (mSts n (l, gr)).2 = []
  | 0, l, gr, _, h => List.eq_nil_of_length_eq_zero (by show gr.length = 0; omega)
  | n + 1, l, gr, hk, h => by
    show (mSts n (mSt l gr)).2 = []
    by_cases hg : gr = []
    · subst hg
      exact mSts_nil n l
    · have := mSt_less (k := k) hg hk
      exact mSts_ends n (mSt l gr).1 (mSt l gr).2 (mSt_parts hk) (by omega)
theorem mSts_inv {l0 : List Bl} {R : List (List UInt8)} : ∀ (n : Nat) (l : List Bl) (gr : List (List UInt8)), MInv l0 R l gr → MInv l0 R (mSts n (l, gr)).1 (mSts n (l, gr)).2
  | 0, _, _, h => h
  | n + 1, l, gr, h => mSts_inv n (mSt l gr).1 (mSt l gr).2 h.step
end Go.Proofs.YtdbdigcpibmgjaaGreatDoor
/- A small blob lists five parts at most. Nothing of the program. -/
namespace Go.Proofs.YtdbdigcpibmgjaaGreatDoor
open Go.RowKit
theorem mBs_long : ∀ l : List Prt, (∀ p ∈ l, p.fine) → 35 * l.length ≤ (mBs l).length
  | [], _ => Nat.le_refl _
  | p :: r, h => by
    have h1 := mBs_long r fun q hq => h q (List.mem_cons_of_mem _ hq)
    obtain ⟨-, h2, -, h3, -, -, -⟩ := h p (List.mem_cons_self ..)
    have e : mBs (p :: r) = mB p ++ mBs r := rfl
    have h4 := enc_pos p.nm.length
    have h5 := enc_pos p.sz.toNat
    have h6 : (unh p.dg).length = 32 := by rw [unh_length, h3]
    rw [e, List.length_append, List.length_cons]
    unfold mB
    simp only [List.length_append]
    omega
theorem rdTail_noK : ∀ (n : Nat) (acc : List Prt) (l : List UInt8), (rdTail n acc l).1 ≠ 0 → (rdTail n acc l).2 = []
  | 0, acc, l, h => by
    rw [rdTail] at h ⊢
    by_cases h1 : 0 < l.length
    · rw [if_pos h1]
    · rw [if_neg h1] at h ⊢
      by_cases h2 : psErr acc ≠ 0
      · rw [if_pos h2]
      · rw [if_neg h2] at h
        exact absurd rfl h
  | n + 1, acc, l, h => by
    rw [rdTail] at h ⊢
    by_cases h1 : tErr l ≠ 0
    · rw [if_pos h1]
    · rw [if_neg h1] at h ⊢
      by_cases h2 : (tRest l).length < 32
      · rw [if_pos h2]
      · rw [if_neg h2] at h ⊢
        by_cases h3 : rErr ((tRest l).drop 32) ≠ 0
        · rw [if_pos h3]
        · rw [if_neg h3] at h ⊢
          exact rdTail_noK n _ _ h
theorem pOf_few {b : Bl} (h : b.dt.length ≤ 184) : (pOf b).length ≤ 5 := by
  show (pIn b.dt).length ≤ 5
  unfold pIn
  rw [List.length_map]
  by_cases he : (dec b.dt).1 = 0
  · obtain ⟨h1, h2⟩ := dec_turn he
    have h3 := mBs_long _ (psErr_zero h2).2
    have h4 := congrArg List.length h1
    unfold man at h4
    have h5 := enc_pos (dec b.dt).2.length
    simp only [List.length_append, List.length_cons, List.length_nil] at h4
    omega
  · have : (dec b.dt).2 = [] := by
      unfold dec at he ⊢
      split
      · rfl
      · split
        · rfl
        · split
          · rfl
          · split
            · rfl
            · rename_i q1 q2 q3 q4
              rw [if_neg q1, if_neg q2, if_neg q3, if_neg q4] at he
              exact rdTail_noK _ _ _ he
    rw [this]; simp
end Go.Proofs.YtdbdigcpibmgjaaGreatDoor
/- Marking: what Begin, Add, Step and All answer. Nothing of the program. -/
namespace Go.Proofs.YtdbdigcpibmgjaaGreatDoor
open Go.RowKit
def mAdd (g m : List (List UInt8)) : List (List UInt8) := ris (g ++ m)
def sBegun (s : Sto) : Int × Sto × Col := if sErr s ≠ 0 then (sErr s, sNil, cNil) else (0, { s with bs := s.bs.map (mkB false) }, ⟨1, ris (roots s.bs s.es), []⟩)
def cStep (s : Sto) (c : Col) : Int × Sto × Col :=
  if sErr s ≠ 0 then (sErr s, sNil, cNil) else if c.ph ≠ 1 then (11, sNil, cNil) else if c.gr = [] then (0, s, ⟨2, [], []⟩) else (0, { s with bs := (mSt s.bs c.gr).1 }, ⟨1, (mSt s.bs c.gr).2, []⟩)
theorem begun_ok {s : Sto} (h : sErr s = 0) : sBegun s = (0, { s with bs := s.bs.map (mkB false) }, ⟨1, ris (roots s.bs s.es), []⟩) := if_neg (fun q => q h)
theorem begun_no {s : Sto} (h : sErr s ≠ 0) : sBegun s = (sErr s, sNil, cNil) := if_pos h
theorem step_no {s : Sto} (h : sErr s ≠ 0) (c : Col) : cStep s c = (sErr s, sNil, cNil) := if_pos h
theorem step_idle {s : Sto} (h : sErr s = 0) {c : Col} (hp : c.ph ≠ 1) : cStep s c = (11, sNil, cNil) := by
  unfold cStep; rw [if_neg (fun q => q h), if_pos hp]
theorem step_end {s : Sto} (h : sErr s = 0) {c : Col} (hp : c.ph = 1) (hg : c.gr = []) : cStep s c = (0, s, ⟨2, [], []⟩) := by
  unfold cStep; rw [if_neg (fun q => q h), if_neg (fun q => q hp), if_pos hg]
theorem step_go {s : Sto} (h : sErr s = 0) {c : Col} (hp : c.ph = 1) (hg : c.gr ≠ []) : cStep s c = (0, { s with bs := (mSt s.bs c.gr).1 }, ⟨1, (mSt s.bs c.gr).2, []⟩) := by
  unfold cStep; rw [if_neg (fun q => q h), if_neg (fun q => q hp), if_neg hg]
/-- the first k blobs without their marks -/
def mUn (l : List Bl) (k : Nat) : List Bl := (l.take k).map (mkB false) ++ l.drop k
theorem mUn_zero (l : List Bl) : mUn l 0 = l := by simp [mUn]
theorem mUn_end (l : List Bl) : mUn l l.length = l.map (mkB false) := by simp [mUn]
theorem mUn_len (l : List Bl) (k : Nat) : (mUn l k).length = l.length := by simp [mUn]; omega
theorem mUn_get {l : List Bl} {k j : Nat} (h : j < l.length) : (mUn l k)[j]'(by rw [mUn_len]; exact h) = if j < k then mkB false l[j] else l[j] := by
  unfold mUn
  rw [List.getElem_append]
  by_cases q : j < k
  · rw [dif_pos (by simp; omega), if_pos q]; simp
  · rw [dif_neg (by simp; omega), if_neg q, List.getElem_drop]
    congr 1
    simp; omega
theorem mUn_step {l : List Bl} {k : Nat} (_ : k < l.length) : (mUn l k).modify k (mkB false) = mUn l (k + 1) := by
  refine List.ext_getElem (by rw [List.length_modify, mUn_len, mUn_len]) fun j h1 h2 => ?_
  have hj : j < l.length := by rwa [mUn_len] at h2
  rw [List.getElem_modify, mUn_get hj, mUn_get hj]
  by_cases q : k = j
  · subst q; rw [if_pos rfl, if_neg (by omega), if_pos (by omega)]
  · rw [if_neg q]
    by_cases r : j < k
    · rw [if_pos r, if_pos (by omega)]
    · rw [if_neg r, if_neg (by omega)]
theorem un_roots (l : List Bl) (es : List En) : ris (roots (l.map (mkB false)) es) = ris (roots l es) := ris_ext fun x => by
  rw [mem_roots, mem_roots]
  constructor
  · rintro (⟨b, hb, q1, q2⟩ | h)
    · obtain ⟨a, ha, rfl⟩ := List.mem_map.1 hb
      exact .inl ⟨a, ha, q1, q2⟩
    · exact .inr h
  · rintro (⟨b, hb, q1, q2⟩ | h)
    · exact .inl ⟨mkB false b, List.mem_map.2 ⟨b, hb, rfl⟩, q1, q2⟩
    · exact .inr h
/-- the first i blobs with marks on those whose digest is among V, the first of each digest alone -/
def mOn (V : List (List UInt8)) (l : List Bl) (i : Nat) : List Bl := l.mapIdx fun j b => if j < i ∧ b.dg ∈ V ∧ bAt l b.dg = j then mkB true b else b
theorem mOn_len (V : List (List UInt8)) (l : List Bl) (i : Nat) : (mOn V l i).length = l.length := by simp [mOn]
theorem mOn_get {V : List (List UInt8)} {l : List Bl} {i j : Nat} (h : j < l.length) : (mOn V l i)[j]'(by rw [mOn_len]; exact h) = if j < i ∧ l[j].dg ∈ V ∧ bAt l l[j].dg = j then mkB true l[j] else l[j] := by
  unfold mOn; rw [List.getElem_mapIdx]
theorem mOn_zero (V : List (List UInt8)) (l : List Bl) : mOn V l 0 = l := List.ext_getElem (mOn_len _ _ _) fun j h1 h2 => by
  rw [mOn_get h2, if_neg (fun q => Nat.not_lt_zero _ q.1)]
theorem mOn_nil (l : List Bl) (i : Nat) : mOn [] l i = l := List.ext_getElem (mOn_len _ _ _) fun j h1 h2 => by
  rw [mOn_get h2, if_neg (fun q => by cases q.2.1)]
theorem mOn_hit {V : List (List UInt8)} {l : List Bl} {i : Nat} (h : i < l.length) (hv : l[i].dg ∈ V) (hf : bAt l l[i].dg = i) : (mOn V l i).modify i (mkB true) = mOn V l (i + 1) := by
  refine List.ext_getElem (by rw [List.length_modify, mOn_len, mOn_len]) fun j h1 h2 => ?_
  have hj : j < l.length := by rwa [mOn_len] at h2
  rw [List.getElem_modify, mOn_get hj, mOn_get hj]
  by_cases q : i = j
  · subst q; rw [if_pos rfl, if_neg (fun q => absurd q.1 (by omega)), if_pos ⟨by omega, hv, hf⟩]
  · rw [if_neg q]
    by_cases r : j < i ∧ l[j].dg ∈ V ∧ bAt l l[j].dg = j
    · rw [if_pos r, if_pos ⟨by omega, r.2⟩]
    · rw [if_neg r, if_neg (fun z => r ⟨by omega, z.2⟩)]
theorem mOn_miss {V : List (List UInt8)} {l : List Bl} {i : Nat} (h : i < l.length) (hv : ¬ (l[i].dg ∈ V ∧ bAt l l[i].dg = i)) : mOn V l (i + 1) = mOn V l i := by
  refine List.ext_getElem (by rw [mOn_len, mOn_len]) fun j h1 h2 => ?_
  have hj : j < l.length := by rwa [mOn_len] at h2
  rw [mOn_get hj, mOn_get hj]
  by_cases r : j < i ∧ l[j].dg ∈ V ∧ bAt l l[j].dg = j
  · rw [if_pos r, if_pos ⟨by omega, r.2⟩]
  · rw [if_neg r, if_neg]
    rintro ⟨z1, z2⟩
    by_cases q : j = i
    · subst q; exact hv z2
    · exact r ⟨by omega, z2⟩
/-- marked at once: the first blobs of these digests -/
def mFr (V : List (List UInt8)) (l : List Bl) : List Bl := mOn V l l.length
def mAll (l : List Bl) (ds : List (List UInt8)) : List Bl := mFr (ris (rFrom l pOf ds)) l
theorem mFr_len (V : List (List UInt8)) (l : List Bl) : (mFr V l).length = l.length := mOn_len _ _ _
theorem mFr_get {V : List (List UInt8)} {l : List Bl} {j : Nat} (h : j < l.length) : (mFr V l)[j]'(by rw [mFr_len]; exact h) = if l[j].dg ∈ V ∧ bAt l l[j].dg = j then mkB true l[j] else l[j] := by
  unfold mFr
  rw [mOn_get h]
  by_cases r : l[j].dg ∈ V ∧ bAt l l[j].dg = j
  · rw [if_pos r, if_pos ⟨h, r⟩]
  · rw [if_neg r, if_neg (fun z => r z.2)]
theorem mFr_nil (l : List Bl) : mFr [] l = l := mOn_nil l _
theorem mFr_step {V : List (List UInt8)} {l : List Bl} {k : Nat} (hk : k < V.length) (hd : bAt l V[k] < l.length) : (mFr (V.take k) l).modify (bAt l V[k]) (mkB true) = mFr (V.take (k + 1)) l := by
  refine List.ext_getElem (by rw [List.length_modify, mFr_len, mFr_len]) fun j h1 h2 => ?_
  have hj : j < l.length := by rwa [mFr_len] at h2
  have hm : ∀ x, x ∈ V.take (k + 1) ↔ x ∈ V.take k ∨ x = V[k] := fun x => by
    rw [List.take_succ_eq_append_getElem hk, List.mem_append, List.mem_singleton]
  rw [List.getElem_modify, mFr_get hj, mFr_get hj]
  have hat := at_dg hd
  by_cases q : bAt l V[k] = j
  · rw [if_pos q]
    have e : l[j].dg = V[k] := by rw [← hat]; congr 2; exact q.symm
    rw [if_pos (⟨(hm _).2 (.inr e), by rw [e]; exact q⟩ : l[j].dg ∈ V.take (k + 1) ∧ bAt l l[j].dg = j)]
    split <;> rfl
  · rw [if_neg q]
    by_cases r : l[j].dg ∈ V.take k ∧ bAt l l[j].dg = j
    · rw [if_pos r, if_pos ⟨(hm _).2 (.inl r.1), r.2⟩]
    · rw [if_neg r, if_neg]
      rintro ⟨z1, z2⟩
      rcases (hm _).1 z1 with z | z
      · exact r ⟨z, z2⟩
      · rw [z] at z2; exact q z2
theorem mFr_bAt (V : List (List UInt8)) (l : List Bl) (d : List UInt8) : bAt (mFr V l) d = bAt l d := by
  have e : (mFr V l).map (mkB false) = l.map (mkB false) := List.ext_getElem (by rw [List.length_map, List.length_map, mFr_len]) fun j h1 h2 => by
    have hj : j < l.length := by rwa [List.length_map] at h2
    rw [List.getElem_map, List.getElem_map, mFr_get hj]
    split <;> rfl
  exact same_bAt e d
theorem at_self {l : List Bl} {i : Nat} (h : i < l.length) : bAt l l[i].dg ≤ i := by
  unfold bAt
  refine Classical.byContradiction fun q => ?_
  have := List.not_of_lt_findIdx (xs := l) (p := fun b => b.dg == l[i].dg) (i := i) (by omega)
  simp at this
/-- what is still to be met, of V, from blob i on -/
def mLeft (V : List (List UInt8)) (l : List Bl) (i : Nat) : List (List UInt8) := V.filter fun d => decide (i ≤ bAt l d)
theorem mLeft_zero (V : List (List UInt8)) (l : List Bl) : mLeft V l 0 = V := List.filter_eq_self.2 fun d _ => by simp
theorem mLeft_mem {V : List (List UInt8)} {l : List Bl} {i : Nat} (h : i < l.length) : l[i].dg ∈ mLeft V l i ↔ l[i].dg ∈ V ∧ bAt l l[i].dg = i := by
  unfold mLeft
  rw [List.mem_filter, decide_eq_true_iff]
  have := at_self h
  exact ⟨fun ⟨a, b⟩ => ⟨a, by omega⟩, fun ⟨a, b⟩ => ⟨a, by omega⟩⟩
theorem mLeft_step {V : List (List UInt8)} {l : List Bl} {i : Nat} (h : i < l.length) (s : List UInt8) : s ∈ mLeft V l (i + 1) ↔ s ∈ mLeft V l i ∧ ¬ (s = l[i].dg) := by
  unfold mLeft
  rw [List.mem_filter, List.mem_filter, decide_eq_true_iff, decide_eq_true_iff]
  have := at_self h
  constructor
  · rintro ⟨a, b⟩
    refine ⟨⟨a, by omega⟩, fun q => ?_⟩
    subst q; omega
  · rintro ⟨⟨a, b⟩, c⟩
    refine ⟨a, ?_⟩
    rcases Nat.lt_or_eq_of_le b with q | q
    · omega
    · refine absurd ?_ c
      have hh : bAt l s < l.length := by omega
      have := at_dg hh
      rw [← this]; congr 2; exact q.symm
end Go.Proofs.YtdbdigcpibmgjaaGreatDoor
/- Marking in a row of blobs of the call's own. Nothing of the program. -/
namespace Go.Proofs.YtdbdigcpibmgjaaGreatDoor
open Go.RowKit
theorem KOwn.markB {w : World} {base : Nat} {e : TypeId} {v : Value} {l : List Bl} (h : KOwn kBl w base e v l) {i : Nat} (hi : i < l.length) (b : Bool) :
    ∃ g c, v = .slice (some ⟨g, 0, none⟩) l.length c ∧ base ≤ g ∧ g < w.heap.size ∧ w.cell? ⟨g, i * 4 + 3, none⟩ = some (.bool l[i].mr) ∧ w.frozen? ⟨g, i * 4 + 3, none⟩ = false ∧
      KOwn kBl (w.setCell ⟨g, i * 4 + 3, none⟩ (.bool b)) base e v (l.modify i (mkB b)) :=
  h.mod hi (mkB b) (.bool b) 3 (by decide) (fun _ _ => rfl) (fun _ _ _ h => h) (fun x => .bool x.mr) (fun _ _ => rfl)
theorem modify_set {l : List Bl} {i : Nat} (h : i < l.length) (f : Bl → Bl) : l.modify i f = l.set i (f l[i]) := by
  refine List.ext_getElem (by rw [List.length_modify, List.length_set]) fun j h1 h2 => ?_
  rw [List.getElem_modify, List.getElem_set]
  by_cases q : i = j
  · subst q; simp
  · rw [if_neg q, if_neg q]
theorem mst_none {l : List Bl} {d : List UInt8} (h : ¬ bAt l d < l.length) (r : List (List UInt8)) : mSt l (d :: r) = (l, r) := by rw [mSt_cons, dif_neg h]
theorem mst_old {l : List Bl} {d : List UInt8} (h : bAt l d < l.length) (hm : l[bAt l d].mr = true) (r : List (List UInt8)) : mSt l (d :: r) = (l, r) := by rw [mSt_cons, dif_pos h, if_pos hm]
theorem mst_new {l : List Bl} {d : List UInt8} (h : bAt l d < l.length) (hm : l[bAt l d].mr = false) (r : List (List UInt8)) : mSt l (d :: r) = (l.modify (bAt l d) (mkB true), ris (r ++ pOf l[bAt l d])) := by
  rw [mSt_cons, dif_pos h, if_neg (by rw [hm]; simp), modify_set h]
end Go.Proofs.YtdbdigcpibmgjaaGreatDoor

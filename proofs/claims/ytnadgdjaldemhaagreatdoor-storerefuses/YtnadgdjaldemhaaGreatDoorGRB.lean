/- Texts that belong together: what the functions of the program and of the statements return. -/
import Derived.Test.YtnadgdjaldemhaaGreatDoorGA
import Derived.Test.YtnadgdjaldemhaaGreatDoorGC
import Derived.Test.YtnadgdjaldemhaaGreatDoorGN
import Derived.Test.YtnadgdjaldemhaaGreatDoorGO
/- Texts in their order, none twice: plain functions, and what holds of them. Nothing of the program. -/
namespace Go.Proofs.YtnadgdjaldemhaaGreatDoor
open Go.RowKit
/-- where a text belongs; a list with it; the list of them all -/
def tTo (l : List (List UInt8)) (s : List UInt8) : Nat := l.findIdx fun t => !Op.bytesLess t s
def tIns (l : List (List UInt8)) (s : List UInt8) : List (List UInt8) := if (l.getD (tTo l s) [] == s) && decide (tTo l s < l.length) then l else l.take (tTo l s) ++ s :: l.drop (tTo l s)
def ris (l : List (List UInt8)) : List (List UInt8) := l.foldl tIns []
theorem tTo_eq {l : List (List UInt8)} {d : List UInt8} {k : Nat} (hk : k ≤ l.length) (h1 : ∀ j (h : j < l.length), j < k → Op.bytesLess l[j] d = true) (h2 : ∀ h : k < l.length, Op.bytesLess l[k] d = false) : tTo l d = k := by
  rcases Nat.lt_trichotomy (tTo l d) k with q | q | q
  · have hlt : tTo l d < l.length := Nat.lt_of_lt_of_le q hk
    have h0 : (!Op.bytesLess l[tTo l d] d) = true := List.findIdx_getElem (xs := l) (p := fun t => !Op.bytesLess t d) (w := hlt)
    rw [h1 _ hlt q] at h0
    cases h0
  · exact q
  · have hkl : k < l.length := Nat.lt_of_lt_of_le q List.findIdx_le_length
    have := List.not_of_lt_findIdx (xs := l) (p := fun t => !Op.bytesLess t d) q
    rw [h2 hkl] at this
    simp at this
theorem tIns_length (l : List (List UInt8)) (s : List UInt8) : (tIns l s).length ≤ l.length + 1 := by
  unfold tIns
  split
  · omega
  · simp only [List.length_append, List.length_cons, List.length_take, List.length_drop]; omega
theorem ris_length (l : List (List UInt8)) : (ris l).length ≤ l.length := by
  unfold ris
  have : ∀ (l acc : List (List UInt8)), (l.foldl tIns acc).length ≤ acc.length + l.length := by
    intro l
    induction l with
    | nil => intro acc; simp
    | cons a r ih => intro acc; rw [List.foldl_cons, List.length_cons]; have := ih (tIns acc a); have := tIns_length acc a; omega
  simpa using this l []
theorem ris_step {l : List (List UInt8)} {k : Nat} (h : k < l.length) : ris (l.take (k + 1)) = tIns (ris (l.take k)) l[k] := by
  unfold ris; rw [List.take_succ_eq_append_getElem h, List.foldl_append]; rfl
/-- texts in their order, none twice -/
def SrT (l : List (List UInt8)) : Prop := l.Pairwise fun a b => Op.bytesLess a b = true
theorem tTo_le (l : List (List UInt8)) (d : List UInt8) : tTo l d ≤ l.length := List.findIdx_le_length
theorem tTo_front {l : List (List UInt8)} {d : List UInt8} {j : Nat} (hj : j < tTo l d) : Op.bytesLess (l[j]'(Nat.lt_of_lt_of_le hj (tTo_le l d))) d = true := by
  have := List.not_of_lt_findIdx (xs := l) (p := fun t => !Op.bytesLess t d) hj
  simpa using this
theorem tTo_here {l : List (List UInt8)} {d : List UInt8} (h : tTo l d < l.length) : Op.bytesLess l[tTo l d] d = false := by
  have h0 : (!Op.bytesLess l[tTo l d] d) = true := List.findIdx_getElem (xs := l) (p := fun t => !Op.bytesLess t d) (w := h)
  simpa using h0
theorem tTo_back {l : List (List UInt8)} (h : SrT l) {d : List UInt8} {j : Nat} (hj : j < l.length) (hk : tTo l d ≤ j) (hne : l[j] ≠ d) : Op.bytesLess d l[j] = true := by
  have hk2 : tTo l d < l.length := Nat.lt_of_le_of_lt hk hj
  have h1 := tTo_here hk2
  have h2 : Op.bytesLess l[j] d = false := by
    rcases Nat.lt_or_eq_of_le hk with q | q
    · rw [Bool.eq_false_iff]
      intro hh
      have := bl_trans (List.pairwise_iff_getElem.1 h _ _ hk2 hj q) hh
      rw [h1] at this
      cases this
    · have e : l[tTo l d] = l[j] := by congr 1
      rw [← e]; exact h1
  rcases bl_cases d l[j] with q | q | q
  · exact q
  · exact absurd q.symm hne
  · rw [h2] at q; cases q
/-- in order, it is there where it belongs, or nowhere -/
theorem tIns_cond {l : List (List UInt8)} (h : SrT l) {s : List UInt8} : ((l.getD (tTo l s) [] == s) && decide (tTo l s < l.length)) = true ↔ s ∈ l := by
  constructor
  · intro q
    rw [Bool.and_eq_true] at q
    obtain ⟨q1, q2⟩ := q
    have q2' : tTo l s < l.length := by simpa using q2
    rw [List.getD_eq_getElem?_getD, List.getElem?_eq_getElem q2'] at q1
    have : l[tTo l s] = s := eq_of_beq q1
    rw [← this]; exact List.getElem_mem q2'
  · intro hs
    obtain ⟨j, hj, e⟩ := List.mem_iff_getElem.1 hs
    have hle : tTo l s ≤ j := by
      rcases Nat.lt_or_ge j (tTo l s) with q | q
      · have := tTo_front q
        rw [e, bl_irrefl] at this
        cases this
      · exact q
    have hk : tTo l s < l.length := by omega
    have hjk : j = tTo l s := by
      rcases Nat.lt_or_eq_of_le hle with q | q
      · have h1 := List.pairwise_iff_getElem.1 h _ _ hk hj q
        rw [e] at h1
        rw [tTo_here hk] at h1
        cases h1
      · exact q.symm
    subst hjk
    rw [Bool.and_eq_true]
    refine ⟨?_, by simpa using hk⟩
    rw [List.getD_eq_getElem?_getD, List.getElem?_eq_getElem hk]
    simp [e]
theorem tIns_mem {l : List (List UInt8)} (h : SrT l) {s x : List UInt8} : x ∈ tIns l s ↔ x ∈ l ∨ x = s := by
  unfold tIns
  by_cases hc : ((l.getD (tTo l s) [] == s) && decide (tTo l s < l.length)) = true
  · rw [if_pos hc]
    have hs := (tIns_cond h).1 hc
    constructor
    · exact .inl
    · rintro (q | rfl)
      · exact q
      · exact hs
  · rw [if_neg hc, List.mem_append, List.mem_cons]
    constructor
    · rintro (q | q | q)
      · exact .inl (List.mem_of_mem_take q)
      · exact .inr q
      · exact .inl (List.mem_of_mem_drop q)
    · rintro (q | q)
      · rw [← List.take_append_drop (tTo l s) l, List.mem_append] at q
        rcases q with q | q
        · exact .inl q
        · exact .inr (.inr q)
      · exact .inr (.inl q)
theorem SrT.ins {l : List (List UInt8)} (h : SrT l) (s : List UInt8) : SrT (tIns l s) := by
  unfold tIns
  by_cases hc : ((l.getD (tTo l s) [] == s) && decide (tTo l s < l.length)) = true
  · rw [if_pos hc]; exact h
  · rw [if_neg hc]
    have hn : s ∉ l := fun q => hc ((tIns_cond h).2 q)
    unfold SrT
    rw [List.pairwise_append]
    refine ⟨List.Pairwise.sublist (List.take_sublist _ _) h, List.pairwise_cons.2 ⟨fun x hx => ?_, List.Pairwise.sublist (List.drop_sublist _ _) h⟩, fun a ha x hx => ?_⟩
    · obtain ⟨i, hi, rfl⟩ := List.mem_iff_getElem.1 hx
      rw [List.getElem_drop]
      rw [List.length_drop] at hi
      exact tTo_back h _ (by omega) (fun q => hn (q ▸ List.getElem_mem _))
    · obtain ⟨i, hi, rfl⟩ := List.mem_iff_getElem.1 ha
      rw [List.length_take] at hi
      rw [List.getElem_take]
      have hf : Op.bytesLess (l[i]'(by omega)) s = true := tTo_front (by omega)
      rcases List.mem_cons.1 hx with rfl | hx
      · exact hf
      · obtain ⟨j, hj, rfl⟩ := List.mem_iff_getElem.1 hx
        rw [List.getElem_drop]
        rw [List.length_drop] at hj
        exact bl_trans hf (tTo_back h _ (by omega) (fun q => hn (q ▸ List.getElem_mem _)))
theorem foldl_tIns : ∀ (l acc : List (List UInt8)), SrT acc → SrT (l.foldl tIns acc) ∧ ∀ x, x ∈ l.foldl tIns acc ↔ x ∈ acc ∨ x ∈ l
  | [], acc, h => ⟨h, fun x => by simp⟩
  | a :: r, acc, h => by
    obtain ⟨h1, h2⟩ := foldl_tIns r (tIns acc a) (h.ins a)
    refine ⟨h1, fun x => ?_⟩
    rw [List.foldl_cons, h2, tIns_mem h, List.mem_cons]
    constructor
    · rintro ((q | q) | q)
      · exact .inl q
      · exact .inr (.inl q)
      · exact .inr (.inr q)
    · rintro (q | q | q)
      · exact .inl (.inl q)
      · exact .inl (.inr q)
      · exact .inr q
theorem ris_srt (l : List (List UInt8)) : SrT (ris l) := (foldl_tIns l [] List.Pairwise.nil).1
theorem ris_mem {l : List (List UInt8)} {x : List UInt8} : x ∈ ris l ↔ x ∈ l := by
  have := (foldl_tIns l [] List.Pairwise.nil).2 x
  unfold ris
  simpa using this
/-- texts in their order are known by what is among them -/
theorem SrT.ext : ∀ {l m : List (List UInt8)}, SrT l → SrT m → (∀ x, x ∈ l ↔ x ∈ m) → l = m
  | [], [], _, _, _ => rfl
  | [], b :: m, _, _, h => absurd ((h b).2 (List.mem_cons_self ..)) (by simp)
  | a :: l, [], _, _, h => absurd ((h a).1 (List.mem_cons_self ..)) (by simp)
  | a :: l, b :: m, hl, hm, h => by
    obtain ⟨hl1, hl2⟩ := List.pairwise_cons.1 hl
    obtain ⟨hm1, hm2⟩ := List.pairwise_cons.1 hm
    have hab : a = b := by
      rcases List.mem_cons.1 ((h a).1 (List.mem_cons_self ..)) with q | q
      · exact q
      · rcases List.mem_cons.1 ((h b).2 (List.mem_cons_self ..)) with p | p
        · exact p.symm
        · have := bl_trans (hm1 a q) (hl1 b p)
          rw [bl_irrefl] at this
          cases this
    subst hab
    congr 1
    refine SrT.ext hl2 hm2 fun x => ?_
    constructor
    · intro q
      rcases List.mem_cons.1 ((h x).1 (List.mem_cons_of_mem _ q)) with p | p
      · subst p
        have := hl1 x q
        rw [bl_irrefl] at this
        cases this
      · exact p
    · intro q
      rcases List.mem_cons.1 ((h x).2 (List.mem_cons_of_mem _ q)) with p | p
      · subst p
        have := hm1 x q
        rw [bl_irrefl] at this
        cases this
      · exact p
theorem ris_ext {l m : List (List UInt8)} (h : ∀ x, x ∈ l ↔ x ∈ m) : ris l = ris m := SrT.ext (ris_srt l) (ris_srt m) fun x => by rw [ris_mem, ris_mem, h]
theorem ris_of {l m : List (List UInt8)} (hs : SrT m) (h : ∀ x, x ∈ l ↔ x ∈ m) : ris l = m := SrT.ext (ris_srt l) hs fun x => by rw [ris_mem, h]
end Go.Proofs.YtnadgdjaldemhaaGreatDoor
/- The digests of the parts that are in bytes: a plain function. Nothing of the program. -/
namespace Go.Proofs.YtnadgdjaldemhaaGreatDoor
open Go.RowKit
theorem rdTail_len : ∀ (k : Nat) (acc : List Prt) (r : List UInt8), (rdTail k acc r).2.length ≤ acc.length + k
  | 0, acc, r => by
    rw [rdTail]
    split <;> (try split) <;> simp
  | k + 1, acc, r => by
    rw [rdTail]
    have := rdTail_len k (acc ++ [⟨tStr r, hexT ((tRest r).take 32), (rVal ((tRest r).drop 32) : Int)⟩]) (rRest ((tRest r).drop 32))
    rw [List.length_append] at this
    simp only [List.length_singleton] at this
    repeat' split
    all_goals first | (simp; done) | omega
theorem dec_len (l : List UInt8) : (dec l).2.length ≤ 8 := by
  unfold dec
  split
  · simp
  · split
    · simp
    · split
      · simp
      · split
        · simp
        · have := rdTail_len (rVal (l.drop 3)) [] (rRest (l.drop 3))
          simp at this
          omega
/-- the digests of the parts that are in bytes -/
def pIn (b : List UInt8) : List (List UInt8) := (dec b).2.map Prt.dg
theorem pIn_len (b : List UInt8) : (pIn b).length ≤ 8 := by unfold pIn; rw [List.length_map]; exact dec_len b
end Go.Proofs.YtnadgdjaldemhaaGreatDoor
/- What is met from some digests on: plain functions, and what holds of them. Nothing of the program. -/
namespace Go.Proofs.YtnadgdjaldemhaaGreatDoor
open Go.RowKit
theorem nodup_lt : ∀ (n : Nat) (s : List Nat), s.Nodup → (∀ x ∈ s, x < n) → s.length ≤ n
  | 0, s, _, h => by
    cases s with
    | nil => simp
    | cons x r => exact absurd (h x (List.mem_cons_self ..)) (by omega)
  | n + 1, s, hn, h => by
    by_cases hm : n ∈ s
    · have h1 := nodup_lt n (s.erase n) (hn.erase n) (fun x hx => by
        have h2 : x ≠ n := fun q => by
          subst q
          exact (List.Nodup.not_mem_erase hn) hx
        have := h x (List.mem_of_mem_erase hx)
        omega)
      rw [List.length_erase_of_mem hm] at h1
      omega
    · have := nodup_lt n s hn (fun x hx => by
        have h2 : x ≠ n := fun q => hm (q ▸ hx)
        have := h x hx
        omega)
      omega
section
variable (l : List Bl) (P : Bl → List (List UInt8))
/-- one digest more, if its blob is there and it is not yet met -/
def rAdd (met : List (List UInt8)) (d : List UInt8) : List (List UInt8) := if bAt l d < l.length ∧ (met.any fun t => d == t) = false then met ++ [d] else met
def rAdds (met ds : List (List UInt8)) : List (List UInt8) := ds.foldl (rAdd l) met
/-- the parts of the blob of a digest -/
def rPar (d : List UInt8) : List (List UInt8) := P (l.getD (bAt l d) default)
/-- all that is met, place after place -/
def rGo : Nat → List (List UInt8) → Nat → List (List UInt8)
  | 0, met, _ => met
  | f + 1, met, i => if h : i < met.length then rGo f (rAdds l met (rPar l P met[i])) (i + 1) else met
/-- digests of blobs that are there, none twice -/
structure Met (met : List (List UInt8)) : Prop where
  nd : met.Nodup
  inl : ∀ d ∈ met, bAt l d < l.length
variable {l P}
theorem Met.nil : Met l [] := ⟨List.nodup_nil, fun _ h => by cases h⟩
theorem bAt_inj {d e : List UInt8} (hd : bAt l d < l.length) (he : bAt l e < l.length) (q : bAt l d = bAt l e) : d = e := by
  have h1 := bAt_there hd
  have h2 := bAt_there he
  have : l[bAt l d] = l[bAt l e] := by congr 1
  rw [← h1, ← h2, this]
theorem Met.len {met : List (List UInt8)} (h : Met l met) : met.length ≤ l.length := by
  have h1 : (met.map (bAt l)).Nodup := by
    rw [List.nodup_iff_pairwise_ne, List.pairwise_map]
    have h0 := h.nd
    rw [List.nodup_iff_pairwise_ne] at h0
    refine List.Pairwise.imp_of_mem (fun {a b} ha hb hne q => hne (bAt_inj (h.inl a ha) (h.inl b hb) q)) h0
  have := nodup_lt l.length (met.map (bAt l)) h1 (fun x hx => by
    obtain ⟨d, hd, rfl⟩ := List.mem_map.1 hx
    exact h.inl d hd)
  rwa [List.length_map] at this
theorem any_mem {met : List (List UInt8)} {d : List UInt8} : (met.any fun t => d == t) = true ↔ d ∈ met := by
  rw [List.any_eq_true]
  constructor
  · rintro ⟨t, ht, q⟩
    rw [eq_of_beq q]; exact ht
  · intro h
    exact ⟨d, h, by simp⟩
theorem any_not {met : List (List UInt8)} {d : List UInt8} : (met.any fun t => d == t) = false ↔ d ∉ met := by
  rw [← any_mem (met := met) (d := d)]
  cases met.any fun t => d == t <;> simp
theorem rAdd_mem {met : List (List UInt8)} {d x : List UInt8} : x ∈ rAdd l met d ↔ x ∈ met ∨ (x = d ∧ bAt l d < l.length) := by
  unfold rAdd
  split
  · rename_i q
    rw [List.mem_append, List.mem_singleton]
    constructor
    · rintro (h | h)
      · exact .inl h
      · exact .inr ⟨h, q.1⟩
    · rintro (h | h)
      · exact .inl h
      · exact .inr h.1
  · rename_i q
    constructor
    · exact .inl
    · rintro (h | ⟨rfl, h2⟩)
      · exact h
      · exact Classical.byContradiction fun hn => q ⟨h2, any_not.2 hn⟩
theorem Met.add {met : List (List UInt8)} (h : Met l met) (d : List UInt8) : Met l (rAdd l met d) := by
  refine ⟨?_, fun x hx => ?_⟩
  · unfold rAdd
    split
    · rename_i q
      have hn := any_not.1 q.2
      rw [List.nodup_append]
      exact ⟨h.nd, by simp, fun a ha b hb => by rw [List.mem_singleton] at hb; subst hb; exact fun q => hn (q ▸ ha)⟩
    · exact h.nd
  · rcases rAdd_mem.1 hx with q | ⟨rfl, q⟩
    · exact h.inl x q
    · exact q
theorem rAdds_mem : ∀ {ds met : List (List UInt8)} {x : List UInt8}, x ∈ rAdds l met ds ↔ x ∈ met ∨ (x ∈ ds ∧ bAt l x < l.length)
  | [], met, x => by simp [rAdds]
  | d :: r, met, x => by
    show x ∈ rAdds l (rAdd l met d) r ↔ _
    rw [rAdds_mem, rAdd_mem, List.mem_cons]
    constructor
    · rintro ((h | ⟨h1, h2⟩) | ⟨h1, h2⟩)
      · exact .inl h
      · exact .inr ⟨.inl h1, by rw [h1]; exact h2⟩
      · exact .inr ⟨.inr h1, h2⟩
    · rintro (h | ⟨h1 | h1, h2⟩)
      · exact .inl (.inl h)
      · exact .inl (.inr ⟨h1, by rw [← h1]; exact h2⟩)
      · exact .inr ⟨h1, h2⟩
theorem Met.adds : ∀ {ds met : List (List UInt8)}, Met l met → Met l (rAdds l met ds)
  | [], _, h => h
  | d :: r, _, h => Met.adds (ds := r) (h.add d)
/-- what is met stands where it stood -/
theorem rAdd_pre (met : List (List UInt8)) (d : List UInt8) : met <+: rAdd l met d := by
  unfold rAdd
  split
  · exact List.prefix_append _ _
  · exact List.prefix_refl _
theorem rAdds_pre : ∀ (ds met : List (List UInt8)), met <+: rAdds l met ds
  | [], _ => List.prefix_refl _
  | d :: r, met => (rAdd_pre met d).trans (rAdds_pre r (rAdd l met d))
/-- a digest that is come to from the digests ds -/
inductive Rch (l : List Bl) (P : Bl → List (List UInt8)) (ds : List (List UInt8)) : List UInt8 → Prop
  | here {d : List UInt8} : d ∈ ds → bAt l d < l.length → Rch l P ds d
  | next {d e : List UInt8} : Rch l P ds d → e ∈ rPar l P d → bAt l e < l.length → Rch l P ds e
theorem rGo_end {f i : Nat} {met : List (List UInt8)} (h : ¬ i < met.length) : rGo l P f met i = met := by
  cases f with
  | zero => rfl
  | succ f => rw [rGo, dif_neg h]
theorem rGo_step {f i : Nat} {met : List (List UInt8)} (h : i < met.length) : rGo l P (f + 1) met i = rGo l P f (rAdds l met (rPar l P met[i])) (i + 1) := by
  rw [rGo, dif_pos h]
theorem rGo_met : ∀ (f : Nat) {met : List (List UInt8)} {i : Nat}, Met l met → Met l (rGo l P f met i)
  | 0, _, _, h => h
  | f + 1, met, i, h => by
    by_cases hi : i < met.length
    · rw [rGo_step hi]; exact rGo_met f h.adds
    · rw [rGo_end hi]; exact h
/-- what is met, at the end: all that is come to, and nothing else -/
theorem rGo_rch {ds : List (List UInt8)} : ∀ (f : Nat) {met : List (List UInt8)} {i : Nat}, Met l met → l.length + 1 ≤ f + i → i ≤ met.length →
    (∀ d ∈ met, Rch l P ds d) → (∀ d ∈ ds, bAt l d < l.length → d ∈ met) → (∀ j (hj : j < met.length), j < i → ∀ e ∈ rPar l P met[j], bAt l e < l.length → e ∈ met) →
    ∀ d, d ∈ rGo l P f met i ↔ Rch l P ds d
  | f, met, i, hM, hf, hil, h1, h2, h3, d => by
    by_cases hi : i < met.length
    · have hlen := hM.len
      obtain ⟨g, rfl⟩ : ∃ g, f = g + 1 := ⟨f - 1, by omega⟩
      rw [rGo_step hi]
      have hpre := rAdds_pre (l := l) (rPar l P met[i]) met
      have hpl := hpre.length_le
      refine rGo_rch g hM.adds (by omega) (by omega) (fun x hx => ?_) (fun x hx hl => rAdds_mem.2 (.inl (h2 x hx hl))) (fun j hj hji e he hl => ?_) d
      · rcases rAdds_mem.1 hx with q | ⟨q, hl⟩
        · exact h1 x q
        · exact .next (h1 _ (List.getElem_mem hi)) q hl
      · have hjm : j < met.length := by omega
        have ej : (rAdds l met (rPar l P met[i]))[j] = met[j] := (hpre.getElem hjm).symm
        rw [ej] at he
        rcases Nat.lt_or_eq_of_le (Nat.le_of_lt_succ hji) with q | q
        · exact rAdds_mem.2 (.inl (h3 j hjm q e he hl))
        · subst q
          exact rAdds_mem.2 (.inr ⟨he, hl⟩)
    · rw [rGo_end hi]
      refine ⟨h1 d, fun h => ?_⟩
      induction h with
      | here hd hl => exact h2 _ hd hl
      | next _ he hl ih =>
        obtain ⟨j, hj, rfl⟩ := List.mem_iff_getElem.1 ih
        exact h3 j hj (by omega) _ he hl
/-- all that is met from the digests ds on -/
def rFrom (l : List Bl) (P : Bl → List (List UInt8)) (ds : List (List UInt8)) : List (List UInt8) := rGo l P (l.length + 1) (rAdds l [] ds) 0
theorem rFrom_met (ds : List (List UInt8)) : Met l (rFrom l P ds) := rGo_met _ Met.nil.adds
theorem rFrom_rch (ds : List (List UInt8)) (d : List UInt8) : d ∈ rFrom l P ds ↔ Rch l P ds d :=
  rGo_rch (l.length + 1) Met.nil.adds (by omega) (Nat.zero_le _) (fun x hx => by
    rcases rAdds_mem.1 hx with q | ⟨q, hl⟩
    · cases q
    · exact .here q hl) (fun x hx hl => rAdds_mem.2 (.inr ⟨hx, hl⟩)) (fun j _ hj => absurd hj (by omega)) d
end
end Go.Proofs.YtnadgdjaldemhaaGreatDoor
/- The roots of a store: a plain function, and what holds of it. Nothing of the program. -/
namespace Go.Proofs.YtnadgdjaldemhaaGreatDoor
open Go.RowKit
/-- blobs that somebody holds; the parts of entries; the roots of a store, not yet in order -/
def bRoots (l : List Bl) : List (List UInt8) := (l.filter fun b => decide (0 < b.pn)).map Bl.dg
def eRoots (l : List En) : List (List UInt8) := l.flatMap fun e => e.ps.map Prt.dg
def roots (l : List Bl) (es : List En) : List (List UInt8) := bRoots l ++ eRoots es
theorem bRoots_step {l : List Bl} {k : Nat} (h : k < l.length) : bRoots (l.take (k + 1)) = bRoots (l.take k) ++ (if 0 < l[k].pn then [l[k].dg] else []) := by
  unfold bRoots
  rw [List.take_succ_eq_append_getElem h, List.filter_append, List.map_append]
  congr 1
  by_cases hp : 0 < l[k].pn <;> simp [hp]
theorem eRoots_step {l : List En} {k : Nat} (h : k < l.length) : eRoots (l.take (k + 1)) = eRoots (l.take k) ++ l[k].ps.map Prt.dg := by
  unfold eRoots
  rw [List.take_succ_eq_append_getElem h, List.flatMap_append]; simp
theorem bRoots_pre (l : List Bl) (k : Nat) : (bRoots (l.take k)).length ≤ (bRoots l).length := by
  unfold bRoots
  rw [List.length_map, List.length_map]
  exact (List.Sublist.filter _ (List.take_sublist _ _)).length_le
theorem eRoots_pre (l : List En) (k : Nat) : (eRoots (l.take k)).length ≤ (eRoots l).length := by
  have h : eRoots l = eRoots (l.take k) ++ eRoots (l.drop k) := by unfold eRoots; rw [← List.flatMap_append, List.take_append_drop]
  rw [h, List.length_append]; omega
theorem mem_roots {l : List Bl} {es : List En} {d : List UInt8} : d ∈ roots l es ↔ (∃ b ∈ l, 0 < b.pn ∧ b.dg = d) ∨ ∃ e ∈ es, ∃ p ∈ e.ps, p.dg = d := by
  unfold roots bRoots eRoots
  simp only [List.mem_append, List.mem_map, List.mem_filter, List.mem_flatMap, decide_eq_true_eq]
  constructor
  · rintro (⟨b, ⟨h1, h2⟩, h3⟩ | h)
    · exact .inl ⟨b, h1, h2, h3⟩
    · exact .inr h
  · rintro (⟨b, h1, h2, h3⟩ | h)
    · exact .inl ⟨b, ⟨h1, h2⟩, h3⟩
    · exact .inr h
end Go.Proofs.YtnadgdjaldemhaaGreatDoor

/- The store: what its doings leave is a store that may be. Nothing of the program. -/
import Derived.Test.YtnadgdjaldemhaaGreatDoorQZs
namespace Go.Proofs.YtnadgdjaldemhaaGreatDoor
open Go.RowKit
theorem of_modify {α : Type} {l : List α} {i : Nat} {g : α → α} {y : α} (h : y ∈ l.modify i g) : y ∈ l ∨ ∃ hi : i < l.length, y = g l[i] := by
  obtain ⟨j, hj, rfl⟩ := List.mem_iff_getElem.1 h
  rw [List.length_modify] at hj
  rw [List.getElem_modify]
  split
  · rename_i q; subst q; exact .inr ⟨hj, rfl⟩
  · exact .inl (List.getElem_mem hj)
theorem to_modify {α : Type} {l : List α} {i : Nat} {g : α → α} {x : α} (h : x ∈ l) : x ∈ l.modify i g ∨ g x ∈ l.modify i g := by
  obtain ⟨j, hj, rfl⟩ := List.mem_iff_getElem.1 h
  have hm : j < (l.modify i g).length := by rw [List.length_modify]; exact hj
  have := List.getElem_mem hm
  rw [List.getElem_modify] at this
  split at this
  · exact .inr this
  · exact .inl this
theorem pw_modify {α : Type} {R : α → α → Prop} {l : List α} {i : Nat} {g : α → α} (h : l.Pairwise R) (h1 : ∀ a b, R a b → R (g a) b) (h2 : ∀ a b, R a b → R a (g b)) : (l.modify i g).Pairwise R := by
  rw [List.pairwise_iff_getElem] at h ⊢
  intro a b ha hb hab
  rw [List.length_modify] at ha hb
  have := h a b ha hb hab
  rw [List.getElem_modify, List.getElem_modify]
  split
  · split
    · exact h1 _ _ (h2 _ _ this)
    · exact h1 _ _ this
  · split
    · exact h2 _ _ this
    · exact this
theorem bHold_ok {l : List Bl} {i : Nat} {n : Int} (h : bsErr l = 0) (h0 : 0 ≤ n) (h5 : n ≤ 5) : bsErr (bHold l i n) = 0 := by
  obtain ⟨f1, f2, f3⟩ := bsErr_zero.1 h
  refine bsErr_zero.2 ⟨by unfold bHold; rw [List.length_modify]; exact f1, fun b hb => ?_, pw_modify f3 (fun _ _ h => h) (fun _ _ h => h)⟩
  rcases of_modify hb with q | ⟨hi, rfl⟩
  · exact f2 b q
  · obtain ⟨g1, g2, g3, _, _⟩ := f2 l[i] (List.getElem_mem hi)
    exact ⟨g1, g2, g3, h0, h5⟩
theorem bHold_us (l : List Bl) (i : Nat) (n : Int) : uS (bHold l i n) = uS l := by
  unfold uS bHold
  congr 2
  apply List.ext_getElem?
  intro j
  rw [List.getElem?_map, List.getElem?_map, List.getElem?_modify]
  cases l[j]? with
  | none => rfl
  | some a => show some _ = some _; congr 1; show (if i = j then _ else a : Bl).dt.length = _; split <;> rfl
theorem bHold_more {l : List Bl} {i : Nat} {n : Int} : ∀ b ∈ l, ∃ c ∈ bHold l i n, c.dg = b.dg ∧ c.dt = b.dt := fun b hb => by
  rcases to_modify (i := i) (g := fun x : Bl => { x with pn := n }) hb with q | q
  · exact ⟨b, q, rfl, rfl⟩
  · exact ⟨_, q, rfl, rfl⟩
theorem xHold_ok {l : List En} {i : Nat} {n : Int} (h : xsErr l = 0) (h0 : 0 ≤ n) (h5 : n ≤ 5) : xsErr (xHold l i n) = 0 := by
  obtain ⟨f1, f2, f3⟩ := xsErr_zero.1 h
  refine xsErr_zero.2 ⟨by unfold xHold; rw [List.length_modify]; exact f1, fun b hb => ?_, pw_modify f3 (fun _ _ h => h) (fun _ _ h => h)⟩
  rcases of_modify hb with q | ⟨hi, rfl⟩
  · exact f2 b q
  · obtain ⟨g1, g2, _, _, g3, g4⟩ := f2 l[i] (List.getElem_mem hi)
    exact ⟨g1, g2, h0, h5, g3, g4⟩
theorem xStamp_ok {l : List En} {i : Nat} {t : Int} (h : xsErr l = 0) (h0 : 0 ≤ t) (h5 : t ≤ 1099511627776) : xsErr (xStamp l i t) = 0 := by
  obtain ⟨f1, f2, f3⟩ := xsErr_zero.1 h
  refine xsErr_zero.2 ⟨by unfold xStamp; rw [List.length_modify]; exact f1, fun b hb => ?_, pw_modify f3 (fun _ _ h => h) (fun _ _ h => h)⟩
  rcases of_modify hb with q | ⟨hi, rfl⟩
  · exact f2 b q
  · obtain ⟨g1, g2, g3, g4, _, _⟩ := f2 l[i] (List.getElem_mem hi)
    exact ⟨g1, g2, g3, g4, h0, h5⟩
theorem sHoldBlob_ok {s : Sto} {d : List UInt8} {up : Bool} (h : (sHoldBlob s d up).1 = 0) :
    s.ok ∧ (sHoldBlob s d up).2.ok ∧ ∃ hk : bAt s.bs d < s.bs.length, mvE s.bs[bAt s.bs d].pn up = 0 ∧ (sHoldBlob s d up).2 = { s with bs := bHold s.bs (bAt s.bs d) (mvN s.bs[bAt s.bs d].pn up) } := by
  unfold sHoldBlob at h ⊢
  split at h
  · rename_i q; exact absurd h q
  rename_i q0
  split at h
  · rename_i hk
    split at h
    · rename_i q; exact absurd h q
    rename_i q1
    have hs : s.ok := sErr_zero.1 (Classical.byContradiction q0)
    have hm : mvE s.bs[bAt s.bs d].pn up = 0 := Classical.byContradiction q1
    have hr := mv_range hm
    rw [if_neg q0, dif_pos hk, if_neg q1]
    have hb := bHold_ok (i := bAt s.bs d) hs.be hr.1 hr.2
    refine ⟨hs, ⟨hb, hs.xe, hs.r0, hs.r1, by show uS (bHold _ _ _) ≤ _; rw [bHold_us]; exact hs.us, hs.c0, hs.c1, hs.st, fun x hx => ?_⟩, hk, hm, rfl⟩
    exact pThere_more (bsErr_zero.1 hs.be).2.2 (bsErr_zero.1 hb).2.2 (hs.pt x hx) bHold_more
  · exact absurd h (by show ¬ (5 : Int) = 0; omega)
theorem sHold_ok {s : Sto} {k : List UInt8} {up : Bool} (h : (sHold s k up).1 = 0) :
    s.ok ∧ (sHold s k up).2.ok ∧ ∃ hk : xAt s.es k < s.es.length, mvE s.es[xAt s.es k].pn up = 0 ∧ (sHold s k up).2 = { s with es := xHold s.es (xAt s.es k) (mvN s.es[xAt s.es k].pn up) } := by
  unfold sHold at h ⊢
  split at h
  · rename_i q; exact absurd h q
  rename_i q0
  split at h
  · rename_i hk
    split at h
    · rename_i q; exact absurd h q
    rename_i q1
    have hs : s.ok := sErr_zero.1 (Classical.byContradiction q0)
    have hm : mvE s.es[xAt s.es k].pn up = 0 := Classical.byContradiction q1
    have hr := mv_range hm
    rw [if_neg q0, dif_pos hk, if_neg q1]
    have hb := xHold_ok (i := xAt s.es k) hs.xe hr.1 hr.2
    refine ⟨hs, ⟨hs.be, hb, hs.r0, hs.r1, hs.us, hs.c0, hs.c1, fun x hx => ?_, fun x hx => ?_⟩, hk, hm, rfl⟩
    · rcases of_modify hx with q | ⟨hi, rfl⟩
      · exact hs.st x q
      · exact hs.st (s.es[xAt s.es k]) (List.getElem_mem hi)
    · rcases of_modify hx with q | ⟨hi, rfl⟩
      · exact hs.pt x q
      · exact hs.pt (s.es[xAt s.es k]) (List.getElem_mem hi)
  · exact absurd h (by show ¬ (5 : Int) = 0; omega)
theorem sGet_ok {s : Sto} {k : List UInt8} (h : (sGet s k).1 = 0) :
    s.ok ∧ (sGet s k).2.1.ok ∧ ∃ hk : xAt s.es k < s.es.length, s.ck < 1099511627776 ∧ (sGet s k).2 = ({ s with es := xStamp s.es (xAt s.es k) (s.ck + 1), ck := s.ck + 1 }, s.es[xAt s.es k].ps) := by
  unfold sGet at h ⊢
  split at h
  · rename_i q; exact absurd h q
  rename_i q0
  split at h
  · rename_i hk
    split at h
    · exact absurd h (by show ¬ (4 : Int) = 0; omega)
    rename_i q1
    have hs : s.ok := sErr_zero.1 (Classical.byContradiction q0)
    have hc0 := hs.c0
    have hc1 := hs.c1
    rw [if_neg q0, dif_pos hk, if_neg q1]
    have hb := xStamp_ok (i := xAt s.es k) (t := s.ck + 1) hs.xe (by omega) (by omega)
    refine ⟨hs, ⟨hs.be, hb, hs.r0, hs.r1, hs.us, by show 0 ≤ s.ck + 1; omega, by show s.ck + 1 ≤ _; omega, fun x hx => ?_, fun x hx => ?_⟩, hk, by omega, rfl⟩
    · show x.st ≤ s.ck + 1
      rcases of_modify hx with q | ⟨hi, rfl⟩
      · have := hs.st x q; omega
      · exact Int.le_refl _
    · rcases of_modify hx with q | ⟨hi, rfl⟩
      · exact hs.pt x q
      · exact hs.pt (s.es[xAt s.es k]) (List.getElem_mem hi)
  · exact absurd h (by show ¬ (5 : Int) = 0; omega)
/-- what a put of an entry leaves, whatever the entries -/
theorem xIns_mem {x : En} : ∀ {b : Bool} {l : List En} {y : En}, y ∈ xIns b x l → y ∈ l ∨ (b = false ∧ y.ky = x.ky ∧ y.ps = x.ps ∧ y.st = x.st)
  | false, [], y, h => by
    rw [xIns, List.mem_singleton] at h
    subst h; exact .inr ⟨rfl, rfl, rfl, rfl⟩
  | true, [], y, h => by rw [xIns] at h; cases h
  | false, z :: r, y, h => by
    rw [xIns] at h
    split at h
    · split at h
      · rcases List.mem_cons.1 h with rfl | h
        · exact .inr ⟨rfl, rfl, rfl, rfl⟩
        · rcases xIns_mem h with q | ⟨q, _⟩
          · exact .inl (List.mem_cons_of_mem _ q)
          · cases q
      · rcases List.mem_cons.1 h with rfl | h
        · exact .inr ⟨rfl, rfl, rfl, rfl⟩
        · rcases List.mem_cons.1 h with rfl | h
          · exact .inl (List.mem_cons_self ..)
          · rcases xIns_mem h with q | ⟨q, _⟩
            · exact .inl (List.mem_cons_of_mem _ q)
            · cases q
    · rcases List.mem_cons.1 h with rfl | h
      · exact .inl (List.mem_cons_self ..)
      · rcases xIns_mem h with q | q
        · exact .inl (List.mem_cons_of_mem _ q)
        · exact .inr q
  | true, z :: r, y, h => by
    rw [xIns] at h
    split at h
    · rcases xIns_mem h with q | ⟨q, _⟩
      · exact .inl (List.mem_cons_of_mem _ q)
      · cases q
    · rcases List.mem_cons.1 h with rfl | h
      · exact .inl (List.mem_cons_self ..)
      · rcases xIns_mem h with q | ⟨q, _⟩
        · exact .inl (List.mem_cons_of_mem _ q)
        · cases q
theorem sPut_ok {s : Sto} {k : List UInt8} {ps : List Prt} (h : (sPut s k ps).1 = 0) :
    s.ok ∧ (sPut s k ps).2.ok ∧ cErr k = 0 ∧ psErr ps = 0 ∧ pThere s.bs ps = 0 ∧ s.ck < 1099511627776 ∧ (xPut s.es ⟨k, ps, 0, s.ck + 1⟩).1 = 0 ∧ (sPut s k ps).2 = { s with es := (xPut s.es ⟨k, ps, 0, s.ck + 1⟩).2, ck := s.ck + 1 } := by
  unfold sPut at h ⊢
  split at h
  · rename_i q; exact absurd h q
  rename_i q0
  rw [if_neg q0]
  have h0 : sPutErr s k ps = 0 := Classical.byContradiction q0
  unfold sPutErr at h0
  split at h0
  · rename_i q; exact absurd h0 q
  rename_i q1
  split at h0
  · rename_i q; exact absurd h0 q
  rename_i q2
  split at h0
  · rename_i q; exact absurd h0 q
  rename_i q3
  split at h0
  · rename_i q; exact absurd h0 q
  rename_i q4
  split at h0
  · omega
  rename_i q5
  have hs : s.ok := sErr_zero.1 (Classical.byContradiction q1)
  have hc0 := hs.c0
  have hc1 := hs.c1
  have hpt : pThere s.bs ps = 0 := Classical.byContradiction q4
  have hx0 : xsErr (xPut s.es ⟨k, ps, 0, s.ck + 1⟩).2 = 0 ∧ (xPut s.es ⟨k, ps, 0, s.ck + 1⟩).2 = xIns false ⟨k, ps, 0, s.ck + 1⟩ s.es := by
    unfold xPut at h0 ⊢
    rw [if_neg (by simpa using hs.xe)] at h0 ⊢
    split at h0
    · rename_i q; exact absurd h0 q
    · rename_i q; rw [if_neg q]; exact ⟨Classical.byContradiction q, rfl⟩
  refine ⟨hs, ⟨hs.be, hx0.1, hs.r0, hs.r1, hs.us, by show 0 ≤ s.ck + 1; omega, by show s.ck + 1 ≤ _; omega, fun x hx => ?_, fun x hx => ?_⟩, Classical.byContradiction q2, Classical.byContradiction q3, hpt, by omega, h0, rfl⟩
  · show x.st ≤ s.ck + 1
    have hx' : x ∈ xIns false ⟨k, ps, 0, s.ck + 1⟩ s.es := by rw [← hx0.2]; exact hx
    rcases xIns_mem hx' with q | ⟨_, _, _, q⟩
    · have := hs.st x q; omega
    · rw [q]; exact Int.le_refl _
  · have hx' : x ∈ xIns false ⟨k, ps, 0, s.ck + 1⟩ s.es := by rw [← hx0.2]; exact hx
    rcases xIns_mem hx' with q | ⟨_, _, q, _⟩
    · exact hs.pt x q
    · show pThere s.bs x.ps = 0
      rw [q]; exact hpt
end Go.Proofs.YtnadgdjaldemhaaGreatDoor

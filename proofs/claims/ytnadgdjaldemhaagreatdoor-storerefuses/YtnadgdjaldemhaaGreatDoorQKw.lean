/- The statements on the store: plain facts. Nothing of the program. -/
import Derived.Test.YtnadgdjaldemhaaGreatDoorQKy
import Derived.Test.YtnadgdjaldemhaaGreatDoorQYe
import Derived.Test.YtnadgdjaldemhaaGreatDoorQVz
namespace Go.Proofs.YtnadgdjaldemhaaGreatDoor
open Go.RowKit
theorem uS_ins (L : List Bl) (i : Nat) (x : Bl) : uS (L.take i ++ x :: L.drop i) = uS L + x.dt.length := by
  have h : uS L = uS (L.take i ++ L.drop i) := by rw [List.take_append_drop]
  rw [h]
  unfold uS
  simp only [List.map_append, List.map_cons, List.sum_append, List.sum_cons]
  omega
/-- bytes put once, and once more -/
theorem twice_ok {L : List Bl} {M : List En} {rm ck : Int} {D : List UInt8} (h : (⟨L, M, rm, ck⟩ : Sto).ok) (hl : L.length ≤ 12) (hr : uS L + 60 ≤ rm) (hD : D.length ≤ 60) :
    ∃ L2, sPutBlob ⟨L, M, rm, ck⟩ D = (0, ⟨L2, M, rm, ck⟩, dig D) ∧ sPutBlob ⟨L2, M, rm, ck⟩ D = (0, ⟨L2, M, rm, ck⟩, dig D) ∧ (⟨L2, M, rm, ck⟩ : Sto).ok ∧ (∀ b ∈ L, b ∈ L2) ∧ 0 < L2.length := by
  have hbe : bsErr L = 0 := h.be
  have hrm : rm ≤ 4000 := h.r1
  have hs0 : sErr ⟨L, M, rm, ck⟩ = 0 := sErr_zero.2 h
  obtain ⟨L2, hp, hu⟩ : ∃ L2, bPut L D = (0, L2, dig D) ∧ uS L2 ≤ rm := by
    by_cases ha : bAt L (dig D) < L.length
    · refine ⟨L, ?_, by omega⟩
      unfold bPut
      rw [if_neg (by omega), if_neg (by omega), if_pos ha]
    · refine ⟨L.take (bTo L (dig D)) ++ ⟨dig D, D, 0, false⟩ :: L.drop (bTo L (dig D)), ?_, ?_⟩
      · unfold bPut
        rw [if_neg (by omega), if_neg (by omega), if_neg ha, if_neg (by omega)]
      · rw [uS_ins]; show uS L + (D.length : Int) ≤ rm; omega
  have hb := bPut_ok (l := L) (D := D) (by rw [hp])
  rw [hp] at hb
  obtain ⟨-, hB, -, -⟩ := hb
  have hu2 : 0 ≤ uS L2 ∧ uS L2 ≤ 7200 := bs_us hB.err
  have h1 : sPutBlob ⟨L, M, rm, ck⟩ D = (0, ⟨L2, M, rm, ck⟩, dig D) := by
    unfold sPutBlob
    simp only [hs0, hp]
    rw [if_neg (by omega), if_neg (by omega), if_neg (by rw [uS_small hu2.1 (by omega)]; omega)]
  have hok := (sPutBlob_ok (s := ⟨L, M, rm, ck⟩) (D := D) (by rw [h1])).2.1
  rw [h1] at hok
  have hok' : (⟨L2, M, rm, ck⟩ : Sto).ok := hok
  have hp2 : bPut L2 D = (0, L2, dig D) := by
    have he2 : bsErr L2 = 0 := hB.err
    unfold bPut
    rw [if_neg (by omega), if_neg (by omega), if_pos (bAt_lt.2 hB.own)]
  refine ⟨L2, h1, ?_, hok', hB.all, ?_⟩
  · have hs2 : sErr ⟨L2, M, rm, ck⟩ = 0 := sErr_zero.2 hok'
    unfold sPutBlob
    simp only [hs2, hp2]
    rw [if_neg (by omega), if_neg (by omega), if_neg (by rw [uS_small hu2.1 (by omega)]; omega)]
  · obtain ⟨b, hb, -⟩ := hB.own
    exact List.length_pos_of_mem hb
theorem modify_at {α : Type} (f : α → α) (l : List α) (i : Nat) (h : i < (l.modify i f).length) (h' : i < l.length) : (l.modify i f)[i] = f l[i] := by rw [List.getElem_modify, if_pos rfl]
theorem modify_twice {α : Type} (f g : α → α) : ∀ (l : List α) (i : Nat), (∀ x ∈ l, g (f x) = x ∨ l[i]? ≠ some x) → (l.modify i f).modify i g = l := by
  intro l i h
  apply List.ext_getElem?
  intro j
  rw [List.getElem?_modify, List.getElem?_modify]
  cases hj : l[j]? with
  | none => rfl
  | some a =>
    have ha : a ∈ l := List.mem_of_getElem? hj
    by_cases q : i = j
    · subst q
      rcases h a ha with q | q
      · simp [q]
      · exact absurd hj q
    · simp [q]
/-- a blob held, and let go -/
theorem held_b {L : List Bl} {M : List En} {rm ck : Int} (h : (⟨L, M, rm, ck⟩ : Sto).ok) {K : Nat} (hK : K < L.length) (hp : L[K].pn ≤ 1) :
    ∃ L2, sHoldBlob ⟨L, M, rm, ck⟩ L[K].dg true = (0, ⟨L2, M, rm, ck⟩) ∧ sHoldBlob ⟨L2, M, rm, ck⟩ L[K].dg false = (0, ⟨L, M, rm, ck⟩) ∧ (⟨L2, M, rm, ck⟩ : Sto).ok ∧ alks L L2 = false := by
  have hbe : bsErr L = 0 := h.be
  obtain ⟨-, hf, hs⟩ := bsErr_zero.1 hbe
  obtain ⟨-, -, -, p0, -⟩ := hf L[K] (List.getElem_mem hK)
  have hat := bAt_of hs hK
  have hlt : bAt L L[K].dg < L.length := by rw [hat]; exact hK
  have hs0 : sErr ⟨L, M, rm, ck⟩ = 0 := sErr_zero.2 h
  have hget : L[bAt L L[K].dg] = L[K] := by congr 1
  have hmv : mvE L[K].pn true = 0 := by unfold mvE; rw [if_neg (by omega), if_pos rfl, if_neg (by omega)]
  have hmn : mvN L[K].pn true = L[K].pn + 1 := by unfold mvN; rw [if_neg (by omega), if_pos rfl]
  have h1 : sHoldBlob ⟨L, M, rm, ck⟩ L[K].dg true = (0, ⟨bHold L K (L[K].pn + 1), M, rm, ck⟩) := by
    unfold sHoldBlob
    simp only [hs0]
    rw [if_neg (by omega), dif_pos hlt, hget, if_neg (by omega), hat, hmn]
  have hok := (sHoldBlob_ok (s := ⟨L, M, rm, ck⟩) (d := L[K].dg) (up := true) (by rw [h1])).2.1
  rw [h1] at hok
  have hok' : (⟨bHold L K (L[K].pn + 1), M, rm, ck⟩ : Sto).ok := hok
  have hlen : (bHold L K (L[K].pn + 1)).length = L.length := by unfold bHold; rw [List.length_modify]
  have hKa : K < (bHold L K (L[K].pn + 1)).length := by rw [hlen]; exact hK
  have hx : (bHold L K (L[K].pn + 1))[K] = { L[K] with pn := L[K].pn + 1 } := modify_at _ L K hKa hK
  have hdg : (bHold L K (L[K].pn + 1))[K].dg = L[K].dg := by rw [hx]
  refine ⟨_, h1, ?_, hok', ?_⟩
  · have hs2 : sErr ⟨bHold L K (L[K].pn + 1), M, rm, ck⟩ = 0 := sErr_zero.2 hok'
    have hat2 : bAt (bHold L K (L[K].pn + 1)) L[K].dg = K := by
      have := bAt_of (bsErr_zero.1 hok'.be).2.2 hKa
      rw [hdg] at this; exact this
    have hlt2 : bAt (bHold L K (L[K].pn + 1)) L[K].dg < (bHold L K (L[K].pn + 1)).length := by rw [hat2]; exact hKa
    have hget2 : (bHold L K (L[K].pn + 1))[bAt (bHold L K (L[K].pn + 1)) L[K].dg].pn = L[K].pn + 1 := by
      have e : (bHold L K (L[K].pn + 1))[bAt (bHold L K (L[K].pn + 1)) L[K].dg] = (bHold L K (L[K].pn + 1))[K] := by congr 1
      rw [e, hx]
    have hmv2 : mvE (L[K].pn + 1) false = 0 := by unfold mvE; rw [if_neg (by omega)]; simp; omega
    have hmn2 : mvN (L[K].pn + 1) false = L[K].pn := by unfold mvN; rw [if_neg (by omega)]; simp
    unfold sHoldBlob
    simp only [hs2]
    rw [if_neg (by omega), dif_pos hlt2, hget2, if_neg (by omega), hat2, hmn2]
    congr 2
    unfold bHold
    refine modify_twice _ _ L K fun x hx => ?_
    by_cases q : L[K]? = some x
    · left
      rw [List.getElem?_eq_getElem hK] at q
      injection q with q
      subst q
      rfl
    · exact .inr q
  · rw [Bool.eq_false_iff]
    intro q
    have := (alks_iff.1 q).2 K hK hKa
    rw [hx] at this
    unfold alk at this
    simp at this
    omega
/-- an entry held, and let go -/
theorem held_e {L : List Bl} {M : List En} {rm ck : Int} (h : (⟨L, M, rm, ck⟩ : Sto).ok) {K : Nat} (hK : K < M.length) (hp : M[K].pn ≤ 1) :
    ∃ M2, sHold ⟨L, M, rm, ck⟩ M[K].ky true = (0, ⟨L, M2, rm, ck⟩) ∧ sHold ⟨L, M2, rm, ck⟩ M[K].ky false = (0, ⟨L, M, rm, ck⟩) ∧ (⟨L, M2, rm, ck⟩ : Sto).ok ∧ M ≠ M2 := by
  have hbe : xsErr M = 0 := h.xe
  obtain ⟨-, hf, hs⟩ := xsErr_zero.1 hbe
  obtain ⟨-, -, p0, -, -, -⟩ := hf M[K] (List.getElem_mem hK)
  have hat := xAt_of hs hK
  have hlt : xAt M M[K].ky < M.length := by rw [hat]; exact hK
  have hs0 : sErr ⟨L, M, rm, ck⟩ = 0 := sErr_zero.2 h
  have hget : M[xAt M M[K].ky] = M[K] := by congr 1
  have hmv : mvE M[K].pn true = 0 := by unfold mvE; rw [if_neg (by omega), if_pos rfl, if_neg (by omega)]
  have hmn : mvN M[K].pn true = M[K].pn + 1 := by unfold mvN; rw [if_neg (by omega), if_pos rfl]
  have h1 : sHold ⟨L, M, rm, ck⟩ M[K].ky true = (0, ⟨L, xHold M K (M[K].pn + 1), rm, ck⟩) := by
    unfold sHold
    simp only [hs0]
    rw [if_neg (by omega), dif_pos hlt, hget, if_neg (by omega), hat, hmn]
  have hok := (sHold_ok (s := ⟨L, M, rm, ck⟩) (k := M[K].ky) (up := true) (by rw [h1])).2.1
  rw [h1] at hok
  have hok' : (⟨L, xHold M K (M[K].pn + 1), rm, ck⟩ : Sto).ok := hok
  have hlen : (xHold M K (M[K].pn + 1)).length = M.length := by unfold xHold; rw [List.length_modify]
  have hKa : K < (xHold M K (M[K].pn + 1)).length := by rw [hlen]; exact hK
  have hx : (xHold M K (M[K].pn + 1))[K] = { M[K] with pn := M[K].pn + 1 } := modify_at _ M K hKa hK
  have hdg : (xHold M K (M[K].pn + 1))[K].ky = M[K].ky := by rw [hx]
  refine ⟨_, h1, ?_, hok', ?_⟩
  · have hs2 : sErr ⟨L, xHold M K (M[K].pn + 1), rm, ck⟩ = 0 := sErr_zero.2 hok'
    have hat2 : xAt (xHold M K (M[K].pn + 1)) M[K].ky = K := by
      have := xAt_of (xsErr_zero.1 hok'.xe).2.2 hKa
      rw [hdg] at this; exact this
    have hlt2 : xAt (xHold M K (M[K].pn + 1)) M[K].ky < (xHold M K (M[K].pn + 1)).length := by rw [hat2]; exact hKa
    have hget2 : (xHold M K (M[K].pn + 1))[xAt (xHold M K (M[K].pn + 1)) M[K].ky].pn = M[K].pn + 1 := by
      have e : (xHold M K (M[K].pn + 1))[xAt (xHold M K (M[K].pn + 1)) M[K].ky] = (xHold M K (M[K].pn + 1))[K] := by congr 1
      rw [e, hx]
    have hmv2 : mvE (M[K].pn + 1) false = 0 := by unfold mvE; rw [if_neg (by omega)]; simp; omega
    have hmn2 : mvN (M[K].pn + 1) false = M[K].pn := by unfold mvN; rw [if_neg (by omega)]; simp
    unfold sHold
    simp only [hs2]
    rw [if_neg (by omega), dif_pos hlt2, hget2, if_neg (by omega), hat2, hmn2]
    congr 2
    unfold xHold
    refine modify_twice _ _ M K fun x hx => ?_
    by_cases q : M[K]? = some x
    · left
      rw [List.getElem?_eq_getElem hK] at q
      injection q with q
      subst q
      rfl
    · exact .inr q
  · intro q
    have h2 : M[K].pn = (xHold M K (M[K].pn + 1))[K].pn := by
      congr 1
      exact List.getElem_of_eq q hK
    rw [hx] at h2
    have h3 : M[K].pn = M[K].pn + 1 := h2
    omega
/-- an entry of parts that are there, put and asked for -/
theorem entry_ok {L : List Bl} {M : List En} {rm ck : Int} (h : (⟨L, M, rm, ck⟩ : Sto).ok) (hl : M.length ≤ 9) (hc : ck ≤ 24) {K : List UInt8} (hK : cErr K = 0) {ps : List Prt} (hp : psErr ps = 0) (ht : pThere L ps = 0) :
    ∃ M2 M3, sPut ⟨L, M, rm, ck⟩ K ps = (0, ⟨L, M2, rm, ck + 1⟩) ∧ sGet ⟨L, M2, rm, ck + 1⟩ K = (0, ⟨L, M3, rm, ck + 2⟩, ps) ∧ (⟨L, M2, rm, ck + 1⟩ : Sto).ok ∧ (⟨L, M3, rm, ck + 2⟩ : Sto).ok ∧ (∀ z ∈ M3, z.st = ck + 2 ↔ z.ky = K) ∧ 0 < M2.length := by
  have hxe : xsErr M = 0 := h.xe
  have hc0 : 0 ≤ ck := h.c0
  have hs0 : sErr ⟨L, M, rm, ck⟩ = 0 := sErr_zero.2 h
  have hfine : (⟨K, ps, 0, ck + 1⟩ : En).fine := ⟨hK, hp, by show (0 : Int) ≤ 0; omega, by show (0 : Int) ≤ 5; omega, by show 0 ≤ ck + 1; omega, by show ck + 1 ≤ 1099511627776; omega⟩
  obtain ⟨M2, hM⟩ := xPut_ok (x := ⟨K, ps, 0, ck + 1⟩) hxe hl hfine
  have h1 : sPut ⟨L, M, rm, ck⟩ K ps = (0, ⟨L, M2, rm, ck + 1⟩) := by
    have hE : sPutErr ⟨L, M, rm, ck⟩ K ps = 0 := by
      unfold sPutErr
      simp only [hs0, hK, hp, ht, hM.put]
      rw [if_neg (by omega), if_neg (by omega), if_neg (by omega), if_neg (by omega), if_neg (by omega)]
    unfold sPut
    rw [if_neg (by omega)]
    simp only [hM.put]
  have hok := (sPut_ok (s := ⟨L, M, rm, ck⟩) (k := K) (ps := ps) (by rw [h1])).2.1
  rw [h1] at hok
  have hok' : (⟨L, M2, rm, ck + 1⟩ : Sto).ok := hok
  obtain ⟨ko, hko, hat, hst, hps⟩ := hM.own
  have hat' : xAt M2 K = ko := hat
  have hlt : xAt M2 K < M2.length := by rw [hat']; exact hko
  have hget : M2[xAt M2 K].ps = ps := by
    have e : M2[xAt M2 K] = M2[ko] := by congr 1
    rw [e, hps]
  have hky : M2[ko].ky = K := by
    have e := xAt_there hlt
    have e2 : M2[xAt M2 K] = M2[ko] := by congr 1
    rw [e2] at e; exact e
  have hs2 : sErr ⟨L, M2, rm, ck + 1⟩ = 0 := sErr_zero.2 hok'
  have h2 : sGet ⟨L, M2, rm, ck + 1⟩ K = (0, ⟨L, xStamp M2 ko (ck + 2), rm, ck + 2⟩, ps) := by
    unfold sGet
    simp only [hs2]
    rw [if_neg (by omega), dif_pos hlt, if_neg (by omega), hget, hat', show ck + 1 + 1 = ck + 2 by omega]
  have hok3 := (sGet_ok (s := ⟨L, M2, rm, ck + 1⟩) (k := K) (by rw [h2])).2.1
  rw [h2] at hok3
  refine ⟨M2, _, h1, h2, hok', hok3, fun z hz => ?_, by omega⟩
  obtain ⟨j, hj, rfl⟩ := List.mem_iff_getElem.1 hz
  unfold xStamp at hj ⊢
  rw [List.length_modify] at hj
  rw [List.getElem_modify]
  by_cases q : ko = j
  · subst q
    rw [if_pos rfl]
    exact ⟨fun _ => hky, fun _ => rfl⟩
  · rw [if_neg q]
    constructor
    · intro e
      have := hok'.st M2[j] (List.getElem_mem hj)
      have h3 : M2[j].st ≤ ck + 1 := this
      omega
    · intro e
      exact absurd (hM.srt.inj hko hj (hky.trans e.symm)) q
/-- what is not there is not had -/
theorem refuses_ok {L : List Bl} {M : List En} {rm ck : Int} (h : (⟨L, M, rm, ck⟩ : Sto).ok) {K d : List UInt8} (hK : cErr K = 0) (hd : cErr d = 0) (hn : L.any (fun x => x.dg == d) = false) :
    sPut ⟨L, M, rm, ck⟩ K [⟨[97], d, 0⟩] = (5, sNil) ∧ sGetBlob ⟨L, M, rm, ck⟩ d = (5, []) ∧ sHoldBlob ⟨L, M, rm, ck⟩ d true = (5, sNil) := by
  have hs0 : sErr ⟨L, M, rm, ck⟩ = 0 := sErr_zero.2 h
  have hno : ¬ bAt L d < L.length := fun q => by
    obtain ⟨b, hb, e⟩ := bAt_lt.1 q
    exact not_there hn b hb e
  have hth : pThere L [⟨[97], d, 0⟩] = 5 := by rw [pThere, dif_neg hno]
  have hps : psErr [⟨[97], d, 0⟩] = 0 := by
    unfold psErr
    rw [if_neg (by simp)]
    have h1 : nmErr [97] = 0 := by decide
    have h2 : nle [97] [] = false := by decide
    simp [pErr, h1, h2, hd]
  refine ⟨?_, ?_, ?_⟩
  · have hE : sPutErr ⟨L, M, rm, ck⟩ K [⟨[97], d, 0⟩] = 5 := by
      unfold sPutErr
      simp only [hs0, hK, hps, hth]
      rw [if_neg (by omega), if_neg (by omega), if_neg (by omega), if_pos (by omega)]
    unfold sPut
    rw [hE, if_pos (by omega)]
  · unfold sGetBlob
    rw [hs0, if_neg (by omega), dif_neg hno]
  · unfold sHoldBlob
    rw [hs0, if_neg (by omega), dif_neg hno]
end Go.Proofs.YtnadgdjaldemhaaGreatDoor

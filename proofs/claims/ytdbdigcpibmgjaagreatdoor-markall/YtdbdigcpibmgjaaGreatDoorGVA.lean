/- Eviction: plain functions, and what holds of them. Nothing of the program. -/
import Derived.Test.YtdbdigcpibmgjaaGreatDoorGSA
import Derived.Test.YtdbdigcpibmgjaaGreatDoorGRB
import Derived.Test.YtdbdigcpibmgjaaGreatDoorGRB
import Derived.Test.YtdbdigcpibmgjaaGreatDoorGRC
import Derived.Test.YtdbdigcpibmgjaaGreatDoorGY
namespace Go.Proofs.YtdbdigcpibmgjaaGreatDoor
open Go.RowKit
/-- all that a store comes to, in order -/
def live (s : Sto) : List (List UInt8) := ris (rFrom s.bs pOf (ris (roots s.bs s.es)))
def isLive (s : Sto) (b : Bl) : Bool := (live s).any fun t => b.dg == t
/-- the digests of what it does not come to; the store without that -/
def sWaste (s : Sto) : List (List UInt8) := (s.bs.filter fun b => !isLive s b).map Bl.dg
def sClean (s : Sto) : Sto := { s with bs := s.bs.filter (isLive s) }
theorem rch_congr {l : List Bl} {P : Bl → List (List UInt8)} {ds es : List (List UInt8)} (h : ∀ x, x ∈ ds → x ∈ es) {d : List UInt8} (q : Rch l P ds d) : Rch l P es d := by
  induction q with
  | here h1 h2 => exact .here (h _ h1) h2
  | next _ h1 h2 ih => exact .next ih h1 h2
theorem mem_live {s : Sto} {d : List UInt8} : d ∈ live s ↔ Rch s.bs pOf (roots s.bs s.es) d := by
  unfold live
  rw [ris_mem, rFrom_rch]
  exact ⟨rch_congr fun x hx => ris_mem.1 hx, rch_congr fun x hx => ris_mem.2 hx⟩
theorem isLive_iff {s : Sto} {b : Bl} : isLive s b = true ↔ b.dg ∈ live s := by
  unfold isLive
  rw [any_mem]
theorem rch_there {l : List Bl} {P : Bl → List (List UInt8)} {ds : List (List UInt8)} {d : List UInt8} (h : Rch l P ds d) : ∃ b ∈ l, b.dg = d := by
  cases h with
  | here _ h => exact bAt_lt.1 h
  | next _ _ h => exact bAt_lt.1 h
theorem rPar_of {l : List Bl} (hs : Srt l) (P : Bl → List (List UInt8)) {b : Bl} (hb : b ∈ l) : rPar l P b.dg = P b := by
  obtain ⟨i, hi, rfl⟩ := List.mem_iff_getElem.1 hb
  unfold rPar
  rw [bAt_of hs hi, List.getD_eq_getElem?_getD, List.getElem?_eq_getElem hi, Option.getD_some]
theorem srt_filter {l : List Bl} (hs : Srt l) (p : Bl → Bool) : Srt (l.filter p) := List.Pairwise.filter p hs
theorem live_clean {s : Sto} (hs : Srt s.bs) : live (sClean s) = live s := by
  refine SrT.ext (l := live (sClean s)) (m := live s) (ris_srt _) (ris_srt _) fun d => ?_
  rw [mem_live, mem_live]
  have hC : Srt (sClean s).bs := srt_filter hs (isLive s)
  have inC : ∀ {b : Bl}, b ∈ s.bs → b.dg ∈ live s → b ∈ (sClean s).bs := fun hb hl => List.mem_filter.2 ⟨hb, isLive_iff.2 hl⟩
  constructor
  · intro h
    induction h with
    | here h1 h2 =>
      obtain ⟨b, hb, rfl⟩ := bAt_lt.1 h2
      have hb' := (List.mem_filter.1 hb).1
      refine .here ?_ (bAt_lt.2 ⟨b, hb', rfl⟩)
      rw [mem_roots] at h1 ⊢
      rcases h1 with ⟨c, hc, q⟩ | q
      · exact .inl ⟨c, (List.mem_filter.1 hc).1, q⟩
      · exact .inr q
    | next h0 h1 h2 ih =>
      obtain ⟨b, hb, rfl⟩ := rch_there h0
      obtain ⟨c, hc, rfl⟩ := bAt_lt.1 h2
      refine .next ih ?_ (bAt_lt.2 ⟨c, (List.mem_filter.1 hc).1, rfl⟩)
      rw [rPar_of hs pOf (List.mem_filter.1 hb).1]
      rwa [rPar_of hC pOf hb] at h1
  · intro h
    induction h with
    | @here d h1 h2 =>
      have hl : d ∈ live s := mem_live.2 (.here h1 h2)
      obtain ⟨b, hb, rfl⟩ := bAt_lt.1 h2
      refine .here ?_ (bAt_lt.2 ⟨b, inC hb hl, rfl⟩)
      rw [mem_roots] at h1 ⊢
      rcases h1 with ⟨c, hc, q1, q2⟩ | q
      · exact .inl ⟨c, inC hc (q2 ▸ hl), q1, q2⟩
      · exact .inr q
    | @next d e h0 h1 h2 ih =>
      have hl : e ∈ live s := mem_live.2 (.next h0 h1 h2)
      have hd : d ∈ live s := mem_live.2 h0
      obtain ⟨b, hb, rfl⟩ := rch_there h0
      obtain ⟨c, hc, rfl⟩ := bAt_lt.1 h2
      refine .next ih ?_ (bAt_lt.2 ⟨c, inC hc hl, rfl⟩)
      rw [rPar_of hC pOf (inC hb hd)]
      rwa [rPar_of hs pOf hb] at h1
theorem isLive_clean {s : Sto} (hs : Srt s.bs) (b : Bl) : isLive (sClean s) b = isLive s b := by
  unfold isLive; rw [live_clean hs]
theorem clean_clean {s : Sto} (hs : Srt s.bs) : sClean (sClean s) = sClean s := by
  have h : (sClean s).bs.filter (isLive (sClean s)) = (sClean s).bs := by
    refine List.filter_eq_self.2 fun b hb => ?_
    rw [isLive_clean hs]
    exact (List.mem_filter.1 hb).2
  show ({ sClean s with bs := _ } : Sto) = _
  rw [h]
theorem clean_waste {s : Sto} (hs : Srt s.bs) : sWaste (sClean s) = [] := by
  unfold sWaste
  rw [List.map_eq_nil_iff, List.filter_eq_nil_iff]
  intro b hb
  rw [isLive_clean hs, (List.mem_filter.1 hb).2]
  simp
theorem len_filter {α : Type} (p : α → Bool) : ∀ l : List α, (l.filter p).length + (l.filter fun x => !p x).length = l.length
  | [] => rfl
  | x :: r => by
    have := len_filter p r
    by_cases h : p x = true
    · simp [h]; omega
    · simp [h]; omega
theorem waste_len (s : Sto) : (sClean s).bs.length + (sWaste s).length = s.bs.length := by
  unfold sClean sWaste
  rw [List.length_map]
  exact len_filter _ _
theorem uS_cons (b : Bl) (l : List Bl) : uS (b :: l) = (b.dt.length : Int) + uS l := by
  unfold uS
  simp
theorem uS_filter (p : Bl → Bool) : ∀ l : List Bl, uS (l.filter p) ≤ uS l
  | [] => Int.le_refl _
  | x :: r => by
    have := uS_filter p r
    by_cases h : p x = true
    · rw [List.filter_cons_of_pos h, uS_cons, uS_cons]; omega
    · rw [List.filter_cons_of_neg h, uS_cons]; omega
theorem clean_ok {s : Sto} (h : s.ok) : (sClean s).ok := by
  obtain ⟨h1, h2, h3⟩ := bsErr_zero.1 h.be
  refine ⟨bsErr_zero.2 ⟨Nat.le_trans (List.length_filter_le ..) h1, fun b hb => h2 b (List.mem_filter.1 hb).1, srt_filter h3 _⟩, h.xe, h.r0, h.r1, Int.le_trans (uS_filter _ _) h.us, h.c0, h.c1, h.st, fun x hx => ?_⟩
  refine (pThere_zero (srt_filter h3 _)).2 fun p hp => ?_
  obtain ⟨b, hb, q1, q2⟩ := (pThere_zero h3).1 (h.pt x hx) p hp
  refine ⟨b, List.mem_filter.2 ⟨hb, isLive_iff.2 (mem_live.2 (.here ?_ (bAt_lt.2 ⟨b, hb, rfl⟩)))⟩, q1, q2⟩
  rw [mem_roots]
  exact .inr ⟨x, hx, p, hp, q1.symm⟩
/-- the store without an entry -/
def sLess (s : Sto) (i : Nat) : Sto := { s with es := s.es.eraseIdx i }
theorem less_ok {s : Sto} (h : s.ok) (i : Nat) : (sLess s i).ok :=
  ⟨h.be, xsErr_erase h.xe i, h.r0, h.r1, h.us, h.c0, h.c1, fun x hx => h.st x (List.mem_of_mem_eraseIdx hx), fun x hx => h.pt x (List.mem_of_mem_eraseIdx hx)⟩
/-- entries go, the oldest first, till there is room: the error, the store, the keys -/
def sGo (more : Int) : Nat → Sto → List (List UInt8) → Int × Sto × List (List UInt8)
  | 0, _, _ => (10, sNil, [])
  | f + 1, s, gone =>
    if s.rm < wrap64 (uS s.bs + more) then
      (if (xOld s.es).2 ≠ 0 then (10, sNil, []) else sGo more f (sClean (sLess s (xOld s.es).1.toNat)) (gone ++ [(s.es.getD (xOld s.es).1.toNat default).ky]))
    else (0, s, gone)
def sRun (s : Sto) (more : Int) : Int × Sto × List (List UInt8) :=
  if sErr s ≠ 0 then (sErr s, sNil, []) else if (rL s.bs s.rm more).2 ≠ 0 then ((rL s.bs s.rm more).2, sNil, []) else if (rL s.bs s.rm more).1 = 0 then (0, s, [])
  else sGo more (s.es.length + 1) (sClean s) []
def sWasted (s : Sto) : Int × List (List UInt8) := if sErr s ≠ 0 then (sErr s, []) else (0, sWaste s)
def sCleaned (s : Sto) : Int × Sto × Int := if sErr s ≠ 0 then (sErr s, sNil, 0) else (0, sClean s, (sWaste s).length)
theorem wasted_ok {s : Sto} (h : s.ok) : sWasted s = ((0 : Int), sWaste s) := by
  unfold sWasted
  rw [if_neg (by have := sErr_zero.2 h; simpa using this)]
theorem cleaned_ok {s : Sto} (h : s.ok) : sCleaned s = ((0 : Int), sClean s, ((sWaste s).length : Int)) := by
  unfold sCleaned
  rw [if_neg (by have := sErr_zero.2 h; simpa using this)]
/-- few roots -/
theorem roots_few {s : Sto} (h : s.ok) : (roots s.bs s.es).length ≤ 824 := by
  have h1 := (bsErr_zero.1 h.be).1
  have h2 := (xsErr_zero.1 h.xe)
  have hb : (bRoots s.bs).length ≤ s.bs.length := by unfold bRoots; rw [List.length_map]; exact List.length_filter_le ..
  have he : ∀ l : List En, (∀ e ∈ l, e.ps.length ≤ 8) → (eRoots l).length ≤ 8 * l.length := by
    intro l
    induction l with
    | nil => intro _; exact Nat.zero_le _
    | cons x r ih =>
      intro q
      have := ih fun e he => q e (List.mem_cons_of_mem _ he)
      have := q x (List.mem_cons_self ..)
      unfold eRoots at *
      rw [List.flatMap_cons, List.length_append, List.length_map, List.length_cons]
      omega
  have := he s.es fun e he => (psErr_zero (h2.2.1 e he).2.1).1
  unfold roots
  rw [List.length_append]
  omega
end Go.Proofs.YtdbdigcpibmgjaaGreatDoor

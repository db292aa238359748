/- Texts that belong together: what the functions of the program and of the statements return. -/
import Derived.Test.YtekbgopdeancpaaGreatDoorGSA
import Derived.Test.YtekbgopdeancpaaGreatDoorGRB
import Derived.Test.YtekbgopdeancpaaGreatDoorGRB
import Derived.Test.YtekbgopdeancpaaGreatDoorGRC
import Derived.Test.YtekbgopdeancpaaGreatDoorGY
/- Eviction: plain functions, and what holds of them. Nothing of the program. -/
namespace Go.Proofs.YtekbgopdeancpaaGreatDoor
open Go.RowKit
/-- all that a store comes to, in order -/
def live (s : Sto) : List (List UInt8) := ris (rFrom s.bs pOf (ris (roots s.bs s.es)))
def isLive (s : Sto) (b : Bl) : Bool := (live s).any fun t => b.dg == t
/-- the digests of what it does not come to; the store without that -/
def sWaste (s : Sto) : List (List UInt8) := (s.bs.filter fun b => !isLive s b).map Bl.dg
def sClean (s : Sto) : Sto := { s with bs := s.bs.filter (isLive s) }
theorem rch_congr {l : List Bl} {P : Bl → List (List UInt8)} {ds es : List (List UInt8)} (h : ∀ x, x ∈ ds → x ∈ es) {d : List UInt8} (q : Rch l P ds d) : Rch l P es d := by
  induction q with
  | here h1 h2 => exact .here (h _ h1) h2
  | next _ h1 h2 ih => exact .next ih h1 h2
theorem mem_live {s : Sto} {d : List UInt8} : d ∈ live s ↔ Rch s.bs pOf (roots s.bs s.es) d := by
  unfold live
  rw [ris_mem, rFrom_rch]
  exact ⟨rch_congr fun x hx => ris_mem.1 hx, rch_congr fun x hx => ris_mem.2 hx⟩
theorem isLive_iff {s : Sto} {b : Bl} : isLive s b = true ↔ b.dg ∈ live s := by
  unfold isLive
  rw [any_mem]
theorem rch_there {l : List Bl} {P : Bl → List (List UInt8)} {ds : List (List UInt8)} {d : List UInt8} (h : Rch l P ds d) : ∃ b ∈ l, b.dg = d := by
  cases h with
  | here _ h => exact bAt_lt.1 h
  | next _ _ h => exact bAt_lt.1 h
theorem rPar_of {l : List Bl} (hs : Srt l) (P : Bl → List (List UInt8)) {b : Bl} (hb : b ∈ l) : rPar l P b.dg = P b := by
  obtain ⟨i, hi, rfl⟩ := List.mem_iff_getElem.1 hb
  unfold rPar
  rw [bAt_of hs hi, List.getD_eq_getElem?_getD, List.getElem?_eq_getElem hi, Option.getD_some]
theorem srt_filter {l : List Bl} (hs : Srt l) (p : Bl → Bool) : Srt (l.filter p) := List.Pairwise.filter p hs
theorem live_clean {s : Sto} (hs : Srt s.bs) : live (sClean s) = live s := by
  refine SrT.ext (l := live (sClean s)) (m := live s) (ris_srt _) (ris_srt _) fun d => ?_
  rw [mem_live, mem_live]
  have hC : Srt (sClean s).bs := srt_filter hs (isLive s)
  have inC : ∀ {b : Bl}, b ∈ s.bs → b.dg ∈ live s → b ∈ (sClean s).bs := fun hb hl => List.mem_filter.2 ⟨hb, isLive_iff.2 hl⟩
  constructor
  · intro h
    induction h with
    | here h1 h2 =>
      obtain ⟨b, hb, rfl⟩ := bAt_lt.1 h2
      have hb' := (List.mem_filter.1 hb).1
      refine .here ?_ (bAt_lt.2 ⟨b, hb', rfl⟩)
      rw [mem_roots] at h1 ⊢
      rcases h1 with ⟨c, hc, q⟩ | q
      · exact .inl ⟨c, (List.mem_filter.1 hc).1, q⟩
      · exact .inr q
    | next h0 h1 h2 ih =>
      obtain ⟨b, hb, rfl⟩ := rch_there h0
      obtain ⟨c, hc, rfl⟩ := bAt_lt.1 h2
      refine .next ih ?_ (bAt_lt.2 ⟨c, (List.mem_filter.1 hc).1, rfl⟩)
      rw [rPar_of hs pOf (List.mem_filter.1 hb).1]
      rwa [rPar_of hC pOf hb] at h1
  · intro h
    induction h with
    | @here d h1 h2 =>
      have hl : d ∈ live s := mem_live.2 (.here h1 h2)
      obtain ⟨b, hb, rfl⟩ := bAt_lt.1 h2
      refine .here ?_ (bAt_lt.2 ⟨b, inC hb hl, rfl⟩)
      rw [mem_roots] at h1 ⊢
      rcases h1 with ⟨c, hc, q1, q2⟩ | q
      · exact .inl ⟨c, inC hc (q2 ▸ hl), q1, q2⟩
      · exact .inr q
    | @next d e h0 h1 h2 ih =>
      have hl : e ∈ live s := mem_live.2 (.next h0 h1 h2)
      have hd : d ∈ live s := mem_live.2 h0
      obtain ⟨b, hb, rfl⟩ := rch_there h0
      obtain ⟨c, hc, rfl⟩ := bAt_lt.1 h2
      refine .next ih ?_ (bAt_lt.2 ⟨c, inC hc hl, rfl⟩)
      rw [rPar_of hC pOf (inC hb hd)]
      rwa [rPar_of hs pOf hb] at h1
theorem isLive_clean {s : Sto} (hs : Srt s.bs) (b : Bl) : isLive (sClean s) b = isLive s b := by
  unfold isLive; rw [live_clean hs]
theorem clean_clean {s : Sto} (hs : Srt s.bs) : sClean (sClean s) = sClean s := by
  have h : (sClean s).bs.filter (isLive (sClean s)) = (sClean s).bs := by
    refine List.filter_eq_self.2 fun b hb => ?_
    rw [isLive_clean hs]
    exact (List.mem_filter.1 hb).2
  show ({ sClean s with bs := _ } : Sto) = _
  rw [h]
theorem clean_waste {s : Sto} (hs : Srt s.bs) : sWaste (sClean s) = [] := by
  unfold sWaste
  rw [List.map_eq_nil_iff, List.filter_eq_nil_iff]
  intro b hb
  rw [isLive_clean hs, (List.mem_filter.1 hb).2]
  simp
theorem len_filter {α : Type} (p : α → Bool) : ∀ l : List α, (l.filter p).length + (l.filter fun x => !p x).length = l.length
  | [] => rfl
  | x :: r => by
    have := len_filter p r
    by_cases h : p x = true
    · simp [h]; omega
    · simp [h]; omega
theorem waste_len (s : Sto) : (sClean s).bs.length + (sWaste s).length = s.bs.length := by
  unfold sClean sWaste
  rw [List.length_map]
  exact len_filter _ _
theorem uS_cons (b : Bl) (l : List Bl) : uS (b :: l) = (b.dt.length : Int) + uS l := by
  unfold uS
  simp
theorem uS_filter (p : Bl → Bool) : ∀ l : List Bl, uS (l.filter p) ≤ uS l
  | [] => Int.le_refl _
  | x :: r => by
    have := uS_filter p r
    by_cases h : p x = true
    · rw [List.filter_cons_of_pos h, uS_cons, uS_cons]; omega
    · rw [List.filter_cons_of_neg h, uS_cons]; omega
theorem clean_ok {s : Sto} (h : s.ok) : (sClean s).ok := by
  obtain ⟨h1, h2, h3⟩ := bsErr_zero.1 h.be
  refine ⟨bsErr_zero.2 ⟨Nat.le_trans (List.length_filter_le ..) h1, fun b hb => h2 b (List.mem_filter.1 hb).1, srt_filter h3 _⟩, h.xe, h.r0, h.r1, Int.le_trans (uS_filter _ _) h.us, h.c0, h.c1, h.st, fun x hx => ?_⟩
  refine (pThere_zero (srt_filter h3 _)).2 fun p hp => ?_
  obtain ⟨b, hb, q1, q2⟩ := (pThere_zero h3).1 (h.pt x hx) p hp
  refine ⟨b, List.mem_filter.2 ⟨hb, isLive_iff.2 (mem_live.2 (.here ?_ (bAt_lt.2 ⟨b, hb, rfl⟩)))⟩, q1, q2⟩
  rw [mem_roots]
  exact .inr ⟨x, hx, p, hp, q1.symm⟩
/-- the store without an entry -/
def sLess (s : Sto) (i : Nat) : Sto := { s with es := s.es.eraseIdx i }
theorem less_ok {s : Sto} (h : s.ok) (i : Nat) : (sLess s i).ok :=
  ⟨h.be, xsErr_erase h.xe i, h.r0, h.r1, h.us, h.c0, h.c1, fun x hx => h.st x (List.mem_of_mem_eraseIdx hx), fun x hx => h.pt x (List.mem_of_mem_eraseIdx hx)⟩
/-- entries go, the oldest first, till there is room: the error, the store, the keys -/
def sGo (more : Int) : Nat → Sto → List (List UInt8) → Int × Sto × List (List UInt8)
  | 0, _, _ => (10, sNil, [])
  | f + 1, s, gone =>
    if s.rm < wrap64 (uS s.bs + more) then
      (if (xOld s.es).2 ≠ 0 then (10, sNil, []) else sGo more f (sClean (sLess s (xOld s.es).1.toNat)) (gone ++ [(s.es.getD (xOld s.es).1.toNat default).ky]))
    else (0, s, gone)
def sRun (s : Sto) (more : Int) : Int × Sto × List (List UInt8) :=
  if sErr s ≠ 0 then (sErr s, sNil, []) else if (rL s.bs s.rm more).2 ≠ 0 then ((rL s.bs s.rm more).2, sNil, []) else if (rL s.bs s.rm more).1 = 0 then (0, s, [])
  else sGo more (s.es.length + 1) (sClean s) []
def sWasted (s : Sto) : Int × List (List UInt8) := if sErr s ≠ 0 then (sErr s, []) else (0, sWaste s)
def sCleaned (s : Sto) : Int × Sto × Int := if sErr s ≠ 0 then (sErr s, sNil, 0) else (0, sClean s, (sWaste s).length)
theorem wasted_ok {s : Sto} (h : s.ok) : sWasted s = ((0 : Int), sWaste s) := by
  unfold sWasted
  rw [if_neg (by have := sErr_zero.2 h; simpa using this)]
theorem cleaned_ok {s : Sto} (h : s.ok) : sCleaned s = ((0 : Int), sClean s, ((sWaste s).length : Int)) := by
  unfold sCleaned
  rw [if_neg (by have := sErr_zero.2 h; simpa using this)]
/-- few roots -/
theorem roots_few {s : Sto} (h : s.ok) : (roots s.bs s.es).length ≤ 824 := by
  have h1 := (bsErr_zero.1 h.be).1
  have h2 := (xsErr_zero.1 h.xe)
  have hb : (bRoots s.bs).length ≤ s.bs.length := by unfold bRoots; rw [List.length_map]; exact List.length_filter_le ..
  have he : ∀ l : List En, (∀ e ∈ l, e.ps.length ≤ 8) → (eRoots l).length ≤ 8 * l.length := by
    intro l
    induction l with
    | nil => intro _; exact Nat.zero_le _
    | cons x r ih =>
      intro q
      have := ih fun e he => q e (List.mem_cons_of_mem _ he)
      have := q x (List.mem_cons_self ..)
      unfold eRoots at *
      rw [List.flatMap_cons, List.length_append, List.length_map, List.length_cons]
      omega
  have := he s.es fun e he => (psErr_zero (h2.2.1 e he).2.1).1
  unfold roots
  rw [List.length_append]
  omega
end Go.Proofs.YtekbgopdeancpaaGreatDoor
/- Eviction: what is left, and what has gone. Nothing of the program. -/
namespace Go.Proofs.YtekbgopdeancpaaGreatDoor
open Go.RowKit
theorem rch_less {l : List Bl} {P : Bl → List (List UInt8)} {ds es : List (List UInt8)} (h : ∀ x ∈ ds, x ∈ es) {d : List UInt8} (q : Rch l P ds d) : Rch l P es d := rch_congr h q
/-- a store of fewer blobs, but of all that it comes to, comes to the same -/
theorem live_filter {t : Sto} (hs : Srt t.bs) (p : Bl → Bool) (hp : ∀ b ∈ t.bs, b.dg ∈ live t → p b = true) : live { t with bs := t.bs.filter p } = live t := by
  refine SrT.ext (l := live { t with bs := t.bs.filter p }) (m := live t) (ris_srt _) (ris_srt _) fun d => ?_
  rw [mem_live, mem_live]
  have hC : Srt (t.bs.filter p) := srt_filter hs p
  have inC : ∀ {b : Bl}, b ∈ t.bs → b.dg ∈ live t → b ∈ t.bs.filter p := fun hb hl => List.mem_filter.2 ⟨hb, hp _ hb hl⟩
  show Rch (t.bs.filter p) pOf (roots (t.bs.filter p) t.es) d ↔ _
  constructor
  · intro h
    induction h with
    | here h1 h2 =>
      obtain ⟨b, hb, rfl⟩ := bAt_lt.1 h2
      have hb' := (List.mem_filter.1 hb).1
      refine .here ?_ (bAt_lt.2 ⟨b, hb', rfl⟩)
      rw [mem_roots] at h1 ⊢
      rcases h1 with ⟨c, hc, q⟩ | q
      · exact .inl ⟨c, (List.mem_filter.1 hc).1, q⟩
      · exact .inr q
    | next h0 h1 h2 ih =>
      obtain ⟨b, hb, rfl⟩ := rch_there h0
      obtain ⟨c, hc, rfl⟩ := bAt_lt.1 h2
      refine .next ih ?_ (bAt_lt.2 ⟨c, (List.mem_filter.1 hc).1, rfl⟩)
      rw [rPar_of hs pOf (List.mem_filter.1 hb).1]
      rwa [rPar_of hC pOf hb] at h1
  · intro h
    induction h with
    | @here d h1 h2 =>
      have hl : d ∈ live t := mem_live.2 (.here h1 h2)
      obtain ⟨b, hb, rfl⟩ := bAt_lt.1 h2
      refine .here ?_ (bAt_lt.2 ⟨b, inC hb hl, rfl⟩)
      rw [mem_roots] at h1 ⊢
      rcases h1 with ⟨c, hc, q1, q2⟩ | q
      · exact .inl ⟨c, inC hc (q2 ▸ hl), q1, q2⟩
      · exact .inr q
    | @next d e h0 h1 h2 ih =>
      have hl : e ∈ live t := mem_live.2 (.next h0 h1 h2)
      have hd : d ∈ live t := mem_live.2 h0
      obtain ⟨b, hb, rfl⟩ := rch_there h0
      obtain ⟨c, hc, rfl⟩ := bAt_lt.1 h2
      refine .next ih ?_ (bAt_lt.2 ⟨c, inC hc hl, rfl⟩)
      rw [rPar_of hC pOf (inC hb hd)]
      rwa [rPar_of hs pOf hb] at h1
theorem clean_filter {t : Sto} (hs : Srt t.bs) (p : Bl → Bool) (hp : ∀ b ∈ t.bs, b.dg ∈ live t → p b = true) : sClean { t with bs := t.bs.filter p } = sClean t := by
  have h1 : (t.bs.filter p).filter (isLive { t with bs := t.bs.filter p }) = t.bs.filter (isLive t) := by
    rw [List.filter_filter]
    refine List.filter_congr fun b hb => ?_
    have : isLive { t with bs := t.bs.filter p } b = isLive t b := by unfold isLive; rw [live_filter hs p hp]
    rw [this]
    cases q : isLive t b with
    | false => simp
    | true => rw [hp b hb (isLive_iff.1 q)]; rfl
  show ({ t with bs := _ } : Sto) = { t with bs := _ }
  exact congrArg (fun z => ({ t with bs := z } : Sto)) h1
/-- fewer entries, fewer roots -/
theorem live_less {s : Sto} {es : List En} (h : ∀ x ∈ es, x ∈ s.es) {d : List UInt8} (q : d ∈ live { s with es := es }) : d ∈ live s := by
  rw [mem_live] at q ⊢
  refine rch_less (fun x hx => ?_) q
  have hx' : x ∈ roots s.bs es := hx
  rw [mem_roots] at hx' ⊢
  rcases hx' with q | ⟨e, he, q⟩
  · exact .inl q
  · exact .inr ⟨e, h e he, q⟩
theorem clean_less {s : Sto} (hs : Srt s.bs) {es : List En} (h : ∀ x ∈ es, x ∈ s.es) : sClean { sClean s with es := es } = sClean { s with es := es } :=
  clean_filter (t := { s with es := es }) hs (isLive s) fun _ _ hl => isLive_iff.2 (live_less h hl)
/-- entries without those of some keys -/
def rmv (l : List En) (ks : List (List UInt8)) : List En := l.filter fun z => !(ks.any fun k => z.ky == k)
theorem rmv_nil (l : List En) : rmv l [] = l := by
  unfold rmv
  exact List.filter_eq_self.2 fun _ _ => rfl
theorem rmv_rmv (l : List En) (a b : List (List UInt8)) : rmv (rmv l a) b = rmv l (a ++ b) := by
  unfold rmv
  rw [List.filter_filter]
  refine List.filter_congr fun z _ => ?_
  rw [List.any_append]
  cases a.any _ <;> cases b.any _ <;> rfl
theorem rmv_mem {l : List En} {ks : List (List UInt8)} {z : En} : z ∈ rmv l ks ↔ z ∈ l ∧ z.ky ∉ ks := by
  unfold rmv
  rw [List.mem_filter, Bool.not_eq_true', any_not]
theorem rmv_one {l : List En} (hs : SrE l) {i : Nat} (hi : i < l.length) : rmv l [l[i].ky] = l.eraseIdx i := by
  unfold rmv
  induction l generalizing i with
  | nil => cases hi
  | cons x r ih =>
    have h1 := (List.pairwise_cons.1 hs).1
    have h2 := (List.pairwise_cons.1 hs).2
    cases i with
    | zero =>
      have : r.filter (fun z => !([x.ky].any fun k => z.ky == k)) = r := by
        refine List.filter_eq_self.2 fun z hz => ?_
        have hne : z.ky ≠ x.ky := fun q => by
          have := h1 z hz
          rw [q, bl_irrefl] at this
          cases this
        simp [hne]
      simpa using this
    | succ j =>
      have hj : j < r.length := by simpa using hi
      have hne : x.ky ≠ r[j].ky := fun q => by
        have := h1 r[j] (List.getElem_mem hj)
        rw [q, bl_irrefl] at this
        cases this
      have := ih h2 hj
      simp only [List.getElem_cons_succ, List.eraseIdx_cons_succ]
      rw [List.filter_cons_of_pos (by simp [hne]), this]
theorem rmv_sub (l : List En) (ks : List (List UInt8)) : (rmv l ks).Sublist l := List.filter_sublist
end Go.Proofs.YtekbgopdeancpaaGreatDoor
/- Eviction: what the loop leaves and what it takes. Nothing of the program. -/
namespace Go.Proofs.YtekbgopdeancpaaGreatDoor
open Go.RowKit
/-- a store without what its waste is, and without some entries -/
def sWo (s : Sto) (ks : List (List UInt8)) : Sto := sClean { s with es := rmv s.es ks }
theorem sWo_nil (s : Sto) : sWo s [] = sClean s := by unfold sWo; rw [rmv_nil]
/-- what the loop takes: entries that nobody holds, the oldest first, no more than must go -/
structure Gone (more : Int) (s : Sto) (g : List En) : Prop where
  there : ∀ z ∈ g, z ∈ s.es ∧ z.pn = 0
  len : (rmv s.es (g.map En.ky)).length + g.length = s.es.length
  old : g.Pairwise fun a b => a.st ≤ b.st
  left : ∀ z ∈ rmv s.es (g.map En.ky), z.pn = 0 → ∀ u ∈ g, u.st ≤ z.st
  room : ¬ s.rm < wrap64 (uS (sWo s (g.map En.ky)).bs + more)
  must : ∀ k, k < g.length → s.rm < wrap64 (uS (sWo s ((g.take k).map En.ky)).bs + more)
theorem ok_sre {s : Sto} (h : s.ok) : SrE s.es := (xsErr_zero.1 h.xe).2.2
theorem ok_srt {s : Sto} (h : s.ok) : Srt s.bs := (bsErr_zero.1 h.be).2.2
theorem less_step {s : Sto} (h : s.ok) {i : Nat} : sClean (sLess (sClean s) i) = sClean (sLess s i) :=
  clean_less (ok_srt h) fun _ hx => List.mem_of_mem_eraseIdx hx
theorem sWo_less {s : Sto} (h : s.ok) {i : Nat} (hi : i < s.es.length) (ks : List (List UInt8)) : sWo (sLess s i) ks = sWo s (s.es[i].ky :: ks) := by
  unfold sWo sLess
  show sClean { s with es := rmv (s.es.eraseIdx i) ks } = _
  rw [← rmv_one (ok_sre h) hi, rmv_rmv]
  rfl
theorem go_ok (more : Int) : ∀ (f : Nat) (s : Sto) (gone : List (List UInt8)), s.ok → s.es.length < f →
    sGo more f (sClean s) gone = (10, sNil, []) ∨ ∃ g : List En, sGo more f (sClean s) gone = (0, sWo s (g.map En.ky), gone ++ g.map En.ky) ∧ Gone more s g
  | 0, _, _, _, h => by omega
  | f + 1, s, gone, h, hf => by
    rw [sGo]
    by_cases hr : (sClean s).rm < wrap64 (uS (sClean s).bs + more)
    · rw [if_pos hr]
      rcases xOld_ways s.es with ⟨i, hi, he, hp, ho⟩ | ⟨he, _⟩
      · have he' : xOld (sClean s).es = ((i : Int), 0) := he
        rw [he', if_neg (by simp)]
        have hk : ((sClean s).es.getD ((i : Int), (0 : Int)).1.toNat default) = s.es[i] := by
          show s.es.getD i default = _
          rw [List.getD_eq_getElem?_getD, List.getElem?_eq_getElem hi, Option.getD_some]
        rw [hk, show ((i : Int), (0 : Int)).1.toNat = i from rfl, less_step h]
        have hl : (sLess s i).es.length < f := by
          show (s.es.eraseIdx i).length < f
          rw [List.length_eraseIdx_of_lt hi]; omega
        rcases go_ok more f (sLess s i) (gone ++ [s.es[i].ky]) (less_ok h i) hl with q | ⟨g, q, hg⟩
        · exact .inl q
        · refine .inr ⟨s.es[i] :: g, ?_, ?_⟩
          · rw [q, sWo_less h hi]
            simp
          · have hrm : ∀ ks, rmv (sLess s i).es ks = rmv s.es (s.es[i].ky :: ks) := fun ks => by
              show rmv (s.es.eraseIdx i) ks = _
              rw [← rmv_one (ok_sre h) hi, rmv_rmv]; rfl
            have hin : ∀ z ∈ (sLess s i).es, z ∈ s.es := fun z hz => List.mem_of_mem_eraseIdx hz
            refine ⟨fun z hz => ?_, ?_, ?_, fun z hz hz0 u hu => ?_, ?_, fun k hk => ?_⟩
            · rcases List.mem_cons.1 hz with rfl | hz
              · exact ⟨List.getElem_mem hi, hp⟩
              · exact ⟨hin z (hg.there z hz).1, (hg.there z hz).2⟩
            · have h1 := hg.len
              rw [hrm] at h1
              have h2 : (sLess s i).es.length = s.es.length - 1 := List.length_eraseIdx_of_lt hi
              simp only [List.map_cons, List.length_cons]
              omega
            · exact List.pairwise_cons.2 ⟨fun u hu => ho u (hin u (hg.there u hu).1) (hg.there u hu).2, hg.old⟩
            · rcases List.mem_cons.1 hu with rfl | hu
              · exact ho z (rmv_mem.1 hz).1 hz0
              · refine hg.left z ?_ hz0 u hu
                rw [hrm]; exact hz
            · have := hg.room
              rw [sWo_less h hi] at this
              exact this
            · cases k with
              | zero =>
                rw [List.take_zero, List.map_nil, sWo_nil]
                exact hr
              | succ j =>
                have := hg.must j (by simpa using hk)
                rw [sWo_less h hi] at this
                rw [List.take_succ_cons, List.map_cons]
                exact this
      · have he' : xOld (sClean s).es = (0, 5) := he
        rw [he', if_pos (by simp)]
        exact .inl rfl
    · rw [if_neg hr]
      refine .inr ⟨[], ?_, ⟨fun _ hz => absurd hz (by simp), ?_, List.Pairwise.nil, fun _ _ _ _ hu => absurd hu (by simp), ?_, fun k hk => absurd hk (by simp)⟩⟩
      · simp [sWo_nil]
      · simp [rmv_nil]
      · rw [List.map_nil, sWo_nil]; exact hr
/-- for more room no less goes -/
theorem go_more {a b : Int} (hab : ∀ s : Sto, s.ok → s.rm < wrap64 (uS s.bs + a) → s.rm < wrap64 (uS s.bs + b)) : ∀ (f : Nat) (s : Sto) (gone : List (List UInt8)) {y : Sto} {G : List (List UInt8)}, s.ok →
    sGo b f s gone = (0, y, G) → ∃ y' G', sGo a f s gone = (0, y', G') ∧ G' <+: G ∧ gone <+: G
  | 0, _, _, _, _, _, h => by
    rw [sGo] at h
    simp at h
  | f + 1, s, gone, y, G, hs, h => by
    rw [sGo] at h
    rw [sGo]
    by_cases hb : s.rm < wrap64 (uS s.bs + b)
    · rw [if_pos hb] at h
      by_cases he : (xOld s.es).2 ≠ 0
      · rw [if_pos he] at h
        simp at h
      · rw [if_neg he] at h
        obtain ⟨y', G', q1, q2, q3⟩ := go_more hab f _ _ (clean_ok (less_ok hs _)) h
        have hg : gone <+: G := List.IsPrefix.trans (List.prefix_append _ _) q3
        by_cases ha : s.rm < wrap64 (uS s.bs + a)
        · rw [if_pos ha, if_neg he]
          exact ⟨y', G', q1, q2, hg⟩
        · rw [if_neg ha]
          exact ⟨s, gone, rfl, hg, hg⟩
    · rw [if_neg hb] at h
      have ha : ¬ s.rm < wrap64 (uS s.bs + a) := fun q => hb (hab s hs q)
      rw [if_neg ha]
      simp only [Prod.mk.injEq, true_and] at h
      obtain ⟨rfl, rfl⟩ := h
      exact ⟨s, gone, rfl, List.prefix_refl _, List.prefix_refl _⟩
end Go.Proofs.YtekbgopdeancpaaGreatDoor
/- Eviction: what is come to and what is waste, in order; the small stores of the statements. Nothing of the program. -/
namespace Go.Proofs.YtekbgopdeancpaaGreatDoor
open Go.RowKit
theorem srt_map {l : List Bl} (h : Srt l) : SrT (l.map Bl.dg) := by
  unfold SrT
  rw [List.pairwise_map]
  exact h
/-- what a store comes to is what is left of it when it is cleaned -/
theorem live_eq {s : Sto} (hs : Srt s.bs) : live s = (sClean s).bs.map Bl.dg := by
  refine SrT.ext (ris_srt _) (srt_map (srt_filter hs _)) fun d => ?_
  show d ∈ live s ↔ d ∈ (s.bs.filter (isLive s)).map Bl.dg
  rw [List.mem_map]
  constructor
  · intro h
    obtain ⟨b, hb, rfl⟩ := rch_there (mem_live.1 h)
    exact ⟨b, List.mem_filter.2 ⟨hb, isLive_iff.2 h⟩, rfl⟩
  · rintro ⟨b, hb, rfl⟩
    exact isLive_iff.1 (List.mem_filter.1 hb).2
theorem waste_srt {s : Sto} (hs : Srt s.bs) : SrT (sWaste s) := srt_map (srt_filter hs _)
theorem waste_mem {s : Sto} {b : Bl} (hb : b ∈ s.bs) : b.dg ∈ sWaste s ↔ ¬ b.dg ∈ live s := by
  unfold sWaste
  rw [List.mem_map]
  constructor
  · rintro ⟨c, hc, q⟩ h
    have h1 := (List.mem_filter.1 hc).2
    rw [Bool.not_eq_true', Bool.eq_false_iff] at h1
    exact h1 (isLive_iff.2 (q ▸ h))
  · intro h
    refine ⟨b, List.mem_filter.2 ⟨hb, ?_⟩, rfl⟩
    rw [Bool.not_eq_true', Bool.eq_false_iff]
    exact fun q => h (isLive_iff.1 q)
theorem waste_live {s : Sto} (hs : Srt s.bs) : (sWaste s).length + (live s).length = s.bs.length := by
  have := waste_len s
  rw [live_eq hs, List.length_map]
  omega
/-- without roots nothing is come to -/
theorem live_none {s : Sto} (h : roots s.bs s.es = []) : live s = [] := by
  refine List.eq_nil_iff_forall_not_mem.2 fun d hd => ?_
  have := mem_live.1 hd
  rw [h] at this
  clear hd
  induction this with
  | here q _ => cases q
  | next _ _ _ ih => exact ih
/-- a blob of no bytes, alone -/
def lone : Sto := ⟨[⟨dig [], [], 0, false⟩], [], 0, 0⟩
theorem lone_ok : sErr lone = 0 := by decide +kernel
theorem lone_waste : sWaste lone = [dig []] := by
  unfold sWaste isLive
  rw [live_none (s := lone) rfl]
  rfl
end Go.Proofs.YtekbgopdeancpaaGreatDoor
/- Eviction: what Run answers, and what the statements ask of it. Nothing of the program. -/
namespace Go.Proofs.YtekbgopdeancpaaGreatDoor
open Go.RowKit
theorem more_small {s : Sto} (h : s.ok) {more : Int} (h0 : 0 ≤ more) (h4 : more ≤ 4000) : wrap64 (uS s.bs + more) = uS s.bs + more := by
  have h1 := bs_us h.be
  unfold wrap64; omega
theorem lacks_ok {s : Sto} (h : s.ok) {more : Int} (h0 : 0 ≤ more) (h4 : more ≤ 4000) : rL s.bs s.rm more = (if 0 < uS s.bs + more - s.rm then uS s.bs + more - s.rm else 0, 0) :=
  rL_small (bs_us h.be).1 (by have := bs_us h.be; omega) h.r0 h.r1 h0 h4
theorem wo_ok {s : Sto} (h : s.ok) (ks : List (List UInt8)) : (sWo s ks).ok := by
  have hs := rmv_sub s.es ks
  refine clean_ok (s := { s with es := rmv s.es ks }) ⟨h.be, ?_, h.r0, h.r1, h.us, h.c0, h.c1, fun x hx => h.st x (hs.subset hx), fun x hx => h.pt x (hs.subset hx)⟩
  obtain ⟨h1, h2, h3⟩ := xsErr_zero.1 h.xe
  exact xsErr_zero.2 ⟨Nat.le_trans hs.length_le h1, fun x hx => h2 x (hs.subset hx), List.Pairwise.sublist hs h3⟩
theorem run_ways {s : Sto} (h : s.ok) {more : Int} (h0 : 0 ≤ more) (h4 : more ≤ 4000) :
    (sRun s more = (0, s, []) ∧ uS s.bs + more ≤ s.rm) ∨ (s.rm < uS s.bs + more ∧ sRun s more = sGo more (s.es.length + 1) (sClean s) [] ∧
      (sRun s more = (10, sNil, []) ∨ ∃ g : List En, sRun s more = (0, sWo s (g.map En.ky), g.map En.ky) ∧ Gone more s g)) := by
  have hl := lacks_ok h h0 h4
  have he := sErr_zero.2 h
  by_cases q : s.rm < uS s.bs + more
  · have hR : sRun s more = sGo more (s.es.length + 1) (sClean s) [] := by
      unfold sRun
      rw [if_neg (by simpa using he), hl, if_neg (by simp), if_neg]
      show ¬ (if 0 < uS s.bs + more - s.rm then uS s.bs + more - s.rm else 0) = 0
      rw [if_pos (by omega)]; omega
    refine .inr ⟨q, hR, ?_⟩
    rw [hR]
    rcases go_ok more (s.es.length + 1) s [] h (by omega) with e | ⟨g, e, hg⟩
    · exact .inl e
    · exact .inr ⟨g, by rw [e, List.nil_append], hg⟩
  · refine .inl ⟨?_, by omega⟩
    unfold sRun
    rw [if_neg (by simpa using he), hl, if_neg (by simp), if_pos]
    show (if 0 < uS s.bs + more - s.rm then uS s.bs + more - s.rm else 0) = 0
    rw [if_neg (by omega)]
theorem run_room {s x : Sto} {G : List (List UInt8)} (h : s.ok) {more : Int} (h0 : 0 ≤ more) (h4 : more ≤ 4000) (hr : sRun s more = (0, x, G)) : x.ok ∧ uS x.bs + more ≤ x.rm ∧ x.es.length + G.length = s.es.length := by
  rcases run_ways h h0 h4 with ⟨e, q⟩ | ⟨_, _, e | ⟨g, e, hg⟩⟩
  · rw [e] at hr
    simp only [Prod.mk.injEq, true_and] at hr
    obtain ⟨rfl, rfl⟩ := hr
    exact ⟨h, q, rfl⟩
  · rw [e] at hr
    simp at hr
  · rw [e] at hr
    simp only [Prod.mk.injEq, true_and] at hr
    obtain ⟨rfl, rfl⟩ := hr
    have hx := wo_ok h (g.map En.ky)
    have := hg.room
    rw [more_small hx h0 h4] at this
    refine ⟨hx, ?_, ?_⟩
    · show _ ≤ s.rm
      omega
    · rw [List.length_map]; exact hg.len
theorem run_twice {s x : Sto} {G : List (List UInt8)} (h : s.ok) {more : Int} (h0 : 0 ≤ more) (h4 : more ≤ 4000) (hr : sRun s more = (0, x, G)) : sRun x more = (0, x, []) := by
  obtain ⟨hx, hq, -⟩ := run_room h h0 h4 hr
  rcases run_ways hx h0 h4 with ⟨e, _⟩ | ⟨q, _⟩
  · exact e
  · omega
theorem run_more {s y : Sto} {G : List (List UInt8)} (h : s.ok) {a b : Int} (h0 : 0 ≤ a) (hab : a ≤ b) (h4 : b ≤ 4000) (hr : sRun s b = (0, y, G)) : ∃ y' G', sRun s a = (0, y', G') ∧ G' <+: G := by
  rcases run_ways h h0 (by omega : a ≤ 4000) with ⟨e, _⟩ | ⟨q, e, _⟩
  · exact ⟨s, [], e, List.nil_prefix⟩
  · rcases run_ways h (by omega : 0 ≤ b) h4 with ⟨_, p⟩ | ⟨_, e', _⟩
    · omega
    · rw [e'] at hr
      rw [e]
      obtain ⟨y', G', q1, q2, _⟩ := go_more (a := a) (b := b) (fun t ht q => by
        rw [more_small ht h0 (by omega)] at q
        rw [more_small ht (by omega) h4]
        omega) _ _ _ (clean_ok h) hr
      exact ⟨y', G', q1, q2⟩
theorem key_inj {l : List En} (hs : SrE l) {x y : En} (hx : x ∈ l) (hy : y ∈ l) (e : x.ky = y.ky) : x = y := by
  obtain ⟨i, hi, rfl⟩ := List.mem_iff_getElem.1 hx
  obtain ⟨j, hj, rfl⟩ := List.mem_iff_getElem.1 hy
  have := SrE.inj hs hi hj e
  subst this
  rfl
/-- what is held stays, and all that it comes to -/
theorem run_held {s x : Sto} {G : List (List UInt8)} (h : s.ok) {more : Int} (h0 : 0 ≤ more) (h4 : more ≤ 4000) (hr : sRun s more = (0, x, G)) :
    (∀ z ∈ s.es, 0 < z.pn → z.ky ∉ G) ∧ ∀ ds : List (List UInt8), (∀ d ∈ ds, d ∈ roots s.bs (s.es.filter fun z => decide (0 < z.pn))) → ∀ d, Rch s.bs pOf ds d → ∃ b ∈ x.bs, b.dg = d := by
  rcases run_ways h h0 h4 with ⟨e, _⟩ | ⟨_, _, e | ⟨g, e, hg⟩⟩
  · rw [e] at hr
    simp only [Prod.mk.injEq, true_and] at hr
    obtain ⟨rfl, rfl⟩ := hr
    exact ⟨fun _ _ _ q => (by cases q), fun _ _ _ q => rch_there q⟩
  · rw [e] at hr
    simp at hr
  · rw [e] at hr
    simp only [Prod.mk.injEq, true_and] at hr
    obtain ⟨rfl, rfl⟩ := hr
    have hn : ∀ z ∈ s.es, 0 < z.pn → z.ky ∉ g.map En.ky := fun z hz hp q => by
      obtain ⟨u, hu, e1⟩ := List.mem_map.1 q
      have h1 := hg.there u hu
      have h2 := key_inj (ok_sre h) h1.1 hz e1
      subst h2
      omega
    refine ⟨hn, fun ds hd d q => ?_⟩
    obtain ⟨b, hb, rfl⟩ := rch_there q
    refine ⟨b, List.mem_filter.2 ⟨hb, isLive_iff.2 (mem_live.2 (rch_congr (fun y hy => ?_) q))⟩, rfl⟩
    have h1 := hd y hy
    show y ∈ roots s.bs (rmv s.es (g.map En.ky))
    rw [mem_roots] at h1 ⊢
    rcases h1 with q | ⟨z, hz, q⟩
    · exact .inl q
    · have hz' := List.mem_filter.1 hz
      exact .inr ⟨z, rmv_mem.2 ⟨hz'.1, hn z hz'.1 (by simpa using hz'.2)⟩, q⟩
end Go.Proofs.YtekbgopdeancpaaGreatDoor
/- Eviction: the oldest go first, and no more than must. Nothing of the program. -/
namespace Go.Proofs.YtekbgopdeancpaaGreatDoor
open Go.RowKit
/-- the stamp of a key: that of the first entry that bears it -/
def stampOf (l : List En) (k : List UInt8) : Int := ((l.find? fun z => z.ky == k).map En.st).getD (-1)
theorem stamp_of {l : List En} (hs : SrE l) {z : En} (hz : z ∈ l) : stampOf l z.ky = z.st := by
  unfold stampOf
  cases h : l.find? fun y => y.ky == z.ky with
  | none =>
    have := List.find?_eq_none.1 h z hz
    simp at this
  | some y =>
    have h1 := List.find?_some h
    have h2 := List.mem_of_find?_eq_some h
    have : y = z := key_inj hs h2 hz (by simpa using h1)
    subst this
    rfl
theorem run_ages {s x : Sto} {G : List (List UInt8)} (h : s.ok) {more : Int} (h0 : 0 ≤ more) (h4 : more ≤ 4000) (hr : sRun s more = (0, x, G)) (hG : G ≠ []) :
    (∀ i j (hi : i < G.length) (hj : j < G.length), i < j → stampOf s.es G[i] ≤ stampOf s.es G[j]) ∧ (∀ y ∈ x.es, y.pn = 0 → stampOf s.es (G.getLast hG) ≤ y.st) ∧
      (∀ k ∈ G, ∃ z ∈ s.es, z.ky = k ∧ z.pn = 0) ∧ (sWo s G.dropLast).ok ∧ s.rm < uS (sWo s G.dropLast).bs + more := by
  rcases run_ways h h0 h4 with ⟨e, _⟩ | ⟨_, _, e | ⟨g, e, hg⟩⟩
  · rw [e] at hr
    simp only [Prod.mk.injEq, true_and] at hr
    exact absurd hr.2.symm hG
  · rw [e] at hr
    simp at hr
  · rw [e] at hr
    simp only [Prod.mk.injEq, true_and] at hr
    obtain ⟨rfl, rfl⟩ := hr
    have hS : ∀ i (hi : i < g.length), stampOf s.es (g[i]).ky = g[i].st := fun i hi => stamp_of (ok_sre h) (hg.there _ (List.getElem_mem hi)).1
    have hgn : g ≠ [] := fun q => hG (by rw [q]; rfl)
    have hgl : 0 < g.length := List.length_pos_iff.2 hgn
    refine ⟨fun i j hi hj hij => ?_, fun y hy hp => ?_, fun k hk => ?_, wo_ok h _, ?_⟩
    · rw [List.length_map] at hi hj
      rw [List.getElem_map, List.getElem_map, hS i hi, hS j hj]
      exact List.pairwise_iff_getElem.1 hg.old i j hi hj hij
    · rw [List.getLast_map, stamp_of (ok_sre h) (hg.there _ (List.getLast_mem hgn)).1]
      exact hg.left y hy hp _ (List.getLast_mem hgn)
    · obtain ⟨z, hz, rfl⟩ := List.mem_map.1 hk
      exact ⟨z, (hg.there z hz).1, rfl, (hg.there z hz).2⟩
    · have h1 := hg.must (g.length - 1) (by omega)
      rw [← List.dropLast_eq_take, List.map_dropLast, more_small (wo_ok h _) h0 h4] at h1
      exact h1
end Go.Proofs.YtekbgopdeancpaaGreatDoor
/- The waste of the first blobs. Nothing of the program. -/
namespace Go.Proofs.YtekbgopdeancpaaGreatDoor
open Go.RowKit
/-- the waste of the first blobs -/
def wFst (V : List (List UInt8)) (l : List Bl) (i : Nat) : List (List UInt8) := ((l.take i).filter fun b => !(V.any fun t => b.dg == t)).map Bl.dg
theorem wFst_step {V : List (List UInt8)} {l : List Bl} {i : Nat} (h : i < l.length) : wFst V l (i + 1) = wFst V l i ++ (if (V.any fun t => l[i].dg == t) then [] else [l[i].dg]) := by
  unfold wFst
  rw [List.take_succ_eq_append_getElem h, List.filter_append, List.map_append]
  cases q : (V.any fun t => l[i].dg == t) <;> simp [q]
theorem wFst_len (V : List (List UInt8)) (l : List Bl) (i : Nat) : (wFst V l i).length ≤ i := by
  unfold wFst
  rw [List.length_map]
  exact Nat.le_trans (List.length_filter_le ..) (List.length_take_le ..)
end Go.Proofs.YtekbgopdeancpaaGreatDoor

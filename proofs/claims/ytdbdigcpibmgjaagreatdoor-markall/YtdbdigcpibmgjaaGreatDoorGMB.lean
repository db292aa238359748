/- Texts that belong together: what the functions of the program and of the statements return. -/
import Derived.Test.YtdbdigcpibmgjaaGreatDoorGMA
import Derived.Test.YtdbdigcpibmgjaaGreatDoorGMA
import Derived.Test.YtdbdigcpibmgjaaGreatDoorQSal
import Derived.Test.YtdbdigcpibmgjaaGreatDoorGRD
import Derived.Test.YtdbdigcpibmgjaaGreatDoorGZ
import Derived.Test.YtdbdigcpibmgjaaGreatDoorQYe
import Derived.Test.YtdbdigcpibmgjaaGreatDoorGO
import Derived.Test.YtdbdigcpibmgjaaGreatDoorQMow
import Derived.Test.YtdbdigcpibmgjaaGreatDoorGSB
/- Marking a small store, step by step, to the end. Nothing of the program. -/
namespace Go.Proofs.YtdbdigcpibmgjaaGreatDoor
open Go.RowKit
theorem marks_off {l : List Bl} (h : ∀ b ∈ l, b.mr = false) : l.map (mkB false) = l := by
  refine List.ext_getElem (by simp) fun j h1 h2 => ?_
  rw [List.getElem_map]
  have hm := h l[j] (List.getElem_mem h2)
  cases hb : l[j] with
  | mk a b c d => rw [hb] at hm; simp only at hm; subst hm; rfl
/-- every digest that is to stay is one of the store's -/
theorem StS.roots_in {L : List Bl} {M : List En} {r k : Int} (h : StS L M r k) : ∀ d ∈ ris (roots L M), d ∈ L.map Bl.dg := fun d hd => by
  rcases mem_roots.1 (ris_mem.1 hd) with ⟨b, hb, _, rfl⟩ | ⟨e, he, p, hp, rfl⟩
  · exact List.mem_map.2 ⟨b, hb, rfl⟩
  · obtain ⟨b, hb, h1, _⟩ := (pThere_zero h.b.srt).1 (h.ok.pt e he) p hp
    exact List.mem_map.2 ⟨b, hb, h1⟩
theorem ris_few {l m : List (List UInt8)} (h : ∀ d ∈ ris l, d ∈ m) : (ris l).length ≤ m.length := by
  refine pigeon _ _ ((ris_srt l).imp fun {a b} q e => ?_) h
  subst e
  exact absurd q (by rw [bl_irrefl]; simp)
theorem StS.roots_12 {L : List Bl} {M : List En} {r k : Int} (h : StS L M r k) : (ris (roots L M)).length ≤ 12 := by
  have h1 := ris_few h.roots_in
  have h2 := h.all
  rw [List.length_map] at h1
  omega
/-- what holds behind i steps -/
structure MSt (L : List Bl) (M : List En) (i : Nat) (l : List Bl) (gr : List (List UInt8)) (ph : Int) : Prop where
  inv : MInv L (ris (roots L M)) l gr
  par : ∀ b ∈ l, (pOf b).length ≤ 5
  ph : (ph = 1 ∧ gr.length + 5 * unmk l + i ≤ 72) ∨ (ph = 2 ∧ gr = [])
theorem MSt.few {L : List Bl} {M : List En} {i : Nat} {l : List Bl} {gr : List (List UInt8)} {ph : Int} (h : MSt L M i l gr ph) : gr.length ≤ 72 := by
  rcases h.ph with ⟨_, q⟩ | ⟨_, q⟩
  · omega
  · subst q; simp
theorem MSt.zero {L : List Bl} {M : List En} {r k : Int} (h : StS L M r k) : MSt L M 0 L (ris (roots L M)) 1 := by
  refine ⟨⟨rfl, fun b hb hm => ?_, fun d hd hl => .here hd hl, fun d hd _ => .inl hd, fun b hb hm => ?_⟩, fun b hb => pOf_few (h.few b hb).1, .inl ⟨rfl, ?_⟩⟩
  · rw [(h.few b hb).2.1] at hm; cases hm
  · rw [(h.few b hb).2.1] at hm; cases hm
  · have h1 := h.roots_12
    have h2 := unmk_le L
    have h3 := h.all
    omega
theorem MSt.ok {L : List Bl} {M : List En} {r k : Int} (hs : StS L M r k) {i : Nat} {l : List Bl} {gr : List (List UInt8)} {ph : Int} (h : MSt L M i l gr ph) : sErr ⟨l, M, r, k⟩ = 0 := by
  refine sErr_zero.2 ((map_ok (mks_mk false) ⟨l, M, r, k⟩).1 ?_)
  show (⟨l.map (mkB false), M, r, k⟩ : Sto).ok
  rw [h.inv.same]
  exact (map_ok (mks_mk false) ⟨L, M, r, k⟩).2 hs.ok
theorem MSt.next {L : List Bl} {M : List En} {r k : Int} (hs : StS L M r k) {i : Nat} {l : List Bl} {gr : List (List UInt8)} (h : MSt L M i l gr 1) :
    ∃ l' gr' ph', cStep ⟨l, M, r, k⟩ ⟨1, gr, []⟩ = (0, ⟨l', M, r, k⟩, ⟨ph', gr', []⟩) ∧ MSt L M (i + 1) l' gr' ph' := by
  have hok := h.ok hs
  by_cases hg : gr = []
  · subst hg
    exact ⟨l, [], 2, step_end hok rfl rfl, h.inv, h.par, .inr ⟨rfl, rfl⟩⟩
  · refine ⟨(mSt l gr).1, (mSt l gr).2, 1, step_go hok rfl hg, h.inv.step, mSt_parts h.par, .inl ⟨rfl, ?_⟩⟩
    have h1 := mSt_less (k := 5) hg h.par
    rcases h.ph with ⟨_, q⟩ | ⟨q, _⟩
    · omega
    · exact absurd q (by decide)
theorem MSt.end_ {L : List Bl} {M : List En} {i : Nat} {l : List Bl} {gr : List (List UInt8)} {ph : Int} (h : MSt L M i l gr ph) (hi : 73 ≤ i) : ph = 2 ∧ gr = [] := by
  rcases h.ph with ⟨_, q⟩ | q
  · omega
  · exact q
theorem MSt.ph_of {L : List Bl} {M : List En} {i : Nat} {l : List Bl} {gr : List (List UInt8)} {ph : Int} (h : MSt L M i l gr ph) (hp : ph ≠ 1) : ph = 2 ∧ gr = [] := by
  rcases h.ph with ⟨q, _⟩ | q
  · exact absurd q hp
  · exact q
theorem same_srt {l m : List Bl} (h : l.map (mkB false) = m.map (mkB false)) (hs : Srt m) : Srt l := by
  have e : l.map Bl.dg = m.map Bl.dg := by
    have := congrArg (List.map Bl.dg) h
    simpa [List.map_map, Function.comp_def, mkB] using this
  unfold Srt at hs ⊢
  have h1 : (m.map Bl.dg).Pairwise fun a b => Op.bytesLess a b = true := List.pairwise_map.2 hs
  rw [← e] at h1
  exact List.pairwise_map.1 h1
theorem same_mem {l m : List Bl} (h : l.map (mkB false) = m.map (mkB false)) {b : Bl} (hb : b ∈ l) : ∃ a ∈ m, a.dg = b.dg ∧ a.dt = b.dt ∧ a.pn = b.pn := by
  have h1 : mkB false b ∈ m.map (mkB false) := by rw [← h]; exact List.mem_map.2 ⟨b, hb, rfl⟩
  obtain ⟨a, ha, q⟩ := List.mem_map.1 h1
  exact ⟨a, ha, (congrArg Bl.dg q : (mkB false a).dg = (mkB false b).dg), (congrArg Bl.dt q : (mkB false a).dt = (mkB false b).dt), (congrArg Bl.pn q : (mkB false a).pn = (mkB false b).pn)⟩
/-- at the end just what is come to is marked -/
theorem MSt.done {L : List Bl} {M : List En} {r k : Int} (hs : StS L M r k) {i : Nat} {l : List Bl} {ph : Int} (h : MSt L M i l [] ph) {b : Bl} (hb : b ∈ l) : b.mr = true ↔ b.dg ∈ sReach l M := by
  have hsame := h.inv.same
  have hsr : Srt l := same_srt hsame hs.b.srt
  have hR : ris (roots l M) = ris (roots L M) := by rw [← un_roots l, hsame, un_roots L]
  have hmem : b.dg ∈ sReach l M ↔ Rch L pOf (ris (roots L M)) b.dg := by
    unfold sReach
    rw [ris_mem, rFrom_rch, hR, ← map_rch (mks_mk false) (l := l), hsame, map_rch (mks_mk false)]
  rw [hmem, ← h.inv.done hsr b.dg]
  constructor
  · exact fun q => ⟨b, hb, rfl, q⟩
  · rintro ⟨c, hc, q1, q2⟩
    obtain rfl : c = b := by
      obtain ⟨x, hx, rfl⟩ := List.mem_iff_getElem.1 hc
      obtain ⟨y, hy, rfl⟩ := List.mem_iff_getElem.1 hb
      have e1 := bAt_of hsr hx
      have e2 := bAt_of hsr hy
      rw [q1] at e1
      have : x = y := e1.symm.trans e2
      subst this; rfl
    exact q2
theorem MSt.len {L : List Bl} {M : List En} {i : Nat} {l : List Bl} {gr : List (List UInt8)} {ph : Int} (h : MSt L M i l gr ph) : l.length = L.length := same_len h.inv.same
end Go.Proofs.YtdbdigcpibmgjaaGreatDoor
/- Marked at once, from one digest. Nothing of the program. -/
namespace Go.Proofs.YtdbdigcpibmgjaaGreatDoor
open Go.RowKit
theorem rch_nil {l : List Bl} {P : Bl → List (List UInt8)} {x : List UInt8} (h : Rch l P [] x) : False := by
  induction h with
  | here h _ => cases h
  | next _ _ _ ih => exact ih
theorem from_nil (l : List Bl) : ris (rFrom l pOf []) = [] := by
  cases h : ris (rFrom l pOf []) with
  | nil => rfl
  | cons x r =>
    have hx : x ∈ ris (rFrom l pOf []) := by rw [h]; exact List.mem_cons_self ..
    exact (rch_nil ((rFrom_rch [] x).1 (ris_mem.1 hx))).elim
theorem mAll_nil (l : List Bl) : mAll l [] = l := by
  unfold mAll
  rw [from_nil, mFr_nil]
theorem mAll_len (l : List Bl) (ds : List (List UInt8)) : (mAll l ds).length = l.length := mFr_len _ _
theorem mAll_mr {L : List Bl} (hs : Srt L) (hm : ∀ b ∈ L, b.mr = false) {ds : List (List UInt8)} {k : Nat} (h : k < L.length) (h' : k < (mAll L ds).length) : (mAll L ds)[k].mr = true ↔ L[k].dg ∈ ris (rFrom L pOf ds) := by
  have e : (mAll L ds)[k] = _ := mFr_get (V := ris (rFrom L pOf ds)) (l := L) h
  rw [e]
  have hf := hm L[k] (List.getElem_mem h)
  by_cases q : L[k].dg ∈ ris (rFrom L pOf ds)
  · rw [if_pos ⟨q, bAt_of hs h⟩]
    exact ⟨fun _ => q, fun _ => rfl⟩
  · rw [if_neg (fun z => q z.1), hf]
    exact ⟨fun z => (by cases z), fun z => absurd z q⟩
theorem mAll_alks (L : List Bl) (ds : List (List UInt8)) : alks L (mAll L ds) = true := by
  refine alks_iff.2 ⟨(mAll_len L ds).symm, fun j h1 h2 => ?_⟩
  have e : (mAll L ds)[j] = _ := mFr_get (V := ris (rFrom L pOf ds)) (l := L) h1
  rw [e]
  split <;> simp [alk, mkB]
theorem mAll_good {L : List Bl} (h : ∀ p ∈ L, p.good) (ds : List (List UInt8)) : ∀ p ∈ mAll L ds, p.good := by
  intro p hp
  obtain ⟨j, hj, rfl⟩ := List.mem_iff_getElem.1 hp
  have h1 : j < L.length := by rwa [mAll_len] at hj
  have e : (mAll L ds)[j] = _ := mFr_get (V := ris (rFrom L pOf ds)) (l := L) h1
  rw [e]
  have hg := h L[j] (List.getElem_mem h1)
  split
  · exact hg
  · exact hg
theorem from_self {L : List Bl} {a : Nat} (h : a < L.length) : 0 < (ris (rFrom L pOf [L[a].dg])).length :=
  List.length_pos_of_mem (ris_mem.2 ((rFrom_rch _ _).2 (.here (List.mem_singleton.2 rfl) (bAt_lt.2 ⟨L[a], List.getElem_mem h, rfl⟩))))
end Go.Proofs.YtdbdigcpibmgjaaGreatDoor
/- The two variables of the loop of steps. Nothing of the program. -/
namespace Go.Proofs.YtdbdigcpibmgjaaGreatDoor
open Go.RowKit
theorem KNew.set7 {α η : Type} {K : Kin α η} {W : World} {base n c : Nat} {A : Option Addr} {l : List α} (h : KNew K W base A n c l) {q : Nat} (hq : q + 1 < base) (x0 x1 x2 x3 y0 y1 y2 : Value) :
    KNew K (((((((W.setCell ⟨q, 0, none⟩ x0).setCell ⟨q, 1, none⟩ x1).setCell ⟨q, 2, none⟩ x2).setCell ⟨q, 3, none⟩ x3).setCell ⟨q + 1, 0, none⟩ y0).setCell ⟨q + 1, 1, none⟩ y1).setCell ⟨q + 1, 2, none⟩ y2) base A n c l :=
  (((h.set4s (by omega) _ _ _ _).set hq _).set hq _).set hq _
/-- what stands in the two variables behind i steps -/
structure MkI (w0 wr : World) (g : Nat) (L : List Bl) (M : List En) (rm ck : Int) (i : Nat) (l : List Bl) (gr : List (List UInt8)) (ph : Int) (A B P : Option Addr) (c d f : Nat) : Prop where
  st : MSt L M i l gr ph
  bS : Blk wr g 25 [.slice A l.length c, .slice B M.length d, .int .i64 rm, .int .i64 ck]
  bC : Blk wr (g + 1) 28 [.int .i64 ph, .slice P gr.length f, .string (str [])]
  a : StA wr A B l.length c M.length d ⟨l, M, rm, ck⟩
  r : Rd wr 1 P gr.length f (gr.map sv)
  hP : P = none → f = 0
  b : Below w0.heap.size w0 wr
theorem MkI.below {w0 wr w' : World} {g : Nat} {L : List Bl} {M : List En} {rm ck : Int} {i : Nat} {l : List Bl} {gr : List (List UInt8)} {ph : Int} {A B P : Option Addr} {c d f : Nat} (h : MkI w0 wr g L M rm ck i l gr ph A B P c d f) (hb : Below wr.heap.size wr w') : MkI w0 w' g L M rm ck i l gr ph A B P c d f :=
  ⟨h.st, h.bS.below hb h.bS.lt, h.bC.below hb h.bC.lt, h.a.below hb, h.r.below hb, h.hP, below_step h.b hb⟩
theorem MkI.put {w0 W : World} {g base : Nat} {L : List Bl} {M : List En} {rm ck : Int} (hS : StS L M rm ck) {i : Nat} {l : List Bl} {gr : List (List UInt8)} {ph : Int} {A B P : Option Addr} {c d f : Nat} {x0 x1 x2 x3 y0 y1 y2 : Value} (st : MSt L M i l gr ph)
    (z : Blk W g 25 [x0, x1, x2, x3]) (y : Blk W (g + 1) 28 [y0, y1, y2]) (hg : w0.heap.size ≤ g) (hb : g + 1 < base) (hN : KNew kBl W base A l.length c l) (hM : KNew kEn W base B M.length d M) (hr : Rd W 1 P gr.length f (gr.map sv)) (hP : P = none → f = 0)
    (hF : ∀ a : Addr, P = some a → base ≤ a.block) (hB : Below w0.heap.size w0 W) (hK : Kon w0) :
    MkI w0 (((((((W.setCell ⟨g, 0, none⟩ (.slice A l.length c)).setCell ⟨g, 1, none⟩ (.slice B M.length d)).setCell ⟨g, 2, none⟩ (.int .i64 rm)).setCell ⟨g, 3, none⟩ (.int .i64 ck)).setCell ⟨g + 1, 0, none⟩ (.int .i64 ph)).setCell ⟨g + 1, 1, none⟩ (.slice P gr.length f)).setCell ⟨g + 1, 2, none⟩ (.string (str []))) g L M rm ck i l gr ph A B P c d f := by
  have h2 := two_cells z y (.slice A l.length c) (.slice B M.length d) (.int .i64 rm) (.int .i64 ck) (.int .i64 ph) (.slice P gr.length f) (.string (str []))
  have b7 := below7 hB hg (.slice A l.length c) (.slice B M.length d) (.int .i64 rm) (.int .i64 ck) (.int .i64 ph) (.slice P gr.length f) (.string (str []))
  exact ⟨st, h2.1, h2.2, sta_of (hK.below b7) (hN.set7 hb _ _ _ _ _ _ _).rd (hM.set7 hb _ _ _ _ _ _ _).rd hN.nilCap hM.nilCap (sErr_zero.1 (st.ok hS)), rd_set7 hr (fun a e => by have := hF a e; omega) _ _ _ _ _ _ _, hP, b7⟩
theorem MkI.end_ {w0 wr : World} {g : Nat} {L : List Bl} {M : List En} {rm ck : Int} {i : Nat} {l : List Bl} {gr : List (List UInt8)} {ph : Int} {A B P : Option Addr} {c d f : Nat} (h : MkI w0 wr g L M rm ck i l gr ph A B P c d f) (hp : ph = 2 ∧ gr = []) : MkI w0 wr g L M rm ck 100 l [] 2 A B P c d f := by
  obtain ⟨rfl, rfl⟩ := hp
  exact ⟨⟨h.st.inv, h.st.par, .inr ⟨rfl, rfl⟩⟩, h.bS, h.bC, h.a, h.r, h.hP, h.b⟩
end Go.Proofs.YtdbdigcpibmgjaaGreatDoor

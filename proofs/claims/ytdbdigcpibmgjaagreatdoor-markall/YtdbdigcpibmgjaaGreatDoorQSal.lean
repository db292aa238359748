/- The statements' own Store, whole: what holds of it. -/
import Derived.Test.YtdbdigcpibmgjaaGreatDoorGZ
import Derived.Test.YtdbdigcpibmgjaaGreatDoorGU
import Derived.Test.YtdbdigcpibmgjaaGreatDoorGSA
import Derived.Test.YtdbdigcpibmgjaaGreatDoorGRB
namespace Go.Proofs.YtdbdigcpibmgjaaGreatDoor
open Go.RowKit
/-- a store of raw things: all that the laws want of it -/
structure StS (L : List Bl) (M : List En) (r k : Int) : Prop where
  b : StB L
  e : StE M
  ok : (⟨L, M, r, k⟩ : Sto).ok
  room : r = uS L + 600
  few : ∀ x ∈ L, x.dt.length ≤ 184 ∧ x.mr = false ∧ x.pn ≤ 1
  all : L.length + M.length ≤ 12
  ck : k ≤ 24
theorem uS_perm {l m : List Bl} (h : l.Perm m) : uS l = uS m := by
  unfold uS
  rw [(h.map fun b : Bl => b.dt.length).sum_nat]
theorem StS.of {l : List Rw} {L : List Bl} {M : List En} (hp : L.Perm (sAll l).bs) (hs : Srt L) (hq : M.Perm (sAll l).es) (ht : SrtE M) : StS L M (((sAll l).us + 600 : Nat) : Int) (((sAll l).ck : Nat) : Int) := by
  have hok : SvOk 12 (sAll l) := SvOk.all l 12
  have hfine : ∀ b ∈ L, b.fine := fun b hb => hok.fine b (hp.mem_iff.1 hb)
  have hlen := hok.len
  have hl1 := hp.length_eq
  have hl2 := hq.length_eq
  have hck := hok.ck
  have hus := hok.used
  have hB : StB L := ⟨bsErr_zero.2 ⟨by omega, hfine, hs⟩, by omega, hs, hfine⟩
  have hE := StE.of hq ht
  have hu : uS L = ((sAll l).us : Int) := by rw [uS_perm hp]; unfold uS; rw [hok.us]
  refine ⟨hB, hE, ⟨hB.err, hE.err, ?_, ?_, ?_, ?_, ?_, fun x hx => ?_, fun x hx => ?_⟩, ?_, fun x hx => ?_, by omega, by omega⟩
  · show 0 ≤ (((sAll l).us + 600 : Nat) : Int); omega
  · show (((sAll l).us + 600 : Nat) : Int) ≤ 4000; omega
  · show uS L ≤ (((sAll l).us + 600 : Nat) : Int); omega
  · show 0 ≤ (((sAll l).ck : Nat) : Int); omega
  · show (((sAll l).ck : Nat) : Int) ≤ 1099511627776; omega
  · exact (hok.ef x (hq.mem_iff.1 hx)).2.2.2.2.2.1
  · refine (pThere_zero hs).2 fun p hpm => ?_
    obtain ⟨b, hb, h1, h2⟩ := (hok.ef x (hq.mem_iff.1 hx)).2.2.2.2.2.2.2 p hpm
    exact ⟨b, hp.mem_iff.2 hb, h1, h2⟩
  · rw [hu]; omega
  · exact (hok.bf x (hp.mem_iff.1 hx)).2
theorem eRoots_len : ∀ (M : List En), (∀ e ∈ M, e.ps.length ≤ 8) → (eRoots M).length ≤ 8 * M.length
  | [], _ => by simp [eRoots]
  | e :: r, h => by
    have h1 := eRoots_len r fun x hx => h x (List.mem_cons_of_mem _ hx)
    have h2 := h e (List.mem_cons_self ..)
    have : eRoots (e :: r) = e.ps.map Prt.dg ++ eRoots r := by unfold eRoots; rw [List.flatMap_cons]
    rw [this, List.length_append, List.length_map, List.length_cons]; omega
theorem StS.roots_len {L : List Bl} {M : List En} {r k : Int} (h : StS L M r k) : (roots L M).length ≤ 68 := by
  have h1 := eRoots_len M fun e he => (psErr_zero (h.e.fine e he).2.1).1
  have h2 : (bRoots L).length ≤ L.length := by unfold bRoots; rw [List.length_map]; exact List.length_filter_le _ _
  have h3 := h.b.len
  have h4 := h.e.len
  unfold roots
  rw [List.length_append]; omega
theorem StS.dgs {L : List Bl} {M : List En} {r k : Int} (h : StS L M r k) : ∀ b ∈ L, b.dg.length ≤ maxLen := fun b hb => (h.b.good b hb).1
theorem StS.pdg {L : List Bl} {M : List En} {r k : Int} (h : StS L M r k) : ∀ e ∈ M, ∀ p ∈ e.ps, p.dg.length ≤ maxLen := fun e he p hp => by
  have := ((psErr_zero (h.e.fine e he).2.1).2 p hp).2.2.2.1
  unfold maxLen; omega
/-- such a store, as the call hands it back -/
def GivesSt (w : World) (e : Ending) (w' : World) : Prop :=
  ∃ A c L B d M r k, e = .returned (.agg #[.slice A (L : List Bl).length c, .slice B (M : List En).length d, .int .i64 r, .int .i64 k]) ∧ KNew kBl w' w.heap.size A L.length c L ∧ KNew kEn w' w.heap.size B M.length d M ∧ StS L M r k ∧ Below w.heap.size w w'
theorem store_both (A : Option Addr) (n c : Nat) (l : List Rw) (w : World) (hr : Rd w 4 A n c (rcs l)) (hg : ∀ p ∈ l, p.good) (hn : n ≤ 4294967296000) :
    Calls Tryz.prog 16 #[.slice A n c] w (GivesSt w) := by
  refine (store_any A n c l w hr hg hn).mono ?_
  rintro e w' ⟨vB, vE, hB, hE, rfl, h2, hp, hq, hs, ht, hb⟩
  obtain ⟨A1, c1, rfl, hN⟩ := h2.a.own.new
  obtain ⟨A2, c2, rfl, hM⟩ := h2.b.own.new
  exact ⟨A1, c1, hB.map Prod.fst, A2, c2, hE.map Prod.fst, _, _, rfl, hN.rebase (by omega), hM.rebase (by omega), StS.of hp hs hq ht, hb⟩
end Go.Proofs.YtdbdigcpibmgjaaGreatDoor

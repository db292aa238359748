/- The blobs of the statements' own Store: what holds of them; dropping one of them. -/
import Derived.Test.YtdbdigcpibmgjaaGreatDoorGEE
import Derived.Test.YtdbdigcpibmgjaaGreatDoorQKs
import Derived.Test.YtdbdigcpibmgjaaGreatDoorGQ
import Derived.Test.YtdbdigcpibmgjaaGreatDoorGA
namespace Go.Proofs.YtdbdigcpibmgjaaGreatDoor
open Go.RowKit
/-- blobs of a store: all that the laws want of them -/
structure StB (L : List Bl) : Prop where
  err : bsErr L = 0
  len : L.length ≤ 12
  srt : Srt L
  fine : ∀ b ∈ L, b.fine
theorem StB.good {L : List Bl} (h : StB L) : ∀ b ∈ L, b.good := fun b hb => fine_good_bl (h.fine b hb)
set_option maxRecDepth 100000 in
/-- the field Blobs of a store -/
theorem store_field (a b c d : Value) (w : World) : (Instr.field 25 (.agg #[a, b, c, d]) 0).run Tryz.prog w = .ok a w := by kernel_rfl
/-- a store's blobs, as the call hands them back -/
def GivesSB (w : World) (e : Ending) (w' : World) : Prop :=
  ∃ A c L A2 n2 c2 r k, e = .returned (.agg #[.slice A (L : List Bl).length c, .slice A2 n2 c2, .int .i64 r, .int .i64 k]) ∧ KNew kBl w' w.heap.size A L.length c L ∧ StB L ∧ Below w.heap.size w w'
theorem store_blobs (A : Option Addr) (n c : Nat) (l : List Rw) (w : World) (hr : Rd w 4 A n c (rcs l)) (hg : ∀ p ∈ l, p.good) (hn : n ≤ 4294967296000) :
    Calls Tryz.prog 16 #[.slice A n c] w (GivesSB w) := by
  refine (store_any A n c l w hr hg hn).mono ?_
  rintro e w' ⟨vB, vE, hB, hE, rfl, h2, hp, -, hs, -, hb⟩
  obtain ⟨A1, c1, rfl, hN⟩ := h2.a.own.new
  obtain ⟨A2, c2, rfl, -⟩ := h2.b.own.new
  have hok : SvOk 12 (sAll l) := SvOk.all l 12
  have hfine : ∀ b ∈ hB.map Prod.fst, b.fine := fun b hb => hok.fine b (hp.mem_iff.1 hb)
  have hlen : (hB.map Prod.fst).length ≤ 12 := by rw [hp.length_eq]; have := hok.len; omega
  exact ⟨A1, c1, hB.map Prod.fst, A2, _, c2, _, _, rfl, hN.rebase (by omega), ⟨bsErr_zero.2 ⟨by omega, hfine, hs⟩, hlen, hs, hfine⟩, hb⟩
theorem bDrop_held {L : List Bl} (h0 : bsErr L = 0) (hs : Srt L) {k : Nat} (hk : k < L.length) (hp : 0 < L[k].pn) : bDrop L L[k].dg = (10, []) := by
  have hat := bAt_of hs hk
  have hlt : bAt L L[k].dg < L.length := by rw [hat]; exact hk
  have e : L[bAt L L[k].dg] = L[k] := by congr 1
  unfold bDrop
  rw [if_neg (by omega), dif_pos hlt, if_pos (by rw [e]; exact hp)]
theorem bDrop_free {L : List Bl} (h0 : bsErr L = 0) (hs : Srt L) {k : Nat} (hk : k < L.length) (hp : ¬ 0 < L[k].pn) : bDrop L L[k].dg = (0, L.eraseIdx k) := by
  have hat := bAt_of hs hk
  have hlt : bAt L L[k].dg < L.length := by rw [hat]; exact hk
  have e : L[bAt L L[k].dg] = L[k] := by congr 1
  unfold bDrop
  rw [if_neg (by omega), dif_pos hlt, if_neg (by rw [e]; exact hp)]
  rw [hat]
theorem erased_any {L : List Bl} (hs : Srt L) {k : Nat} (hk : k < L.length) : (L.eraseIdx k).any (fun x => x.dg == L[k].dg) = false := by
  rw [List.any_eq_false]
  intro x hx q
  have q' : x.dg = L[k].dg := eq_of_beq q
  obtain ⟨j, hj, rfl⟩ := List.mem_iff_getElem.1 hx
  have hl : (L.eraseIdx k).length = L.length - 1 := List.length_eraseIdx_of_lt hk
  rw [List.getElem_eraseIdx] at q'
  split at q'
  · rename_i h
    have := hs.inj (by omega) hk q'
    omega
  · rename_i h
    have := hs.inj (i := j + 1) (by omega) hk q'
    omega
end Go.Proofs.YtdbdigcpibmgjaaGreatDoor

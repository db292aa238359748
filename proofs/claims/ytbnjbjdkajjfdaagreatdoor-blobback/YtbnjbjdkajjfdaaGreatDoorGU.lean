/- Texts that belong together: what the functions of the program and of the statements return. -/
import Derived.Test.YtbnjbjdkajjfdaaGreatDoorGQ
import Derived.Test.YtbnjbjdkajjfdaaGreatDoorGO
import Derived.Test.YtbnjbjdkajjfdaaGreatDoorGF
import Derived.Test.YtbnjbjdkajjfdaaGreatDoorQKs
import Derived.Test.YtbnjbjdkajjfdaaGreatDoorGA
import Derived.Test.YtbnjbjdkajjfdaaGreatDoorGP
/- The statements' own stored: a closed fact of blob.Put. -/
namespace Go.Proofs.YtbnjbjdkajjfdaaGreatDoor
open Go.RowKit
theorem bput_nil (b : List UInt8) (h : b.length ≤ 300) : bPut [] b = (0, [⟨dig b, b, 0, false⟩], dig b) := by
  have h1 : bsErr [] = 0 := rfl
  unfold bPut
  rw [if_neg (by rw [h1]; simp), if_neg (by omega), if_neg (by simp), if_neg (by simp)]
  simp
theorem abc_rd (w : World) : Rd (w.alloc (.cells #[.int .u8 97, .int .u8 98, .int .u8 99] 5 (3, 4))) 1 (some ⟨w.heap.size, 0, none⟩) 3 3 (([97, 98, 99] : List UInt8).map bv8) :=
  new_rd w 5 [97, 98, 99] (3, 4) (by unfold maxLen; simp)
set_option maxRecDepth 100000 in
set_option maxHeartbeats 1000000 in
theorem stored_ok (w : World) (hK : Kon w) :
    Calls Tryz.prog 8 #[] w fun e w' => e = .returned (.bool true) ∧ Below w.heap.size w w' := by
  have kc := head_run
  have hal := (Below.refl w.heap.size w).alloc (Nat.le_refl _) (.cells #[.int .u8 97, .int .u8 98, .int .u8 99] 5 (3, 4))
  have hp := put_any none 0 0 [] _ 3 3 [97, 98, 99] _ (hK.below hal) (KRd.nil _) (fun _ h => by cases h) (abc_rd w)
  rw [bput_nil _ (by simp)] at hp
  have hdg : ∀ W : World, Calls Tryz.prog 7 #[.slice (some ⟨W.heap.size, 0, none⟩) 3 3] (W.alloc (.cells #[.int .u8 97, .int .u8 98, .int .u8 99] 5 (3, 4))) fun e w' => e = .returned (.string (str (dig [97, 98, 99]))) ∧ Below (W.alloc (.cells #[.int .u8 97, .int .u8 98, .int .u8 99] 5 (3, 4))).heap.size (W.alloc (.cells #[.int .u8 97, .int .u8 98, .int .u8 99] 5 (3, 4))) w' :=
    fun W => digest_ok _ _ _ _ _ (abc_rd W) (by omega)
  generalize dig [97, 98, 99] = D at *
  have HP := Lib.hid hp
  have HG := Lib.hid hdg
  have q1 : (D == D) = true := by simp
  clear hp hdg
  go_enter Tryz.func8, Tryz.ntmps8
  go_wp2_with fail
  with_reducible refine HP.out.mono ?_
  rintro e w1 ⟨A1, n1, c1, rfl, hN1, hb1⟩
  have r1 := hN1.rd
  have hn1 := r1.len
  simp only [List.length_singleton] at hn1
  subst hn1
  have hbA := below_step hal hb1
  obtain ⟨bb, off, D1, dn, dc, rfl, hc0, hc1, -, -, hrD, -⟩ := r1.blob (k := 0) (by simp)
  simp only [List.getElem_cons_zero, Nat.zero_mul, Nat.add_zero] at hc0 hc1 hrD
  obtain rfl := hrD.len
  have ks := run_bytes_str (P := Tryz.prog) Tryz.underlying30 Tryz.underlying5 Tryz.underlying9 hrD
  simp only [List.length_cons, List.length_nil, Nat.zero_add, Nat.reduceAdd] at ks hc1
  have hal2 := (Below.refl w1.heap.size w1).alloc (Nat.le_refl _) (.cells #[.int .u8 97, .int .u8 98, .int .u8 99] 5 (3, 4))
  clear hN1 r1 hb1 hrD
  go_wp2_with fail
  with_reducible refine (HG.out _).mono ?_
  rintro e w2 ⟨rfl, hb2⟩
  go_wp2
  go_ret
  exact ⟨by simp, below_step (below_step hbA hal2) hb2⟩
end Go.Proofs.YtbnjbjdkajjfdaaGreatDoor
/- The blobs of the statements' own Store: what holds of them; dropping one of them. -/
namespace Go.Proofs.YtbnjbjdkajjfdaaGreatDoor
open Go.RowKit
theorem i64_wf {n : Int} (h1 : -9223372036854775808 ≤ n) (h2 : n ≤ 9223372036854775807) : (Lit.int .i64 n).wf = true := by
  have e : (Lit.int .i64 n).wf = (decide (-9223372036854775808 ≤ n) && decide (n ≤ 9223372036854775807)) := rfl
  rw [e]; simp; omega
theorem fine_good_bl {b : Bl} (h : b.fine) : b.good := by
  obtain ⟨h1, h2, h3, h4, h5⟩ := h
  refine ⟨?_, i64_wf (by omega) (by omega), by omega⟩
  have : b.dg.length = 64 := by
    unfold cErr at h1
    split at h1
    · omega
    · rename_i q; exact Classical.byContradiction q
  rw [this]; unfold maxLen; omega
/-- blobs of a store: all that the laws want of them -/
structure StB (L : List Bl) : Prop where
  err : bsErr L = 0
  len : L.length ≤ 12
  srt : Srt L
  fine : ∀ b ∈ L, b.fine
theorem StB.good {L : List Bl} (h : StB L) : ∀ b ∈ L, b.good := fun b hb => fine_good_bl (h.fine b hb)
set_option maxRecDepth 100000 in
/-- the field Blobs of a store -/
theorem store_field (a b c d : Value) (w : World) : (Instr.field 28 (.agg #[a, b, c, d]) 0).run Tryz.prog w = .ok a w := by kernel_rfl
/-- a store's blobs, as the call hands them back -/
def GivesSB (w : World) (e : Ending) (w' : World) : Prop :=
  ∃ A c L A2 n2 c2 r k, e = .returned (.agg #[.slice A (L : List Bl).length c, .slice A2 n2 c2, .int .i64 r, .int .i64 k]) ∧ KNew kBl w' w.heap.size A L.length c L ∧ StB L ∧ Below w.heap.size w w'
theorem store_blobs (A : Option Addr) (n c : Nat) (l : List Rw) (w : World) (hr : Rd w 4 A n c (rcs l)) (hg : ∀ p ∈ l, p.good) (hn : n ≤ 4294967296000) :
    Calls Tryz.prog 4 #[.slice A n c] w (GivesSB w) := by
  refine (store_any A n c l w hr hg hn).mono ?_
  rintro e w' ⟨vB, vE, hB, hE, rfl, h2, hp, -, hs, -, hb⟩
  obtain ⟨A1, c1, rfl, hN⟩ := h2.a.own.new
  obtain ⟨A2, c2, rfl, -⟩ := h2.b.own.new
  have hok : SvOk 12 (sAll l) := SvOk.all l 12
  have hfine : ∀ b ∈ hB.map Prod.fst, b.fine := fun b hb => hok.fine b (hp.mem_iff.1 hb)
  have hlen : (hB.map Prod.fst).length ≤ 12 := by rw [hp.length_eq]; have := hok.len; omega
  exact ⟨A1, c1, hB.map Prod.fst, A2, _, c2, _, _, rfl, hN.rebase (by omega), ⟨bsErr_zero.2 ⟨by omega, hfine, hs⟩, hlen, hs, hfine⟩, hb⟩
theorem bDrop_held {L : List Bl} (h0 : bsErr L = 0) (hs : Srt L) {k : Nat} (hk : k < L.length) (hp : 0 < L[k].pn) : bDrop L L[k].dg = (10, []) := by
  have hat := bAt_of hs hk
  have hlt : bAt L L[k].dg < L.length := by rw [hat]; exact hk
  have e : L[bAt L L[k].dg] = L[k] := by congr 1
  unfold bDrop
  rw [if_neg (by omega), dif_pos hlt, if_pos (by rw [e]; exact hp)]
theorem bDrop_free {L : List Bl} (h0 : bsErr L = 0) (hs : Srt L) {k : Nat} (hk : k < L.length) (hp : ¬ 0 < L[k].pn) : bDrop L L[k].dg = (0, L.eraseIdx k) := by
  have hat := bAt_of hs hk
  have hlt : bAt L L[k].dg < L.length := by rw [hat]; exact hk
  have e : L[bAt L L[k].dg] = L[k] := by congr 1
  unfold bDrop
  rw [if_neg (by omega), dif_pos hlt, if_neg (by rw [e]; exact hp)]
  rw [hat]
theorem erased_any {L : List Bl} (hs : Srt L) {k : Nat} (hk : k < L.length) : (L.eraseIdx k).any (fun x => x.dg == L[k].dg) = false := by
  rw [List.any_eq_false]
  intro x hx q
  have q' : x.dg = L[k].dg := eq_of_beq q
  obtain ⟨j, hj, rfl⟩ := List.mem_iff_getElem.1 hx
  have hl : (L.eraseIdx k).length = L.length - 1 := List.length_eraseIdx_of_lt hk
  rw [List.getElem_eraseIdx] at q'
  split at q'
  · rename_i h
    have := hs.inj (by omega) hk q'
    omega
  · rename_i h
    have := hs.inj (i := j + 1) (by omega) hk q'
    omega
end Go.Proofs.YtbnjbjdkajjfdaaGreatDoor
/- The statements' own SameBlobs, of blobs that are the same, and Has. -/
namespace Go.Proofs.YtbnjbjdkajjfdaaGreatDoor
open Go.RowKit Go.Shelf
set_option maxRecDepth 100000 in
set_option maxHeartbeats 1000000 in
theorem ksameBlob_eq (x : Bl) (h k : Hd) (w : World) (ha : kBl.deep w x h) (hb : kBl.deep w x k) :
    Calls Tryz.prog 39 #[.agg #[.string (str x.dg), .slice h.A h.n h.c, .int .i64 x.pn, .bool x.mr], .agg #[.string (str x.dg), .slice k.A k.n k.c, .int .i64 x.pn, .bool x.mr]] w fun e w' => e = .returned (.bool true) ∧ Below w.heap.size w w' := by
  obtain ⟨d, t, p, m⟩ := x
  obtain ⟨A, n, c⟩ := h
  obtain ⟨B, j, q⟩ := k
  have ha1 : Rd w 1 A n c (t.map bv8) := ha.1
  have hb1 : Rd w 1 B j q (t.map bv8) := hb.1
  clear ha hb
  obtain rfl := ha1.len
  obtain rfl := hb1.len
  have hal := (Below.refl w.heap.size w).alloc (Nat.le_refl _) (.cells #[.string (str d), .slice A t.length c, .int .i64 p, .bool m] 48)
  have hal2 := (Below.refl (w.alloc (.cells #[.string (str d), .slice A t.length c, .int .i64 p, .bool m] 48)).heap.size (w.alloc (.cells #[.string (str d), .slice A t.length c, .int .i64 p, .bool m] 48))).alloc (Nat.le_refl _) (.cells #[.string (str d), .slice B t.length q, .int .i64 p, .bool m] 48)
  have hbb := below_step hal hal2
  have k1 := run_bytes_str (P := Tryz.prog) Tryz.underlying30 Tryz.underlying5 Tryz.underlying9 (ha1.below hbb)
  have k2 := run_bytes_str (P := Tryz.prog) Tryz.underlying30 Tryz.underlying5 Tryz.underlying9 (hb1.below hbb)
  show Calls Tryz.prog 39 #[.agg #[.string (str d), .slice A t.length c, .int .i64 p, .bool m], .agg #[.string (str d), .slice B t.length q, .int .i64 p, .bool m]] w _
  have q1 : (d == d) = true := by simp
  have q2 : (p == p) = true := by simp
  have q3 : (t == t) = true := by simp
  go_enter Tryz.func39, Tryz.ntmps39
  go_wp2
  go_ret
  exact ⟨by simp, hbb⟩
set_option maxRecDepth 100000 in
set_option maxHeartbeats 1000000 in
theorem equalK_eq (A B : Option Addr) (n m c d : Nat) (l : List Bl) (w : World) (ha : KRd kBl w A n c l) (hb : KRd kBl w B m d l) :
    Calls Tryz.prog 38 #[.slice A n c, .slice B m d, .func (.func 39) #[] #[]] w fun e w' => e = .returned (.bool true) ∧ Below w.heap.size w w' := by
  obtain rfl := ha.len
  obtain rfl := hb.len
  have hcap := ha.cap
  unfold maxLen at hcap
  go_enter Tryz.func38, Tryz.ntmps38
  go_wp2
  go_loopw [7, 8, 9, 17] (fun _ _ _ i wr => ∃ k : Nat, k ≤ l.length ∧ i = .int .i64 k ∧ Below w.heap.size w wr) (fun _ _ _ i _ => l.length - (intOf i).toNat)
  case atStart => exact ⟨0, Nat.zero_le _, rfl, Below.refl _ _⟩
  case round =>
    obtain ⟨k, hk, rfl, hbel⟩ := hrel
    by_cases hlt : k < l.length
    · have hki : (k : Int) < (l.length : Int) := by omega
      obtain ⟨b, off, D, dn, dc, rfl, hc0, hc1, hc2, hc3, hrD, hDn⟩ := (ha.below hbel).blob hlt
      obtain ⟨b', off', D', dn', dc', rfl, ic0, ic1, ic2, ic3, irD, iDn⟩ := (hb.below hbel).blob hlt
      generalize l[k] = x at *
      obtain ⟨dg, dt, pn, mr⟩ := x
      simp only at hc0 hc1 hc2 hc3 ic0 ic1 ic2 ic3 hrD irD
      have hal := (Below.refl wr.heap.size wr).alloc (Nat.le_refl _) (.cells #[.string (str dg), .slice D dn dc, .int .i64 pn, .bool mr] 48)
      have hs1 : (wr.alloc (.cells #[.string (str dg), .slice D dn dc, .int .i64 pn, .bool mr] 48)).heap.size = wr.heap.size + 1 := by simp
      have hal2 := (Below.refl (wr.alloc (.cells #[.string (str dg), .slice D dn dc, .int .i64 pn, .bool mr] 48)).heap.size (wr.alloc (.cells #[.string (str dg), .slice D dn dc, .int .i64 pn, .bool mr] 48))).alloc (Nat.le_refl _) (.cells #[.string (str dg), .slice D' dn' dc', .int .i64 pn, .bool mr] 48)
      have hbb := below_step hal hal2
      have i0 := (hal.cell (p := ⟨b', off' + k * 4, none⟩) (cell_lt ic0)).trans ic0
      have i1 := (hal.cell (p := ⟨b', off' + k * 4 + 1, none⟩) (cell_lt ic1)).trans ic1
      have i2 := (hal.cell (p := ⟨b', off' + k * 4 + 2, none⟩) (cell_lt ic2)).trans ic2
      have i3 := (hal.cell (p := ⟨b', off' + k * 4 + 3, none⟩) (cell_lt ic3)).trans ic3
      have hdA : kBl.deep _ ⟨dg, dt, pn, mr⟩ ⟨D, dn, dc⟩ := ⟨hrD.below hbb, hDn⟩
      have hdB : kBl.deep _ ⟨dg, dt, pn, mr⟩ ⟨D', dn', dc'⟩ := ⟨irD.below hbb, iDn⟩
      go_wp2_with fail
      refine (ksameBlob_eq ⟨dg, dt, pn, mr⟩ ⟨D, dn, dc⟩ ⟨D', dn', dc'⟩ _ hdA hdB).mono ?_
      rintro e w' ⟨rfl, hb'⟩
      have hbZ := below_step (below_step hbel hbb) hb'
      clear hdA hdB hal hal2 hbb hb'
      go_wp2
      go_roundw
      case rel => exact ⟨k + 1, by omega, by go_num, hbZ⟩
      case measure => simp [intOf] <;> omega
    · have hd2 : decide ((k : Int) < (l.length : Int)) = false := by rw [decide_eq_false_iff_not]; omega
      go_wp2
      go_ret
      exact ⟨rfl, hbel⟩
set_option maxRecDepth 100000 in
set_option maxHeartbeats 400000 in
theorem ksameBlobs_eq (A B : Option Addr) (n m c d : Nat) (l : List Bl) (w : World) (ha : KRd kBl w A n c l) (hb : KRd kBl w B m d l) :
    Calls Tryz.prog 11 #[.slice A n c, .slice B m d] w fun e w' => e = .returned (.bool true) ∧ Below w.heap.size w w' := by
  go_enter Tryz.func11, Tryz.ntmps11
  go_wp2_with fail
  with_reducible refine (equalK_eq _ _ _ _ _ _ _ _ ha hb).mono ?_
  rintro e w' ⟨rfl, hb'⟩
  go_wp2
  go_ret
  exact ⟨rfl, hb'⟩
set_option maxRecDepth 100000 in
set_option maxHeartbeats 400000 in
theorem has1_tells (d : List UInt8) (g : Nat) (w : World) (hg : g < w.heap.size) (hc : w.cell? ⟨g, 0, none⟩ = some (.string (str d))) : TellsB w 25 #[.pointer (some ⟨g, 0, none⟩)] (fun b => b.dg == d) := fun W x hb => by
  have hcW : W.cell? ⟨g, 0, none⟩ = some (.string (str d)) := (hb.cell (p := ⟨g, 0, none⟩) hg).trans hc
  have hgW : g < W.heap.size := Nat.lt_of_lt_of_le hg hb.size
  have hne : g ≠ W.heap.size := by omega
  obtain ⟨⟨d1, t1, p1, m1⟩, ⟨A1, n1, c1⟩⟩ := x
  show Calls Tryz.prog 25 #[.agg #[.string (str d1), .slice A1 n1 c1, .int .i64 p1, .bool m1], .pointer (some ⟨g, 0, none⟩)] W fun e w' => e = .returned (.bool (d1 == d)) ∧ _
  go_enter Tryz.func25, Tryz.ntmps25
  go_wp2
  go_ret
  exact ⟨rfl, hb.alloc hb.size _⟩
set_option maxRecDepth 100000 in
set_option maxHeartbeats 400000 in
theorem has_any (A : Option Addr) (n c : Nat) (l : List Bl) (d : List UInt8) (w : World) (hr : KRd kBl w A n c l) (b : Bool) (hb : l.any (fun x => x.dg == d) = b) :
    Calls Tryz.prog 6 #[.slice A n c, .string (str d)] w fun e w' => e = .returned (.bool b) ∧ Below w.heap.size w w' := by
  have hal := (Below.refl w.heap.size w).alloc (Nat.le_refl _) (.cells #[.string (str d)] 9)
  have hk := Blk.new w 9 [.string (str d)]
  have k0 := hk.cell 0
  simp only [List.getElem?_cons_zero] at k0
  have hC := containsB_any A n c l _ (hr.below hal) (fun x => x.dg == d) _ _ (enters_of Tryz.func25 (by kernel_rfl) rfl) (has1_tells d w.heap.size _ hk.lt k0)
  rw [hb] at hC
  clear hr hb
  go_enter Tryz.func6, Tryz.ntmps6
  go_wp2_with fail
  refine hC.mono ?_
  rintro e w' ⟨rfl, hb'⟩
  go_wp2
  go_ret
  exact ⟨rfl, below_step hal hb'⟩
end Go.Proofs.YtbnjbjdkajjfdaaGreatDoor

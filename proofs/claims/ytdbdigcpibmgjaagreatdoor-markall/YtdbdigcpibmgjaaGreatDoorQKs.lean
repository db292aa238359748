/- The statements' own Store. -/
import Derived.Test.YtdbdigcpibmgjaaGreatDoorGT
import Derived.Test.YtdbdigcpibmgjaaGreatDoorGO
import Derived.Deep.RegionHeldLaw
import Derived.Deep.RegionLaw
import Derived.Deep.CutBlock
import Derived.Deep.CutRange
namespace Go.Proofs.YtdbdigcpibmgjaaGreatDoor
open Go.RowKit Go.Shelf
theorem frozen_heap {w w' : World} {b : Nat} (h : w'.heap[b]? = w.heap[b]?) (i : Nat) : w'.frozen? ⟨b, i, none⟩ = w.frozen? ⟨b, i, none⟩ := by
  unfold World.frozen?; simp only; rw [h]
/-- the bytes that are to be put -/
def GotD (u : World) (D : List UInt8) (s : Value) (wx : World) : Prop :=
  ∃ A n c, s = .slice A n c ∧ Rd wx 1 A n c (D.map bv8) ∧ (A = none → c = 0) ∧ (∀ a : Addr, A = some a → u.heap.size ≤ a.block ∧ a.block < wx.heap.size) ∧ Below u.heap.size u wx
/-- a store on its way, as it lies -/
def GotB (w : World) (g : Nat) (S : Sv) (wx : World) : Prop :=
  ∃ vB vE hB hE, Blk wx g 25 [.slice none 0 0, .slice none 0 0, .int .i64 0, .int .i64 0] ∧ Blk wx (g + 1) 25 [vB, vE, .int .i64 0, .int .i64 (S.ck : Int)] ∧
    Two kBl kEn wx (g + 2) 45 74 vB hB vE hE ∧ hB.map Prod.fst = S.bs ∧ hE.map Prod.fst = S.es ∧ Below g w wx
theorem GotB.sti {l : List Rw} {w wx : World} {g k : Nat} {S : Sv} (h : GotB w g S wx) (hS : sAt l k = S) : StI l w g wx k (.int .i64 (S.us : Int)) := by
  obtain ⟨vB, vE, hB, hE, h1, h2, h3, h4, h5, h6⟩ := h
  subst hS
  exact ⟨vB, vE, hB, hE, rfl, h1, h2, h3, h4, h5, h6⟩
/-- behind an append to the blobs -/
theorem gotB_app {w w4 w6 : World} {g : Nat} {S S' : Sv} {vB vE v6 : Value} {hB : List (Bl × Hd)} {hE : List (En × Hd)} {x : Bl} {h : Hd}
    (hg : g = w.heap.size) (hb2 : Blk w4 g 25 [.slice none 0 0, .slice none 0 0, .int .i64 0, .int .i64 0]) (hb3 : Blk w4 (g + 1) 25 [vB, vE, .int .i64 0, .int .i64 (S.ck : Int)])
    (h2 : Two kBl kEn w4 (g + 2) 45 74 vB hB vE hE) (hmB : hB.map Prod.fst = S.bs) (hmE : hE.map Prod.fst = S.es) (hbel : Below g w w4)
    (hx : kBl.deep w4 x h) (hF : ∀ k ∈ kBl.blocks h, g + 2 ≤ k ∧ k < w4.heap.size ∧ vB.ownBlock ≠ some k ∧ vE.ownBlock ≠ some k)
    (hS1 : S'.bs = S.bs ++ [x]) (hS2 : S'.es = S.es) (hS3 : S'.ck = S.ck)
    (ho : w6.ownsRow (g + 2) 45 4 v6 (hB.length + 1) (kBl.all hB ++ kBl.cells x h)) (hb6 : Below (g + 2) w4.drew w6) (hz : w4.heap.size ≤ w6.heap.size)
    (hf : ∀ k, k < w4.heap.size → vB.ownBlock ≠ some k → v6.ownBlock ≠ some k ∧ w6.heap[k]? = w4.heap[k]?) : GotB w g S' (w6.setCell ⟨g + 1, 0, none⟩ v6) := by
  have hob : ∀ k, k < g + 2 → vB.ownBlock ≠ some k := fun k hk q => by have := (h2.a.ge (.inl q)).1; omega
  have e2 := (hf g (by have := hb2.lt; omega) (hob g (by omega))).2
  have e3 := (hf (g + 1) hb3.lt (hob (g + 1) (by omega))).2
  have b2 : Blk w6 g 25 [.slice none 0 0, .slice none 0 0, .int .i64 0, .int .i64 0] := blk_at hb2 e2
  have b3 : Blk w6 (g + 1) 25 [vB, vE, .int .i64 0, .int .i64 (S.ck : Int)] := blk_at hb3 e3
  have h3 : Two kBl kEn w6 (g + 2) 45 74 v6 (hB ++ [(x, h)]) vE hE := by
    refine h2.app (fun y hy => ?_) (by rw [Kin.all_one]; exact ho) hz hf
    rw [List.mem_singleton] at hy
    subst hy
    exact ⟨hx, hF⟩
  have h4 := b3.put 0 v6
  refine ⟨v6, vE, _, _, ?_, ?_, h3.set (by omega) v6, by rw [List.map_append, hmB, hS1]; rfl, by rw [hmE, hS2], ?_⟩
  · exact (Below.heap_setCell w6 ⟨g + 1, 0, none⟩ v6 g (by show g ≠ g + 1; omega)).trans b2
  · rw [hS3]; simpa using h4
  · have q1 : Below g w w6 := hbel.drew.trans (hb6.mono (by omega))
    subst hg
    exact q1.setCell (by show w.heap.size ≤ w.heap.size + 1; omega) v6
/-- a store on its way, an entry's key and the raw thing beside it -/
def GotC (w : World) (g gd gr : Nat) (K : List UInt8) (q : Rw) (vB : Value) (hB : List (Bl × Hd)) (vE : Value) (hE : List (En × Hd)) (ck : Nat) (wx : World) : Prop :=
  Blk wx g 25 [.slice none 0 0, .slice none 0 0, .int .i64 0, .int .i64 0] ∧ Blk wx (g + 1) 25 [vB, vE, .int .i64 0, .int .i64 (ck : Int)] ∧
    Blk wx gr 64 [.int .i64 q.kd, .int .i64 q.ra, .int .i64 q.rb, .string (str q.tx)] ∧ Blk wx gd 9 [.string (str K)] ∧ Two kBl kEn wx (g + 2) 45 74 vB hB vE hE ∧ Below g w wx
theorem blk_ne {w : World} {a b : Nat} {s t : TypeId} {xs ys : List Value} (h : Blk w a s xs) (k : Blk w b t ys) (hst : s ≠ t) : a ≠ b := fun e => by
  subst e
  have q := h.symm.trans k
  injection q with q
  injection q with _ q
  exact hst q
theorem gotC_set {w w2 : World} {g gd gr : Nat} {K : List UInt8} {q : Rw} {vB : Value} {hB : List (Bl × Hd)} {vE : Value} {hE : List (En × Hd)} {ck : Nat} (hg : g = w.heap.size) (h : GotC w g gd gr K q vB hB vE hE ck w2) (ck' : Nat) (z : Int) (hz : z = (ck' : Int)) :
    GotC w g gd gr K q vB hB vE hE ck' (w2.setCell ⟨g + 1, 3, none⟩ (.int .i64 z)) := by
  obtain ⟨h1, h2, h3, h4, h5, h6⟩ := h
  subst hz
  have n1 : gr ≠ g + 1 := blk_ne h3 h2 (by decide)
  have n2 : gd ≠ g + 1 := blk_ne h4 h2 (by decide)
  refine ⟨h1.far (by show g ≠ g + 1; omega) _, ?_, h3.far n1 _, h4.far n2 _, h5.set (g := g + 1) (by omega) _, ?_⟩
  · simpa using h2.put 3 (.int .i64 (ck' : Int))
  · subst hg
    exact h6.setCell (p := ⟨w.heap.size + 1, 3, none⟩) (by show w.heap.size ≤ w.heap.size + 1; omega) _
theorem GotC.below {w w2 w3 : World} {g gd gr : Nat} {K : List UInt8} {q : Rw} {vB : Value} {hB : List (Bl × Hd)} {vE : Value} {hE : List (En × Hd)} {ck : Nat} (h : GotC w g gd gr K q vB hB vE hE ck w2) (hb : Below w2.heap.size w2 w3) : GotC w g gd gr K q vB hB vE hE ck w3 := by
  obtain ⟨h1, h2, h3, h4, h5, h6⟩ := h
  exact ⟨h1.below hb h1.lt, h2.below hb h2.lt, h3.below hb h3.lt, h4.below hb h4.lt, h5.below hb, h6.trans (hb.mono (by have := h1.lt; omega))⟩
theorem GotC.cells {w wx : World} {g gd gr : Nat} {K : List UInt8} {q : Rw} {vB : Value} {hB : List (Bl × Hd)} {vE : Value} {hE : List (En × Hd)} {ck : Nat} (h : GotC w g gd gr K q vB hB vE hE ck wx) :
    wx.cell? ⟨gd, 0, none⟩ = some (.string (str K)) ∧ wx.cell? ⟨g + 1, 0, none⟩ = some vB ∧ wx.cell? ⟨g + 1, 3, none⟩ = some (.int .i64 (ck : Int)) ∧
      wx.cell? ⟨gr, 0, none⟩ = some (.int .i64 q.kd) ∧ wx.cell? ⟨gr, 1, none⟩ = some (.int .i64 q.ra) ∧ wx.cell? ⟨gr, 2, none⟩ = some (.int .i64 q.rb) ∧ wx.cell? ⟨gr, 3, none⟩ = some (.string (str q.tx)) := by
  obtain ⟨_, h2, h3, h4, _, _⟩ := h
  exact ⟨h4.cell 0, h2.cell 0, h2.cell 3, h3.cell 0, h3.cell 1, h3.cell 2, h3.cell 3⟩
theorem KH.krd {α η : Type} {K : Kin α η} {w : World} {base : Nat} {e : TypeId} {A : Option Addr} {n c : Nat} {hs : List (α × η)} (h : KH K w base e (.slice A n c) hs) : KRd K w A n c (hs.map Prod.fst) := by
  obtain ⟨A', c', q, hr, _, _⟩ := own_rdK h.row
  injection q with q1 q2 q3
  subst q1; subst q2; subst q3
  exact ⟨hs, rfl, hr, fun x hx => (h.deep x hx).1⟩
/-- .. and an entry that is made -/
def GotX (w : World) (g gd gr : Nat) (K : List UInt8) (q : Rw) (vB : Value) (hB : List (Bl × Hd)) (vE : Value) (hE : List (En × Hd)) (ck : Nat) (ps : List Prt) (pp : Int) (N : Nat) (s : Value) (wx : World) : Prop :=
  ∃ ge A n c, s = .pointer (some ⟨ge, 0, none⟩) ∧ Blk wx ge 74 [.string (str K), .slice A n c, .int .i64 pp, .int .i64 (ck : Int)] ∧ Rd wx 3 A n c (pcs ps) ∧ (A = none → c = 0) ∧ (∀ a : Addr, A = some a → N ≤ a.block ∧ a.block < wx.heap.size) ∧ GotC w g gd gr K q vB hB vE hE ck wx
theorem gotC_put4 {w wc w5 : World} {g gd gr ge : Nat} {K : List UInt8} {q : Rw} {vB : Value} {hB : List (Bl × Hd)} {vE : Value} {hE : List (En × Hd)} {ck : Nat} (h : GotC w g gd gr K q vB hB vE hE ck wc) (hb : Below wc.heap.size wc w5) (hge : wc.heap.size ≤ ge) (a b c d : Value) :
    GotC w g gd gr K q vB hB vE hE ck ((((w5.setCell ⟨ge, 0, none⟩ a).setCell ⟨ge, 1, none⟩ b).setCell ⟨ge, 2, none⟩ c).setCell ⟨ge, 3, none⟩ d) :=
  h.below ((((hb.setCell (p := ⟨ge, 0, none⟩) hge a).setCell (p := ⟨ge, 1, none⟩) hge b).setCell (p := ⟨ge, 2, none⟩) hge c).setCell (p := ⟨ge, 3, none⟩) hge d)
theorem gotX_alloc {w w5 : World} {g gd gr : Nat} {K : List UInt8} {q : Rw} {vB : Value} {hB : List (Bl × Hd)} {vE : Value} {hE : List (En × Hd)} {ck : Nat} {ps : List Prt} {pp : Int} {N : Nat} {A : Option Addr} {n c : Nat} (h : GotC w g gd gr K q vB hB vE hE ck w5) (hr : Rd w5 3 A n c (pcs ps)) (hA : A = none → c = 0) (hF : ∀ a : Addr, A = some a → N ≤ a.block ∧ a.block < w5.heap.size) :
    GotX w g gd gr K q vB hB vE hE ck ps pp N (.pointer (some ⟨w5.heap.size, 0, none⟩)) (w5.alloc (.cells #[.string (str K), .slice A n c, .int .i64 pp, .int .i64 (ck : Int)] 74)) := by
  have hb := (Below.refl w5.heap.size w5).alloc (Nat.le_refl _) (.cells #[.string (str K), .slice A n c, .int .i64 pp, .int .i64 (ck : Int)] 74)
  exact ⟨_, A, n, c, rfl, Blk.new w5 74 [.string (str K), .slice A n c, .int .i64 pp, .int .i64 (ck : Int)], hr.below hb, hA, fun a e => ⟨(hF a e).1, Nat.lt_of_lt_of_le (hF a e).2 hb.size⟩, h.below hb⟩
theorem gotX_put {w wc w5 : World} {g gd gr : Nat} {K : List UInt8} {q : Rw} {vB : Value} {hB : List (Bl × Hd)} {vE : Value} {hE : List (En × Hd)} {ck : Nat} {ps : List Prt} {pp : Int} {A : Option Addr} {n c : Nat} {z0 z1 z2 z3 : Value} (h : GotC w g gd gr K q vB hB vE hE ck wc) (hb : Below wc.heap.size wc w5) (hz : Blk w5 wc.heap.size 74 [z0, z1, z2, z3]) (hr : Rd w5 3 A n c (pcs ps)) (hA : A = none → c = 0) (hF : ∀ a : Addr, A = some a → wc.heap.size + 1 ≤ a.block ∧ a.block < w5.heap.size) :
    GotX w g gd gr K q vB hB vE hE ck ps pp wc.heap.size (.pointer (some ⟨wc.heap.size, 0, none⟩)) ((((w5.setCell ⟨wc.heap.size, 0, none⟩ (.string (str K))).setCell ⟨wc.heap.size, 1, none⟩ (.slice A n c)).setCell ⟨wc.heap.size, 2, none⟩ (.int .i64 pp)).setCell ⟨wc.heap.size, 3, none⟩ (.int .i64 (ck : Int))) := by
  refine ⟨_, A, n, c, rfl, ?_, ?_, hA, fun a e => ⟨by have := (hF a e).1; omega, by have := (hF a e).2; simpa using this⟩, gotC_put4 h hb (Nat.le_refl _) _ _ _ _⟩
  · have := (((hz.put 0 (.string (str K))).put 1 (.slice A n c)).put 2 (.int .i64 pp)).put 3 (.int .i64 (ck : Int))
    simpa using this
  · refine hr.keepLt fun a e _ => ?_
    have hne : a.block ≠ wc.heap.size := by have := (hF a e).1; omega
    rw [Below.heap_setCell _ _ _ _ hne, Below.heap_setCell _ _ _ _ hne, Below.heap_setCell _ _ _ _ hne, Below.heap_setCell _ _ _ _ hne]
/-- behind an append to the entries -/
theorem gotE_app {w w4 w6 : World} {g gd gr : Nat} {K : List UInt8} {q : Rw} {S S' : Sv} {vB vE v6 : Value} {hB : List (Bl × Hd)} {hE : List (En × Hd)} {ck : Nat} {x : En} {h : Hd}
    (hg : g = w.heap.size) (hC : GotC w g gd gr K q vB hB vE hE ck w4) (hmB : hB.map Prod.fst = S.bs) (hmE : hE.map Prod.fst = S.es)
    (hx : kEn.deep w4 x h) (hF : ∀ k ∈ kEn.blocks h, g + 2 ≤ k ∧ k < w4.heap.size ∧ vE.ownBlock ≠ some k ∧ vB.ownBlock ≠ some k)
    (hS1 : S'.bs = S.bs) (hS2 : S'.es = S.es ++ [x]) (hS3 : S'.ck = ck)
    (ho : w6.ownsRow (g + 2) 74 4 v6 (hE.length + 1) (kEn.all hE ++ kEn.cells x h)) (hb6 : Below (g + 2) w4 w6) (hz : w4.heap.size ≤ w6.heap.size)
    (hf : ∀ k, k < w4.heap.size → vE.ownBlock ≠ some k → v6.ownBlock ≠ some k ∧ w6.heap[k]? = w4.heap[k]?) : GotB w g S' (w6.setCell ⟨g + 1, 1, none⟩ v6) := by
  obtain ⟨hb2, hb3, _, _, h2, hbel⟩ := hC
  have hob : ∀ k, k < g + 2 → vE.ownBlock ≠ some k := fun k hk q => by have := (h2.b.ge (.inl q)).1; omega
  have e2 := (hf g (by have := hb2.lt; omega) (hob g (by omega))).2
  have e3 := (hf (g + 1) hb3.lt (hob (g + 1) (by omega))).2
  have b2 : Blk w6 g 25 [.slice none 0 0, .slice none 0 0, .int .i64 0, .int .i64 0] := blk_at hb2 e2
  have b3 : Blk w6 (g + 1) 25 [vB, vE, .int .i64 0, .int .i64 (ck : Int)] := blk_at hb3 e3
  have h3 : Two kEn kBl w6 (g + 2) 74 45 v6 (hE ++ [(x, h)]) vB hB := by
    refine h2.swap.app (fun y hy => ?_) (by rw [Kin.all_one]; exact ho) hz hf
    rw [List.mem_singleton] at hy
    subst hy
    exact ⟨hx, hF⟩
  have h4 := b3.put 1 v6
  refine ⟨vB, v6, _, _, ?_, ?_, (h3.set (g := g + 1) (by omega) v6).swap, by rw [hmB, hS1], by rw [List.map_append, hmE, hS2]; rfl, ?_⟩
  · exact (Below.heap_setCell w6 ⟨g + 1, 1, none⟩ v6 g (by show g ≠ g + 1; omega)).trans b2
  · rw [hS3]; simpa using h4
  · have q1 : Below g w w6 := hbel.trans (hb6.mono (by omega))
    subst hg
    exact q1.setCell (p := ⟨w.heap.size + 1, 1, none⟩) (by show w.heap.size ≤ w.heap.size + 1; omega) v6
theorem GotC.gotB {w wx : World} {g gd gr : Nat} {K : List UInt8} {q : Rw} {S S' : Sv} {vB : Value} {hB : List (Bl × Hd)} {vE : Value} {hE : List (En × Hd)} {ck : Nat} (h : GotC w g gd gr K q vB hB vE hE ck wx) (hmB : hB.map Prod.fst = S.bs) (hmE : hE.map Prod.fst = S.es) (hS1 : S'.bs = S.bs) (hS2 : S'.es = S.es) (hS3 : S'.ck = ck) : GotB w g S' wx := by
  obtain ⟨h1, h2, _, _, h5, h6⟩ := h
  exact ⟨vB, vE, hB, hE, h1, by rw [hS3]; exact h2, h5, by rw [hmB, hS1], by rw [hmE, hS2], h6⟩
theorem Blk.put4 {w : World} {g : Nat} {t : TypeId} {x y z u : Value} (h : Blk w g t [x, y, z, u]) (a b c d : Value) : Blk ((((w.setCell ⟨g, 0, none⟩ a).setCell ⟨g, 1, none⟩ b).setCell ⟨g, 2, none⟩ c).setCell ⟨g, 3, none⟩ d) g t [a, b, c, d] := by
  simpa using (((h.put 0 a).put 1 b).put 2 c).put 3 d
theorem store_size : (Tryz.prog.info? 25).map (·.size) = some 4 := by kernel_rfl
/-- a store that is sorted, as the call hands it back -/
theorem givesS_of {l : List Rw} {w w5 w6 w7 : World} {g : Nat} {S : Sv} {vB vE : Value} {hB hB' : List (Bl × Hd)} {hE hE' : List (En × Hd)} {z : Int} (hg : g = w.heap.size) (hS : sAll l = S) (hok : SvOk 12 S) (hz : z = ((S.us + 600 : Nat) : Int))
    (h2 : Two kBl kEn w5 (g + 2) 45 74 vB hB vE hE) (hmB : hB.map Prod.fst = S.bs) (hmE : hE.map Prod.fst = S.es) (hbel : Below g w w5)
    (pB : hB'.Perm hB) (sB : hB'.Pairwise fun a b => Op.bytesLess b.1.dg a.1.dg = false) (kB : KH kBl w6 (g + 2) 45 vB hB') (bB : Below (g + 2) w5 w6) (zB : w5.heap.size ≤ w6.heap.size) (fB : ∀ k, k < w5.heap.size → vB.ownBlock ≠ some k → w6.heap[k]? = w5.heap[k]?)
    (pE : hE'.Perm hE) (sE : hE'.Pairwise fun a b => Op.bytesLess b.1.ky a.1.ky = false) (kE : KH kEn w7 (g + 2) 74 vE hE') (bE : Below (g + 2) w6 w7) (zE : w6.heap.size ≤ w7.heap.size) (fE : ∀ k, k < w6.heap.size → vE.ownBlock ≠ some k → w7.heap[k]? = w6.heap[k]?)
    (a b c d : Value) : GivesS l w (.returned (.agg #[vB, vE, .int .i64 z, .int .i64 (S.ck : Int)])) ((((w7.setCell ⟨g, 0, none⟩ a).setCell ⟨g, 1, none⟩ b).setCell ⟨g, 2, none⟩ c).setCell ⟨g, 3, none⟩ d) := by
  have t6 := h2.sort pB kB zB fB
  have t7 := (t6.swap.sort pE kE zE fE).swap
  subst hS
  subst hz
  have q6 : Below g w w6 := hbel.trans (bB.mono (by omega))
  have q7 : Below g w w7 := q6.trans (bE.mono (by omega))
  have p1 : (hB'.map Prod.fst).Perm (sAll l).bs := by rw [← hmB]; exact pB.map _
  have p2 : (hE'.map Prod.fst).Perm (sAll l).es := by rw [← hmE]; exact pE.map _
  subst hg
  exact ⟨vB, vE, hB', hE', rfl, (((t7.set (g := w.heap.size) (by omega) a).set (g := w.heap.size) (by omega) b).set (g := w.heap.size) (by omega) c).set (g := w.heap.size) (by omega) d, p1, p2,
    srt_of p1 (List.pairwise_map.2 sB) hok.bd, srtE_of p2 (List.pairwise_map.2 sE) hok.ed, (((q7.setCell (p := ⟨w.heap.size, 0, none⟩) (Nat.le_refl _) a).setCell (p := ⟨w.heap.size, 1, none⟩) (Nat.le_refl _) b).setCell (p := ⟨w.heap.size, 2, none⟩) (Nat.le_refl _) c).setCell (p := ⟨w.heap.size, 3, none⟩) (Nat.le_refl _) d⟩
theorem store_zero : (Tryz.prog.info? 25).map (fun i => (i.zero, i.size)) = some (some (.agg #[.slice none 0 0, .slice none 0 0, .int .i64 0, .int .i64 0]), 4) := by kernel_rfl
set_option maxRecDepth 100000 in
set_option maxHeartbeats 32000000 in
theorem store_any (A : Option Addr) (n c : Nat) (l : List Rw) (w : World) (hr : Rd w 4 A n c (rcs l)) (hg : ∀ p ∈ l, p.good) (hn : n ≤ 4294967296000) :
    Calls Tryz.prog 16 #[.slice A n c] w (GivesS l w) := by
  obtain rfl := hr.rlen
  obtain ⟨j0, hj0, hw0, hw1, hw2⟩ := info_parts blob_info
  have HG := Lib.hid hg
  clear hg
  have ha1 := (Below.refl w.heap.size w).alloc (Nat.le_refl _) (.cells #[.slice none 0 0, .slice none 0 0, .int .i64 0, .int .i64 0] 25)
  have hk1 := Blk.new w 25 [.slice none 0 0, .slice none 0 0, .int .i64 0, .int .i64 0]
  have hz1 : (w.alloc (.cells #[.slice none 0 0, .slice none 0 0, .int .i64 0, .int .i64 0] 25)).heap.size = w.heap.size + 1 := by simp
  have hk2 := Blk.new (w.alloc (.cells #[.slice none 0 0, .slice none 0 0, .int .i64 0, .int .i64 0] 25)) 25 [.slice none 0 0, .slice none 0 0, .int .i64 0, .int .i64 0]
  have ha2 := (Below.refl (w.alloc (.cells #[.slice none 0 0, .slice none 0 0, .int .i64 0, .int .i64 0] 25)).heap.size (w.alloc (.cells #[.slice none 0 0, .slice none 0 0, .int .i64 0, .int .i64 0] 25))).alloc (Nat.le_refl _) (.cells #[.slice none 0 0, .slice none 0 0, .int .i64 0, .int .i64 0] 25)
  have hk1' := hk1.below ha2 hk1.lt
  rw [hz1] at hk2
  have HST : Hid (StI l w w.heap.size ((w.alloc (.cells #[.slice none 0 0, .slice none 0 0, .int .i64 0, .int .i64 0] 25)).alloc (.cells #[.slice none 0 0, .slice none 0 0, .int .i64 0, .int .i64 0] 25)) 0 (.int .i64 0)) :=
    ⟨_, _, _, _, rfl, hk1', hk2, Two.nil _ _ _ _ _ _, rfl, rfl, below_step ha1 ha2⟩
  clear hk1 hk2 hk1' ha1 ha2 hz1
  go_enter Tryz.func16, Tryz.ntmps16
  go_wp2
  obtain ⟨g, hg⟩ : ∃ g, w.heap.size = g := ⟨_, rfl⟩
  have HGW := Lib.hid hg
  rw [hg] at HST ⊢
  clear hg
  go_loopw [4, 5, 6, 7, 8, 9, 10, 11, 14, 58] (fun u _ _ _ _ _ _ _ i _ wr => ∃ k : Nat, k ≤ l.length ∧ k ≤ 12 ∧ i = .int .i64 k ∧ StI l w g wr k u) (fun _ _ _ _ _ _ _ _ i _ _ => l.length - (intOf i).toNat)
  case atStart => exact ⟨0, Nat.zero_le _, by omega, rfl, HST.out⟩
  case round =>
    clear HST
    obtain ⟨k, hk, hk12, rfl, hI⟩ := hrel
    obtain ⟨vB, vE, hB, hE, rfl, hb2, hb3, h2, hmB, hmE, hbel⟩ := hI
    have HOK := Lib.hid (sAt_ok l k)
    have hus := (sAt_ok l k).used
    by_cases hlt : k < l.length
    · have hki : (k : Int) < (l.length : Int) := by omega
      obtain ⟨b, off, rfl, hc0, hc1, hc2, hc3⟩ := (hr.below (by rw [HGW.out]; exact hbel)).raw hlt
      have hgk := HG.out l[k] (List.getElem_mem hlt)
      have HS := Lib.hid (sAt_step hlt)
      generalize l[k] = q at *
      have HSL : Hid (k = 12 → 12 ≤ l.length → sAll l = sAt l k) := fun h1 h2 => (sAt_end (.inr ⟨h1, h2⟩)).symm
      generalize sAt l k = S at *
      obtain ⟨AB, cB, rfl, hnB⟩ := h2.a.own.new
      obtain ⟨AE, cE, rfl, hnE⟩ := h2.b.own.new
      rw [hmB] at hnB h2 hb3
      rw [hmE] at hnE h2 hb3
      have hlen := HOK.out.len
      obtain ⟨g0, g1, g2, g3⟩ := hgk
      have hal := (Below.refl wr.heap.size wr).alloc (Nat.le_refl _) (.cells #[.int .i64 q.kd, .int .i64 q.ra, .int .i64 q.rb, .string (str q.tx)] 64)
      have hkr := Blk.new wr 64 [.int .i64 q.kd, .int .i64 q.ra, .int .i64 q.rb, .string (str q.tx)]
      by_cases h12 : k < 12
      · have d12 : decide ((12 : Int) ≤ (k : Int)) = false := by rw [decide_eq_false_iff_not]; omega
        obtain ⟨a0, a1⟩ := i64_range g0
        obtain ⟨r0, r1⟩ := i64_range g2
        obtain ⟨a, ha, ha6⟩ := pk_nat q.kd 6 (by omega)
        have HA := Lib.hid ha
        clear ha
        have hbA := hbel.trans (hal.mono (Nat.le_trans (by rw [← HGW.out]; exact Nat.le_refl _) hbel.size))
        have hb2A := hb2.below hal hb2.lt
        have hb3A := hb3.below hal hb3.lt
        have h2A := h2.below hal
        have hrB := hnB.rd.below hal
        have hrE := hnE.rd.below hal
        clear hb2 hb3 h2 hbel hnB hnE
        go_wp2_with fail
        with_reducible refine (picked_nat q.kd 6 a _ a0 a1 (by omega) (by omega) HA.out).mono ?_
        rintro e w' ⟨rfl, rfl⟩
        generalize wr.alloc (.cells [Value.int .i64 q.kd, .int .i64 q.ra, .int .i64 q.rb, .string (str q.tx)].toArray 64) = u at *
        generalize wr.heap.size = gr at *
        have e0 := hkr.cell 0
        have e1 := hkr.cell 1
        have e2 := hkr.cell 2
        have e3 := hkr.cell 3
        simp only [List.getElem?_cons_succ, List.getElem?_cons_zero] at e0 e1 e2 e3
        clear hc0 hc1 hc2 hc3
        by_cases ha4 : a < 4
        · have d4 : decide ((a : Int) < 4) = true := by rw [decide_eq_true_iff]; omega
          obtain ⟨D, hD⟩ : ∃ D, sDat S q = D := ⟨_, rfl⟩
          have HD := Lib.hid hD
          have hDl : D.length ≤ 184 := by rw [← hD]; exact sDat_184 HOK.out q
          clear hD
          go_wp2_with fail
          with_reducible refine (data40 q _ g3).mono ?_
          rintro e w1 ⟨A1, n1, c1, rfl, hr1, hA1, hF1, hbu⟩
          go_upto_if 64 with fail
          go_cut [8, 14] from 14 to 94 (fun s8 s14 wx => s14 = .int .i64 (k : Int) ∧ GotD u D s8 wx)
          case first =>
            by_cases ha3 : a = 3
            · have d3 : ((a : Int) == 3) = true := by rw [beq_iff_eq]; omega
              have hDm : man (prts S.bs q) = D := by rw [← HD.out]; unfold sDat; rw [if_pos (by rw [HA.out]; omega)]
              have HDM := Lib.hid hDm
              obtain ⟨p1, p2, -⟩ := prts_ok HOK.out.fine q
              have HP8 := Lib.hid (psErr_zero p1)
              have e0B := (hb3A.below hbu hb3A.lt).cell 0
              have x0 := (hkr.below hbu hkr.lt).cell 0
              have x1 := (hkr.below hbu hkr.lt).cell 1
              have x2 := (hkr.below hbu hkr.lt).cell 2
              have x3 := (hkr.below hbu hkr.lt).cell 3
              simp only [List.getElem?_cons_succ, List.getElem?_cons_zero] at e0B x0 x1 x2 x3
              obtain ⟨ps, hps⟩ : ∃ ps, prts S.bs q = ps := ⟨_, rfl⟩
              have HPS := Lib.hid hps
              rw [hps] at HDM HP8
              have hz3 : ∀ b ∈ S.bs, b.dt.length ≤ 300 := fun b hb => (HOK.out.fine b hb).2.1
              have HZ3 := Lib.hid hz3
              clear hDm p1 p2 hps hz3 ha3
              go_wp2_with fail
              with_reducible refine (parts_any _ _ _ S.bs q _ (hrB.below hbu) g1 g2 HZ3.out (by omega)).mono ?_
              rw [HPS.out]
              rintro e w5 ⟨v5, rfl, hown5, hb5⟩
              obtain ⟨A5, c5, rfl, hr5, -, -⟩ := own_rdK hown5
              go_wp2_with fail
              with_reducible refine (kmanifest_ok _ _ _ ps _ hr5 HP8.out.1 HP8.out.2).mono ?_
              rw [HDM.out]
              rintro e w6 ⟨v6, rfl, hown6, hb6⟩
              obtain ⟨A6, c6, rfl, hr6, hA6, hF6⟩ := own_rdK hown6
              have hbX := below_step hbu hb5
              go_wp2
              go_meet
              exact ⟨rfl, A6, _, c6, rfl, hr6, hA6, fun a q => ⟨Nat.le_trans hbX.size (hF6 a q).1, (hF6 a q).2⟩, below_step hbX hb6⟩
            · have d3 : ((a : Int) == 3) = false := by rw [beq_eq_false_iff_ne]; omega
              have hDm : dat q 40 = D := by rw [← HD.out]; unfold sDat; rw [if_neg (by rw [HA.out]; omega)]
              rw [hDm] at hr1
              go_wp2
              go_meet
              exact ⟨rfl, A1, n1, c1, rfl, hr1, hA1, hF1, hbu⟩
          case rest =>
            clear hr1 hA1 hF1 hbu
            obtain ⟨rfl, A1, n1, c1, rfl, hr1, hA1, hF1, hbu⟩ := hcut
            have hn1 : n1 ≤ 184 := by rw [hr1.len]; exact hDl
            go_wp2_with fail
            with_reducible refine (digest_ok _ _ _ _ _ hr1 (by omega)).mono ?_
            rintro e w2 ⟨rfl, hbd⟩
            obtain ⟨dd, hdd⟩ : ∃ dd, dig D = dd := ⟨_, rfl⟩
            have HDD := Lib.hid hdd
            rw [hdd]
            clear hdd
            have had := (Below.refl w2.heap.size w2).alloc (Nat.le_refl _) (.cells #[.string (str dd)] 9)
            have hkd := Blk.new w2 9 [.string (str dd)]
            have hbU := below_step (below_step hbu hbd) had
            have e0B := (hb3A.below hbU hb3A.lt).cell 0
            have kd0 := hkd.cell 0
            simp only [List.getElem?_cons_zero] at e0B kd0
            cases hany : S.bs.any (fun x => x.dg == dd) with
            | true =>
              have HT : Hid (sAt l (k + 1) = S) := by
                show _ = _
                rw [HS.out]; unfold sStep sBlob
                rw [if_pos (by rw [HA.out]; omega), HD.out, HDD.out, if_pos hany]
              go_wp2_with fail
              with_reducible refine (contains1 _ _ _ _ _ (hrB.below hbU) dd w2.heap.size hkd.lt kd0 true hany).mono ?_
              rintro e w4 ⟨rfl, hb4⟩
              have hbV := below_step hbU hb4
              have HN : Hid (StI l w g w4 (k + 1) (.int .i64 (S.us : Int))) := by
                refine ⟨_, _, hB, hE, by rw [HT.out], hb2A.below hbV hb2A.lt, ?_, h2A.below hbV, by rw [HT.out]; exact hmB, by rw [HT.out]; exact hmE, hbA.trans (hbV.mono ?_)⟩
                · rw [HT.out]; exact hb3A.below hbV hb3A.lt
                · rw [← HGW.out] at hbA ⊢; exact hbA.size
              go_wp2
              go_roundw
              case rel => exact ⟨k + 1, by omega, by omega, by go_num, HN.out⟩
              case measure => simp [intOf] <;> omega
            | false =>
              go_wp2_with fail
              with_reducible refine (contains1 _ _ _ _ _ (hrB.below hbU) dd w2.heap.size hkd.lt kd0 false hany).mono ?_
              rintro e w4 ⟨rfl, hb4⟩
              have hbV := below_step hbU hb4
              have hkd4 := hkd.below hb4 hkd.lt
              have hkr4 := hkr.below hbV hkr.lt
              have hb34 := hb3A.below hbV hb3A.lt
              have hr4 := hr1.below (below_step (below_step hbd had) hb4)
              have hszc := (below_step (below_step hbd had) hb4).size
              generalize w2.heap.size = gd at *
              generalize w2.alloc (.cells [Value.string (str dd)].toArray 9) = w3 at *
              obtain ⟨p, hp, hp5⟩ := pk_nat q.rb 5 (by omega)
              have HP := Lib.hid hp
              clear hp
              have f0 := hb34.cell 0
              have f1 := hkd4.cell 0
              have f2 := hkr4.cell 2
              simp only [List.getElem?_cons_succ, List.getElem?_cons_zero] at f0 f1 f2
              have h24 := h2A.below hbV
              have hlB : hB.length = S.bs.length := by rw [← hmB, List.length_map]
              have hrow : w4.ownsRow (g + 2) 45 4 (.slice AB S.bs.length cB) S.bs.length (kBl.all hB) := by rw [← hlB]; exact hlB ▸ h24.a.row
              obtain ⟨pp, hpp⟩ : ∃ pp, pn5 q.rb = pp := ⟨_, rfl⟩
              have hmz : max (0 : Int) ((p : Int) - 3) = pp := by rw [← hpp]; unfold pn5; rw [HP.out]; split <;> omega
              have HPP := Lib.hid hpp
              have hv3 : IntKind.i64.wrap ((p : Int) - 3) = (p : Int) - 3 := IntWalk.i64_in _ (by omega)
              have hob : (Value.slice AB S.bs.length cB).ownBlock ≠ some (g + 1) := fun q => by
                have := (hrow.lt _ q).1
                omega
              have hobd : (Value.slice AB S.bs.length cB).ownBlock ≠ some gd := fun q => by
                obtain ⟨c', fz, hk'⟩ := Lib.ownsRow_kind hrow gd q
                rw [hkd4] at hk'
                cases hk'
              have hobr : (Value.slice AB S.bs.length cB).ownBlock ≠ some gr := fun q => by
                obtain ⟨c', fz, hk'⟩ := Lib.ownsRow_kind hrow gr q
                rw [hkr4] at hk'
                cases hk'
              have hgd4 := hkd4.lt
              have hgdg : ¬ gd = g + 1 := fun q => by rw [q] at hkd4; have := hkd4.symm.trans hb34; cases this
              have hgrg : ¬ gr = g + 1 := fun q => by rw [q] at hkr4; have := hkr4.symm.trans hb34; cases this
              have hgr4 := hkr4.lt
              have hg14 := hb34.lt
              have fz := hb34.frozen 0
              have hsz4 : g + 2 ≤ w4.heap.size := by omega
              clear hbu hbd had hkd hbU e0B hb4 hpp kd0
              have hb24 := hb2A.below hbV hb2A.lt
              have hbel4 : Below g w w4 := hbA.trans (hbV.mono (by have := hb3A.lt; omega))
              have HF : Hid (∀ k ∈ kBl.blocks ⟨A1, n1, c1⟩, g + 2 ≤ k ∧ k < w4.heap.size ∧ (Value.slice AB S.bs.length cB).ownBlock ≠ some k ∧ (Value.slice AE S.es.length cE).ownBlock ≠ some k) := fun k hk => by
                obtain ⟨a, rfl, rfl⟩ := mem_blk1.1 hk
                obtain ⟨f1, f2⟩ := hF1 a rfl
                have f3 := hb3A.lt
                refine ⟨by omega, Nat.lt_of_lt_of_le f2 hszc, fun q => ?_, fun q => ?_⟩
                · have := (h2A.a.ge (.inl q)).2; omega
                · have := (h2A.b.ge (.inl q)).2; omega
              obtain ⟨S2, hS2⟩ : ∃ S2 : Sv, S2 = { S with bs := S.bs ++ [⟨dd, D, pp, false⟩], us := S.us + D.length } := ⟨_, rfl⟩
              have HT : Hid (sAt l (k + 1) = S2) := by
                show _ = _
                rw [HS.out]; unfold sStep sBlob
                rw [if_pos (by rw [HA.out]; omega), HD.out, HDD.out, if_neg (by rw [hany]; simp), HPP.out, hS2]
              have t1 : S2.bs = S.bs ++ [⟨dd, D, pp, false⟩] := by rw [hS2]
              have t2 : S2.es = S.es := by rw [hS2]
              have t3 : S2.ck = S.ck := by rw [hS2]
              have t4 : S2.us = S.us + D.length := by rw [hS2]
              have HT1 := Lib.hid t1
              have HT2 := Lib.hid t2
              have HT3 := Lib.hid t3
              have HU : Hid ((S.us : Int) + (n1 : Int) = ((S2.us : Nat) : Int)) := by show _ = _; rw [t4, hr1.len]; simp
              clear hS2 t1 t2 t3 t4
              go_upto_region 19 with fail
              go_cut [14] from 14 to 94 (fun s14 wx => s14 = .int .i64 (k : Int) ∧ GotB w g S2 wx)
              case first =>
                go_region_law
                  (first
                    | (refine step_append1 (by rfl) (.tmp 78) (.tmp 87) _ (by rfl) Tryz.underlying22 hj0 hw0 hw1 hw2 rfl (by omega) (.slice AB S.bs.length cB) _ _ (by rfl) (w0 := w4.drew) (own_drewN hrow 1) [.string (str dd), .slice A1 n1 c1, .int .i64 pp, .bool false] rfl (by simp [Value.oneCell']) (by first | rfl | simp [Act.eval]) (by omega) (by unfold maxLen; omega) (by first | exact hsz4 | omega) ?_; rintro v6 w6 ⟨hown6, hb6, hsz6, hfar6⟩; obtain ⟨A6, c6, rfl⟩ := own_slice hown6; have h6 := (hfar6 (g + 1) hg14 hob).2; have m0 := (cell_heap h6 0).trans f0; have m1 := (cell_heap (hfar6 gd hgd4 hobd).2 0).trans f1; have m2 := (cell_heap (hfar6 gr hgr4 hobr).2 2).trans f2; have mz := (frozen_heap h6 0).trans fz)
                    | (go_simp; go_at_call 20; with_reducible refine (picked_nat q.rb 5 p _ r0 r1 (by omega) (by omega) HP.out).mono ?_; rintro e w' ⟨rfl, rfl⟩))
                all_goals (go_wp2_with fail; go_meet; exact ⟨rfl, gotB_app HGW.out.symm hb24 hb34 h24 hmB hmE hbel4 (x := ⟨dd, D, pp, false⟩) (h := ⟨A1, n1, c1⟩) ⟨hr4, hA1⟩ HF.out HT1.out HT2.out HT3.out (by rw [hlB]; exact hown6) hb6 hsz6 hfar6⟩)
              case rest =>
                obtain ⟨rfl, hgot⟩ := hcut
                have hus2 : S.us ≤ 184 * 12 := by omega
                have HN : Hid (StI l w g wc (k + 1) (.int .i64 ((S.us : Int) + (n1 : Int)))) := by rw [HU.out]; exact hgot.sti HT.out
                clear hgot
                go_wp2
                go_roundw
                case rel => exact ⟨k + 1, by omega, by omega, by go_num, HN.out⟩
                case measure => simp [intOf] <;> omega
        · have d4 : decide ((a : Int) < 4) = false := by rw [decide_eq_false_iff_not]; omega
          obtain ⟨b0, b1⟩ := i64_range g1
          obtain ⟨K, hK⟩ : ∃ K, keyB q.ra = K := ⟨_, rfl⟩
          have HK := Lib.hid hK
          clear hK
          go_wp2_with fail
          with_reducible refine (key_any q.ra _ g1).mono ?_
          rw [HK.out]
          rintro e w1 ⟨rfl, hbu⟩
          have had := (Below.refl w1.heap.size w1).alloc (Nat.le_refl _) (.cells #[.string (str K)] 9)
          have hkd := Blk.new w1 9 [.string (str K)]
          have hbU := below_step hbu had
          have hb3U := hb3A.below hbU hb3A.lt
          have hb2U := hb2A.below hbU hb2A.lt
          have hkrU := hkr.below hbU hkr.lt
          have h2U := h2A.below hbU
          have hbelU : Below g w _ := hbA.trans (hbU.mono (by have := hb3A.lt; omega))
          have hrBU := hrB.below hbU
          have hrEU := hrE.below hbU
          clear hbU had hbu hb3A hb2A hkr h2A hbA hrB hrE e0 e1 e2 e3
          go_upto_region 9 with fail
          generalize w1.heap.size = gd at *
          generalize w1.alloc (.cells [Value.string (str K)].toArray 9) = w2 at *
          obtain ⟨p3, hp3, hp33⟩ := pk_nat q.rb 3 (by omega)
          have HP3 := Lib.hid hp3
          clear hp3
          have hck := HOK.out.ck
          have HC : Hid (GotC w g gd gr K q (.slice AB S.bs.length cB) hB (.slice AE S.es.length cE) hE S.ck w2) := ⟨hb2U, hb3U, hkrU, hkd, h2U, hbelU⟩
          have f3 := hb3U.cell 3
          have f2 := hkrU.cell 2
          have fz := hb3U.frozen 3
          simp only [List.getElem?_cons_succ, List.getElem?_cons_zero] at f2 f3
          have hv : IntKind.i64.wrap ((S.ck : Int) + (p3 : Int)) = (S.ck : Int) + (p3 : Int) := IntWalk.i64_in _ (by omega)
          go_cut [14] from 14 to 94 (fun s14 wx => s14 = .int .i64 (k : Int) ∧ GotC w g gd gr K q (.slice AB S.bs.length cB) hB (.slice AE S.es.length cE) hE (S.ck + p3) wx)
          case first =>
            go_region_law (first | (go_simp; go_at_call 20; with_reducible refine (picked_nat q.rb 3 p3 _ r0 r1 (by omega) (by omega) HP3.out).mono ?_; rintro e w' ⟨rfl, rfl⟩))
            all_goals (go_wp2_with fail; go_meet; exact ⟨rfl, gotC_set HGW.out.symm (HC.out.below (Below.refl w2.heap.size w2).drew) (S.ck + p3) _ (by simp)⟩)
          case rest =>
            clear HC f2 f3 fz hv hb3U hb2U hkrU h2U hbelU hrBU hrEU hkd
            obtain ⟨rfl, hC⟩ := hcut
            obtain ⟨p, hp, hp5⟩ := pk_nat q.rb 5 (by omega)
            have HP := Lib.hid hp
            obtain ⟨pp, hpp⟩ : ∃ pp, pn5 q.rb = pp := ⟨_, rfl⟩
            have hmz : max (0 : Int) ((p : Int) - 3) = pp := by rw [← hpp]; unfold pn5; rw [hp]; split <;> omega
            have HPP := Lib.hid hpp
            have hv3 : IntKind.i64.wrap ((p : Int) - 3) = (p : Int) - 3 := IntWalk.i64_in _ (by omega)
            obtain ⟨ps, hps⟩ : ∃ ps, prts S.bs q = ps := ⟨_, rfl⟩
            have HPS := Lib.hid hps
            obtain ⟨ck, hck2⟩ : ∃ ck, S.ck + p3 = ck := ⟨_, rfl⟩
            rw [hck2] at hC
            have HCK := Lib.hid hck2
            have hz3 : ∀ b ∈ S.bs, b.dt.length ≤ 300 := fun b hb => (HOK.out.fine b hb).2.1
            have HZ3 := Lib.hid hz3
            clear hp hpp hps hck2 hz3
            have hrC := hC.2.2.2.2.1.a.krd
            rw [hmB] at hrC
            have hC0 := hC.below (Below.refl wc.heap.size wc).drew
            have hC1 := hC.below ((Below.refl wc.heap.size wc).alloc (Nat.le_refl _) (.cells #[.string ⟨#[]⟩, .slice none 0 0, .int .i64 0, .int .i64 0] 74)).drew
            have hrC0 := hrC.below (Below.refl wc.heap.size wc).drew
            have hrC1 := hrC.below ((Below.refl wc.heap.size wc).alloc (Nat.le_refl _) (.cells #[.string ⟨#[]⟩, .slice none 0 0, .int .i64 0, .int .i64 0] 74)).drew
            have m0 := hC0.cells
            have HRB : Hid (∀ k, (Value.slice AB S.bs.length cB).ownBlock = some k → k < wc.heap.size) := fun k q => (hC.2.2.2.2.1.a.ge (.inl q)).2
            have HRE : Hid (∀ k, (Value.slice AE S.es.length cE).ownBlock = some k → k < wc.heap.size) := fun k q => (hC.2.2.2.2.1.b.ge (.inl q)).2
            have hgw : g + 2 ≤ wc.heap.size := by have := hC.2.1.lt; omega
            have m1 := hC1.cells
            have hbk1 : Blk (wc.alloc (.cells #[.string ⟨#[]⟩, .slice none 0 0, .int .i64 0, .int .i64 0] 74)).drew wc.heap.size 74 [.string ⟨#[]⟩, .slice none 0 0, .int .i64 0, .int .i64 0] := Blk.new wc 74 [.string ⟨#[]⟩, .slice none 0 0, .int .i64 0, .int .i64 0]
            go_upto_region 10 with fail
            go_cut [11, 14] from 14 to 94 (fun s11 s14 wx => s14 = .int .i64 (k : Int) ∧ GotX w g gd gr K q (.slice AB S.bs.length cB) hB (.slice AE S.es.length cE) hE ck ps pp wc.heap.size s11 wx)
            case first =>
              go_region_held_law (fun W => W.cell? ⟨gd, 0, none⟩ = some (.string (str K)) ∧ W.cell? ⟨g + 1, 0, none⟩ = some (.slice AB S.bs.length cB) ∧ W.cell? ⟨g + 1, 3, none⟩ = some (.int .i64 (ck : Int)) ∧ W.cell? ⟨gr, 0, none⟩ = some (.int .i64 q.kd) ∧ W.cell? ⟨gr, 1, none⟩ = some (.int .i64 q.ra) ∧ W.cell? ⟨gr, 2, none⟩ = some (.int .i64 q.rb) ∧ W.cell? ⟨gr, 3, none⟩ = some (.string (str q.tx)))
                (first | with_reducible exact m0 | with_reducible exact m1 | with_reducible exact m5 | with_reducible exact (gotC_put4 hC hbX (Nat.le_refl _) _ _ _ _).cells | go_keep)
                (first
                  | (go_at_call 20; with_reducible refine (picked_nat q.rb 5 p _ r0 r1 (by omega) (by omega) HP.out).mono ?_; rintro e w' ⟨rfl, rfl⟩)
                  | (go_at_call 44; with_reducible refine (parts_any _ _ _ S.bs q _ hrC0 g1 g2 HZ3.out (by omega)).mono ?_; rw [HPS.out]; rintro e w5 ⟨v5, rfl, hown5, hb5⟩; obtain ⟨A5, c5, rfl, hr5, hA5, hF5⟩ := own_rdK hown5; have m5 := (hC0.below hb5).cells; have hC5 := hC0.below hb5; have hbX := below_step (Below.refl wc.heap.size wc).drew hb5)
                  | (go_at_call 44; with_reducible refine (parts_any _ _ _ S.bs q _ hrC1 g1 g2 HZ3.out (by omega)).mono ?_; rw [HPS.out]; rintro e w5 ⟨v5, rfl, hown5, hb5⟩; obtain ⟨A5, c5, rfl, hr5, hA5, hF5⟩ := own_rdK hown5; have m5 := (hC1.below hb5).cells; have hC5 := hC1.below hb5; have hbX := below_step ((Below.refl wc.heap.size wc).alloc (Nat.le_refl _) (.cells #[.string ⟨#[]⟩, .slice none 0 0, .int .i64 0, .int .i64 0] 74)).drew hb5; have hz5 := hbk1.below hb5 hbk1.lt; have z0 := hz5.cell 0; have z1 := hz5.cell 1; have z2 := hz5.cell 2; have z3 := hz5.cell 3; simp only [List.getElem?_cons_succ, List.getElem?_cons_zero] at z0 z1 z2 z3; have y0 := hz5.frozen 0; have y1 := hz5.frozen 1; have y2 := hz5.frozen 2; have y3 := hz5.frozen 3))
              all_goals (go_wp2_with fail; go_meet; first | exact ⟨rfl, gotX_alloc hC5 hr5 hA5 (fun a e => hF5 a e)⟩ | exact ⟨rfl, gotX_put hC hbX hz5 hr5 hA5 (fun a e => ⟨by have := (hF5 a e).1; simpa using this, (hF5 a e).2⟩)⟩)
            case rest =>
              clear hC hC0 hC1 hrC hrC0 hrC1 m0 m1 hbk1 hmz hv3
              obtain ⟨rfl, ge, A5, n5, c5, rfl, hbe, hr5, hA5, hF5, hC5⟩ := hcut
              have hrE5 := hC5.2.2.2.2.1.b.krd
              rw [hmE] at hrE5
              have hd5 := hC5.2.2.2.1
              have hb35 := hC5.2.1
              have kd0 := hd5.cell 0
              have x1 := hb35.cell 1
              simp only [List.getElem?_cons_succ, List.getElem?_cons_zero] at kd0 x1
              obtain ⟨e0, hEi, hEz, hEs, hEb⟩ := info_parts entry_info
              cases hany : S.es.any (fun x => x.ky == K) with
              | true =>
                obtain ⟨S2, hS2⟩ : ∃ S2 : Sv, S2 = { S with ck := ck } := ⟨_, rfl⟩
                have HT : Hid (sAt l (k + 1) = S2) := by
                  show _ = _
                  rw [HS.out]; unfold sStep sEnt
                  rw [if_neg (by rw [HA.out]; omega), HK.out, if_pos hany, HP3.out, Int.toNat_natCast, HCK.out, hS2]
                have t1 : S2.bs = S.bs := by rw [hS2]
                have t2 : S2.es = S.es := by rw [hS2]
                have t3 : S2.ck = ck := by rw [hS2]
                have t4 : S2.us = S.us := by rw [hS2]
                go_wp2_with fail
                with_reducible refine (contains2 _ _ _ _ _ hrE5 K gd hd5.lt kd0 true hany).mono ?_
                rintro e w6 ⟨rfl, hb6⟩
                have HN : Hid (StI l w g w6 (k + 1) (.int .i64 (S.us : Int))) := by
                  have := ((hC5.below hb6).gotB hmB hmE t1 t2 t3).sti HT.out
                  rw [t4] at this
                  exact this
                clear t1 t2 t3 t4 hS2
                go_wp2
                go_roundw
                case rel => exact ⟨k + 1, by omega, by omega, by go_num, HN.out⟩
                case measure => simp [intOf] <;> omega
              | false =>
                obtain ⟨S2, hS2⟩ : ∃ S2 : Sv, S2 = { S with ck := ck, es := S.es ++ [⟨K, ps, pp, (ck : Int)⟩] } := ⟨_, rfl⟩
                have HT : Hid (sAt l (k + 1) = S2) := by
                  show _ = _
                  rw [HS.out]; unfold sStep sEnt
                  rw [if_neg (by rw [HA.out]; omega), HK.out, if_neg (by rw [hany]; simp), HP3.out, Int.toNat_natCast, HCK.out, HPS.out, HPP.out, hS2]
                have t1 : S2.bs = S.bs := by rw [hS2]
                have t2 : S2.es = S.es ++ [⟨K, ps, pp, (ck : Int)⟩] := by rw [hS2]
                have t3 : S2.ck = ck := by rw [hS2]
                have t4 : S2.us = S.us := by rw [hS2]
                have HT1 := Lib.hid t1
                have HT2 := Lib.hid t2
                have HT3 := Lib.hid t3
                have HT4 := Lib.hid t4
                clear t1 t2 t3 t4 hS2
                go_wp2_with fail
                with_reducible refine (contains2 _ _ _ _ _ hrE5 K gd hd5.lt kd0 false hany).mono ?_
                rintro e w6 ⟨rfl, hb6⟩
                have hC6 := hC5.below hb6
                have hr6 := hr5.below hb6
                have hbe6 := hbe.below hb6 hbe.lt
                have hlE : hE.length = S.es.length := by rw [← hmE, List.length_map]
                have hrow : w6.ownsRow (g + 2) 74 4 (.slice AE S.es.length cE) S.es.length (kEn.all hE) := by rw [← hlE]; exact hlE ▸ hC6.2.2.2.2.1.b.row
                have hob : (Value.slice AE S.es.length cE).ownBlock ≠ some (g + 1) := fun q => by
                  have := (hrow.lt _ q).1
                  omega
                have hb36 := hC6.2.1
                have hg16 := hb36.lt
                have z1 := hb36.cell 1
                have zf := hb36.frozen 1
                have y0 := hbe6.cell 0
                have y1 := hbe6.cell 1
                have y2 := hbe6.cell 2
                have y3 := hbe6.cell 3
                simp only [List.getElem?_cons_succ, List.getElem?_cons_zero] at z1 y0 y1 y2 y3
                have hsz6 : g + 2 ≤ w6.heap.size := by omega
                have HF : Hid (∀ k ∈ kEn.blocks ⟨A5, n5, c5⟩, g + 2 ≤ k ∧ k < w6.heap.size ∧ (Value.slice AE S.es.length cE).ownBlock ≠ some k ∧ (Value.slice AB S.bs.length cB).ownBlock ≠ some k) := fun k hk => by
                  obtain ⟨a, rfl, rfl⟩ := mem_blk1.1 hk
                  obtain ⟨f1, f2⟩ := hF5 a rfl
                  refine ⟨by omega, Nat.lt_of_lt_of_le f2 hb6.size, fun q => ?_, fun q => ?_⟩
                  · have := HRE.out _ q; omega
                  · have := HRB.out _ q; omega
                go_wp2_with (at_builtin; refine wpList_append1' rfl (.tmp 53) (.tmp 55) _ rfl Tryz.underlying23 hEi hEz hEs hEb rfl (by omega) (.slice AE S.es.length cE) _ _ rfl hrow [.string (str K), .slice A5 n5 c5, .int .i64 pp, .int .i64 (ck : Int)] rfl (by simp [Value.oneCell']) (by first | rfl | simp [Act.eval]) (by omega) (by unfold maxLen; omega) hsz6 ?_; rintro v7 w7 ⟨hown7, hb7, hsz7, hfar7⟩; obtain ⟨A7, c7, rfl⟩ := own_slice hown7; have h7 := (hfar7 (g + 1) hg16 hob).2; have q1 := (cell_heap h7 1).trans z1; have qf := (frozen_heap h7 1).trans zf)
                have HN : Hid (StI l w g (w7.setCell ⟨g + 1, 1, none⟩ (.slice A7 (S.es.length + 1) c7)) (k + 1) (.int .i64 (S.us : Int))) := by
                  have := (gotE_app HGW.out.symm hC6 hmB hmE (x := ⟨K, ps, pp, (ck : Int)⟩) (h := ⟨A5, n5, c5⟩) ⟨hr6, hA5⟩ HF.out HT1.out HT2.out HT3.out (by rw [hlE]; exact hown7) hb7 hsz7 hfar7).sti HT.out
                  rw [HT4.out] at this
                  exact this
                go_roundw
                case rel => exact ⟨k + 1, by omega, by omega, by go_num, HN.out⟩
                case measure => simp [intOf] <;> omega
      · have d12 : decide ((12 : Int) ≤ (k : Int)) = true := by rw [decide_eq_true_iff]; omega
        have hSS : sAll l = S := HSL.out (by omega) (by omega)
        have HSS := Lib.hid hSS
        have HOK12 : Hid (SvOk 12 S) := by show SvOk 12 S; rw [← hSS]; exact SvOk.all l 12
        clear hSS
        have hln := HOK12.out.len
        have hus2 := HOK12.out.used
        have hlB : hB.length ≤ 12 := by have := congrArg List.length hmB; rw [List.length_map] at this; omega
        have hlE : hE.length ≤ 12 := by have := congrArg List.length hmE; rw [List.length_map] at this; omega
        replace hbel := hbel.trans (hal.mono (Nat.le_trans (by rw [← HGW.out]; exact Nat.le_refl _) hbel.size))
        replace hb2 := hb2.below hal hb2.lt
        replace hb3 := hb3.below hal hb3.lt
        replace h2 := h2.below hal
        clear hnB hnE hal hkr
        have zf := hb3.frozen 2
        have z0 := hb3.cell 0
        have z1 := hb3.cell 1
        have z2 := hb3.cell 2
        simp only [List.getElem?_cons_succ, List.getElem?_cons_zero] at z0 z1 z2
        have hmn : min (4000 : Int) ((S.us : Int) + 600) = (S.us : Int) + 600 := by omega
        have hb3' := hb3.put 2 (.int .i64 ((S.us : Int) + 600))
        have hb2' := hb2.far (p := ⟨g + 1, 2, none⟩) (by show g ≠ g + 1; omega) (.int .i64 ((S.us : Int) + 600))
        have h2' := h2.set (g := g + 1) (i := 2) (by omega) (.int .i64 ((S.us : Int) + 600))
        have hbel' : Below g w ((wr.alloc (.cells #[.int .i64 q.kd, .int .i64 q.ra, .int .i64 q.rb, .string (str q.tx)] 64)).setCell ⟨g + 1, 2, none⟩ (.int .i64 ((S.us : Int) + 600))) := hbel.setCell (p := ⟨g + 1, 2, none⟩) (by show g ≤ g + 1; omega) _
        simp only [List.set_cons_succ, List.set_cons_zero] at hb3'
        have y0 := hb3'.cell 0
        simp only [List.getElem?_cons_zero] at y0
        have hobB : ∀ k, k < g + 2 → (Value.slice AB S.bs.length cB).ownBlock ≠ some k := fun k hk q => by have := (h2'.a.ge (.inl q)).1; omega
        have hobE : ∀ k, k < g + 2 → (Value.slice AE S.es.length cE).ownBlock ≠ some k := fun k hk q => by have := (h2'.b.ge (.inl q)).1; omega
        have HOB := Lib.hid hobB
        have HOE := Lib.hid hobE
        clear hobB hobE
        go_wp2_with fail
        with_reducible refine (sortB_own _ hB (g + 2) _ h2'.a hlB).mono ?_
        rintro e w6 ⟨rfl, hB', pB, sB, kB, bB, zB, fB⟩
        have e3 := fB (g + 1) hb3'.lt (HOB.out _ (by omega))
        have e2 := fB g hb2'.lt (HOB.out _ (by omega))
        have hb36 := blk_at hb3' e3
        have hb26 := blk_at hb2' e2
        have t6 := h2'.sort pB kB zB fB
        have y1 := hb36.cell 1
        simp only [List.getElem?_cons_succ, List.getElem?_cons_zero] at y1
        go_wp2_with fail
        with_reducible refine (sortE_own _ hE (g + 2) _ t6.b hlE).mono ?_
        rintro e w7 ⟨rfl, hE', pE, sE, kE, bE, zE, fE⟩
        have e3 := fE (g + 1) hb36.lt (HOE.out _ (by omega))
        have e2 := fE g hb26.lt (HOE.out _ (by omega))
        have hb37 := blk_at hb36 e3
        have hb27 := blk_at hb26 e2
        have x0 := hb37.cell 0
        have x1 := hb37.cell 1
        have x2 := hb37.cell 2
        have x3 := hb37.cell 3
        have v0 := hb27.cell 0
        have v1 := hb27.cell 1
        have v2 := hb27.cell 2
        have v3 := hb27.cell 3
        have n0 := hb27.frozen 0
        have n1 := hb27.frozen 1
        have n2 := hb27.frozen 2
        have n3 := hb27.frozen 3
        simp only [List.getElem?_cons_succ, List.getElem?_cons_zero] at x0 x1 x2 x3 v0 v1 v2 v3
        go_wp2
        refine bodyPost_ret (results_cell_row rfl _ _ g 25 _ (0, 0) _ rfl (hb27.put4 _ _ _ _) Tryz.underlying25 rfl store_size) rfl ?_
        exact givesS_of HGW.out.symm HSS.out HOK12.out (by simp) h2' hmB hmE hbel' pB sB kB bB zB fB pE sE kE bE zE fE _ _ _ _
    · have hd2 : decide ((k : Int) < (l.length : Int)) = false := by rw [decide_eq_false_iff_not]; omega
      have hkl : k = l.length := by omega
      obtain ⟨S, hSS⟩ : ∃ S, sAll l = S := ⟨_, rfl⟩
      have HSA : Hid (sAt l k = S) := by show _ = _; rw [← hSS]; exact sAt_end (.inl ⟨hkl, hk12⟩)
      have HSS := Lib.hid hSS
      have HOK12 : Hid (SvOk 12 S) := by show SvOk 12 S; rw [← hSS]; exact SvOk.all l 12
      rw [HSA.out] at hb3 hmB hmE HOK hus ⊢
      clear hSS HSA
      obtain ⟨AB, cB, rfl, -⟩ := h2.a.own.new
      obtain ⟨AE, cE, rfl, -⟩ := h2.b.own.new
      have hln := HOK12.out.len
      have hus2 := HOK12.out.used
      have hlB : hB.length ≤ 12 := by have := congrArg List.length hmB; rw [List.length_map] at this; omega
      have hlE : hE.length ≤ 12 := by have := congrArg List.length hmE; rw [List.length_map] at this; omega
      rw [hmB] at h2 hb3
      rw [hmE] at h2 hb3
      have zf := hb3.frozen 2
      have z0 := hb3.cell 0
      have z1 := hb3.cell 1
      have z2 := hb3.cell 2
      simp only [List.getElem?_cons_succ, List.getElem?_cons_zero] at z0 z1 z2
      have hmn : min (4000 : Int) ((S.us : Int) + 600) = (S.us : Int) + 600 := by omega
      have hb3' := hb3.put 2 (.int .i64 ((S.us : Int) + 600))
      have hb2' := hb2.far (p := ⟨g + 1, 2, none⟩) (by show g ≠ g + 1; omega) (.int .i64 ((S.us : Int) + 600))
      have h2' := h2.set (g := g + 1) (i := 2) (by omega) (.int .i64 ((S.us : Int) + 600))
      have hbel' : Below g w (wr.setCell ⟨g + 1, 2, none⟩ (.int .i64 ((S.us : Int) + 600))) := hbel.setCell (p := ⟨g + 1, 2, none⟩) (by show g ≤ g + 1; omega) _
      simp only [List.set_cons_succ, List.set_cons_zero] at hb3'
      have y0 := hb3'.cell 0
      simp only [List.getElem?_cons_zero] at y0
      have hobB : ∀ k, k < g + 2 → (Value.slice AB S.bs.length cB).ownBlock ≠ some k := fun k hk q => by have := (h2'.a.ge (.inl q)).1; omega
      have hobE : ∀ k, k < g + 2 → (Value.slice AE S.es.length cE).ownBlock ≠ some k := fun k hk q => by have := (h2'.b.ge (.inl q)).1; omega
      have HOB := Lib.hid hobB
      have HOE := Lib.hid hobE
      clear hobB hobE
      go_wp2_with fail
      with_reducible refine (sortB_own _ hB (g + 2) _ h2'.a hlB).mono ?_
      rintro e w6 ⟨rfl, hB', pB, sB, kB, bB, zB, fB⟩
      have e3 := fB (g + 1) hb3'.lt (HOB.out _ (by omega))
      have e2 := fB g hb2'.lt (HOB.out _ (by omega))
      have hb36 := blk_at hb3' e3
      have hb26 := blk_at hb2' e2
      have t6 := h2'.sort pB kB zB fB
      have y1 := hb36.cell 1
      simp only [List.getElem?_cons_succ, List.getElem?_cons_zero] at y1
      go_wp2_with fail
      with_reducible refine (sortE_own _ hE (g + 2) _ t6.b hlE).mono ?_
      rintro e w7 ⟨rfl, hE', pE, sE, kE, bE, zE, fE⟩
      have e3 := fE (g + 1) hb36.lt (HOE.out _ (by omega))
      have e2 := fE g hb26.lt (HOE.out _ (by omega))
      have hb37 := blk_at hb36 e3
      have hb27 := blk_at hb26 e2
      have x0 := hb37.cell 0
      have x1 := hb37.cell 1
      have x2 := hb37.cell 2
      have x3 := hb37.cell 3
      have v0 := hb27.cell 0
      have v1 := hb27.cell 1
      have v2 := hb27.cell 2
      have v3 := hb27.cell 3
      have n0 := hb27.frozen 0
      have n1 := hb27.frozen 1
      have n2 := hb27.frozen 2
      have n3 := hb27.frozen 3
      simp only [List.getElem?_cons_succ, List.getElem?_cons_zero] at x0 x1 x2 x3 v0 v1 v2 v3
      go_wp2
      refine bodyPost_ret (results_cell_row rfl _ _ g 25 _ (0, 0) _ rfl (hb27.put4 _ _ _ _) Tryz.underlying25 rfl store_size) rfl ?_
      exact givesS_of HGW.out.symm HSS.out HOK12.out (by simp) h2' hmB hmE hbel' pB sB kB bB zB fB pE sE kE bE zE fE _ _ _ _
end Go.Proofs.YtdbdigcpibmgjaaGreatDoor

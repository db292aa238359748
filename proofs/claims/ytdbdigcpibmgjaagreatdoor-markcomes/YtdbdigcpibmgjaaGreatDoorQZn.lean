/- The statements' own small store. -/
import Derived.Test.YtdbdigcpibmgjaaGreatDoorGZK
import Derived.Test.YtdbdigcpibmgjaaGreatDoorGS
import Derived.Test.YtdbdigcpibmgjaaGreatDoorGH
import Derived.Test.YtdbdigcpibmgjaaGreatDoorGT
import Derived.Test.YtdbdigcpibmgjaaGreatDoorQKs
import Derived.Test.YtdbdigcpibmgjaaGreatDoorGO
import Derived.Deep.RegionHeldLaw
namespace Go.Proofs.YtdbdigcpibmgjaaGreatDoor
open Go.RowKit Go.Shelf Go.Sort
set_option maxRecDepth 100000 in
set_option maxHeartbeats 400000 in
theorem cmpS_any (x y : Bl × Hd) (W : World) : Calls Tryz.prog 94 #[.agg (kBl.cs x).toArray, .agg (kBl.cs y).toArray] W fun e w' => e = .returned (.int .i64 (Lib.compareBytes x.1.dg y.1.dg)) ∧ ∃ q os', w' = grow (W.drewN q) os' := by
  obtain ⟨⟨d1, t1, p1, m1⟩, ⟨A1, n1, c1⟩⟩ := x
  obtain ⟨⟨d2, t2, p2, m2⟩, ⟨A2, n2, c2⟩⟩ := y
  show Calls Tryz.prog 94 #[.agg #[.string (str d1), .slice A1 n1 c1, .int .i64 p1, .bool m1], .agg #[.string (str d2), .slice A2 n2 c2, .int .i64 p2, .bool m2]] W _
  go_enter Tryz.func94, Tryz.ntmps94
  go_wp2_with fail
  with_reducible refine (compare_any d1 d2 _).mono ?_
  rintro e w' ⟨rfl, rfl⟩
  go_wp2
  go_ret
  exact ⟨rfl, 0, _, by rw [alloc_eq_grow, alloc_eq_grow, grow_grow]; rfl⟩
theorem new_blk1 (W : World) (o : Obj) (t : TypeId) (xs : List Value) : Blk ((W.alloc o).alloc (.cells xs.toArray t)) (W.heap.size + 1) t xs := by
  have := Blk.new (W.alloc o) t xs
  rw [show (W.alloc o).heap.size = W.heap.size + 1 by simp] at this
  exact this
theorem smP_fine : smP.fine := (psErr_zero (by decide +kernel : psErr [smP] = 0)).2 smP (List.mem_singleton.2 rfl)
theorem own_ne {g n c k : Nat} (h : g ≠ k) : (Value.slice (some ⟨g, 0, none⟩) n c).ownBlock ≠ some k := fun q => h (by injection q)
theorem keep_set {E : World} {k g i : Nat} {u : Value} (h : k ≠ g) : (E.setCell ⟨g, i, none⟩ u).heap[k]? = E.heap[k]? := Below.heap_setCell E ⟨g, i, none⟩ u k h
/-- a row of two blobs, new -/
theorem kh_two (W : World) (o : Obj) (base : Nat) (x y : Bl × Hd) (hx : kBl.deep W x.1 x.2 ∧ ∀ k ∈ kBl.blocks x.2, base ≤ k ∧ k < W.heap.size) (hy : kBl.deep W y.1 y.2 ∧ ∀ k ∈ kBl.blocks y.2, base ≤ k ∧ k < W.heap.size) (hb : base ≤ W.heap.size) :
    KH kBl ((W.alloc (.cells (kBl.cells x.1 x.2 ++ kBl.cells y.1 y.2).toArray 45)).alloc o) base 45 (.slice (some ⟨W.heap.size, 0, none⟩) 2 2) [x, y] := by
  have hall : kBl.all [x, y] = kBl.cells x.1 x.2 ++ kBl.cells y.1 y.2 := by rw [Kin.all_cons, Kin.all_one]
  have hl : (kBl.cells x.1 x.2 ++ kBl.cells y.1 y.2).length = 8 := by rw [List.length_append, kBl.len, kBl.len]; rfl
  have hbel : RowKit.Below W.heap.size W ((W.alloc (.cells (kBl.cells x.1 x.2 ++ kBl.cells y.1 y.2).toArray 45)).alloc o) := below_step ((Below.refl _ _).alloc (Nat.le_refl _) _) ((Below.refl _ _).alloc (Nat.le_refl _) _)
  have hg := (Blk.new W 45 (kBl.cells x.1 x.2 ++ kBl.cells y.1 y.2)).alloc o
  refine ⟨⟨by rw [hall, hl]; rfl, .inr ⟨W.heap.size, 2, (kBl.cells x.1 x.2 ++ kBl.cells y.1 y.2).toArray, rfl, hb, hg, by simp, by unfold maxLen; omega, by simp only [List.size_toArray, hl]; rfl, ?_⟩⟩, fun z hz => ?_⟩
  · rw [hall]
    show (kBl.cells x.1 x.2 ++ kBl.cells y.1 y.2).take (2 * 4) = _
    rw [List.take_of_length_le (by omega)]
  · have hz' : kBl.deep W z.1 z.2 ∧ ∀ k ∈ kBl.blocks z.2, base ≤ k ∧ k < W.heap.size := by
      simp only [List.mem_cons, List.not_mem_nil, or_false] at hz
      rcases hz with rfl | rfl
      · exact hx
      · exact hy
    refine ⟨kBl.keep hz'.1 fun k _ hk => hbel.block k hk, fun k hk => ?_⟩
    obtain ⟨h1, h2⟩ := hz'.2 k hk
    refine ⟨h1, Nat.lt_of_lt_of_le h2 hbel.size, fun q => ?_⟩
    have q' : W.heap.size = k := by injection q
    omega
theorem two_sorted {x y : Bl × Hd} {hs : List (Bl × Hd)} (hp : hs.Perm [x, y]) (hs' : hs.Pairwise fun a b => Op.bytesLess b.1.dg a.1.dg = false) (h : Op.bytesLess x.1.dg y.1.dg = true) : hs = [x, y] := by
  have hl := hp.length_eq
  match hs, hl with
  | [a, b], _ =>
    have ha := hp.mem_iff.1 (List.mem_cons_self (a := a) (l := [b]))
    simp only [List.mem_cons, List.not_mem_nil, or_false] at ha
    rcases ha with rfl | rfl
    · have := (List.perm_cons a).1 hp
      rw [List.perm_singleton] at this
      rw [this]
    · have := (List.perm_cons a).1 (hp.trans (List.Perm.swap ..))
      rw [List.perm_singleton] at this
      injection this with e _
      subst e
      have := (List.pairwise_cons.1 hs').1 b (List.mem_cons_self ..)
      rw [h] at this
      cases this
/-- the small store, as the call hands it back -/
def GivesSm (w : World) (e : Ending) (w' : World) : Prop :=
  ∃ A c B d, e = .returned (.agg #[.slice A 2 c, .slice B 1 d, .int .i64 200, .int .i64 1]) ∧ KNew kBl w' w.heap.size A 2 c [smA, smM] ∧ KNew kEn w' w.heap.size B 1 d [smE] ∧ Below w.heap.size w w'
/-- the end: the store's entries laid, the store handed back -/
theorem sm_end {w w6 E : World} {gr gS ge gp : Nat} {hs : List (Bl × Hd)} (hmap : hs.map Prod.fst = [smA, smM]) (hK : KH kBl w6 w.heap.size 45 (.slice (some ⟨gr, 0, none⟩) 2 2) hs) (hE : RowKit.Below w6.heap.size w6 E)
    (kE : Blk E ge 74 [.string (str smE.ky), .slice (some ⟨gp, 0, none⟩) 1 1, .int .i64 0, .int .i64 1]) (kP : Blk E gp 97 [.string (str [109]), .string (str smM.dg), .int .i64 39]) (he : w6.heap.size ≤ ge) (hp : w6.heap.size ≤ gp) (hgS : gS < w6.heap.size) (hgS2 : w.heap.size ≤ gS) (hz : w.heap.size < w6.heap.size)
    (hr : ∀ k, reach kBl (.slice (some ⟨gr, 0, none⟩) 2 2) hs k → k ≠ gS ∧ k ≠ w.heap.size) (hb : RowKit.Below w.heap.size w w6) :
    GivesSm w (.returned (.agg #[.slice (some ⟨gr, 0, none⟩) 2 2, .slice (some ⟨ge, 0, none⟩) 1 1, .int .i64 200, .int .i64 1])) (((((E.setCell ⟨gS, 1, none⟩ (.slice (some ⟨ge, 0, none⟩) 1 1)).setCell ⟨w.heap.size, 0, none⟩ (.slice (some ⟨gr, 0, none⟩) 2 2)).setCell ⟨w.heap.size, 1, none⟩ (.slice (some ⟨ge, 0, none⟩) 1 1)).setCell ⟨w.heap.size, 2, none⟩ (.int .i64 200)).setCell ⟨w.heap.size, 3, none⟩ (.int .i64 1)) := by
  obtain ⟨F, hF⟩ : ∃ F, ((((E.setCell ⟨gS, 1, none⟩ (.slice (some ⟨ge, 0, none⟩) 1 1)).setCell ⟨w.heap.size, 0, none⟩ (.slice (some ⟨gr, 0, none⟩) 2 2)).setCell ⟨w.heap.size, 1, none⟩ (.slice (some ⟨ge, 0, none⟩) 1 1)).setCell ⟨w.heap.size, 2, none⟩ (.int .i64 200)).setCell ⟨w.heap.size, 3, none⟩ (.int .i64 1) = F := ⟨_, rfl⟩
  have hk : ∀ k, k ≠ gS → k ≠ w.heap.size → F.heap[k]? = E.heap[k]? := fun k h1 h2 => by
    rw [← hF, keep_set h2, keep_set h2, keep_set h2, keep_set h2, keep_set h1]
  have hsz : F.heap.size = E.heap.size := by rw [← hF]; simp
  have hbF : RowKit.Below w.heap.size w F := by
    rw [← hF]
    have hbE : RowKit.Below w.heap.size w E := hb.trans (hE.mono (Nat.le_of_lt hz))
    exact ((((hbE.setCell hgS2 _).setCell (Nat.le_refl _) _).setCell (Nat.le_refl _) _).setCell (Nat.le_refl _) _).setCell (Nat.le_refl _) _
  rw [hF]
  have hKF : KH kBl F w.heap.size 45 (.slice (some ⟨gr, 0, none⟩) 2 2) hs := hK.keep (by rw [hsz]; exact hE.size) fun k q => (hk k (hr k q).1 (hr k q).2).trans (hE.block k (hK.ge q).2)
  obtain ⟨A, c, e1, hN⟩ := hKF.own.new
  rw [hmap] at hN e1
  injection e1 with e1 e2 e3
  subst e1; subst e3
  have kEF : Blk F ge 74 [.string (str smE.ky), .slice (some ⟨gp, 0, none⟩) 1 1, .int .i64 0, .int .i64 1] := blk_at kE (hk ge (by omega) (by omega))
  have kPF : Blk F gp 97 [.string (str [109]), .string (str smM.dg), .int .i64 39] := blk_at kP (hk gp (by omega) (by omega))
  have hle := kEF.lt
  have hlp := kPF.lt
  refine ⟨some ⟨gr, 0, none⟩, 2, some ⟨ge, 0, none⟩, 1, rfl, hN, ⟨[(smE, ⟨some ⟨gp, 0, none⟩, 1, 1⟩)], rfl, ?_, (fun q => by cases q), fun a q => ?_, fun x hx => ?_⟩, hbF⟩
  · exact kEF.rd (size := 4) (n := 1) (c := 1) (Nat.le_refl _) (by unfold maxLen; omega) (by simp)
  · cases q
    exact ⟨by show w.heap.size ≤ ge; omega, hle⟩
  · rw [List.mem_singleton] at hx
    subst hx
    refine ⟨⟨kPF.rd (size := 3) (n := 1) (c := 1) (Nat.le_refl _) (by unfold maxLen; omega) (by simp), (fun q => by cases q)⟩, fun k hk' => ?_⟩
    have : k = gp := by simpa [kEn, blk1] using hk'
    subst this
    exact ⟨by omega, hlp⟩
@[go_sem high] theorem fold_x : (⟨#[120]⟩ : ByteArray) = str [120] := rfl
@[go_sem high] theorem fold_m : (⟨#[109]⟩ : ByteArray) = str [109] := rfl
set_option maxRecDepth 100000 in
set_option maxHeartbeats 4000000 in
theorem small_any (w : World) : Calls Tryz.prog 56 #[] w (GivesSm w) := by
  have kc := head_run
  have HD : Hid (∀ (A : Option Addr) (n c : Nat) (W : World), Rd W 1 A n c (([97, 98, 99] : List UInt8).map bv8) → Calls Tryz.prog 45 #[.slice A n c] W fun e w' => e = .returned (.string (str smA.dg)) ∧ Below W.heap.size W w') := fun A n c W h => digest_ok A n c _ W h (by have := h.len; simp at this; omega)
  have HM : Hid (∀ (A : Option Addr) (n c : Nat) (W : World), Rd W 1 A n c (smD.map bv8) → Calls Tryz.prog 45 #[.slice A n c] W fun e w' => e = .returned (.string (str smM.dg)) ∧ Below W.heap.size W w') := fun A n c W h => digest_ok A n c _ W h (by have := h.len; rw [sm_len] at this; omega)
  have HB : Hid (∀ (A : Option Addr) (n c : Nat) (W : World), Rd W 3 A n c (pcs [smP]) → Calls Tryz.prog 43 #[.slice A n c] W fun e w' => ∃ v, e = .returned v ∧ w'.ownsRow W.heap.size 5 1 v 39 (smD.map bv8) ∧ Below W.heap.size W w') := fun A n c W h => by
    have := kmanifest_ok A n c [smP] W h (by simp) (fun p hp => by rw [List.mem_singleton] at hp; subst hp; exact smP_fine)
    rw [show man [smP] = smD from rfl, sm_len] at this
    exact this
  have hpc : pcs [smP] = [.string (str [120]), .string (str smA.dg), .int .i64 3] := rfl
  rw [hpc] at HB
  obtain ⟨ga, hga⟩ : ∃ d, smA.dg = d := ⟨_, rfl⟩
  obtain ⟨gm, hgm⟩ : ∃ d, smM.dg = d := ⟨_, rfl⟩
  rw [hga] at HD HB
  rw [hgm] at HM
  have HGA := Lib.hid hga
  have HGM := Lib.hid hgm
  clear hga hgm hpc
  obtain ⟨z, hz⟩ : ∃ z, w.alloc (.cells #[.slice none 0 0, .slice none 0 0, .int .i64 0, .int .i64 0] 25) = z := ⟨_, rfl⟩
  have hal : Below w.heap.size w z := by rw [← hz]; exact (Below.refl w.heap.size w).alloc (Nat.le_refl _) _
  have hbz : Blk z w.heap.size 25 [.slice none 0 0, .slice none 0 0, .int .i64 0, .int .i64 0] := by rw [← hz]; exact Blk.new w 25 _
  have hab : ∀ W : World, Rd (W.alloc (.cells #[.int .u8 97, .int .u8 98, .int .u8 99] 5 (3, 4))) 1 (some ⟨W.heap.size, 0, none⟩) 3 3 (([97, 98, 99] : List UInt8).map bv8) := fun W => new_rd W 5 [97, 98, 99] (3, 4) (by unfold maxLen; simp)
  go_enter Tryz.func56, Tryz.ntmps56
  go_wp2_with fail
  with_reducible refine (HD.out _ _ _ _ (hab z)).mono ?_
  rintro e w1 ⟨rfl, hb1⟩
  have hz1 := hal.size
  have hbA : RowKit.Below w.heap.size w w1 := below_step hal (below_step ((Below.refl z.heap.size z).alloc (Nat.le_refl _) _) hb1)
  have hbz1 := hbz.below (below_step ((Below.refl z.heap.size z).alloc (Nat.le_refl _) (.cells #[.int .u8 97, .int .u8 98, .int .u8 99] 5 (3, 4))) hb1) hbz.lt
  have hsz1 := hbz1.lt
  clear hb1 hbz hal hz1 hz
  have a0 := (new_blk1 w1 (.cells #[.int .u8 97, .int .u8 98, .int .u8 99] 5 (3, 4)) 45 [.string (str ga), .slice (some ⟨w1.heap.size, 0, none⟩) 3 3, .int .i64 0, .bool false]).cell 0
  simp only [List.getElem?_cons_zero] at a0
  go_wp2_with fail
  generalize hW2 : (w1.alloc (.cells #[.int .u8 97, .int .u8 98, .int .u8 99] 5 (3, 4))).alloc (.cells #[.string (str ga), .slice (some ⟨w1.heap.size, 0, none⟩) 3 3, .int .i64 0, .bool false] 45) = W2 at *
  have hbB : RowKit.Below w1.heap.size w1 W2 := by rw [← hW2]; exact below_step ((Below.refl w1.heap.size w1).alloc (Nat.le_refl _) _) ((Below.refl _ _).alloc (Nat.le_refl _) _)
  have hsW : W2.heap.size = w1.heap.size + 2 := by rw [← hW2]; simp
  have kA : Blk W2 (w1.heap.size + 1) 45 [.string (str ga), .slice (some ⟨w1.heap.size, 0, none⟩) 3 3, .int .i64 0, .bool false] := by rw [← hW2]; exact new_blk1 w1 _ 45 _
  have rA : Rd W2 1 (some ⟨w1.heap.size, 0, none⟩) 3 3 (([97, 98, 99] : List UInt8).map bv8) := by rw [← hW2]; exact (hab w1).below ((Below.refl _ _).alloc (Nat.le_refl _) _)
  have rP : Rd (W2.alloc (.cells #[.string (str [120]), .string (str ga), .int .i64 3] 97)) 3 (some ⟨W2.heap.size, 0, none⟩) 1 1 [.string (str [120]), .string (str ga), .int .i64 3] :=
    (Blk.new W2 97 [.string (str [120]), .string (str ga), .int .i64 3]).rd (size := 3) (n := 1) (c := 1) (Nat.le_refl _) (by unfold maxLen; omega) (by simp)
  have hbP := (Below.refl W2.heap.size W2).alloc (Nat.le_refl _) (.cells #[.string (str [120]), .string (str ga), .int .i64 3] 97)
  clear hW2 a0 hab kc
  rw [hsW] at rP
  refine (HB.out _ _ _ _ rP).mono ?_
  rintro e w3 ⟨v3, rfl, hown3, hb3⟩
  obtain ⟨A2, c2, rfl, hr2, hA2, hF2⟩ := own_rdK hown3
  have hbC := below_step hbP hb3
  have kA3 := kA.below hbC kA.lt
  have rA3 := rA.below hbC
  have hbz3 := (hbz1.below hbB hbz1.lt).below hbC (by omega)
  have hbD := below_step (below_step hbA hbB) hbC
  clear hbC hbP rP hown3 kA rA hbz1 hb3
  go_wp2_with fail
  with_reducible refine (HM.out _ _ _ _ hr2).mono ?_
  rintro e w4 ⟨rfl, hb4⟩
  have kA4 := kA3.below hb4 kA3.lt
  have rA4 := rA3.below hb4
  have hr4 := hr2.below hb4
  have hbz4 := hbz3.below hb4 hbz3.lt
  have hbE := below_step hbD hb4
  have hgA2 : ∀ a : Addr, A2 = some a → w1.heap.size < a.block ∧ a.block < w4.heap.size := fun a e => by
    have h1 := (hF2 a e).1
    have h2 := (hF2 a e).2
    have h3 := hb4.size
    have h4 := hbB.size
    have h5 : W2.heap.size ≤ (W2.alloc (.cells #[.string (str [120]), .string (str ga), .int .i64 3] 97)).heap.size := by simp
    omega
  have hlA := kA4.lt
  have hlw : w.heap.size < w1.heap.size := hsz1
  clear hb4 hbD kA3 rA3 hr2 hbz3 hbB hsW hF2 hbA
  have kA5 := kA4.alloc (.cells #[.string (str gm), .slice A2 39 c2, .int .i64 0, .bool false] 45)
  have c0 := kA5.cell 0
  have c1 := kA5.cell 1
  have c2' := kA5.cell 2
  have c3 := kA5.cell 3
  simp only [List.getElem?_cons_succ, List.getElem?_cons_zero] at c0 c1 c2' c3
  have hdA : kBl.deep (w4.alloc (.cells #[.string (str gm), .slice A2 39 c2, .int .i64 0, .bool false] 45)) smA ⟨some ⟨w1.heap.size, 0, none⟩, 3, 3⟩ ∧ ∀ k ∈ kBl.blocks (⟨some ⟨w1.heap.size, 0, none⟩, 3, 3⟩ : Hd), w.heap.size ≤ k ∧ k < (w4.alloc (.cells #[.string (str gm), .slice A2 39 c2, .int .i64 0, .bool false] 45)).heap.size :=
    ⟨⟨rA4.below ((Below.refl _ _).alloc (Nat.le_refl _) _), fun q => by cases q⟩, fun k hk => by
      have : k = w1.heap.size := by simpa [kBl, blk1] using hk
      subst this
      simp only [World.size_alloc]
      omega⟩
  have hdM : kBl.deep (w4.alloc (.cells #[.string (str gm), .slice A2 39 c2, .int .i64 0, .bool false] 45)) smM ⟨A2, 39, c2⟩ ∧ ∀ k ∈ kBl.blocks (⟨A2, 39, c2⟩ : Hd), w.heap.size ≤ k ∧ k < (w4.alloc (.cells #[.string (str gm), .slice A2 39 c2, .int .i64 0, .bool false] 45)).heap.size :=
    ⟨⟨hr4.below ((Below.refl _ _).alloc (Nat.le_refl _) _), hA2⟩, fun k hk => by
      obtain ⟨a, ea, rfl⟩ := mem_blk1.1 hk
      obtain ⟨h1, h2⟩ := hgA2 a ea
      simp only [World.size_alloc]
      omega⟩
  have hKH := kh_two (w4.alloc (.cells #[.string (str gm), .slice A2 39 c2, .int .i64 0, .bool false] 45)) (.cells #[.slice (some ⟨w4.heap.size + 1, 0, none⟩) 2 2, .slice none 0 0, .int .i64 200, .int .i64 1] 25) w.heap.size (smA, ⟨some ⟨w1.heap.size, 0, none⟩, 3, 3⟩) (smM, ⟨A2, 39, c2⟩) hdA hdM (by simp only [World.size_alloc]; omega)
  have hcells : kBl.cells smA ⟨some ⟨w1.heap.size, 0, none⟩, 3, 3⟩ ++ kBl.cells smM ⟨A2, 39, c2⟩ = [.string (str ga), .slice (some ⟨w1.heap.size, 0, none⟩) 3 3, .int .i64 0, .bool false, .string (str gm), .slice A2 39 c2, .int .i64 0, .bool false] := by
    show [Value.string (str smA.dg), .slice (some ⟨w1.heap.size, 0, none⟩) 3 3, .int .i64 0, .bool false, .string (str smM.dg), .slice A2 39 c2, .int .i64 0, .bool false] = _
    rw [HGA.out, HGM.out]
  rw [hcells, show (w4.alloc (.cells #[.string (str gm), .slice A2 39 c2, .int .i64 0, .bool false] 45)).heap.size = w4.heap.size + 1 by simp] at hKH
  have hSort := sortB_by 94 (enters_of Tryz.func94 (by kernel_rfl) rfl) (fun x y W => cmpS_any x y W) _ _ _ _ hKH (by simp)
  have hSX : ((w4.alloc (.cells #[.string (str gm), .slice A2 39 c2, .int .i64 0, .bool false] 45)).alloc (.cells #[.string (str ga), .slice (some ⟨w1.heap.size, 0, none⟩) 3 3, .int .i64 0, .bool false, .string (str gm), .slice A2 39 c2, .int .i64 0, .bool false] 45)).heap.size = w4.heap.size + 2 := by simp
  have kS := Blk.new ((w4.alloc (.cells #[.string (str gm), .slice A2 39 c2, .int .i64 0, .bool false] 45)).alloc (.cells #[.string (str ga), .slice (some ⟨w1.heap.size, 0, none⟩) 3 3, .int .i64 0, .bool false, .string (str gm), .slice A2 39 c2, .int .i64 0, .bool false] 45)) 25 [.slice (some ⟨w4.heap.size + 1, 0, none⟩) 2 2, .slice none 0 0, .int .i64 200, .int .i64 1]
  rw [hSX] at kS
  have kB := ((Blk.new w4 45 [.string (str gm), .slice A2 39 c2, .int .i64 0, .bool false]).alloc (.cells #[.string (str ga), .slice (some ⟨w1.heap.size, 0, none⟩) 3 3, .int .i64 0, .bool false, .string (str gm), .slice A2 39 c2, .int .i64 0, .bool false] 45)).alloc (.cells #[.slice (some ⟨w4.heap.size + 1, 0, none⟩) 2 2, .slice none 0 0, .int .i64 200, .int .i64 1] 25)
  have kZ := ((hbz4.alloc (.cells #[.string (str gm), .slice A2 39 c2, .int .i64 0, .bool false] 45)).alloc (.cells #[.string (str ga), .slice (some ⟨w1.heap.size, 0, none⟩) 3 3, .int .i64 0, .bool false, .string (str gm), .slice A2 39 c2, .int .i64 0, .bool false] 45)).alloc (.cells #[.slice (some ⟨w4.heap.size + 1, 0, none⟩) 2 2, .slice none 0 0, .int .i64 200, .int .i64 1] 25)
  have hbX := ((hbE.alloc hbE.size (.cells #[.string (str gm), .slice A2 39 c2, .int .i64 0, .bool false] 45)).alloc (by have := hbE.size; simp; omega) (.cells #[.string (str ga), .slice (some ⟨w1.heap.size, 0, none⟩) 3 3, .int .i64 0, .bool false, .string (str gm), .slice A2 39 c2, .int .i64 0, .bool false] 45)).alloc (by have := hbE.size; simp; omega) (.cells #[.slice (some ⟨w4.heap.size + 1, 0, none⟩) 2 2, .slice none 0 0, .int .i64 200, .int .i64 1] 25)
  clear hdA hdM hcells
  go_wp2_with fail
  refine hSort.mono ?_
  rintro e w6 ⟨rfl, hs', hperm, hsorted, hK6, hb6, hz6, hk6⟩
  obtain rfl := two_sorted hperm hsorted (by show Op.bytesLess smA.dg smM.dg = true; exact sm_less)
  have kS6 := blk_at kS (hk6 _ kS.lt (own_ne (by omega)))
  have kB6 := blk_at kB (hk6 _ kB.lt (own_ne (by omega)))
  have kZ6 := blk_at kZ (hk6 _ kZ.lt (own_ne (by omega)))
  have hb7 := hbX.trans hb6
  have hgS := kS6.lt
  clear hperm hsorted hSort hKH kS kB kZ hbX hb6 hz6 hk6 c0 c1 c2' c3 kA5 kA4 rA4 hr4 hbz4 hbE
  obtain ⟨K0, hK0⟩ : ∃ K, smE.ky = K := ⟨_, rfl⟩
  have hkk : keyB 0 = K0 := by rw [← hK0]; show keyB 0 = keyN 0; unfold keyB keyN; rw [show (pk 0 7).toNat = 0 by decide]
  have HKY : Hid (∀ W : World, Calls Tryz.prog 48 #[.int .i64 0] W fun e w' => e = .returned (.string (str K0)) ∧ RowKit.Below W.heap.size W w') := fun W => by
    have := key_any 0 W (by decide)
    rw [hkk] at this
    exact this
  clear hkk
  have HK0 := Lib.hid hK0
  have hreach : ∀ k, reach kBl (.slice (some ⟨w4.heap.size + 1, 0, none⟩) 2 2) [(smA, (⟨some ⟨w1.heap.size, 0, none⟩, 3, 3⟩ : Hd)), (smM, ⟨A2, 39, c2⟩)] k → k ≠ w4.heap.size + 2 ∧ k ≠ w.heap.size := fun k hk => by
    rcases hk with hk | ⟨x, hx, hk⟩
    · have hk2 : w4.heap.size + 1 = k := by injection hk
      omega
    · simp only [List.mem_cons, List.not_mem_nil, or_false] at hx
      rcases hx with rfl | rfl
      · have : k = w1.heap.size := by simpa [kBl, blk1] using hk
        omega
      · obtain ⟨a, ea, rfl⟩ := mem_blk1.1 hk
        have := hgA2 a ea
        omega
  clear hK0
  go_upto_region 6 with fail
  have cell0 : ∀ {W : World}, Blk W w4.heap.size 45 [.string (str gm), .slice A2 39 c2, .int .i64 0, .bool false] → W.cell? ⟨w4.heap.size, 0, none⟩ = some (.string (str gm)) := fun h => h.cell 0
  go_region_held_law (fun W => W.cell? ⟨w4.heap.size, 0, none⟩ = some (.string (str gm))) (first | with_reducible exact cell0 kB6.drew | with_reducible exact cell0 (kB6.alloc _).drew | with_reducible exact cell0 kB7 | with_reducible exact cell0 (kB7.alloc _) | with_reducible exact cell0 ((kB7.alloc _).alloc _) | with_reducible exact cell0 ((kB7.alloc _).far (by show w4.heap.size ≠ w4.heap.size + 2; omega) _) | with_reducible exact cell0 (((kB7.alloc _).alloc _).far (by show w4.heap.size ≠ w4.heap.size + 2; omega) _) | go_keep)
   (first
    | (go_at_call 48; with_reducible refine (HKY.out _).mono ?_; rintro e w7 ⟨rfl, hb8⟩; first
       | (with_reducible (have kB7 := kB6.drew.below hb8 kB6.drew.lt; have kS7 := kS6.drew.below hb8 kS6.drew.lt; have kZ7 := kZ6.drew.below hb8 kZ6.drew.lt; have s1 := ((kS7.alloc (.cells #[.string (str [109]), .string (str gm), .int .i64 39] 97)).alloc (.cells #[.string (str K0), .slice (some ⟨w7.heap.size, 0, none⟩) 1 1, .int .i64 0, .int .i64 1] 74)).cell 1; have f1 := ((kS7.alloc (.cells #[.string (str [109]), .string (str gm), .int .i64 39] 97)).alloc (.cells #[.string (str K0), .slice (some ⟨w7.heap.size, 0, none⟩) 1 1, .int .i64 0, .int .i64 1] 74)).frozen 1; have hbE := below_step (Below.refl w6.heap.size w6).drew hb8; have cN := True.intro); simp only [List.getElem?_cons_succ, List.getElem?_cons_zero] at s1)
       | (with_reducible (have kB7 := (kB6.alloc (.cells #[.string (str [109]), .string (str gm), .int .i64 39] 97)).drew.below hb8 (kB6.alloc (.cells #[.string (str [109]), .string (str gm), .int .i64 39] 97)).drew.lt; have kS7 := (kS6.alloc (.cells #[.string (str [109]), .string (str gm), .int .i64 39] 97)).drew.below hb8 (kS6.alloc (.cells #[.string (str [109]), .string (str gm), .int .i64 39] 97)).drew.lt; have kZ7 := (kZ6.alloc (.cells #[.string (str [109]), .string (str gm), .int .i64 39] 97)).drew.below hb8 (kZ6.alloc (.cells #[.string (str [109]), .string (str gm), .int .i64 39] 97)).drew.lt; have kP7 := (Blk.new w6 97 [.string (str [109]), .string (str gm), .int .i64 39]).drew.below hb8 (Blk.new w6 97 [.string (str [109]), .string (str gm), .int .i64 39]).drew.lt; have s1 := (kS7.alloc (.cells #[.string (str K0), .slice (some ⟨w6.heap.size, 0, none⟩) 1 1, .int .i64 0, .int .i64 1] 74)).cell 1; have f1 := (kS7.alloc (.cells #[.string (str K0), .slice (some ⟨w6.heap.size, 0, none⟩) 1 1, .int .i64 0, .int .i64 1] 74)).frozen 1; have hbE := below_step ((Below.refl w6.heap.size w6).alloc (Nat.le_refl _) (.cells #[.string (str [109]), .string (str gm), .int .i64 39] 97)).drew hb8; have cP := True.intro); simp only [List.getElem?_cons_succ, List.getElem?_cons_zero] at s1)))
  · obtain ⟨E, hE0⟩ : ∃ E, (w7.alloc (.cells #[.string (str [109]), .string (str gm), .int .i64 39] 97)).alloc (.cells #[.string (str K0), .slice (some ⟨w7.heap.size, 0, none⟩) 1 1, .int .i64 0, .int .i64 1] 74) = E := ⟨_, rfl⟩
    have kE : Blk E (w7.heap.size + 1) 74 [.string (str K0), .slice (some ⟨w7.heap.size, 0, none⟩) 1 1, .int .i64 0, .int .i64 1] := by rw [← hE0]; exact new_blk1 w7 (.cells #[.string (str [109]), .string (str gm), .int .i64 39] 97) 74 [.string (str K0), .slice (some ⟨w7.heap.size, 0, none⟩) 1 1, .int .i64 0, .int .i64 1]
    have kP : Blk E (w7.heap.size) 97 [.string (str [109]), .string (str gm), .int .i64 39] := by rw [← hE0]; exact (Blk.new w7 97 [.string (str [109]), .string (str gm), .int .i64 39]).alloc (.cells #[.string (str K0), .slice (some ⟨w7.heap.size, 0, none⟩) 1 1, .int .i64 0, .int .i64 1] 74)
    have hE : RowKit.Below w6.heap.size w6 E := by rw [← hE0]; exact below_step hbE (below_step ((Below.refl w7.heap.size w7).alloc (Nat.le_refl _) _) ((Below.refl _ _).alloc (Nat.le_refl _) _))
    have kS := (kS7.alloc (.cells #[.string (str [109]), .string (str gm), .int .i64 39] 97)).alloc (.cells #[.string (str K0), .slice (some ⟨w7.heap.size, 0, none⟩) 1 1, .int .i64 0, .int .i64 1] 74)
    have kZ := (kZ7.alloc (.cells #[.string (str [109]), .string (str gm), .int .i64 39] 97)).alloc (.cells #[.string (str K0), .slice (some ⟨w7.heap.size, 0, none⟩) 1 1, .int .i64 0, .int .i64 1] 74)
    have hw67 := hbE.size
    have hsz7 : w6.heap.size ≤ (w7.heap.size : Nat) := by omega
    rw [hE0] at kS kZ ⊢
    clear s1 f1 hE0
    have kSp := kS.put 1 (.slice (some ⟨w7.heap.size + 1, 0, none⟩) 1 1)
    simp only [List.set_cons_succ, List.set_cons_zero] at kSp
    have kZp := kZ.far (p := ⟨w4.heap.size + 2, 1, none⟩) (by show w.heap.size ≠ w4.heap.size + 2; omega) (.slice (some ⟨w7.heap.size + 1, 0, none⟩) 1 1)
    have t0 := kSp.cell 0
    have t1 := kSp.cell 1
    have t2 := kSp.cell 2
    have t3 := kSp.cell 3
    have v0 := kZp.cell 0
    have v1 := kZp.cell 1
    have v2 := kZp.cell 2
    have v3 := kZp.cell 3
    have n0 := kZp.frozen 0
    have n1 := kZp.frozen 1
    have n2 := kZp.frozen 2
    have n3 := kZp.frozen 3
    simp only [List.getElem?_cons_succ, List.getElem?_cons_zero] at t0 t1 t2 t3 v0 v1 v2 v3
    go_wp2
    refine bodyPost_ret (results_cell_row rfl _ _ w.heap.size 25 _ (0, 0) _ rfl (kZp.put4 _ _ _ _) Tryz.underlying25 rfl store_size) rfl ?_
    exact sm_end rfl hK6 hE (by rw [HK0.out]; exact kE) (by rw [HGM.out]; exact kP) (by omega) hsz7 hgS (by omega) (by omega) hreach hb7
  · obtain ⟨E, hE0⟩ : ∃ E, w7.alloc (.cells #[.string (str K0), .slice (some ⟨w6.heap.size, 0, none⟩) 1 1, .int .i64 0, .int .i64 1] 74) = E := ⟨_, rfl⟩
    have kE : Blk E (w7.heap.size) 74 [.string (str K0), .slice (some ⟨w6.heap.size, 0, none⟩) 1 1, .int .i64 0, .int .i64 1] := by rw [← hE0]; exact Blk.new w7 74 [.string (str K0), .slice (some ⟨w6.heap.size, 0, none⟩) 1 1, .int .i64 0, .int .i64 1]
    have kP : Blk E (w6.heap.size) 97 [.string (str [109]), .string (str gm), .int .i64 39] := by rw [← hE0]; exact kP7.alloc (.cells #[.string (str K0), .slice (some ⟨w6.heap.size, 0, none⟩) 1 1, .int .i64 0, .int .i64 1] 74)
    have hE : RowKit.Below w6.heap.size w6 E := by rw [← hE0]; exact below_step hbE ((Below.refl w7.heap.size w7).alloc (Nat.le_refl _) _)
    have kS := kS7.alloc (.cells #[.string (str K0), .slice (some ⟨w6.heap.size, 0, none⟩) 1 1, .int .i64 0, .int .i64 1] 74)
    have kZ := kZ7.alloc (.cells #[.string (str K0), .slice (some ⟨w6.heap.size, 0, none⟩) 1 1, .int .i64 0, .int .i64 1] 74)
    have hw67 := hbE.size
    have hsz7 : w6.heap.size ≤ (w6.heap.size : Nat) := by omega
    rw [hE0] at kS kZ ⊢
    clear s1 f1 hE0
    have kSp := kS.put 1 (.slice (some ⟨w7.heap.size, 0, none⟩) 1 1)
    simp only [List.set_cons_succ, List.set_cons_zero] at kSp
    have kZp := kZ.far (p := ⟨w4.heap.size + 2, 1, none⟩) (by show w.heap.size ≠ w4.heap.size + 2; omega) (.slice (some ⟨w7.heap.size, 0, none⟩) 1 1)
    have t0 := kSp.cell 0
    have t1 := kSp.cell 1
    have t2 := kSp.cell 2
    have t3 := kSp.cell 3
    have v0 := kZp.cell 0
    have v1 := kZp.cell 1
    have v2 := kZp.cell 2
    have v3 := kZp.cell 3
    have n0 := kZp.frozen 0
    have n1 := kZp.frozen 1
    have n2 := kZp.frozen 2
    have n3 := kZp.frozen 3
    simp only [List.getElem?_cons_succ, List.getElem?_cons_zero] at t0 t1 t2 t3 v0 v1 v2 v3
    go_wp2
    refine bodyPost_ret (results_cell_row rfl _ _ w.heap.size 25 _ (0, 0) _ rfl (kZp.put4 _ _ _ _) Tryz.underlying25 rfl store_size) rfl ?_
    exact sm_end rfl hK6 hE (by rw [HK0.out]; exact kE) (by rw [HGM.out]; exact kP) (by omega) hsz7 hgS (by omega) (by omega) hreach hb7
end Go.Proofs.YtdbdigcpibmgjaaGreatDoor

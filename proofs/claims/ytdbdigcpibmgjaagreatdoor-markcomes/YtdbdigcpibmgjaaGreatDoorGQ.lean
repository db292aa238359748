/- Texts that belong together: what the functions of the program and of the statements return. -/
import Derived.Test.YtdbdigcpibmgjaaGreatDoorGO
import Derived.Lib.Hide
import Derived.Test.YtdbdigcpibmgjaaGreatDoorGA
import Derived.RegionTactic
import Derived.IntWalk
/- What putting and dropping blobs hand back. Nothing of the program. -/
namespace Go.Proofs.YtdbdigcpibmgjaaGreatDoor
open Go.RowKit
/-- blobs that are new, a digest and an error -/
def GivesPut (l : List Bl) (d : List UInt8) (err : Int) (w : World) (e : Ending) (w' : World) : Prop :=
  ∃ A n c, e = .returned (.tuple #[.slice A n c, .string (str d), .int .i64 err]) ∧ KNew kBl w' w.heap.size A n c l ∧ Below w.heap.size w w'
theorem givesPut_nil {w w' : World} {err : Int} {e : Ending} (h : e = .returned (.tuple #[.slice none 0 0, .string (str []), .int .i64 err])) (hb : Below w.heap.size w w') : GivesPut [] [] err w e w' :=
  ⟨none, 0, 0, h, KNew.nil _ _, hb⟩
theorem bTo_eq {l : List Bl} {d : List UInt8} {k : Nat} (hk : k ≤ l.length) (h1 : ∀ j (h : j < l.length), j < k → Op.bytesLess l[j].dg d = true) (h2 : ∀ h : k < l.length, Op.bytesLess l[k].dg d = false) : bTo l d = k := by
  rcases Nat.lt_trichotomy (bTo l d) k with q | q | q
  · have hlt := Nat.lt_of_lt_of_le q hk
    have h0 : (!Op.bytesLess l[bTo l d].dg d) = true := List.findIdx_getElem (xs := l) (p := fun b : Bl => !Op.bytesLess b.dg d) (w := hlt)
    rw [h1 _ hlt q] at h0
    cases h0
  · exact q
  · have hkl : k < l.length := Nat.lt_of_lt_of_le q (bTo_le l d)
    have := bTo_front q
    rw [h2 hkl] at this
    cases this
/-- blobs that are new and an error -/
def GivesBs (l : List Bl) (err : Int) (w : World) (e : Ending) (w' : World) : Prop :=
  ∃ A n c, e = .returned (.tuple #[.slice A n c, .int .i64 err]) ∧ KNew kBl w' w.heap.size A n c l ∧ Below w.heap.size w w'
theorem givesBs_nil {w w' : World} {err : Int} {e : Ending} (h : e = .returned (.tuple #[.slice none 0 0, .int .i64 err])) (hb : Below w.heap.size w w') : GivesBs [] err w e w' :=
  ⟨none, 0, 0, h, KNew.nil _ _, hb⟩
theorem bAt_eq {l : List Bl} {d : List UInt8} {k : Nat} (hk : k ≤ l.length) (h1 : ∀ j (h : j < l.length), j < k → l[j].dg ≠ d) (h2 : ∀ h : k < l.length, l[k].dg = d) : bAt l d = k := by
  rcases Nat.lt_trichotomy (bAt l d) k with q | q | q
  · exact absurd (bAt_there (Nat.lt_of_lt_of_le q hk)) (h1 _ _ q)
  · exact q
  · have hkl : k < l.length := Nat.lt_of_lt_of_le q (bAt_le l d)
    have := List.not_of_lt_findIdx (xs := l) (p := fun b : Bl => b.dg == d) q
    rw [h2 hkl] at this
    simp at this
/-- a row of blobs of the call's own, whatever the slice value -/
theorem KOwn.row {α η : Type} {K : Kin α η} {w : World} {base : Nat} {e : TypeId} {v : Value} {l : List α} (h : KOwn K w base e v l) : ∃ hs : List (α × η), hs.map Prod.fst = l ∧ w.ownsRow base e K.size v l.length (K.all hs) ∧ ∀ x ∈ hs, K.deep w x.1 x.2 ∧ ∀ k ∈ K.blocks x.2, base ≤ k ∧ k < w.heap.size ∧ v.ownBlock ≠ some k := h
end Go.Proofs.YtdbdigcpibmgjaaGreatDoor
/- bytes.Clone and the landed blob.Copy. -/
namespace Go.Proofs.YtdbdigcpibmgjaaGreatDoor
open Go.RowKit
set_option maxRecDepth 100000 in
set_option maxHeartbeats 400000 in
theorem bclone_any (A : Option Addr) (n c : Nat) (l : List UInt8) (w : World) (hr : Rd w 1 A n c (l.map bv8)) (hz : n ≤ 140737488351232) :
    Calls Tryz.prog 95 #[.slice A n c] w fun e w' => ∃ v, e = .returned v ∧ w'.ownsRow w.heap.size 5 1 v n (l.map bv8) ∧ Below w.heap.size w w' := by
  obtain rfl := hr.len
  obtain ⟨i0, hi0, hz0, hz1, hz2⟩ := info_parts u8_info
  rcases A with _ | a
  · have hl : l = [] := by
      rcases Nat.eq_zero_or_pos (l.map bv8).length with h0 | h0
      · simpa using h0
      · obtain ⟨b, off, h1, _⟩ := hr.2.2.2 h0; cases h1
    subst hl
    have he : ∀ w : World, (binOp .eql 43 (.slice none 0 c) (.slice none 0 0)).run Tryz.prog w = .ok (.bool true) w := fun _ => rfl
    go_enter Tryz.func95, Tryz.ntmps95
    go_wp2
    go_ret
    exact ⟨_, rfl, World.ownsRow_nil _ _ _ _, Below.refl _ _⟩
  · have hown : (w.alloc (.cells #[] 5)).ownsRow w.heap.size 5 1 (.slice (some ⟨w.heap.size, 0, none⟩) 0 0) 0 [] :=
      ⟨rfl, .inr ⟨w.heap.size, 0, #[], rfl, Nat.le_refl _, heap_alloc_new w _, Nat.le_refl _, by simp [maxLen], rfl, rfl⟩⟩
    have hb0 := (Below.refl w.heap.size w).alloc (Nat.le_refl _) (.cells #[] 5)
    have hr1 := hr.below hb0
    have hcells : ∀ j u, (l.map bv8)[j]? = some u → (w.alloc (.cells #[] 5)).cell? (a.add j) = some u := fun j u hj => by
      obtain ⟨b, off, h1, hc⟩ := hr1.at hj
      injection h1 with h1
      subst h1
      rw [addr_addK]; exact hc
    have HC := Lib.hid hcells
    clear hcells
    have he : ∀ w : World, (binOp .eql 43 (.slice (some a) l.length c) (.slice none 0 0)).run Tryz.prog w = .ok (.bool false) w := fun _ => rfl
    go_enter Tryz.func95, Tryz.ntmps95
    go_wp2_with (at_builtin; refine wpList_append2 rfl (.tmp 5) (.tmp 6) _ rfl Tryz.underlying43 hi0 hz0 hz1 hz2 rfl (by omega) _ 0 [] rfl hown a l.length c (l.map bv8) (by simp) HC.out (bytes_one _) rfl (by omega) (by unfold maxLen; omega) hb0.size ?_; rintro v1 w1 ⟨hown1, hb1⟩; rw [Nat.zero_add, List.nil_append] at hown1)
    go_ret
    exact ⟨_, rfl, hown1, hb0.trans hb1⟩
/-- the copy as the call hands it back -/
def GivesC (l : List Bl) (w : World) (e : Ending) (w' : World) : Prop :=
  ∃ g hs, e = .returned (.slice (some ⟨g, 0, none⟩) l.length l.length) ∧ hs.map Prod.fst = l ∧ KB w' w.heap.size g 45 hs ∧ Below w.heap.size w w'
set_option maxRecDepth 100000 in
set_option maxHeartbeats 4000000 in
theorem bcopy_any (A : Option Addr) (n c : Nat) (l : List Bl) (w : World) (hr : KRd kBl w A n c l) (hg : ∀ p ∈ l, p.good) (hz : n * 56 ≤ 140737488351232) :
    Calls Tryz.prog 58 #[.slice A n c] w (GivesC l w) := by
  obtain rfl := hr.len
  obtain ⟨j0, hj0, hw0, hw1, hw2⟩ := info_parts blob_info
  have HG := Lib.hid hg
  clear hg
  have hmk : ∀ W : World, (Instr.makeSlice 22 (.int .i64 (l.length : Int)) (.int .i64 (l.length : Int))).run Tryz.prog W = .ok (.slice (some ⟨W.heap.size, 0, none⟩) l.length l.length) (W.alloc (.cells (kBl.all (List.replicate l.length zb)).toArray 45)) := fun W => by
    have h := run_make (P := Tryz.prog) W 22 45 j0 _ Tryz.underlying22 hj0 hw0 .i64 .i64 l.length l.length (by omega) (by omega) (by rw [hw2]; omega) (by omega)
    simp only [Int.toNat_natCast, hw1] at h
    rw [h]
    congr 3
    exact made_blobs l.length
  have hal := (Below.refl w.heap.size w).alloc (Nat.le_refl _) (.cells (kBl.all (List.replicate l.length zb)).toArray 45)
  have hkb : KB (w.alloc (.cells (kBl.all (List.replicate l.length zb)).toArray 45)) w.heap.size w.heap.size 45 (List.replicate l.length zb) :=
    ⟨Blk.new w _ _, Nat.le_refl _, fun x hx => by
      rw [List.mem_replicate] at hx
      rw [hx.2]
      exact ⟨zb_deep _, fun k hk => by rw [zb_blocks] at hk; cases hk⟩⟩
  obtain ⟨g, hgE⟩ : ∃ g, w.heap.size = g := ⟨_, rfl⟩
  have hge : w.heap.size ≤ g := by omega
  go_enter Tryz.func58, Tryz.ntmps58
  go_wp2
  have hkb2 : KB (w.alloc (.cells (kBl.all (List.replicate l.length zb)).toArray 45)) w.heap.size g 45 (List.replicate l.length zb) := by
    rw [← hgE]; exact hkb
  clear hmk hkb
  go_loopw [4, 5, 11] (fun _ _ i wr => ∃ (k : Nat) (acc : List (Bl × Hd)), k ≤ l.length ∧ i = .int .i64 k ∧ Hid (acc.length = k) ∧ Hid (acc.map Prod.fst = l.take k) ∧ KB wr w.heap.size g 45 (acc ++ List.replicate (l.length - k) zb) ∧ Below w.heap.size w wr) (fun _ _ i _ => l.length - (intOf i).toNat)
  case atStart => exact ⟨0, [], Nat.zero_le _, rfl, rfl, rfl, by simpa using hkb2, hal⟩
  case round =>
    clear hkb2 hal hgE
    obtain ⟨k, acc, hk, rfl, HA, HM, hkb, hbel⟩ := hrel
    by_cases hlt : k < l.length
    · obtain ⟨b, off, D, dn, dc, rfl, hc0, hc1, hc2, hc3, hrD, hDn⟩ := (hr.below hbel).blob hlt
      have hgk := HG.out l[k] (List.getElem_mem hlt)
      have HT : Hid (l.take (k + 1) = l.take k ++ [l[k]]) := List.take_succ_eq_append_getElem hlt
      have hki : (k : Int) < (l.length : Int) := by omega
      generalize l[k] = p at *
      obtain ⟨dgs, dts, pn, mr⟩ := p
      obtain ⟨-, -, g2⟩ := hgk
      simp only at g2 hc0 hc1 hc2 hc3 hrD
      have hdl : dn ≤ 140737488351232 := by rw [hrD.len]; exact g2
      have hal := (Below.refl wr.heap.size wr).alloc (Nat.le_refl _) (.cells #[.string (str dgs), .slice D dn dc, .int .i64 pn, .bool mr] 45)
      have hbk := Blk.new wr 45 [.string (str dgs), .slice D dn dc, .int .i64 pn, .bool mr]
      have hrD' := hrD.below hal
      have e1 := hbk.cell 1
      simp only [List.getElem?_cons_succ, List.getElem?_cons_zero] at e1
      obtain ⟨gb, hgb⟩ : ∃ gb, wr.heap.size = gb := ⟨_, rfl⟩
      go_wp2_with fail
      with_reducible refine (bclone_any _ _ _ dts _ hrD' hdl).mono ?_
      rintro e w5 ⟨v5, rfl, hown5, hb5⟩
      have hl5 := Lib.hid hown5.lt
      obtain ⟨A5, c5, rfl, hr5, hA5, hF5⟩ := own_rdF hown5
      have hbk5 := hbk.below hb5 hbk.lt
      rw [hgb] at hbk5
      have hbE := hal.trans (hb5.mono hal.size)
      have hbF := hbE.setCell (p := ⟨gb, 1, none⟩) (by show wr.heap.size ≤ gb; omega) (.slice A5 dn c5)
      have hkb6 := hkb.below hbF
      have hbk6 := hbk5.put 1 (.slice A5 dn c5)
      simp only [List.set_cons_succ, List.set_cons_zero] at hbk6
      have hzU : gb < (wr.alloc (.cells #[.string (str dgs), .slice D dn dc, .int .i64 pn, .bool mr] 45)).heap.size := by rw [← hgb]; simp
      have hr6 : Rd (w5.setCell ⟨gb, 1, none⟩ (.slice A5 dn c5)) 1 A5 dn c5 (dts.map bv8) := hr5.keepLt fun a ha _ => Below.heap_setCell w5 ⟨gb, 1, none⟩ _ a.block (by have := hF5 a ha; show a.block ≠ gb; omega)
      have hgl : g < wr.heap.size := hkb.blk.lt
      have hx6 : kBl.deep (w5.setCell ⟨gb, 1, none⟩ (.slice A5 dn c5)) ⟨dgs, dts, pn, mr⟩ ⟨A5, dn, c5⟩ ∧ ∀ j ∈ kBl.blocks ⟨A5, dn, c5⟩, w.heap.size ≤ j ∧ j < (w5.setCell ⟨gb, 1, none⟩ (.slice A5 dn c5)).heap.size ∧ j ≠ g := by
        refine ⟨⟨hr6, hA5⟩, fun j hj => ?_⟩
        obtain ⟨a, rfl, rfl⟩ := mem_blk1.1 hj
        have q1 := hF5 a rfl
        have q2 := (hl5.out a.block rfl).2
        have q3 := hbel.size
        exact ⟨by omega, by simpa using q2, by omega⟩
      have hLl : k < (acc ++ List.replicate (l.length - k) zb).length := by rw [List.length_append, List.length_replicate]; have := HA.out; omega
      have hkb7 := hkb6.put k (⟨dgs, dts, pn, mr⟩, ⟨A5, dn, c5⟩) hLl hx6
      have hset : (acc ++ List.replicate (l.length - k) zb).set k (⟨dgs, dts, pn, mr⟩, ⟨A5, dn, c5⟩) = (acc ++ [(⟨dgs, dts, pn, mr⟩, ⟨A5, dn, c5⟩)]) ++ List.replicate (l.length - (k + 1)) zb := by
        have := zb_mid acc (⟨dgs, dts, pn, mr⟩, ⟨A5, dn, c5⟩) (l.length - k) (by omega)
        rwa [HA.out, show l.length - k - 1 = l.length - (k + 1) by omega] at this
      rw [hset] at hkb7
      have hbG := below_step hbel hbF
      have hbH := (((hbG.setCell (p := ⟨g, k * 4, none⟩) hge (.string (str dgs))).setCell (p := ⟨g, k * 4 + 1, none⟩) hge (.slice A5 dn c5)).setCell (p := ⟨g, k * 4 + 2, none⟩) hge (.int .i64 pn)).setCell (p := ⟨g, k * 4 + 3, none⟩) hge (.bool mr)
      have q0 := kBl.all_at _ k hLl 0 (by decide)
      have q1 := kBl.all_at _ k hLl 1 (by decide)
      have q2 := kBl.all_at _ k hLl 2 (by decide)
      have q3 := kBl.all_at _ k hLl 3 (by decide)
      generalize (acc ++ List.replicate (l.length - k) zb)[k] = zz at q0 q1 q2 q3
      have s0 := hkb6.blk.cell (k * 4)
      have s1 := hkb6.blk.cell (k * 4 + 1)
      have s2 := hkb6.blk.cell (k * 4 + 2)
      have s3 := hkb6.blk.cell (k * 4 + 3)
      have r0 : (kBl.all (acc ++ List.replicate (l.length - k) zb))[k * 4]? = some (.string (str zz.1.dg)) := q0
      have r1 : (kBl.all (acc ++ List.replicate (l.length - k) zb))[k * 4 + 1]? = some (.slice zz.2.A zz.2.n zz.2.c) := q1
      have r2 : (kBl.all (acc ++ List.replicate (l.length - k) zb))[k * 4 + 2]? = some (.int .i64 zz.1.pn) := q2
      have r3 : (kBl.all (acc ++ List.replicate (l.length - k) zb))[k * 4 + 3]? = some (.bool zz.1.mr) := q3
      rw [r0] at s0
      rw [r1] at s1
      rw [r2] at s2
      rw [r3] at s3
      have f0 := hkb6.blk.frozen (k * 4)
      have f1 := hkb6.blk.frozen (k * 4 + 1)
      have f2 := hkb6.blk.frozen (k * 4 + 2)
      have f3 := hkb6.blk.frozen (k * 4 + 3)
      have o1 := hbk5.cell 1
      have o1f := hbk5.frozen 1
      have t0 := hbk6.cell 0
      have t1 := hbk6.cell 1
      have t2 := hbk6.cell 2
      have t3 := hbk6.cell 3
      simp only [List.getElem?_cons_succ, List.getElem?_cons_zero] at o1 t0 t1 t2 t3
      have H7 := Lib.hid hkb7
      clear q0 q1 q2 q3 r0 r1 r2 r3 hset hkb6 hkb7 hx6 hr6 hr5 hown5 hbk hbk5 hbk6 hrD hrD' hc0 hc1 hc2 hc3 hal hbE hbF hkb e1
      go_wp2
      go_roundw
      case rel => exact ⟨k + 1, acc ++ [(⟨dgs, dts, pn, mr⟩, ⟨A5, dn, c5⟩)], by omega, by go_num, (by show _ = _; rw [List.length_append, HA.out]; rfl), (by show _ = _; rw [List.map_append, HM.out, HT.out]; rfl), H7.out, hbH⟩
      case measure => simp [intOf] <;> omega
    · have hkv : k = l.length := by omega
      subst hkv
      have hd2 : decide ((l.length : Int) < (l.length : Int)) = false := by simp
      go_wp2
      go_ret
      refine ⟨g, acc, rfl, ?_, by simpa using hkb, hbel⟩
      rw [HM.out, List.take_length]
end Go.Proofs.YtdbdigcpibmgjaaGreatDoor
